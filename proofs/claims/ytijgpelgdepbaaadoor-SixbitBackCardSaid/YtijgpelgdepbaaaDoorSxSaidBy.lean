/-
The three bytes that up to four letters say. Conditions: there are at most four, and each is a letter.
-/
import Derived.Test.YtijgpelgdepbaaaDoorSxWords
import Derived.Laws.BitsAllLaws
namespace Go.Proofs.YtijgpelgdepbaaaDoor.Sx
open Go.RowKit

theorem worth_any (c : UInt8) (h : isL c = true) (w : World) :
    Calls Tryd.prog 17 #[.string { data := #[65, 66, 67, 68, 69, 70, 71, 72, 73, 74, 75, 76, 77, 78, 79, 80, 81, 82, 83, 84, 85, 86, 87, 88, 89, 90, 97, 98, 99, 100, 101, 102, 103, 104, 105, 106, 107, 108, 109, 110, 111, 112, 113, 114, 115, 116, 117, 118, 119, 120, 121, 122, 48, 49, 50, 51, 52, 53, 54, 55, 56, 57, 43, 47] }, .int .u8 (c.toNat : Int)] w fun e w' => e = .returned (.int .i64 (w6 c : Int)) ∧ w = w' := by
  rw [← w6_of h]; exact letter_any c w
theorem gn_lt (l : List UInt8) (i : Nat) : gn l i < 64 := by
  unfold gn; split
  · exact w6_lt _
  · decide
theorem gn_at {l : List UInt8} {i : Nat} (h : i < l.length) : gn l i = w6 l[i] := by unfold gn; rw [List.getElem?_eq_getElem h]
theorem gn_out {l : List UInt8} {i : Nat} (h : l.length ≤ i) : gn l i = 0 := by unfold gn; rw [List.getElem?_eq_none h]
/-- The first k letters' numbers. -/
def gk (l : List UInt8) (k j : Nat) : Nat := if j < k then gn l j else 0
theorem gk_all {l : List UInt8} {k j : Nat} (h : l.length ≤ k) : gk l k j = gn l j := by
  unfold gk; split
  · rfl
  · rw [gn_out (by omega)]
/-- Three bytes as an array. -/
def triV (l : List UInt8) : Value := .agg #[.int .u8 ((gn l 0 * 4 + gn l 1 / 16 : Nat) : Int), .int .u8 ((gn l 1 % 16 * 16 + gn l 2 / 4 : Nat) : Int), .int .u8 ((gn l 2 % 4 * 64 + gn l 3 : Nat) : Int)]
theorem orA (a b : Nat) (ha : a < 64) (hb : b < 64) : bits .or .u8 ((a : Int) * 4) ((b : Int) / 16) = ((a * 4 + b / 16 : Nat) : Int) := by
  rw [bits_join .u8 8 (by decide) wraps_u8 2 _ _ (by omega) (by omega) (by omega) (by omega) (by omega) (by omega)]
  omega
theorem orB (a b : Nat) (hb : b < 64) : bits .or .u8 ((a : Int) * 16 % 256) ((b : Int) / 4) = ((a % 16 * 16 + b / 4 : Nat) : Int) := by
  rw [bits_join .u8 8 (by decide) wraps_u8 4 _ _ (by omega) (by omega) (by omega) (by omega) (by omega) (by omega)]
  omega
theorem orC (a b : Nat) (hb : b < 64) : bits .or .u8 ((a : Int) * 64 % 256) (b : Int) = ((a % 4 * 64 + b : Nat) : Int) := by
  rw [bits_join .u8 8 (by decide) wraps_u8 6 _ _ (by omega) (by omega) (by omega) (by omega) (by omega) (by omega)]
  omega

set_option maxRecDepth 100000 in
set_option maxHeartbeats 2000000 in
theorem saidBy_any (s : ByteArray) (hs : s.size ≤ 4) (hL : ∀ c ∈ s.data.toList, isL c = true) (w : World) :
    Calls Tryd.prog 13 #[.string s] w fun e w' => e = .returned (triV s.data.toList) ∧ Below w.heap.size w w' := by
  have HG : Hid (∀ k (h : k < s.size), gn s.data.toList k = w6 s[k]) := Lib.hid (fun k h => gn_at (by rw [list_size]; exact h))
  have HL : Hid (∀ k (h : k < s.size), isL s[k] = true) := Lib.hid (fun k h => hL _ (by have := List.getElem_mem (l := s.data.toList) (by rw [list_size]; exact h : k < s.data.toList.length); exact this))
  have HA : Hid (∀ j, gk s.data.toList s.size j = gn s.data.toList j) := Lib.hid (fun j => gk_all (by rw [list_size]; exact Nat.le_refl _))
  have n0 := gn_lt s.data.toList 0
  have n1 := gn_lt s.data.toList 1
  have n2 := gn_lt s.data.toList 2
  have n3 := gn_lt s.data.toList 3
  unfold triV
  generalize s.data.toList = l at *
  clear hL
  go_enter Tryd.func13, Tryd.ntmps13
  go_wp2
  go_loopw [7] (fun iv wr => ∃ k : Nat, k ≤ s.size ∧ iv = .int .i64 (k : Int) ∧ Hid (wr = (w.alloc (.cells #[.int .u8 0, .int .u8 0, .int .u8 0] 36)).alloc (.cells #[.int .u8 (gk l k 0 : Int), .int .u8 (gk l k 1 : Int), .int .u8 (gk l k 2 : Int), .int .u8 (gk l k 3 : Int)] 41))) (fun iv _ => s.size - (intOf iv).toNat)
  case atStart => exact ⟨0, Nat.zero_le _, rfl, Lib.hid rfl⟩
  case round =>
    obtain ⟨k, hk, rfl, hwr⟩ := hrel
    by_cases hlt : k < s.size
    · obtain rfl := hwr.out
      have C := Lib.hid (fun W => worth_any s[k] (HL.out k hlt) W)
      have hg := HG.out k hlt
      have hgl := w6_lt s[k]
      obtain ⟨z, hz⟩ : ∃ z, w6 s[k] = z := ⟨_, rfl⟩
      rw [hz] at C hg hgl
      have HZ := Lib.hid hg
      clear hwr hz hg
      rcases (by omega : k = 0 ∨ k = 1 ∨ k = 2 ∨ k = 3) with rfl | rfl | rfl | rfl
      all_goals
        go_wp2_with (go_at_call 17; refine (C.out _).mono ?_; rintro e w' ⟨rfl, rfl⟩)
        go_roundw
        case rel => exact ⟨_ + 1, hlt, by go_num, Lib.hid (by simp [gk, HZ.out])⟩
        case measure => simp [intOf]; omega
    · obtain rfl : k = s.size := by omega
      rw [HA.out 0, HA.out 1, HA.out 2, HA.out 3] at hwr
      obtain rfl := hwr.out
      clear hwr HA HG HL
      have o1 := orA (gn l 0) (gn l 1) n0 n1
      have o2 := orB (gn l 1) (gn l 2) n2
      have o3 := orC (gn l 2) (gn l 3) n3
      obtain ⟨x0, h0⟩ : ∃ x : Nat, gn l 0 * 4 + gn l 1 / 16 = x := ⟨_, rfl⟩
      obtain ⟨x1, h1⟩ : ∃ x : Nat, gn l 1 % 16 * 16 + gn l 2 / 4 = x := ⟨_, rfl⟩
      obtain ⟨x2, h2⟩ : ∃ x : Nat, gn l 2 % 4 * 64 + gn l 3 = x := ⟨_, rfl⟩
      have HX := Lib.hid (show (.returned (.agg #[.int .u8 (x0 : Int), .int .u8 (x1 : Int), .int .u8 (x2 : Int)]) : Ending) = .returned (.agg #[.int .u8 ((gn l 0 * 4 + gn l 1 / 16 : Nat) : Int), .int .u8 ((gn l 1 % 16 * 16 + gn l 2 / 4 : Nat) : Int), .int .u8 ((gn l 2 % 4 * 64 + gn l 3 : Nat) : Int)]) by rw [h0, h1, h2])
      rw [h0] at o1
      rw [h1] at o2
      rw [h2] at o3
      clear h0 h1 h2
      go_wp2_with fail
      exact bodyPost_ret (v := .agg #[.int .u8 (x0 : Int), .int .u8 (x1 : Int), .int .u8 (x2 : Int)]) (by simp [results, Tryd.results13, go_sem]) rfl ⟨HX.out, ((Below.refl _ _).alloc (Nat.le_refl _) _).alloc (by simp) _⟩
end Go.Proofs.YtijgpelgdepbaaaDoor.Sx
