/-
Texts joined in one file, each with its own conditions: figure.Hex answers two digits for each byte. Conditions: the text has at most 2^40 bytes. · The four letters of three bytes. Conditions: none. · The document's own Hex answers two digits for each byte. Conditions: the text has at most 2^40 bytes. · The document's own Encode answers what the plain function 'enc' says. Conditions: the text has at most 2^36 bytes.
-/
import Derived.Test.YtpdodknldhbbhaaGreatDoorJ06
import Derived.Test.YtpdodknldhbbhaaGreatDoorJ03
import Derived.Deep.RegionHeld3
import Derived.Laws.BitsLemmas
import Derived.BigRegion
import Derived.IntWalk
import Derived.Test.YtpdodknldhbbhaaGreatDoorJ10
import Derived.Laws.BitsAllLaws
namespace Go.Proofs.YtpdodknldhbbhaaGreatDoor.Fig
open Go.RowKit

theorem idx_hex (x : Int) (h0 : 0 ≤ x) (h1 : x < 16) (W : World) :
    (Instr.index 9 (.string { data := #[48, 49, 50, 51, 52, 53, 54, 55, 56, 57, 65, 66, 67, 68, 69, 70] }) (.int .u8 x)).run Tryz.prog W = .ok (.int .u8 ((hexd x.toNat).toNat : Int)) W := by
  rw [run_index_string W _ _ _ _ Tryz.underlying9, dif_pos ⟨h0, h1⟩]
  obtain ⟨n, rfl⟩ := Int.eq_ofNat_of_zero_le h0
  have hn : n < 16 := by omega
  match n, hn with
  | 0, _ => rfl
  | 1, _ => rfl
  | 2, _ => rfl
  | 3, _ => rfl
  | 4, _ => rfl
  | 5, _ => rfl
  | 6, _ => rfl
  | 7, _ => rfl
  | 8, _ => rfl
  | 9, _ => rfl
  | 10, _ => rfl
  | 11, _ => rfl
  | 12, _ => rfl
  | 13, _ => rfl
  | 14, _ => rfl
  | 15, _ => rfl

theorem take_all (s : ByteArray) {k : Nat} (h : ¬ k < s.size) : s.data.toList.take k = s.data.toList := List.take_of_length_le (by simp; omega)

set_option maxHeartbeats 400000 in
theorem hex_any (s : ByteArray) (w : World) (hs : s.size ≤ 1099511627776) :
    Calls Tryz.prog 109 #[.string s] w fun e w' => e = .returned (.string ⟨(hexOf s.data.toList).toArray⟩) ∧ Below w.heap.size w w' := by
  obtain ⟨i0, hi, hz0, hz1, hz2⟩ := info_parts Bytes.infoByte
  go_enter Tryz.func109, Tryz.ntmps109
  go_wp2
  go_loopw [3, 7] (fun v i wr => ∃ k : Nat, k ≤ s.size ∧ i = .int .i64 k ∧ Bytes.Has wr w.heap.size v (hexOf (s.data.toList.take k)) ∧ Below w.heap.size w wr) (fun _ i _ => s.size - (intOf i).toNat)
  case atStart => exact ⟨0, Nat.zero_le _, rfl, Bytes.Has.nil _ _, Below.refl _ _⟩
  case round =>
    obtain ⟨k, hk, rfl, hown, hbel⟩ := hrel
    by_cases hlt : k < s.size
    · have hb : s[k].toNat < 256 := s[k].toNat_lt
      have hand := u8_and15 (x := (s[k].toNat : Int)) (by omega) (by omega)
      obtain ⟨c1, hc1⟩ : ∃ c : UInt8, hexd (s[k].toNat / 16) = c := ⟨_, rfl⟩
      obtain ⟨c2, hc2⟩ : ∃ c : UInt8, hexd (s[k].toNat % 16) = c := ⟨_, rfl⟩
      have hx1 := idx_hex ((s[k].toNat : Int) / 16) (by omega) (by omega)
      have hx2 := idx_hex ((s[k].toNat : Int) % 16) (by omega) (by omega)
      rw [show ((s[k].toNat : Int) / 16).toNat = s[k].toNat / 16 by omega, hc1] at hx1
      rw [show ((s[k].toNat : Int) % 16).toNat = s[k].toNat % 16 by omega, hc2] at hx2
      have hl := hexOf_take_length s k hk
      have hst := hexOf_step s k hlt
      rw [hc1, hc2] at hst
      generalize hexOf (s.data.toList.take k) = l at hown hl hst
      have hown0 := Lib.hid hown
      have HC1 := Lib.hid hc1
      have HC2 := Lib.hid hc2
      have HST := Lib.hid hst
      have HL := Lib.hid hl
      clear hc1 hc2 hst hl
      have hz := hbel.size
      go_wp2_with fail
      go_region_held3 (fun _ => True) (exact trivial) ((refine step_append_lies _ (by rfl) _ _ _ (by rfl) w.heap.size 5 i0 _ 1 1 Tryz.underlying60 hi hz0 hz1 hz2 rfl (by omega) _ _ _ (by rfl) ((hown.alloc _).drew) ⟨wr.heap.size, 0, none⟩ 2 2 [.int .u8 c1.toNat, .int .u8 c2.toNat] (by rfl) (by rfl) (World.news_of_block (cs := #[.int .u8 c1.toNat, .int .u8 c2.toNat]) (t := 5) (fr := (0, 0)) (heap_alloc_new wr _)) (by simp [Value.oneCell']) (by omega) (by rw [HL.out]; unfold maxLen; omega) (by rw [HL.out]; omega) (by simp; omega) (wr.heap.size + 1) (by simp) ?_; intro gg cap w1 hown1 hgrow hat hlt1))
      all_goals
        go_wp2
        go_roundw
        case rel => exact ⟨k + 1, by omega, by go_num, by rw [HST.out]; exact Bytes.Has.laid2 hown1, Bytes.Has.belowD hown0.out hbel hz _ hgrow⟩
        case measure => simp [intOf]; omega
    · have hc := hown.text
      rw [take_all s hlt] at hc
      go_wp2
      go_ret
      exact ⟨rfl, hbel⟩
end Go.Proofs.YtpdodknldhbbhaaGreatDoor.Fig

namespace Go.Proofs.YtpdodknldhbbhaaGreatDoor.Sx
open Go.RowKit

theorem idx_lt (k : IntKind) (x : Int) (h0 : 0 ≤ x) (h1 : x < 64) (W : World) :
    (Instr.index 9 (.string { data := #[65, 66, 67, 68, 69, 70, 71, 72, 73, 74, 75, 76, 77, 78, 79, 80, 81, 82, 83, 84, 85, 86, 87, 88, 89, 90, 97, 98, 99, 100, 101, 102, 103, 104, 105, 106, 107, 108, 109, 110, 111, 112, 113, 114, 115, 116, 117, 118, 119, 120, 121, 122, 48, 49, 50, 51, 52, 53, 54, 55, 56, 57, 43, 47] }) (.int k x)).run Tryz.prog W = .ok (.int .u8 ((lt x.toNat).toNat : Int)) W := by
  rw [run_index_string W _ _ _ _ Tryz.underlying9, dif_pos ⟨h0, h1⟩]
  obtain ⟨n, rfl⟩ := Int.eq_ofNat_of_zero_le h0
  have hn : n < 64 := by omega
  match n, hn with
  | 0, _ => rfl
  | 1, _ => rfl
  | 2, _ => rfl
  | 3, _ => rfl
  | 4, _ => rfl
  | 5, _ => rfl
  | 6, _ => rfl
  | 7, _ => rfl
  | 8, _ => rfl
  | 9, _ => rfl
  | 10, _ => rfl
  | 11, _ => rfl
  | 12, _ => rfl
  | 13, _ => rfl
  | 14, _ => rfl
  | 15, _ => rfl
  | 16, _ => rfl
  | 17, _ => rfl
  | 18, _ => rfl
  | 19, _ => rfl
  | 20, _ => rfl
  | 21, _ => rfl
  | 22, _ => rfl
  | 23, _ => rfl
  | 24, _ => rfl
  | 25, _ => rfl
  | 26, _ => rfl
  | 27, _ => rfl
  | 28, _ => rfl
  | 29, _ => rfl
  | 30, _ => rfl
  | 31, _ => rfl
  | 32, _ => rfl
  | 33, _ => rfl
  | 34, _ => rfl
  | 35, _ => rfl
  | 36, _ => rfl
  | 37, _ => rfl
  | 38, _ => rfl
  | 39, _ => rfl
  | 40, _ => rfl
  | 41, _ => rfl
  | 42, _ => rfl
  | 43, _ => rfl
  | 44, _ => rfl
  | 45, _ => rfl
  | 46, _ => rfl
  | 47, _ => rfl
  | 48, _ => rfl
  | 49, _ => rfl
  | 50, _ => rfl
  | 51, _ => rfl
  | 52, _ => rfl
  | 53, _ => rfl
  | 54, _ => rfl
  | 55, _ => rfl
  | 56, _ => rfl
  | 57, _ => rfl
  | 58, _ => rfl
  | 59, _ => rfl
  | 60, _ => rfl
  | 61, _ => rfl
  | 62, _ => rfl
  | 63, _ => rfl

theorem or16 (a b : Nat) (hb : b < 256) : bits .or .u8 (IntKind.u8.wrap ((a : Int) * 16)) ((b : Int) / 16) = ((a % 16 * 16 + b / 16 : Nat) : Int) := by
  rw [IntKind.wrap_u8, bits_join .u8 8 (by decide) wraps_u8 4 _ _ (by omega) (by omega) (by omega) (by omega) (by omega) (by omega)]
  omega
theorem or4 (b c : Nat) (hc : c < 256) : bits .or .u8 (IntKind.u8.wrap ((b : Int) * 4)) ((c : Int) / 64) = ((b % 64 * 4 + c / 64 : Nat) : Int) := by
  rw [IntKind.wrap_u8, bits_join .u8 8 (by decide) wraps_u8 2 _ _ (by omega) (by omega) (by omega) (by omega) (by omega) (by omega)]
  omega
theorem and63 (x : Nat) (hx : x < 256) : bits .and .u8 (x : Int) 63 = ((x % 64 : Nat) : Int) := by
  have h := u8_and63 (x := (x : Int)) (by omega) (by omega)
  rw [h]; omega

set_option maxRecDepth 100000 in
set_option maxHeartbeats 1000000 in
theorem lettersOf_any (a b c : UInt8) (w : World) :
    Calls Tryz.prog 111 #[.agg #[.int .u8 (a.toNat : Int), .int .u8 (b.toNat : Int), .int .u8 (c.toNat : Int)]] w fun e w' =>
      e = .returned (.agg #[.int .u8 ((lt (a.toNat / 4)).toNat : Int), .int .u8 ((lt ((a.toNat % 16 * 16 + b.toNat / 16) % 64)).toNat : Int), .int .u8 ((lt ((b.toNat % 64 * 4 + c.toNat / 64) % 64)).toNat : Int), .int .u8 ((lt (c.toNat % 64)).toNat : Int)]) ∧ Below w.heap.size w w' := by
  have ha := a.toNat_lt
  have hb := b.toNat_lt
  have hc := c.toNat_lt
  have o1 := or16 a.toNat b.toNat hb
  have o2 := or4 b.toNat c.toNat hc
  generalize a.toNat = a at *
  generalize b.toNat = b at *
  generalize c.toNat = c at *
  have n1 := and63 (a % 16 * 16 + b / 16) (by omega)
  have n2 := and63 (b % 64 * 4 + c / 64) (by omega)
  have n3 := and63 c (by omega)
  have x0 := idx_lt .u8 ((a : Int) / 4) (by omega) (by omega)
  rw [show ((a : Int) / 4).toNat = a / 4 by omega] at x0
  have x1 := idx_lt .u8 (((a % 16 * 16 + b / 16) % 64 : Nat) : Int) (by omega) (by omega)
  have x2 := idx_lt .u8 (((b % 64 * 4 + c / 64) % 64 : Nat) : Int) (by omega) (by omega)
  have x3 := idx_lt .u8 ((c % 64 : Nat) : Int) (by omega) (by omega)
  simp only [Int.toNat_natCast] at x1 x2 x3
  generalize (a % 16 * 16 + b / 16) % 64 = y1 at *
  generalize (a % 16 * 16 + b / 16) = z1 at *
  generalize (b % 64 * 4 + c / 64) % 64 = y2 at *
  generalize (b % 64 * 4 + c / 64) = z2 at *
  generalize c % 64 = y3 at *
  generalize a / 4 = y0 at *
  go_enter Tryz.func111, Tryz.ntmps111
  go_wp2_with fail
  go_region_held3 (fun w' => w'.cell? ⟨w.heap.size, 0, none⟩ = some (.int .u8 (a : Int)) ∧ w'.cell? ⟨w.heap.size, 1, none⟩ = some (.int .u8 (b : Int)) ∧ w'.cell? ⟨w.heap.size, 2, none⟩ = some (.int .u8 (c : Int))) (go_keep) (fail)
  all_goals
    clear o1 o2 n1 n2 n3 x0 x1 x2 x3
    go_wp2_with fail
    exact bodyPost_ret (v := .agg #[.int .u8 ((lt y0).toNat : Int), .int .u8 ((lt y1).toNat : Int), .int .u8 ((lt y2).toNat : Int), .int .u8 ((lt y3).toNat : Int)]) (by simp [results, Tryz.results111, go_sem]) rfl ⟨rfl, (((Below.refl _ _).alloc (Nat.le_refl _) _).alloc (by simp) _).drew⟩
end Go.Proofs.YtpdodknldhbbhaaGreatDoor.Sx

namespace Go.Proofs.YtpdodknldhbbhaaGreatDoor.Fig
set_option maxRecDepth 100000
open Go.RowKit

end Go.Proofs.YtpdodknldhbbhaaGreatDoor.Fig

namespace Go.Proofs.YtpdodknldhbbhaaGreatDoor.Sx
open Go.RowKit

theorem ret_i64 {a b : Int} (h : a = b) : Ending.returned (.int .i64 a) = .returned (.int .i64 b) := by rw [h]

end Go.Proofs.YtpdodknldhbbhaaGreatDoor.Sx
