/-
charset.ofBytes is the text whose letters are bytes. Conditions: there are at most 2^36 bytes.
-/
import Derived.Test.YtmahdlaifbbjgaaDoorCsTabs
import Derived.IntWalk
namespace Go.Proofs.YtmahdlaifbbjgaaDoor.Cs
open Go.RowKit

theorem latin_next {l pre r : List UInt8} {k : Nat} {c : UInt8} (hc : l.drop k = c :: l.drop (k + 1)) (h : pre ++ latin (l.drop k) = r) : (pre ++ Lib.encodeRune (c.toNat : Int)) ++ latin (l.drop (k + 1)) = r := by
  rw [← h, hc, latin_cons, List.append_assoc]
theorem drop_at (s : ByteArray) (k : Nat) (h : k < s.size) : s.data.toList.drop k = s[k] :: s.data.toList.drop (k + 1) := by
  rw [List.drop_eq_getElem_cons (by rw [list_size]; exact h)]; rfl
theorem enc1_length (c : UInt8) : (Lib.encodeRune (c.toNat : Int)).length ≤ 2 := by
  rcases enc1 c with ⟨_, e⟩ | ⟨_, e⟩ <;> rw [e] <;> simp

set_option maxHeartbeats 800000 in
theorem ofBytes_any (s : ByteArray) (hs : s.size ≤ 68719476736) (w : World) :
    Calls Tryd.prog 21 #[.string s] w fun e w' => e = .returned (.string ⟨(latin s.data.toList).toArray⟩) ∧ Below w.heap.size w w' := by
  go_enter Tryd.func21, Tryd.ntmps21
  go_wp2
  go_loopw [3, 7] (fun v i wr => ∃ (k : Nat) (l : List UInt8), k ≤ s.size ∧ i = .int .i64 k ∧ Hid (l ++ latin (s.data.toList.drop k) = latin s.data.toList) ∧ l.length ≤ 2 * k ∧ Bytes.Has wr w.heap.size v l ∧ Below w.heap.size w wr) (fun _ i _ => s.size - (intOf i).toNat)
  case atStart => exact ⟨0, [], Nat.zero_le _, rfl, Lib.hid (by simp), by simp, Bytes.Has.nil _ _, Below.refl _ _⟩
  case round =>
    obtain ⟨k, l, hk, rfl, hl, hll, hown, hbel⟩ := hrel
    have hz := hbel.size
    by_cases hlt : k < s.size
    · obtain ⟨c, hc⟩ : ∃ c, s[k] = c := ⟨_, rfl⟩
      have HL := Lib.hid (latin_next (by rw [drop_at s k hlt, hc]) hl.out)
      have C := Lib.hid (add_any w.heap.size _ l c wr hown (by omega) hz)
      have h2 := enc1_length c
      have hc8 := c.toNat_lt
      go_wp2_with fail
      refine C.out.mono ?_
      rintro e w1 ⟨v', rfl, hown1, b1⟩
      go_wp2_with fail
      go_roundw
      case rel => exact ⟨k + 1, _, by omega, by go_num, HL, by rw [List.length_append]; omega, hown1, hbel.trans b1⟩
      case measure => simp [intOf]; omega
    · obtain rfl : k = s.size := by omega
      have HE := Lib.hid (show l = latin s.data.toList by rw [← hl.out, List.drop_eq_nil_of_le (by rw [list_size]; exact Nat.le_refl _)]; simp [latin])
      have ht := hown.text
      rw [HE.out] at ht
      go_wp2_with fail
      go_ret
      exact ⟨rfl, hbel⟩
end Go.Proofs.YtmahdlaifbbjgaaDoor.Cs
