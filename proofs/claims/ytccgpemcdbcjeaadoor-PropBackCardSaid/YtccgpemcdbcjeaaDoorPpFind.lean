/-
Where a byte is in a text, from a place on, ahead of an end: the document's answer, in plain words. Conditions: the end lies within the text, the place not behind the end.
-/
import Derived.Test.YtccgpemcdbcjeaaDoorPpRef1
namespace Go.Proofs.YtccgpemcdbcjeaaDoor.Pp
open Go.RowKit

/-- Where byte c is in l from place a on, ahead of place z; z if nowhere. -/
def findN (l : List UInt8) (a z : Nat) (c : UInt8) : Nat := a + ((l.take z).drop a).idxOf c
theorem findN_le {l : List UInt8} {a z : Nat} {c : UInt8} (hz : z ≤ l.length) (ha : a ≤ z) : findN l a z c ≤ z := by
  unfold findN
  have h := List.idxOf_le_length (a := c) (l := (l.take z).drop a)
  rw [List.length_drop, List.length_take] at h
  omega
theorem findN_ge {l : List UInt8} {a z : Nat} {c : UInt8} : a ≤ findN l a z c := by unfold findN; omega
theorem findN_hit {l : List UInt8} {a z : Nat} {c : UInt8} (h : a < z) (hz : z ≤ l.length) (hc : l[a]'(by omega) = c) : findN l a z c = a := by
  unfold findN
  rw [List.drop_eq_getElem_cons (by rw [List.length_take]; omega), List.getElem_take, hc, List.idxOf_cons_self]; rfl
theorem findN_miss {l : List UInt8} {a z : Nat} {c : UInt8} (h : a < z) (hz : z ≤ l.length) (hc : ¬ l[a]'(by omega) = c) : findN l a z c = findN l (a + 1) z c := by
  unfold findN
  rw [List.drop_eq_getElem_cons (by rw [List.length_take]; omega), List.getElem_take, List.idxOf_cons, show ((l[a]'(by omega)) == c) = false by simpa using hc]
  simp only [cond_false]
  omega
theorem findN_end {l : List UInt8} {z : Nat} {c : UInt8} (hz : z ≤ l.length) : findN l z z c = z := by
  unfold findN
  rw [List.drop_eq_nil_of_le (by rw [List.length_take]; omega)]; rfl

set_option maxHeartbeats 400000 in
theorem rFind_any (s : ByteArray) (a z : Nat) (c : UInt8) (w : World) (hz : z ≤ s.size) (ha : a ≤ z) (hs : s.size ≤ 1099511627776) :
    Calls Tryd.prog 16 #[.string s, .int .i64 a, .int .i64 z, .int .u8 (c.toNat : Int)] w fun e w' => e = .returned (.int .i64 (findN s.data.toList a z c : Nat)) ∧ w = w' := by
  obtain ⟨r, hr⟩ : ∃ r, findN s.data.toList a z c = r := ⟨_, rfl⟩
  rw [hr]
  have HE := Lib.hid (findN_end (l := s.data.toList) (z := z) (c := c) (by rw [list_size]; exact hz))
  have HH : Hid (∀ k, (h : k < z) → s[k]'(by omega) = c → findN s.data.toList k z c = k) := Lib.hid (fun k h e => findN_hit h (by rw [list_size]; exact hz) (by rw [← e]; simp; rfl))
  have HM : Hid (∀ k, (h : k < z) → ¬ s[k]'(by omega) = c → findN s.data.toList k z c = findN s.data.toList (k + 1) z c) := Lib.hid (fun k h e => findN_miss h (by rw [list_size]; exact hz) (fun f => e (by rw [← f]; simp; rfl)))
  go_enter Tryd.func16, Tryd.ntmps16
  go_wp2_with fail
  go_loop [9] (fun iv => ∃ k : Nat, iv = .int .i64 k ∧ a ≤ k ∧ k ≤ z ∧ Hid (findN s.data.toList k z c = r)) (fun iv => z - (intOf iv).toNat)
  case atStart => exact ⟨a, rfl, Nat.le_refl _, ha, Lib.hid hr⟩
  case round =>
    obtain ⟨k, rfl, hk0, hk, HK⟩ := hrel
    clear hr
    by_cases hlt : k < z
    · have hlt2 : k < s.size := by omega
      have H1 := Lib.hid (HH.out k hlt)
      have H2 := Lib.hid (HM.out k hlt)
      obtain ⟨d, hd⟩ : ∃ d : UInt8, s[k] = d := ⟨_, rfl⟩
      rw [hd] at H1 H2
      by_cases he : d = c
      · obtain rfl : k = r := by rw [← HK.out]; exact (H1.out he).symm
        subst he
        go_wp2_with fail
        go_ret
        exact ⟨rfl, rfl⟩
      · have HK' := Lib.hid ((H2.out he).symm.trans HK.out)
        have hne : ((d.toNat : Int) == (c.toNat : Int)) = false := by
          rw [beq_eq_false_iff_ne]; intro h; exact he (UInt8.toNat_inj.mp (by omega))
        go_wp2_with fail
        go_round
        case rel => exact ⟨k + 1, by go_num, by omega, by omega, HK'⟩
        case measure => simp [intOf]; omega
    · obtain rfl : k = z := by omega
      obtain rfl : k = r := by rw [← HK.out]; exact HE.out.symm
      go_wp2_with fail
      go_ret
      exact ⟨rfl, rfl⟩
end Go.Proofs.YtccgpemcdbcjeaaDoor.Pp
