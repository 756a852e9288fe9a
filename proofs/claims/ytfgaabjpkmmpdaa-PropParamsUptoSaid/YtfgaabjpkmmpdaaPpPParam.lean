/-
A property's parameter by its name: the program's answer is the plain function's. Conditions: the parameters lie below the caller's blocks, at most 2^40 of them.
-/
import Derived.Test.YtfgaabjpkmmpdaaPpGet
namespace Go.Proofs.Ytfgaabjpkmmpdaa.Pp
open Go.RowKit

set_option maxHeartbeats 800000 in
theorem pGet_any (g n : ByteArray) (pv : Value) (v : ByteArray) (av : Value) (s : ByteArray) (ps : List (ByteArray × ByteArray)) (w : World) (hps : Ps w w.heap.size pv ps) (hl : ps.length ≤ 1099511627776) :
    Calls Try.prog 13 #[prV g n pv v av, .string s] w fun e w' => e = .returned (.tuple #[.string (getV ps s), .bool (getB ps s)]) ∧ Below w.heap.size w w' := by
  obtain ⟨pa, pc, rfl⟩ := hps.shape
  unfold prV getV getB
  obtain ⟨r, hr⟩ : ∃ r, getP ps s = r := ⟨_, rfl⟩
  rw [hr]
  have HB : Below w.heap.size w (w.alloc (.cells #[.string g, .string n, .slice pa ps.length pc, .string v, av] 25)) := (Below.refl _ _).alloc (Nat.le_refl _) _
  have HA : PrAt (w.alloc (.cells #[.string g, .string n, .slice pa ps.length pc, .string v, av] 25)) w.heap.size g n (.slice pa ps.length pc) v av := heap_alloc_new w _
  have k2 := HA.c2
  go_enter Try.func13, Try.ntmps13
  go_wp2_with fail
  clear k2
  go_loopw [11] (fun iv wr => ∃ k : Nat, k ≤ ps.length ∧ iv = .int .i64 k ∧ Below w.heap.size w wr ∧ Hid (getP (ps.drop k) s = r)) (fun iv _ => ps.length - (intOf iv).toNat)
  case atStart => exact ⟨0, Nat.zero_le _, rfl, HB, Lib.hid hr⟩
  case round =>
    obtain ⟨k, hk, rfl, hbel, HK⟩ := hrel
    clear hr
    by_cases hlt : k < ps.length
    · obtain ⟨b, o, cap, hv1, hbB, hc0, hc1⟩ := (hps.below hbel).at_ hlt
      simp only [Value.slice.injEq, true_and] at hv1
      obtain ⟨rfl, rfl⟩ := hv1
      have HN := Lib.hid (getP_no (s := s) hlt)
      have HY := Lib.hid (getP_yes (s := s) hlt)
      generalize ps[k] = x at hc0 hc1 HN HY
      obtain ⟨n', v'⟩ := x
      simp only at HN HY hc0 hc1
      have B2 : Below w.heap.size w (wr.alloc (.cells #[.string n', .string v'] 39)) := hbel.alloc hbel.size _
      cases he : (n'.toList == s.toList)
      · have HK' := Lib.hid ((HN.out he).symm.trans HK.out)
        go_wp2_with fail
        go_roundw
        case rel => exact ⟨k + 1, by omega, by go_num, B2, HK'⟩
        case measure => simp [intOf]; omega
      · obtain rfl : some v' = r := by rw [← HK.out]; exact (HY.out he).symm
        go_wp2_with fail
        go_ret2
        exact ⟨rfl, B2⟩
    · obtain rfl : k = ps.length := by omega
      obtain rfl : none = r := by rw [← HK.out, List.drop_length]; rfl
      go_wp2_with fail
      go_ret2
      exact ⟨rfl, hbel⟩
end Go.Proofs.Ytfgaabjpkmmpdaa.Pp
