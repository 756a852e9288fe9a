/-
For every number below 2^32 the law MbintWrites returns true and changes nothing that was there. Conditions: that bound.
-/
import Derived.Test.YtpapakkcomegnaaMbRefWrite
namespace Go.Proofs.Ytpapakkcomegnaa.MbLaw
open Go.RowKit Mb

theorem chain' {a b c : World} (h : Below a.heap.size a b) (k : Below b.heap.size b c) : Below a.heap.size a c := h.trans (k.mono h.size)
theorem mb_size (m : Nat) : 0 < (⟨(mb m).toArray⟩ : ByteArray).size := by
  have := mb_pos m
  simpa [ByteArray.size] using this

set_option maxHeartbeats 400000 in
theorem writes (n : Int) (w : World) (h0 : 0 ≤ n) (h1 : n ≤ 4294967295) :
    Calls Try.prog 3 #[.int .u32 n] w fun e w' => e = .returned (.bool true) ∧ Below w.heap.size w w' := by
  obtain ⟨m, rfl⟩ := Int.eq_ofNat_of_zero_le h0
  have CW := Lib.hid (fun W => write_any m W (by omega))
  have CR := Lib.hid (fun W => rWrite_any m W (by omega))
  have hsz := mb_size m
  generalize (⟨(mb m).toArray⟩ : ByteArray) = t at CW CR hsz
  clear h0 h1
  go_enter Try.func3, Try.ntmps3
  go_wp2_with fail
  refine (CW.out _).mono ?_
  rintro e w1 ⟨rfl, b1⟩
  go_wp2_with fail
  refine (CR.out _).mono ?_
  rintro e w2 ⟨rfl, b2⟩
  go_wp2_with fail
  go_ret
  exact ⟨rfl, chain' b1 b2⟩
end Go.Proofs.Ytpapakkcomegnaa.MbLaw
