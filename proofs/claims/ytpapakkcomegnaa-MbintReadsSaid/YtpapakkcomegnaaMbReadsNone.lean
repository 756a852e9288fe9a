/-
For every text and a list of reads without elements the law MbintReads returns true and changes nothing that was there. Conditions: the text's length is at most maxLen.
-/
import Derived.Test.YtpapakkcomegnaaMbRefLoops
import Derived.Deep.RegionHeld3
import Derived.IntWalk
namespace Go.Proofs.Ytpapakkcomegnaa.MbLaw
open Go.RowKit Mb

set_option maxHeartbeats 1000000 in
/-- The same at a list without elements. -/
theorem reads_none (s : ByteArray) (a : Option Addr) (cap : Nat) (w : World) (hs : s.size ≤ maxLen) :
    Calls Try.prog 4 #[.string s, .slice a 0 cap] w fun e w' => e = .returned (.bool true) ∧ Below w.heap.size w w' := by
  have hs' : s.size ≤ 9223372036854775807 := by unfold maxLen at hs; omega
  go_enter Try.func4, Try.ntmps4
  go_wp2_with fail
  refine (new_any s _).mono ?_
  rintro x w1 ⟨rfl, hA, b1⟩
  have hlt1 := hA.lt
  go_wp2_with fail
  have hB : Rr (w1.alloc (.cells #[.string s, .int .i64 0, .int .i64 0] 31)) w1.heap.size s 0 0 := heap_alloc_new w1 _
  have hA2 := hA.below ((Below.refl w1.heap.size w1).alloc (Nat.le_refl _) (.cells #[.string s, .int .i64 0, .int .i64 0] 31))
  have hbel := b1.alloc b1.size (.cells #[.string s, .int .i64 0, .int .i64 0] 31)
  go_loopw [7] (fun i wr => i = .int .i64 0 ∧ Rd wr w.heap.size s 0 0 ∧ Rr wr w1.heap.size s 0 0 ∧ Below w.heap.size w wr) (fun _ _ => 0)
  case atStart => exact ⟨rfl, hA2, hB, hbel⟩
  case round =>
    obtain ⟨rfl, hRd, hRr, hBr⟩ := hrel
    have hwr : IntKind.i64.wrap (s.size : Int) = (s.size : Int) := IntWalk.i64_in _ (by omega)
    go_wp2_with fail
    have dd : Rd wr.drew w.heap.size s 0 0 := hRd
    have dr : Rr wr.drew w1.heap.size s 0 0 := hRr
    have dT := hBr.drew
    have dc1 := dr.c1
    go_region_held3 (fun W => W.cell? ⟨w1.heap.size, 1, none⟩ = some (.int .i64 ((0 : Nat) : Int))) (first | exact dc1 | exact hc1) (first | (go_at_call 21; (with_reducible refine (at_any _ s 0 0 _ (by assumption)).mono ?_); rintro x w3 ⟨rfl, b3⟩; have hr3 := Rr.below (by assumption) b3; have hd3 := Rd.below (by assumption) b3; have hc1 := hr3.c1; have dT := dT.trans (b3.mono dT.size)) | (go_at_call 22; (with_reducible refine (left_any _ s 0 0 _ (by assumption) (Nat.zero_le _)).mono ?_); rintro x w3 ⟨rfl, b3⟩; have hr3 := Rr.below (by assumption) b3; have hd3 := Rd.below (by assumption) b3; have hc1 := hr3.c1; have dT := dT.trans (b3.mono dT.size)))
    all_goals
      go_wp2_with fail
      go_ret
      exact ⟨rfl, dT⟩

end Go.Proofs.Ytpapakkcomegnaa.MbLaw
