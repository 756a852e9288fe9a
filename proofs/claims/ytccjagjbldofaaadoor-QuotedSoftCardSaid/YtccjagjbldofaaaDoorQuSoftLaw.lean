/-
For every text and every int the law QuotedSoft returns true and changes nothing that was there. Conditions: the text's length is at most maxLen; the library's tables hold what the rows list.
-/
import Derived.Test.YtccjagjbldofaaaDoorQuSoftLoop
import Derived.Test.YtccjagjbldofaaaDoorQuRefSoft
namespace Go.Proofs.YtccjagjbldofaaaDoor.QuLaw
open Go.RowKit Qu

theorem chain2 {a b c : World} (h : Below a.heap.size a b) (k : Below b.heap.size b c) : Below a.heap.size a c := h.trans (k.mono h.size)

set_option maxHeartbeats 400000 in
theorem softs (s : ByteArray) (n : Int) (w : World) (hs : s.size ≤ maxLen) (T : Tabs w) :
    Calls Tryd.prog 4 #[.string s, .int .i64 n] w fun e w' => e = .returned (.bool true) ∧ Below w.heap.size w w' := by
  unfold maxLen at hs
  by_cases hl : 1500 < s.size
  · go_enter Tryd.func4, Tryd.ntmps4
    go_wp2
    go_ret
    exact ⟨rfl, Below.refl _ _⟩
  · have C1 := Lib.hid (soft_any s n (by omega) w T)
    have C2 := Lib.hid (fun W => refSoft_any s n (by omega) W)
    generalize (softA s.data.toList n).1.toArray = x at C1 C2
    generalize (softA s.data.toList n).2 = e at C1 C2
    go_enter Tryd.func4, Tryd.ntmps4
    go_wp2_with fail
    refine C1.out.mono ?_
    rintro e w1 ⟨rfl, b1⟩
    go_wp2_with fail
    refine (C2.out _).mono ?_
    rintro e w2 ⟨rfl, b2⟩
    go_wp2_with fail
    go_ret
    exact ⟨rfl, chain2 b1 b2⟩
end Go.Proofs.YtccjagjbldofaaaDoor.QuLaw
