/-
For every text the law SixbitReads returns true and changes nothing that was there. Conditions: the text's length is at most maxLen.
-/
import Derived.Test.YtijgpelgdepbaaaDoorSxDec
import Derived.Test.YtijgpelgdepbaaaDoorSxRefDec
namespace Go.Proofs.YtijgpelgdepbaaaDoor.Sx
open Go.RowKit

theorem chain {a b c : World} (h : Below a.heap.size a b) (k : Below b.heap.size b c) : Below a.heap.size a c := h.trans (k.mono h.size)

set_option maxHeartbeats 400000 in
theorem reads (s : ByteArray) (w : World) (hs : s.size ≤ maxLen) :
    Calls Tryd.prog 3 #[.string s] w fun e w' => e = .returned (.bool true) ∧ Below w.heap.size w w' := by
  unfold maxLen at hs
  by_cases hl : 3000 < s.size
  · go_enter Tryd.func3, Tryd.ntmps3
    go_wp2
    go_ret
    exact ⟨rfl, Below.refl _ _⟩
  · have C1 := Lib.hid (decode_any s (by omega) w)
    have C2 := Lib.hid (fun W => refDecode_any s W (by omega))
    generalize (dec s.data.toList).1.toArray = x at C1 C2
    generalize (dec s.data.toList).2 = e at C1 C2
    go_enter Tryd.func3, Tryd.ntmps3
    go_wp2_with fail
    refine C1.out.mono ?_
    rintro e w1 ⟨rfl, b1⟩
    go_wp2_with fail
    refine (C2.out _).mono ?_
    rintro e w2 ⟨rfl, b2⟩
    go_wp2_with fail
    go_ret
    exact ⟨rfl, chain b1 b2⟩
end Go.Proofs.YtijgpelgdepbaaaDoor.Sx
