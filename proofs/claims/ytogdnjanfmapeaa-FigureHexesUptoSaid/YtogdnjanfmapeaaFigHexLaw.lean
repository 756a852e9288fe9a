/-
For every text s of at most 2^40 bytes the law FigureHexes returns true and changes nothing that was there. Conditions: that bound.
-/
import Derived.Test.YtogdnjanfmapeaaFigHex
import Derived.Test.YtogdnjanfmapeaaFigRefHex
import Derived.Test.YtogdnjanfmapeaaFigUnhex
import Derived.Test.YtogdnjanfmapeaaFigRefUnhex
namespace Go.Proofs.Ytogdnjanfmapeaa.FigLaw
open Go.RowKit Fig

theorem chain {a b c : World} (h : Below a.heap.size a b) (k : Below b.heap.size b c) : Below a.heap.size a c := h.trans (k.mono h.size)

set_option maxHeartbeats 400000 in
theorem hexes (s : ByteArray) (w : World) (hs : s.size ≤ 1099511627776) :
    Calls Try.prog 5 #[.string s] w fun e w' => e = .returned (.bool true) ∧ Below w.heap.size w w' := by
  have C1 := Lib.hid (fun W => unhex_any s W hs)
  have C2 := Lib.hid (fun W => FigR.refUnhex_any s W hs)
  have C3 := Lib.hid (fun W => hex_any s W hs)
  have C4 := Lib.hid (fun W => refHex_any s W hs)
  generalize (unhex s.data.toList).1.toArray = p at C1 C2
  generalize (unhex s.data.toList).2 = q at C1 C2
  generalize (hexOf s.data.toList).toArray = r at C3 C4
  go_enter Try.func5, Try.ntmps5
  go_wp2_with fail
  refine (C1.out _).mono ?_
  rintro e w1 ⟨rfl, b1⟩
  go_wp2_with fail
  refine (C2.out _).mono ?_
  rintro e w2 ⟨rfl, b2⟩
  go_wp2_with fail
  refine (C3.out _).mono ?_
  rintro e w3 ⟨rfl, b3⟩
  go_wp2_with fail
  refine (C4.out _).mono ?_
  rintro e w4 ⟨rfl, b4⟩
  go_wp2_with fail
  go_ret
  exact ⟨rfl, chain (chain (chain b1 b2) b3) b4⟩
end Go.Proofs.Ytogdnjanfmapeaa.FigLaw
