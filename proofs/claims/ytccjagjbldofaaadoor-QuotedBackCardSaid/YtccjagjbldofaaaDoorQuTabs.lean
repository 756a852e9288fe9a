/-
What the library's capital letters need of the world: three tables of Go's own, as the rows list them; that they stay; strings.ToUpper over them. Conditions: the tables hold what the rows list.
-/
import Derived.Test.YtccjagjbldofaaaDoorRows
import Derived.Test.YtccjagjbldofaaaDoorShelf
import Derived.Lib.LaidCase
import Derived.Lib.LaidU8T
import Derived.PinnedBridge
import Derived.MakeChecks
import Derived.Lib.Hide
namespace Go.Proofs.YtccjagjbldofaaaDoor.Qu
open Go.RowKit Go.Lib Go.Shelf

def Tabs (w : World) : Prop := CaseVar 1 caseA w ∧ Lib.Utf8Tabs 2 3 w
theorem Tabs.below {w w' : World} (h : Tabs w) (hb : Below w.heap.size w w') : Tabs w' := by
  have k : ∀ {a : Addr} {v : Value}, w.cell? a = some v → w'.cell? a = some v := fun {a v} hc => (hb.cell (World.block_lt_of_cell? w a hc)).trans hc
  exact ⟨CaseVar_below h.1 hb, fun c hc => k (h.2.1 c hc), fun i hi => ⟨k (h.2.2 i hi).1, k (h.2.2 i hi).2⟩⟩
theorem upper_any (s : ByteArray) (w : World) (hs : s.size < 35184372088832) (T : Tabs w) :
    Calls Tryd.prog 24 #[.string s] w fun e w' => e = .returned (.string ⟨(Lib.toUpperD s.data.toList).toArray⟩) ∧ Below w.heap.size w w' :=
  Tryd.strings_ToUpper_any s w hs T.1 T.2

theorem caseX : CaseExtra Tryd.prog Tryd.lays158_ren := ⟨by kernel_rfl, by kernel_rfl, by kernel_rfl, by kernel_rfl, by kernel_rfl, by kernel_rfl⟩
theorem u8X : U8Extra Tryd.prog Tryd.lays158_ren := ⟨by kernel_rfl, by kernel_rfl, by kernel_rfl, by kernel_rfl, by kernel_rfl, by kernel_rfl, by kernel_rfl⟩
theorem accept_eq : (Rows.laid_unicode_utf8_acceptRanges : DataW Unit) = acceptData := by kernel_rfl

theorem tabs_of_laid {W : World} (hL : laidMetH Tryd.prog [("unicode/utf8.acceptRanges", Rows.laid_unicode_utf8_acceptRanges), ("unicode.CaseRanges", Rows.laid_unicode_CaseRanges), ("unicode/utf8.first", Rows.laid_unicode_utf8_first)] W) : Tabs W := by
  rw [MakeChecks.laidMetH_plain _ _ _ (by kernel_rfl)] at hL
  have r1 := Lib.laidMet.reads hL (.head _)
  have r2 := Lib.laidMet.reads hL (.tail _ (.head _))
  have r3 := Lib.laidMet.reads hL (.tail _ (.tail _ (.head _)))
  rw [accept_eq] at r1
  rw [show (Rows.laid_unicode_CaseRanges) = caseData from Pinned.caseRanges_eq] at r2
  rw [show (Rows.laid_unicode_utf8_first) = firstData from Pinned.utf8First_eq] at r3
  exact ⟨caseVar_of_reads { Tryd.lays158 with } Tryd.lays158.t206 caseX r2, utf8Tabs_of_readsT { Tryd.lays158 with } u8X r3 r1⟩
end Go.Proofs.YtccjagjbldofaaaDoor.Qu
