/-
Texts joined in one file, each with its own conditions: What an iterator of pieces tells, up to so many: a row of the call's own. Conditions: the text has at most 10000 bytes, and at most 10000 pieces are wanted. · The document's own Lines answers a text's pieces. Conditions: the text has at most 10000 bytes.
-/
import Derived.Test.YtpdodknldhbbhaaGreatDoorJ14
import Derived.Test.YtpdodknldhbbhaaGreatDoorJ06
import Derived.Test.YtpdodknldhbbhaaGreatDoorJ10
import Derived.Maps.AppendAt
namespace Go.Proofs.YtpdodknldhbbhaaGreatDoor.Sx
open Go.RowKit Go.Shelf
attribute [local go_sem] Oper.semAt_some

def scells (l : List (List UInt8)) : List Value := l.map fun x => Value.string ⟨x.toArray⟩
theorem scells_length (l : List (List UInt8)) : (scells l).length = l.length := by simp [scells]
theorem scells_snoc (l : List (List UInt8)) (x : List UInt8) : scells (l ++ [x]) = scells l ++ [.string ⟨x.toArray⟩] := by simp [scells]
/-- The slice v holds the pieces l, in a row of the call's own (blocks from base on). -/
def Strs (w : World) (base : Nat) (v : Value) (l : List (List UInt8)) : Prop := w.ownsRow base 9 1 v l.length (scells l)
theorem infoStr : (Tryz.prog.info? 9).map (fun i => (i.zero, i.size, i.bytes)) = some (some (.string .empty), 1, 16) := by kernel_rfl

theorem ownsRow_low {w : World} {b b' n sz : Nat} {e : TypeId} {v : Value} {xs : List Value} (hb : b' ≤ b) (h : w.ownsRow b e sz v n xs) : w.ownsRow b' e sz v n xs := by
  obtain ⟨h0, h⟩ := h
  refine ⟨h0, ?_⟩
  rcases h with h | ⟨g, cap, cur, h1, h2, h3⟩
  · exact .inl h
  · exact .inr ⟨g, cap, cur, h1, by omega, h3⟩
theorem below_put_p {B : Nat} {a w : World} (h : Below B a w) {D : Nat} {o : Obj} (hD : B ≤ D) (hk : w.heap[D]? = some o) (o' : Obj) : Below B a (w.putObj D o') :=
  h.grown (grownBy_putObj' w D o') (by have := (Array.getElem?_eq_some_iff.1 hk).1; omega) (fun k e => by cases e; exact hD)
/-- The pieces' row, and the call's true. -/
def Told (w : World) (base : Nat) (l : List (List UInt8)) (e : Ending) (W' : World) : Prop := ∃ v, e = .returned (.tuple #[v, .bool true]) ∧ Strs W' base v l ∧ Below base w W'

end Go.Proofs.YtpdodknldhbbhaaGreatDoor.Sx

namespace Go.Proofs.YtpdodknldhbbhaaGreatDoor.Sx
set_option maxRecDepth 100000
open Go.RowKit

theorem str_full {t : ByteArray} (h : 0 < t.size) : (!t.toList.isEmpty) = true := by
  rw [ByteArray.toList_eq]; cases e : t.data.toList with | nil => have := list_size t; rw [e] at this; simp at this; omega | cons a r => rfl
theorem str_none {t : ByteArray} (h : ¬ 0 < t.size) : (!t.toList.isEmpty) = false := by
  rw [ByteArray.toList_eq, List.eq_nil_of_length_eq_zero (l := t.data.toList) (by rw [list_size]; omega)]; rfl

end Go.Proofs.YtpdodknldhbbhaaGreatDoor.Sx
