/-
Rows of parameters of a call's own; the law's copy of a property. Conditions: at most 2^30 parameters, below the caller's blocks.
-/
import Derived.Test.YtfgaabjpkmmpdaaPpChk
import Derived.Shelf.Abstract
import Derived.OwnWalkIn
import Derived.OpenShut
import Derived.Lib.BufferRead
import Derived.Laws.AppendOwn
import Derived.Laws.AppendOwnNone
namespace Go.Proofs.Ytfgaabjpkmmpdaa.Pp
open Go.RowKit

/-- The cells of parameters. -/
def pcells : List (ByteArray × ByteArray) → List Value
  | [] => []
  | p :: r => .string p.1 :: .string p.2 :: pcells r
theorem pcells_length : ∀ l : List (ByteArray × ByteArray), (pcells l).length = l.length * 2
  | [] => rfl
  | p :: r => by rw [pcells, List.length_cons, List.length_cons, pcells_length r, List.length_cons]; omega
theorem pcells_append : ∀ l r : List (ByteArray × ByteArray), pcells (l ++ r) = pcells l ++ pcells r
  | [], _ => rfl
  | p :: l, r => by rw [List.cons_append, pcells, pcells_append l r]; rfl
theorem pcells_at : ∀ (l : List (ByteArray × ByteArray)) (i : Nat) (h : i < l.length), (pcells l)[i * 2]? = some (.string l[i].1) ∧ (pcells l)[i * 2 + 1]? = some (.string l[i].2)
  | p :: r, 0, _ => ⟨rfl, rfl⟩
  | p :: r, i + 1, h => by
    have ih := pcells_at r i (by simpa using h)
    have e : (i + 1) * 2 = i * 2 + 1 + 1 := by omega
    rw [e, pcells]
    exact ⟨by simpa using ih.1, by simpa using ih.2⟩
theorem pcells_one {l : List (ByteArray × ByteArray)} : ∀ u ∈ pcells l, u.oneCell' = true := by
  induction l with
  | nil => intro u hu; cases hu
  | cons p r ih =>
    intro u hu
    rw [pcells] at hu
    rcases List.mem_cons.1 hu with rfl | hu
    · rfl
    · rcases List.mem_cons.1 hu with rfl | hu
      · rfl
      · exact ih u hu
/-- A cell of them, by its place. -/
theorem pcells_get {l : List (ByteArray × ByteArray)} {j : Nat} {u : Value} (h : (pcells l)[j]? = some u) : ∃ i, ∃ h : i < l.length, (j = i * 2 ∧ u = .string l[i].1) ∨ (j = i * 2 + 1 ∧ u = .string l[i].2) := by
  have hj : j < l.length * 2 := by rw [← pcells_length]; exact (List.getElem?_eq_some_iff.1 h).1
  have hi : j / 2 < l.length := by omega
  have hp := pcells_at l (j / 2) hi
  refine ⟨j / 2, hi, ?_⟩
  rcases (by omega : j = j / 2 * 2 ∨ j = j / 2 * 2 + 1) with e | e
  · rw [← e, h] at hp
    exact .inl ⟨e, Option.some.inj hp.1⟩
  · rw [← e, h] at hp
    exact .inr ⟨e, Option.some.inj hp.2⟩

/-- The slice v holds the parameters ps, in a row of the call's own (blocks from base on). -/
def Own (w : World) (base : Nat) (v : Value) (ps : List (ByteArray × ByteArray)) : Prop := w.ownsRow base 39 2 v ps.length (pcells ps)
theorem infoP : (Try.prog.info? 39).map (fun i => (i.zero, i.size, i.bytes)) = some (some (.agg #[.string .empty, .string .empty]), 2, 32) := by kernel_rfl
/-- It may be read. -/
theorem Own.ps {w : World} {base : Nat} {v : Value} {ps : List (ByteArray × ByteArray)} (h : Own w base v ps) : Ps w w.heap.size v ps := by
  obtain ⟨_, ⟨rfl, h0⟩ | ⟨g, cap, cur, rfl, _, hg, h1, _, _, ht⟩⟩ := h
  · exact .inl ⟨List.eq_nil_of_length_eq_zero h0, .inl rfl⟩
  · refine .inr ⟨g, 0, cap, rfl, (Array.getElem?_eq_some_iff.1 hg).1, fun i hi => ?_⟩
    obtain ⟨p1, p2⟩ := pcells_at ps i hi
    rw [← ht] at p1 p2
    have q1 := Lib.cells_of_row hg _ _ _ p1
    have q2 := Lib.cells_of_row hg _ _ _ p2
    rw [Lib.addr_add] at q1 q2
    exact ⟨q1, by rw [Nat.add_assoc]; exact q2⟩
end Go.Proofs.Ytfgaabjpkmmpdaa.Pp
