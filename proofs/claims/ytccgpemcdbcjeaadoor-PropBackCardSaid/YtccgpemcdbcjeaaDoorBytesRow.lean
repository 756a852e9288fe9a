/-
A text's bytes as a row of the call's own: what it holds, that it may be written, and its text again. No conditions of its own.
-/
import Derived.Test.YtccgpemcdbcjeaaDoorBytes
import Derived.Laws.IdiomStrings
namespace Go.Proofs.YtccgpemcdbcjeaaDoor.Bytes
open Go.RowKit

/-- Block g holds the bytes d, and they may be written. -/
def Row (w : World) (g : Nat) (d : List UInt8) : Prop := g < w.heap.size ∧ ∀ j, (h : j < d.length) → w.cell? ⟨g, j, none⟩ = some (.int .u8 (d[j].toNat : Int)) ∧ w.frozen? ⟨g, j, none⟩ = false
theorem Row.below {w w' : World} {g : Nat} {d : List UInt8} (h : Row w g d) (hb : Below w.heap.size w w') : Row w' g d :=
  ⟨Nat.lt_of_lt_of_le h.1 hb.size, fun j hj => ⟨(hb.cell (p := ⟨g, j, none⟩) h.1).trans (h.2 j hj).1, (hb.frozen (p := ⟨g, j, none⟩) h.1).trans (h.2 j hj).2⟩⟩
theorem Row.drew {w : World} {g : Nat} {d : List UInt8} (h : Row w g d) : Row w.drew g d := h
theorem Row.set {w : World} {g : Nat} {d : List UInt8} (h : Row w g d) (i : Nat) (c : UInt8) : Row (w.setCell ⟨g, i, none⟩ (.int .u8 (c.toNat : Int))) g (d.set i c) := by
  refine ⟨by rw [World.size_setCell]; exact h.1, fun j hj => ?_⟩
  rw [List.length_set] at hj
  refine ⟨?_, by rw [World.frozen?_setCell]; exact (h.2 j hj).2⟩
  by_cases e : i = j
  · subst e
    rw [World.cell?_setCell_same _ _ _ (h.2 i hj).1]
    simp
  · rw [World.cell?_setCell_other _ _ _ _ (fun k => e (congrArg Addr.off k)), (h.2 j hj).1]
    simp [e]
theorem Row.text {w : World} {g cap n : Nat} {d : List UInt8} (h : Row w g d) (hn : n = d.length) : (convert 51 9 (.slice (some ⟨g, 0, none⟩) n cap)).run Tryd.prog w = .ok (.string ⟨d.toArray⟩) w := by
  subst hn
  exact run_convert_bytes_back w _ _ 5 ⟨g, 0, none⟩ cap d Tryd.underlying51 Tryd.underlying5 Tryd.underlying9 fun j hj => by
    have e : ((⟨g, 0, none⟩ : Addr).add j) = ⟨g, j, none⟩ := by
      unfold Addr.add
      split
      · subst_vars; rfl
      · simp
    rw [e]; exact (h.2 j hj).1
/-- A text as bytes of the call's own. -/
theorem bytes_new (w : World) (t : ByteArray) : ∃ cap W, (convert 9 51 (.string t)).run Tryd.prog w = .ok (.slice (some ⟨w.heap.size, 0, none⟩) t.size cap) W ∧ Row W w.heap.size t.data.toList ∧ Below w.heap.size w W := by
  refine ⟨_, _, run_bytes_of_string w _ _ 5 t Tryd.underlying9 Tryd.underlying51 Tryd.underlying5, ?_, ((Below.refl _ w).drew).alloc (Nat.le_refl _) _⟩
  refine ⟨by rw [World.size_alloc]; exact Nat.lt_succ_self _, fun j hj => ⟨?_, ?_⟩⟩
  · have hj' : j < t.data.size := by simpa using hj
    exact (World.cell?_alloc_mark w.drew _ _ _ j).trans (by rw [bytesRow_at t _ j hj']; simp)
  · refine (World.frozen?_alloc_mark w.drew _ _ _ _ j).trans ?_
    have hj' : j < t.data.size := by simpa using hj
    have : ¬ (bytesRow t (grownCap w t.size 0 5)).size ≤ j := by
      unfold bytesRow
      rw [Array.size_append, Array.size_map]
      omega
    rw [Bool.and_eq_false_iff, decide_eq_false_iff_not]
    exact .inl this
theorem Row.at_ {w : World} {g j : Nat} {d : List UInt8} (h : Row w g d) (hj : j < d.length) : ∃ c, d[j]? = some c ∧ w.cell? ⟨g, j, none⟩ = some (.int .u8 (c.toNat : Int)) ∧ w.frozen? ⟨g, j, none⟩ = false :=
  ⟨d[j], List.getElem?_eq_getElem hj, (h.2 j hj).1, (h.2 j hj).2⟩
end Go.Proofs.YtccgpemcdbcjeaaDoor.Bytes
