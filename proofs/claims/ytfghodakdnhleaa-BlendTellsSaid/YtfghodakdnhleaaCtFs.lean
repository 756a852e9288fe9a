/-
Fields in memory; the first field of a name; whether two contacts are the same. Conditions: the fields lie below the caller's blocks, at most 2^40 of them.
-/
import Derived.Test.YtfghodakdnhleaaCtPcmp
import Derived.Deep.LoopGhost
namespace Go.Proofs.Ytfghodakdnhleaa.Ct
set_option maxRecDepth 100000
open Go.RowKit

/-- The slice v, whose block lies below B, holds the fields l. -/
def Fs (w : World) (B : Nat) (v : Value) (l : List Fd) : Prop :=
  (l = [] ∧ (v = .slice none 0 0 ∨ ∃ ad cap, v = .slice (some ad) 0 cap)) ∨ ∃ b o cap, v = .slice (some ⟨b, o, none⟩) l.length cap ∧ b < B ∧ ∀ i, (h : i < l.length) → w.cell? ⟨b, o + i * 3, none⟩ = some (.string l[i].1) ∧ w.cell? ⟨b, o + i * 3 + 1, none⟩ = some (.string l[i].2.1) ∧ w.cell? ⟨b, o + i * 3 + 2, none⟩ = some (.string l[i].2.2)
theorem Fs.below {w w' : World} {B : Nat} {v : Value} {l : List Fd} (h : Fs w B v l) (hb : Below B w w') : Fs w' B v l := by
  rcases h with h | ⟨b, o, cap, h1, h2, h3⟩
  · exact .inl h
  · exact .inr ⟨b, o, cap, h1, h2, fun i hi => ⟨(hb.cell (p := ⟨b, o + i * 3, none⟩) h2).trans (h3 i hi).1, (hb.cell (p := ⟨b, o + i * 3 + 1, none⟩) h2).trans (h3 i hi).2.1, (hb.cell (p := ⟨b, o + i * 3 + 2, none⟩) h2).trans (h3 i hi).2.2⟩⟩
theorem Fs.up {w : World} {B B' : Nat} {v : Value} {l : List Fd} (h : Fs w B v l) (hb : B ≤ B') : Fs w B' v l := by
  rcases h with h | ⟨b, o, cap, h1, h2, h3⟩
  · exact .inl h
  · exact .inr ⟨b, o, cap, h1, Nat.lt_of_lt_of_le h2 hb, h3⟩
theorem Fs.shape {w : World} {B : Nat} {v : Value} {l : List Fd} (h : Fs w B v l) : ∃ a cap, v = .slice a l.length cap := by
  rcases h with ⟨rfl, rfl | ⟨ad, cap, rfl⟩⟩ | ⟨b, o, cap, h1, _, _⟩
  · exact ⟨none, 0, rfl⟩
  · exact ⟨some ad, cap, rfl⟩
  · exact ⟨_, cap, h1⟩
theorem Fs.at_ {w : World} {B i : Nat} {v : Value} {l : List Fd} (h : Fs w B v l) (hi : i < l.length) : ∃ b o cap, v = .slice (some ⟨b, o, none⟩) l.length cap ∧ b < B ∧ w.cell? ⟨b, o + i * 3, none⟩ = some (.string l[i].1) ∧ w.cell? ⟨b, o + i * 3 + 1, none⟩ = some (.string l[i].2.1) ∧ w.cell? ⟨b, o + i * 3 + 2, none⟩ = some (.string l[i].2.2) := by
  rcases h with ⟨rfl, _⟩ | ⟨b, o, cap, h1, h2, h3⟩
  · simp at hi
  · exact ⟨b, o, cap, h1, h2, h3 i hi⟩
/-- A contact's box. -/
theorem box_new (w : World) (v : Value) : (w.alloc (.cells #[v] 24)).cell? ⟨w.heap.size, 0, none⟩ = some v ∧ Below w.heap.size w (w.alloc (.cells #[v] 24)) :=
  ⟨cell_of_row _ _ 0 _ _ _ (heap_alloc_new w (.cells #[v] 24)), (Below.refl _ _).alloc (Nat.le_refl _) _⟩

def getV (l : List Fd) (s : ByteArray) : ByteArray := (getF l s).getD ⟨#[]⟩
def getB (l : List Fd) (s : ByteArray) : Bool := (getF l s).isSome
theorem eq_toList {a b : ByteArray} : (a.toList == b.toList) = decide (a = b) := by
  rw [Bool.eq_iff_iff, beq_iff_eq, decide_eq_true_eq, ByteArray.toList_eq, ByteArray.toList_eq]
  constructor
  · intro e; cases a; cases b; simp only at e; rw [Array.toList_inj.1 e]
  · intro e; rw [e]
theorem getF_yes {l : List Fd} {s : ByteArray} {k : Nat} (h : k < l.length) (he : (l[k].1.toList == s.toList) = true) : getF (l.drop k) s = some l[k].2.2 := by
  rw [eq_toList] at he
  rw [List.drop_eq_getElem_cons h, getF, if_pos (of_decide_eq_true he)]
theorem getF_no {l : List Fd} {s : ByteArray} {k : Nat} (h : k < l.length) (he : (l[k].1.toList == s.toList) = false) : getF (l.drop k) s = getF (l.drop (k + 1)) s := by
  rw [eq_toList] at he
  rw [List.drop_eq_getElem_cons h, getF, if_neg (of_decide_eq_false he)]

end Go.Proofs.Ytfghodakdnhleaa.Ct
