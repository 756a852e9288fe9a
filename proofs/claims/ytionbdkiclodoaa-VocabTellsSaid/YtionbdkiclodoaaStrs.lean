/-
Rows of strings: those of a call's own, and those that came in; what they hold, and what leaves them as they are. No conditions of its own.
-/
import Derived.Test.YtionbdkiclodoaaSq
import Derived.Shelf.Abstract
import Derived.OwnWalkIn
import Derived.Maps.AppendAt
import Derived.OpenShut
import Derived.Lib.Hide
import Derived.Lib.BufferRead
namespace Go.Proofs.Ytionbdkiclodoaa.Strs
open Go.RowKit Sq

theorem list_size (t : ByteArray) : t.data.toList.length = t.size := by rw [Array.length_toList]; rfl
theorem str_mk (t : ByteArray) : (⟨t.data.toList.toArray⟩ : ByteArray) = t := by apply ByteArray.ext; simp
theorem mk_list (l : List UInt8) : (⟨l.toArray⟩ : ByteArray).data.toList = l := by simp
theorem mk_size (l : List UInt8) : (⟨l.toArray⟩ : ByteArray).size = l.length := by rw [← list_size, mk_list]
theorem ext_to (t : ByteArray) (k : Nat) : t.extract 0 k = ⟨(t.data.toList.take k).toArray⟩ := by apply ByteArray.ext; rw [ByteArray.data_extract]; apply Array.ext'; simp
theorem ext_from (t : ByteArray) (k : Nat) : (t.extract k t.size).data.toList = t.data.toList.drop k := by
  rw [ByteArray.data_extract, Array.toList_extract, List.extract_eq_take_drop, List.take_of_length_le]
  rw [List.length_drop, list_size]; exact Nat.le_refl _
theorem ext_from' (t : ByteArray) (k : Nat) : t.extract k t.size = ⟨(t.data.toList.drop k).toArray⟩ := by rw [← ext_from, str_mk]
theorem str_full {t : ByteArray} (h : t.data.toList ≠ []) : (!t.toList.isEmpty) = true := by
  rw [ByteArray.toList_eq]; cases e : t.data.toList with | nil => exact absurd e h | cons a r => rfl
theorem str_none {t : ByteArray} (h : t.data.toList = []) : (!t.toList.isEmpty) = false := by rw [ByteArray.toList_eq, h]; rfl

def scells (l : List (List UInt8)) : List Value := l.map fun x => Value.string ⟨x.toArray⟩
theorem scells_length (l : List (List UInt8)) : (scells l).length = l.length := by simp [scells]
theorem scells_append (l r : List (List UInt8)) : scells (l ++ r) = scells l ++ scells r := by simp [scells]
theorem scells_snoc (l : List (List UInt8)) (x : List UInt8) : scells (l ++ [x]) = scells l ++ [.string ⟨x.toArray⟩] := by simp [scells]
/-- The slice v holds the texts l, in a row of the call's own (blocks from base on). -/
def Strs (w : World) (base : Nat) (v : Value) (l : List (List UInt8)) : Prop := w.ownsRow base 9 1 v l.length (scells l)
theorem infoStr : (Try.prog.info? 9).map (fun i => (i.zero, i.size, i.bytes)) = some (some (.string .empty), 1, 16) := by kernel_rfl

theorem Strs.nil (w : World) (base : Nat) : Strs w base (.slice none 0 0) [] := World.ownsRow_nil _ _ _ _
theorem ownsRow_low {w : World} {b b' n sz : Nat} {e : TypeId} {v : Value} {xs : List Value} (hb : b' ≤ b) (h : w.ownsRow b e sz v n xs) : w.ownsRow b' e sz v n xs := by
  obtain ⟨h0, h⟩ := h
  refine ⟨h0, ?_⟩
  rcases h with h | ⟨g, cap, cur, h1, h2, h3⟩
  · exact .inl h
  · exact .inr ⟨g, cap, cur, h1, by omega, h3⟩
theorem Strs.low {w : World} {b b' : Nat} {v : Value} {l : List (List UInt8)} (h : Strs w b v l) (hb : b' ≤ b) : Strs w b' v l := ownsRow_low hb h
theorem shape {w : World} {base n : Nat} {v : Value} {xs : List Value} (h : w.ownsRow base 9 1 v n xs) : ∃ a cap, v = .slice a n cap := by
  obtain ⟨_, ⟨rfl, rfl⟩ | ⟨g, cap, cur, rfl, _⟩⟩ := h
  · exact ⟨none, 0, rfl⟩
  · exact ⟨_, cap, rfl⟩
theorem below_put_p {B : Nat} {a w : World} (h : Below B a w) {D : Nat} {o : Obj} (hD : B ≤ D) (hk : w.heap[D]? = some o) (o' : Obj) : Below B a (w.putObj D o') :=
  h.grown (grownBy_putObj' w D o') (by have := (Array.getElem?_eq_some_iff.1 hk).1; omega) (fun k e => by cases e; exact hD)
theorem Strs.keep {w w' : World} {base : Nat} {v : Value} {l : List (List UInt8)} (h : Strs w base v l) (hb : Below w.heap.size w w') : Strs w' base v l :=
  (Stays.of_below (O := fun k => k < w.heap.size) hb (fun _ h => h)).row h (fun g e => (own_lt h g e).2)
theorem Strs.put {w : World} {base : Nat} {v : Value} {l : List (List UInt8)} (h : Strs w base v l) {D : Nat} {o : Obj} (o' : Obj) (hD : w.heap[D]? = some o) (ho : o.isCells = false) : Strs (w.putObj D o') base v l := ownsRow_putObj h o' hD ho
/-- Behind an append of one text. -/
theorem Strs.snoc {base : Nat} {l : List (List UInt8)} {x : List UInt8} {r : List (List UInt8)} (hr : r = l ++ [x]) {w' : World} {v' : Value} (hown : w'.ownsRow base 9 1 v' (l.length + 1) (scells l ++ [.string ⟨x.toArray⟩])) : Strs w' base v' r := by
  subst hr; unfold Strs; rw [scells_snoc, List.length_append]; exact hown
theorem Strs.snoc_row {w : World} {base n : Nat} {v : Value} {l : List (List UInt8)} {x : List UInt8} (h : w.ownsRow base 9 1 v n (scells l ++ [.string ⟨x.toArray⟩])) : w.ownsRow base 9 1 v n (scells (l ++ [x])) := by rw [scells_snoc]; exact h
theorem Strs.below {a w w1 : World} {B : Nat} {v : Value} {l : List (List UInt8)} (h : Strs w B v l) (hb : Below B a w) (hB : B ≤ w.heap.size) (o : Obj) (hg : (w.alloc o).grownBy w1 v.ownBlock) : Below B a w1 :=
  (hb.alloc hB o).grown hg (by simp; omega) (fun k e => (World.ownsRow.lt h k e).1)

/-- A slice of texts, to be read: its texts lie behind its address. -/
def Reads (w : World) (v : Value) (l : List (List UInt8)) : Prop :=
  ∃ a cap, v = .slice a l.length cap ∧ l.length ≤ cap ∧ ∃ b o, (l ≠ [] → a = some ⟨b, o, none⟩ ∧ b < w.heap.size) ∧ ∀ i (hi : i < l.length), w.cell? ⟨b, o + i, none⟩ = some (.string ⟨l[i].toArray⟩)
theorem Reads.keep {w w' : World} {v : Value} {l : List (List UInt8)} (h : Reads w v l) {n : Nat} (hn : w.heap.size ≤ n) (hb : Below n w w') : Reads w' v l := by
  obtain ⟨a, cap, rfl, hc, b, o, h1, h2⟩ := h
  refine ⟨a, cap, rfl, hc, b, o, fun hl => ⟨(h1 hl).1, by have := (h1 hl).2; have := hb.size; omega⟩, fun i hi => ?_⟩
  have hb' := (h1 (fun e => by rw [e] at hi; simp at hi)).2
  exact (hb.cell (p := ⟨b, o + i, none⟩) (by show b < n; omega)).trans (h2 i hi)
theorem Reads.stays {O : Nat → Prop} {w w' : World} {v : Value} {l : List (List UInt8)} (h : Reads w v l) (hS : Stays O w w') (hv : ∀ g, v.ownBlock = some g → O g) : Reads w' v l := by
  obtain ⟨a, cap, rfl, hc, b, o, h1, h2⟩ := h
  refine ⟨a, cap, rfl, hc, b, o, fun hl => ⟨(h1 hl).1, by have := (h1 hl).2; have := hS.size; omega⟩, fun i hi => ?_⟩
  obtain ⟨rfl, hb'⟩ := h1 (fun e => by rw [e] at hi; simp at hi)
  exact (World.cell?_of_block (a := ⟨b, o + i, none⟩) (hS.block b (hv b rfl))).trans (h2 i hi)
theorem Reads.shape {w : World} {v : Value} {l : List (List UInt8)} (h : Reads w v l) : ∃ a cap, v = .slice a l.length cap := by obtain ⟨a, cap, rfl, _⟩ := h; exact ⟨a, cap, rfl⟩
/-- One text of a slice that is read. -/
theorem Reads.at_ {w : World} {a : Option Addr} {n cap : Nat} {l : List (List UInt8)} (h : Reads w (.slice a n cap) l) (i : Nat) (hi : i < l.length) : n = l.length ∧ ∃ b o, a = some ⟨b, o, none⟩ ∧ b < w.heap.size ∧ w.cell? ⟨b, o + i, none⟩ = some (.string ⟨l[i].toArray⟩) := by
  obtain ⟨a', cap', he, hc, b, o, h1, h2⟩ := h
  cases he
  obtain ⟨rfl, hb⟩ := h1 (fun e => by rw [e] at hi; simp at hi)
  exact ⟨rfl, b, o, rfl, hb, h2 i hi⟩
theorem Strs.reads {w : World} {base : Nat} {v : Value} {l : List (List UInt8)} (h : Strs w base v l) : Reads w v l := by
  obtain ⟨hl, ⟨rfl, h0⟩ | ⟨g, cap, cur, rfl, _, hg, h1, h2, _, ht⟩⟩ := h
  · have h0 := List.eq_nil_of_length_eq_zero h0
    subst h0
    exact ⟨none, 0, rfl, Nat.le_refl _, 0, 0, fun h => absurd rfl h, fun i hi => by simp at hi⟩
  · refine ⟨_, cap, rfl, h1, g, 0, fun _ => ⟨rfl, (Array.getElem?_eq_some_iff.1 hg).1⟩, fun i hi => ?_⟩
    have hn : (scells l)[i]? = some (.string ⟨l[i].toArray⟩) := by simp [scells, hi]
    rw [← ht] at hn
    have h2 := Lib.cells_of_row hg _ i _ hn
    rwa [Lib.addr_add] at h2
end Go.Proofs.Ytionbdkiclodoaa.Strs
