/-
A property as a value, its cells, and what is wrong with it in plain words. No conditions.
-/
import Derived.Test.YtfgaabjpkmmpdaaPpParam
import Derived.Below
namespace Go.Proofs.Ytfgaabjpkmmpdaa.Pp
open Go.RowKit

/-- A property as a value. -/
def prV (g n : ByteArray) (pv : Value) (v : ByteArray) (av : Value) : Value := .agg #[.string g, .string n, pv, .string v, av]
/-- A property's cells in block b. -/
def PrAt (w : World) (b : Nat) (g n : ByteArray) (pv : Value) (v : ByteArray) (av : Value) : Prop := w.heap[b]? = some (.cells #[.string g, .string n, pv, .string v, av] 25 (0, 0))
section
variable {w w' : World} {b : Nat} {g n : ByteArray} {pv : Value} {v : ByteArray} {av : Value}
theorem PrAt.lt (h : PrAt w b g n pv v av) : b < w.heap.size := (Array.getElem?_eq_some_iff.1 h).1
theorem PrAt.c0 (h : PrAt w b g n pv v av) : w.cell? ⟨b, 0, none⟩ = some (.string g) := cell_of_row w b 0 _ _ _ h
theorem PrAt.c1 (h : PrAt w b g n pv v av) : w.cell? ⟨b, 1, none⟩ = some (.string n) := cell_of_row w b 1 _ _ _ h
theorem PrAt.c2 (h : PrAt w b g n pv v av) : w.cell? ⟨b, 2, none⟩ = some pv := cell_of_row w b 2 _ _ _ h
theorem PrAt.c3 (h : PrAt w b g n pv v av) : w.cell? ⟨b, 3, none⟩ = some (.string v) := cell_of_row w b 3 _ _ _ h
theorem PrAt.c4 (h : PrAt w b g n pv v av) : w.cell? ⟨b, 4, none⟩ = some av := cell_of_row w b 4 _ _ _ h
theorem PrAt.below (h : PrAt w b g n pv v av) (hb : Below w.heap.size w w') : PrAt w' b g n pv v av := (hb.block b h.lt).trans h
end
/-- What is wrong with it: the number of the error. -/
def goodNames (g n : ByteArray) : Bool := (decide (g.size = 0) || nameB g) && nameB n
def goodPs (ps : List (ByteArray × ByteArray)) : Bool := ps.all fun p => paramB p.1 p.2
def goodV (v : ByteArray) : Bool := v.data.toList.all fun c => !oddb c
def chk (g n : ByteArray) (ps : List (ByteArray × ByteArray)) (v : ByteArray) (m : Nat) : Int :=
  if goodNames g n = false then 14 else if 6 < ps.length then 4 else if goodPs ps = false then 3 else if 0 < m then 5 else if 2400 < v.size then 8 else if goodV v = false then 3 else 0
theorem chk_vals (g n : ByteArray) (ps : List (ByteArray × ByteArray)) (v : ByteArray) (m : Nat) : chk g n ps v m = 0 ∨ chk g n ps v m = 3 ∨ chk g n ps v m = 4 ∨ chk g n ps v m = 5 ∨ chk g n ps v m = 8 ∨ chk g n ps v m = 14 := by
  unfold chk
  split
  · simp
  split
  · simp
  split
  · simp
  split
  · simp
  split
  · simp
  split <;> simp

theorem ps_no {P : ByteArray × ByteArray → Bool} {l : List (ByteArray × ByteArray)} {k : Nat} (h : k < l.length) (hp : P l[k] = false) : (l.drop k).all P = false := by
  rw [List.drop_eq_getElem_cons h, List.all_cons, hp]; rfl
theorem ps_yes {P : ByteArray × ByteArray → Bool} {l : List (ByteArray × ByteArray)} {k : Nat} (h : k < l.length) (hp : P l[k] = true) : (l.drop k).all P = (l.drop (k + 1)).all P := by
  rw [List.drop_eq_getElem_cons h, List.all_cons, hp]; rfl
end Go.Proofs.Ytfgaabjpkmmpdaa.Pp
