/-
The law ContactTells holds at any two contacts and any name. Conditions: the fields lie below the caller's blocks.
-/
import Derived.Test.YtfghodakdnhleaaCtOwn
namespace Go.Proofs.Ytfghodakdnhleaa.Ct
set_option maxRecDepth 100000
open Go.RowKit

/-- The law under way: its two boxes. -/
structure Lw (w W : World) (v v' : Value) (l m : List Fd) : Prop where
  z0 : W.cell? ⟨w.heap.size, 0, none⟩ = some v
  z1 : W.cell? ⟨w.heap.size + 1, 0, none⟩ = some v'
  b : Below w.heap.size w W
  s : w.heap.size + 1 < W.heap.size
  l : Fs W W.heap.size v l
  m : Fs W W.heap.size v' m
section
variable {w W W' : World} {v v' : Value} {l m : List Fd}
theorem Lw.below (h : Lw w W v v' l m) (hb : Below W.heap.size W W') : Lw w W' v v' l m :=
  ⟨(hb.cell (p := ⟨w.heap.size, 0, none⟩) (by have := h.s; show w.heap.size < _; omega)).trans h.z0, (hb.cell (p := ⟨w.heap.size + 1, 0, none⟩) h.s).trans h.z1, h.b.trans (hb.mono h.b.size), Nat.lt_of_lt_of_le h.s hb.size, (h.l.below hb).up hb.size, (h.m.below hb).up hb.size⟩
theorem Lw.drew (h : Lw w W v v' l m) : Lw w W.drew v v' l m := h.below ((Below.refl _ _).drew)
theorem Lw.cells (h : Lw w W v v' l m) : W.cell? ⟨w.heap.size, 0, none⟩ = some v ∧ W.cell? ⟨w.heap.size + 1, 0, none⟩ = some v' := ⟨h.z0, h.z1⟩
end
/-- .. with a field of each. -/
structure L2 (w W : World) (v v' : Value) (l m : List Fd) (b o b' o' i k : Nat) (x y : Fd) : Prop where
  lw : Lw w W v v' l m
  c : W.cell? ⟨b, o + i * 3, none⟩ = some (.string x.1) ∧ W.cell? ⟨b, o + i * 3 + 1, none⟩ = some (.string x.2.1) ∧ W.cell? ⟨b, o + i * 3 + 2, none⟩ = some (.string x.2.2)
  d : W.cell? ⟨b', o' + k * 3, none⟩ = some (.string y.1) ∧ W.cell? ⟨b', o' + k * 3 + 1, none⟩ = some (.string y.2.1) ∧ W.cell? ⟨b', o' + k * 3 + 2, none⟩ = some (.string y.2.2)
section
variable {w W W' : World} {v v' : Value} {l m : List Fd} {b o b' o' i k : Nat} {x y : Fd}
theorem L2.below (h : L2 w W v v' l m b o b' o' i k x y) (hb : Below W.heap.size W W') : L2 w W' v v' l m b o b' o' i k x y := by
  have E : ∀ (p : Addr) (u : Value), W.cell? p = some u → W'.cell? p = some u := fun p u hp => (hb.cell (World.block_lt_of_cell? W _ hp)).trans hp
  exact ⟨h.lw.below hb, ⟨E _ _ h.c.1, E _ _ h.c.2.1, E _ _ h.c.2.2⟩, ⟨E _ _ h.d.1, E _ _ h.d.2.1, E _ _ h.d.2.2⟩⟩
theorem L2.drew (h : L2 w W v v' l m b o b' o' i k x y) : L2 w W.drew v v' l m b o b' o' i k x y := h.below ((Below.refl _ _).drew)
theorem L2.cells (h : L2 w W v v' l m b o b' o' i k x y) : W.cell? ⟨w.heap.size, 0, none⟩ = some v ∧ W.cell? ⟨w.heap.size + 1, 0, none⟩ = some v' ∧ W.cell? ⟨b, o + i * 3, none⟩ = some (.string x.1) ∧ W.cell? ⟨b, o + i * 3 + 1, none⟩ = some (.string x.2.1) ∧ W.cell? ⟨b, o + i * 3 + 2, none⟩ = some (.string x.2.2) ∧ W.cell? ⟨b', o' + k * 3, none⟩ = some (.string y.1) ∧ W.cell? ⟨b', o' + k * 3 + 1, none⟩ = some (.string y.2.1) ∧ W.cell? ⟨b', o' + k * 3 + 2, none⟩ = some (.string y.2.2) :=
  ⟨h.lw.z0, h.lw.z1, h.c.1, h.c.2.1, h.c.2.2, h.d.1, h.d.2.1, h.d.2.2⟩
end
theorem cmp_ab : cmpF (⟨#[65]⟩, ⟨#[]⟩, ⟨#[]⟩) (⟨#[66]⟩, ⟨#[]⟩, ⟨#[]⟩) = -1 := by decide

end Go.Proofs.Ytfghodakdnhleaa.Ct
