/-
The document's own bytes of a letter below 256 are the plain function's. No conditions.
-/
import Derived.Test.YtmahdlaifbbjgaaDoorCsTabs
import Derived.IntWalk
namespace Go.Proofs.YtmahdlaifbbjgaaDoor.Cs
open Go.RowKit

theorem conv_row (w : World) (l : List UInt8) (cs : Array Value) (hcs : cs = (l.map fun c => Value.int .u8 (c.toNat : Int)).toArray) (cap : Nat) :
    (convert 46 9 (.slice (some ⟨w.heap.size, 0, none⟩) l.length cap)).run Tryd.prog (w.alloc (.cells cs 5)) = .ok (.string ⟨l.toArray⟩) (w.alloc (.cells cs 5)) := by
  subst hcs
  refine run_convert_bytes_back _ _ _ 5 ⟨w.heap.size, 0, none⟩ cap l Tryd.underlying46 Tryd.underlying5 Tryd.underlying9 fun j hj => ?_
  rw [Lib.addr_add, Nat.zero_add]
  have h := heap_alloc_new w (.cells (l.map fun c => Value.int .u8 (c.toNat : Int)).toArray 5)
  unfold World.cell?
  rw [h]
  simp [hj]
theorem refPut_1 (c : UInt8) (h : c.toNat < 128) (w : World) :
    Calls Tryd.prog 25 #[.int .i64 (c.toNat : Int)] w fun e w' => e = .returned (.string ⟨#[c]⟩) ∧ Below w.heap.size w w' := by
  have z : (c.toNat : Int) < 128 := by omega
  have hconv := conv_row w [c] _ rfl 1
  simp only [List.map_cons, List.map_nil, List.length_cons, List.length_nil, Nat.zero_add] at hconv
  go_enter Tryd.func25, Tryd.ntmps25
  go_wp2_with fail
  go_ret
  exact ⟨rfl, (Below.refl _ _).alloc (Nat.le_refl _) _⟩
set_option maxRecDepth 100000 in
theorem refPut_2 (c p q : UInt8) (h : 128 ≤ c.toNat) (hp : 192 + (c.toNat : Int) / 64 = (p.toNat : Int)) (hq : 128 + (c.toNat : Int) % 64 = (q.toNat : Int)) (w : World) :
    Calls Tryd.prog 25 #[.int .i64 (c.toNat : Int)] w fun e w' => e = .returned (.string ⟨#[p, q]⟩) ∧ Below w.heap.size w w' := by
  have hc := c.toNat_lt
  have hp8 := p.toNat_lt
  have hq8 := q.toNat_lt
  have d1 : decide ((c.toNat : Int) < 128) = false := decide_eq_false (by omega)
  have d2 : decide ((c.toNat : Int) < 2048) = true := decide_eq_true (by omega)
  have hconv := conv_row w [p, q] _ rfl 2
  simp only [List.map_cons, List.map_nil, List.length_cons, List.length_nil, Nat.zero_add, Nat.reduceAdd] at hconv
  go_enter Tryd.func25, Tryd.ntmps25
  go_wp2_with fail
  go_ret
  exact ⟨rfl, (Below.refl _ _).alloc (Nat.le_refl _) _⟩
theorem refPut_any (c : UInt8) (w : World) :
    Calls Tryd.prog 25 #[.int .i64 (c.toNat : Int)] w fun e w' => e = .returned (.string ⟨(Lib.encodeRune (c.toNat : Int)).toArray⟩) ∧ Below w.heap.size w w' := by
  have hc := c.toNat_lt
  rcases enc1 c with ⟨h, e⟩ | ⟨h, e⟩
  · rw [e]; exact refPut_1 c h w
  · rw [e]; exact refPut_2 c _ _ h (by rw [UInt8.toNat_ofNat']; omega) (by rw [UInt8.toNat_ofNat']; omega) w
end Go.Proofs.YtmahdlaifbbjgaaDoor.Cs
