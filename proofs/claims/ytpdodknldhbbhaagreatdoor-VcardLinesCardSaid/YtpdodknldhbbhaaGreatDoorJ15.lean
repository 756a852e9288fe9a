/-
Texts joined in one file, each with its own conditions: Three bytes of a text of up to three, noughts for what is missing. Conditions: the text has at most three bytes. · Two arrays of three bytes are unequal where one of their bytes is. Conditions: none.
-/
import Derived.Test.YtpdodknldhbbhaaGreatDoorJ06
import Derived.Test.YtpdodknldhbbhaaGreatDoorJ03
import Derived.Lib.BufferWrite
import Derived.Lib.LazyBuf
import Derived.Laws.StructEq
namespace Go.Proofs.YtpdodknldhbbhaaGreatDoor.Sx
set_option maxRecDepth 100000
open Go.RowKit

/-- Three bytes as an array. -/
def three (l : List UInt8) : Value := .agg #[.int .u8 ((l.getD 0 0).toNat : Int), .int .u8 ((l.getD 1 0).toNat : Int), .int .u8 ((l.getD 2 0).toNat : Int)]
theorem size8 (w : World) : (Go.sizeOf 5).run Tryz.prog w = .ok 1 w := by
  have h : (Tryz.prog.info? 5).map (·.size) = some 1 := by kernel_rfl
  cases hq : Tryz.prog.info? 5 with
  | none => simp [hq] at h
  | some i => simp [hq] at h; simp [Go.sizeOf, typeInfo, hq, h]
/-- Up to three bytes laid over three noughts. -/
theorem copy3 (w : World) (l : List UInt8) (hl : l.length ≤ 3) (W : World) (hW : W = (w.alloc (.cells #[.int .u8 0, .int .u8 0, .int .u8 0] 138)).alloc (.cells #[.int .u8 0, .int .u8 0, .int .u8 0] 138)) :
    (Builtin.copy_ #[60, 9] 3 #[.slice (some ⟨w.heap.size + 1, 0, none⟩) 3 3, .string ⟨l.toArray⟩]).run Tryz.prog W = .ok (.int .i64 (l.length : Int)) (W.setCells (w.heap.size + 1) 0 (l.map fun x => Value.int .u8 (x.toNat : Int))) := by
  have hg : W.heap[w.heap.size + 1]? = some (.cells #[.int .u8 0, .int .u8 0, .int .u8 0] 138 (0, 0)) := by
    subst hW; have := heap_alloc_new (w.alloc (.cells #[.int .u8 0, .int .u8 0, .int .u8 0] 138)) (.cells #[.int .u8 0, .int .u8 0, .int .u8 0] 138); rwa [World.size_alloc] at this
  have hcp := run_copy_string (P := Tryz.prog) W 60 9 3 5 (w.heap.size + 1) 0 3 3 ⟨l.toArray⟩ Tryz.underlying60 size8 (by rw [ulen rfl]; omega)
    (fun j hj => by rw [ulen rfl] at hj; rw [Nat.zero_add, cell_of_row W (w.heap.size + 1) j _ _ _ hg]; match j, (by omega : j < 3) with | 0, _ => rfl | 1, _ => rfl | 2, _ => rfl)
    (fun j hj => by simp [World.frozen?, hg])
  rw [ulen rfl] at hcp
  exact hcp

set_option maxHeartbeats 400000 in
theorem threeOf_any (l : List UInt8) (hl : l.length ≤ 3) (w : World) :
    Calls Tryz.prog 112 #[.string ⟨l.toArray⟩] w fun e w' => e = .returned (three l) ∧ Below w.heap.size w w' := by
  have hcp := copy3 w l hl _ rfl
  match l, hl with
  | [], _ =>
    simp only [List.map, World.setCells] at hcp
    go_enter Tryz.func112, Tryz.ntmps112
    go_wp2_with fail
    exact bodyPost_ret (v := three []) (by simp [results, Tryz.results112, three, go_sem]) rfl ⟨rfl, ((Below.refl _ _).alloc (Nat.le_refl _) _).alloc (by simp) _⟩
  | [a], _ =>
    simp only [List.map, World.setCells] at hcp
    go_enter Tryz.func112, Tryz.ntmps112
    go_wp2_with fail
    exact bodyPost_ret (v := three [a]) (by simp [results, Tryz.results112, three, go_sem]) rfl ⟨rfl, ((Below.refl _ _).alloc (Nat.le_refl _) _).alloc (by simp) _⟩
  | [a, b], _ =>
    simp only [List.map, World.setCells] at hcp
    go_enter Tryz.func112, Tryz.ntmps112
    go_wp2_with fail
    exact bodyPost_ret (v := three [a, b]) (by simp [results, Tryz.results112, three, go_sem]) rfl ⟨rfl, ((Below.refl _ _).alloc (Nat.le_refl _) _).alloc (by simp) _⟩
  | [a, b, c], _ =>
    simp only [List.map, World.setCells] at hcp
    go_enter Tryz.func112, Tryz.ntmps112
    go_wp2_with fail
    exact bodyPost_ret (v := three [a, b, c]) (by simp [results, Tryz.results112, three, go_sem]) rfl ⟨rfl, ((Below.refl _ _).alloc (Nat.le_refl _) _).alloc (by simp) _⟩
end Go.Proofs.YtpdodknldhbbhaaGreatDoor.Sx

namespace Go.Proofs.YtpdodknldhbbhaaGreatDoor.Sx
set_option maxRecDepth 100000
open Go.RowKit

theorem eq3_in (d : Nat) (a b c x y z : Int) (w : World) :
    (Op.equalIn (d + 2) 138 (.agg #[.int .u8 a, .int .u8 b, .int .u8 c]) (.agg #[.int .u8 x, .int .u8 y, .int .u8 z])).run Tryz.prog w = .ok (a == x && (b == y && c == z)) w := by
  have h1 := fun a b w => run_equalIn_int (P := Tryz.prog) w d 5 .u8 .u8 a b Tryz.underlying5
  have hz := size8
  have hp : ∀ (w : World) (xs : Array Value) (i : Nat) (k : Int), xs[i]? = some (.int .u8 k) → (part 5 xs i).run Tryz.prog w = .ok (.int .u8 k) w := by
    intro w xs i k hk
    simp [part, go_sem, hk]
  rw [Op.equalIn]
  simp only [Sem.run_bind, run_underlying Tryz.underlying138, Result.andThen_ok, hz]
  have hr : (forIn [:3] ((none : Option Bool), ()) : _) = (forIn (List.range' 0 3) ((none : Option Bool), ())  : (Nat → Option Bool × Unit → Sem (ForInStep (Option Bool × Unit))) → Sem _) := by
    funext f
    rw [Std.Legacy.Range.forIn_eq_forIn_range']
    rfl
  rw [hr]
  simp only [List.range', List.forIn_cons, List.forIn_nil, Sem.run_bind, Nat.zero_add, Nat.zero_mul, Nat.one_mul]
  have a0 := fun w => hp w #[.int .u8 a, .int .u8 b, .int .u8 c] 0 a rfl
  have a1 := fun w => hp w #[.int .u8 a, .int .u8 b, .int .u8 c] 1 b rfl
  have a2 := fun w => hp w #[.int .u8 a, .int .u8 b, .int .u8 c] 2 c rfl
  have b0 := fun w => hp w #[.int .u8 x, .int .u8 y, .int .u8 z] 0 x rfl
  have b1 := fun w => hp w #[.int .u8 x, .int .u8 y, .int .u8 z] 1 y rfl
  have b2 := fun w => hp w #[.int .u8 x, .int .u8 y, .int .u8 z] 2 z rfl
  clear hp hr hz
  cases e1 : a == x <;> cases e2 : b == y <;> cases e3 : c == z <;> simp [a0, a1, a2, b0, b1, b2, h1, e1, e2, e3, Result.andThen, Sem.run_pure]
/-- '!=' of two arrays of three bytes. -/
theorem neq3 (a b c x y z : Int) (w : World) :
    (binOp .neq 138 (.agg #[.int .u8 a, .int .u8 b, .int .u8 c]) (.agg #[.int .u8 x, .int .u8 y, .int .u8 z])).run Tryz.prog w = .ok (.bool (!(a == x && (b == y && c == z)))) w := by
  rw [run_neq_struct, show (10000 : Nat) = 9998 + 2 from rfl, eq3_in]; rfl
end Go.Proofs.YtpdodknldhbbhaaGreatDoor.Sx
