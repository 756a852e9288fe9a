/-
Two arrays of three bytes are unequal where one of their bytes is. Conditions: none.
-/
import Derived.Test.YtijgpelgdepbaaaDoorSxThree
import Derived.Laws.StructEq
namespace Go.Proofs.YtijgpelgdepbaaaDoor.Sx
open Go.RowKit

theorem eq3_in (d : Nat) (a b c x y z : Int) (w : World) :
    (Op.equalIn (d + 2) 36 (.agg #[.int .u8 a, .int .u8 b, .int .u8 c]) (.agg #[.int .u8 x, .int .u8 y, .int .u8 z])).run Tryd.prog w = .ok (a == x && (b == y && c == z)) w := by
  have h1 := fun a b w => run_equalIn_int (P := Tryd.prog) w d 5 .u8 .u8 a b Tryd.underlying5
  have hz := size8
  have hp : ∀ (w : World) (xs : Array Value) (i : Nat) (k : Int), xs[i]? = some (.int .u8 k) → (part 5 xs i).run Tryd.prog w = .ok (.int .u8 k) w := by
    intro w xs i k hk
    simp [part, go_sem, hk]
  rw [Op.equalIn]
  simp only [Sem.run_bind, run_underlying Tryd.underlying36, Result.andThen_ok, hz]
  have hr : (forIn [:3] ((none : Option Bool), ()) : _) = (forIn (List.range' 0 3) ((none : Option Bool), ())  : (Nat → Option Bool × Unit → Sem (ForInStep (Option Bool × Unit))) → Sem _) := by
    funext f
    rw [Std.Legacy.Range.forIn_eq_forIn_range']
    rfl
  rw [hr]
  simp only [List.range', List.forIn_cons, List.forIn_nil, Sem.run_bind, Nat.zero_add, Nat.zero_mul, Nat.one_mul]
  have a0 := fun w => hp w #[.int .u8 a, .int .u8 b, .int .u8 c] 0 a rfl
  have a1 := fun w => hp w #[.int .u8 a, .int .u8 b, .int .u8 c] 1 b rfl
  have a2 := fun w => hp w #[.int .u8 a, .int .u8 b, .int .u8 c] 2 c rfl
  have b0 := fun w => hp w #[.int .u8 x, .int .u8 y, .int .u8 z] 0 x rfl
  have b1 := fun w => hp w #[.int .u8 x, .int .u8 y, .int .u8 z] 1 y rfl
  have b2 := fun w => hp w #[.int .u8 x, .int .u8 y, .int .u8 z] 2 z rfl
  clear hp hr hz
  cases e1 : a == x <;> cases e2 : b == y <;> cases e3 : c == z <;> simp [a0, a1, a2, b0, b1, b2, h1, e1, e2, e3, Result.andThen, Sem.run_pure]
/-- '!=' of two arrays of three bytes. -/
theorem neq3 (a b c x y z : Int) (w : World) :
    (binOp .neq 36 (.agg #[.int .u8 a, .int .u8 b, .int .u8 c]) (.agg #[.int .u8 x, .int .u8 y, .int .u8 z])).run Tryd.prog w = .ok (.bool (!(a == x && (b == y && c == z)))) w := by
  rw [run_neq_struct, show (10000 : Nat) = 9998 + 2 from rfl, eq3_in]; rfl
end Go.Proofs.YtijgpelgdepbaaaDoor.Sx
