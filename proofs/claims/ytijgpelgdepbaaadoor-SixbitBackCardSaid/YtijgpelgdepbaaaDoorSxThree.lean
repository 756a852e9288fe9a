/-
Three bytes of a text of up to three, noughts for what is missing. Conditions: the text has at most three bytes.
-/
import Derived.Test.YtijgpelgdepbaaaDoorBytes
import Derived.Test.YtijgpelgdepbaaaDoorSxMath
import Derived.Lib.BufferWrite
import Derived.Lib.LazyBuf
namespace Go.Proofs.YtijgpelgdepbaaaDoor.Sx
open Go.RowKit

/-- Three bytes as an array. -/
def three (l : List UInt8) : Value := .agg #[.int .u8 ((l.getD 0 0).toNat : Int), .int .u8 ((l.getD 1 0).toNat : Int), .int .u8 ((l.getD 2 0).toNat : Int)]
theorem info8 : (Tryd.prog.info? 5).map (·.size) = some 1 := by kernel_rfl

theorem size8 (w : World) : (Go.sizeOf 5).run Tryd.prog w = .ok 1 w := by
  have h : (Tryd.prog.info? 5).map (·.size) = some 1 := by kernel_rfl
  cases hq : Tryd.prog.info? 5 with
  | none => simp [hq] at h
  | some i => simp [hq] at h; simp [Go.sizeOf, typeInfo, hq, h]
/-- Up to three bytes laid over three noughts. -/
theorem copy3 (w : World) (l : List UInt8) (hl : l.length ≤ 3) (W : World) (hW : W = (w.alloc (.cells #[.int .u8 0, .int .u8 0, .int .u8 0] 36)).alloc (.cells #[.int .u8 0, .int .u8 0, .int .u8 0] 36)) :
    (Builtin.copy_ #[32, 9] 3 #[.slice (some ⟨w.heap.size + 1, 0, none⟩) 3 3, .string ⟨l.toArray⟩]).run Tryd.prog W = .ok (.int .i64 (l.length : Int)) (W.setCells (w.heap.size + 1) 0 (l.map fun x => Value.int .u8 (x.toNat : Int))) := by
  have hg : W.heap[w.heap.size + 1]? = some (.cells #[.int .u8 0, .int .u8 0, .int .u8 0] 36 (0, 0)) := by
    subst hW; have := heap_alloc_new (w.alloc (.cells #[.int .u8 0, .int .u8 0, .int .u8 0] 36)) (.cells #[.int .u8 0, .int .u8 0, .int .u8 0] 36); rwa [World.size_alloc] at this
  have hcp := run_copy_string (P := Tryd.prog) W 32 9 3 5 (w.heap.size + 1) 0 3 3 ⟨l.toArray⟩ Tryd.underlying32 size8 (by rw [ulen rfl]; omega)
    (fun j hj => by rw [ulen rfl] at hj; rw [Nat.zero_add, cell_of_row W (w.heap.size + 1) j _ _ _ hg]; match j, (by omega : j < 3) with | 0, _ => rfl | 1, _ => rfl | 2, _ => rfl)
    (fun j hj => by simp [World.frozen?, hg])
  rw [ulen rfl] at hcp
  exact hcp

set_option maxHeartbeats 400000 in
theorem threeOf_any (l : List UInt8) (hl : l.length ≤ 3) (w : World) :
    Calls Tryd.prog 14 #[.string ⟨l.toArray⟩] w fun e w' => e = .returned (three l) ∧ Below w.heap.size w w' := by
  have hcp := copy3 w l hl _ rfl
  match l, hl with
  | [], _ =>
    simp only [List.map, World.setCells] at hcp
    go_enter Tryd.func14, Tryd.ntmps14
    go_wp2_with fail
    exact bodyPost_ret (v := three []) (by simp [results, Tryd.results14, three, go_sem]) rfl ⟨rfl, ((Below.refl _ _).alloc (Nat.le_refl _) _).alloc (by simp) _⟩
  | [a], _ =>
    simp only [List.map, World.setCells] at hcp
    go_enter Tryd.func14, Tryd.ntmps14
    go_wp2_with fail
    exact bodyPost_ret (v := three [a]) (by simp [results, Tryd.results14, three, go_sem]) rfl ⟨rfl, ((Below.refl _ _).alloc (Nat.le_refl _) _).alloc (by simp) _⟩
  | [a, b], _ =>
    simp only [List.map, World.setCells] at hcp
    go_enter Tryd.func14, Tryd.ntmps14
    go_wp2_with fail
    exact bodyPost_ret (v := three [a, b]) (by simp [results, Tryd.results14, three, go_sem]) rfl ⟨rfl, ((Below.refl _ _).alloc (Nat.le_refl _) _).alloc (by simp) _⟩
  | [a, b, c], _ =>
    simp only [List.map, World.setCells] at hcp
    go_enter Tryd.func14, Tryd.ntmps14
    go_wp2_with fail
    exact bodyPost_ret (v := three [a, b, c]) (by simp [results, Tryd.results14, three, go_sem]) rfl ⟨rfl, ((Below.refl _ _).alloc (Nat.le_refl _) _).alloc (by simp) _⟩
end Go.Proofs.YtijgpelgdepbaaaDoor.Sx
