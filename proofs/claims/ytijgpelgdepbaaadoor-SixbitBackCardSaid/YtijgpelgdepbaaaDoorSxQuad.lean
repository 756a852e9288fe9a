/-
Plain functions on bytes: bytes as letters, piece by piece. No program in it, no conditions.
-/
import Derived.Test.YtijgpelgdepbaaaDoorSxLetMath
namespace Go.Proofs.YtijgpelgdepbaaaDoor.Sx
open Go.RowKit

/-- The letters of three bytes (a missing one counts 0). -/
def four (l : List UInt8) : List UInt8 := [lt ((l.getD 0 0).toNat / 4), lt (((l.getD 0 0).toNat % 16 * 16 + (l.getD 1 0).toNat / 16) % 64), lt (((l.getD 1 0).toNat % 64 * 4 + (l.getD 2 0).toNat / 64) % 64), lt ((l.getD 2 0).toNat % 64)]
/-- The letters of a piece of one to three bytes. -/
def quad (l : List UInt8) : List UInt8 := (four l).take (l.length + 1) ++ List.replicate (3 - l.length) 61
/-- Bytes as letters. -/
def enc (l : List UInt8) : List UInt8 := ((cut 3 l).map quad).flatten
theorem quad_length {l : List UInt8} (h : 1 ≤ l.length ∧ l.length ≤ 3) : (quad l).length = 4 := by
  unfold quad four
  rw [List.length_append, List.length_take, List.length_replicate]
  simp only [List.length_cons, List.length_nil]
  omega
theorem quads_length {l : List (List UInt8)} (h : ∀ x ∈ l, 1 ≤ x.length ∧ x.length ≤ 3) : ((l.map quad).flatten).length = 4 * l.length := by
  induction l with
  | nil => rfl
  | cons x r ih =>
    rw [List.map_cons, List.flatten_cons, List.length_append, quad_length (h x (by simp)), ih (fun y hy => h y (by simp [hy])), List.length_cons]; omega
theorem quads_snoc (l : List (List UInt8)) (x : List UInt8) : ((l ++ [x]).map quad).flatten = (l.map quad).flatten ++ quad x := by simp
theorem enc_length (l : List UInt8) : (enc l).length = 4 * (cut 3 l).length := quads_length (cut_size (by decide) l)
end Go.Proofs.YtijgpelgdepbaaaDoor.Sx
