/-
How a reader of layer 2 lies in memory, and the contracts of its two inner words 'state' and 'rest'. Conditions: the reader's place is within its text.
-/
import Derived.Test.YtpapakkcomegnaaRows
import Derived.WalkKit
import Derived.ProofKit
import Derived.OpenShut
import Derived.Lib.Hide
import Derived.Deep.Draws
import Derived.Deep.QuietTactic
import Derived.BigQuiet
namespace Go.Proofs.Ytpapakkcomegnaa.Mb
open Go.RowKit

theorem ret_int {k : IntKind} {a b : Int} (h : a = b) : Ending.returned (.int k a) = .returned (.int k b) := by rw [h]
/-- Block b is a reader of s at place i, with e wrong. -/
def Rd (w : World) (b : Nat) (s : ByteArray) (i : Nat) (e : Int) : Prop := w.heap[b]? = some (.cells #[.string s, .int .i64 i, .int .i64 e] 49 (0, 0))

theorem Rd.lt {w : World} {b : Nat} {s : ByteArray} {i : Nat} {e : Int} (h : Rd w b s i e) : b < w.heap.size := (Array.getElem?_eq_some_iff.1 h).1
theorem Rd.c0 {w : World} {b : Nat} {s : ByteArray} {i : Nat} {e : Int} (h : Rd w b s i e) : w.cell? ⟨b, 0, none⟩ = some (.string s) := cell_of_row w b 0 _ _ _ h
theorem Rd.c1 {w : World} {b : Nat} {s : ByteArray} {i : Nat} {e : Int} (h : Rd w b s i e) : w.cell? ⟨b, 1, none⟩ = some (.int .i64 i) := cell_of_row w b 1 _ _ _ h
theorem Rd.c2 {w : World} {b : Nat} {s : ByteArray} {i : Nat} {e : Int} (h : Rd w b s i e) : w.cell? ⟨b, 2, none⟩ = some (.int .i64 e) := cell_of_row w b 2 _ _ _ h
theorem Rd.below {w w' : World} {b : Nat} {s : ByteArray} {i : Nat} {e : Int} (h : Rd w b s i e) (hb : Below w.heap.size w w') : Rd w' b s i e := (hb.block b h.lt).trans h

theorem below_drewN {B : Nat} {a w : World} (h : Below B a w) (n : Nat) : Below B a (w.drewN n) := ⟨h.os, h.tape, h.output, h.size, h.block⟩

set_option maxHeartbeats 400000 in
theorem state_any (b : Nat) (s : ByteArray) (i : Nat) (e : Int) (w : World) (h : Rd w b s i e) :
    Calls Try.prog 33 #[.pointer (some ⟨b, 0, none⟩)] w fun x w' => x = .returned (.agg #[.string s, .int .i64 i, .int .i64 e]) ∧ Below w.heap.size w w' := by
  have c0 := h.c0
  have c1 := h.c1
  have c2 := h.c2
  have hl := h.lt
  go_enter Try.func33, Try.ntmps33
  go_wp2
  exact bodyPost_ret (v := .agg #[.string s, .int .i64 i, .int .i64 e]) (by simp [results, Try.results33, go_sem]) rfl ⟨rfl, (Below.refl _ _).alloc (Nat.le_refl _) _⟩

set_option maxHeartbeats 400000 in
theorem rest_any (b : Nat) (s : ByteArray) (i : Nat) (e : Int) (w : World) (h : Rd w b s i e) (hi : i ≤ s.size) :
    Calls Try.prog 34 #[.pointer (some ⟨b, 0, none⟩)] w fun x w' => x = .returned (.string (s.extract i s.size)) ∧ Below w.heap.size w w' := by
  go_enter Try.func34, Try.ntmps34
  go_wp2_with fail
  refine (state_any b s i e _ h).mono ?_
  rintro x w1 ⟨rfl, b1⟩
  go_wp2
  go_ret
  exact ⟨rfl, b1.alloc b1.size _⟩

set_option maxHeartbeats 400000 in
theorem at_any (b : Nat) (s : ByteArray) (i : Nat) (e : Int) (w : World) (h : Rd w b s i e) :
    Calls Try.prog 21 #[.pointer (some ⟨b, 0, none⟩)] w fun x w' => x = .returned (.int .i64 i) ∧ Below w.heap.size w w' := by
  have hf : ∀ W : World, (Instr.field 49 (.agg #[.string s, .int .i64 i, .int .i64 e]) 1).run Try.prog W = .ok (.int .i64 i) W := fun _ => by kernel_rfl
  go_enter Try.func21, Try.ntmps21
  go_wp2_with fail
  refine (state_any b s i e _ h).mono ?_
  rintro x w1 ⟨rfl, b1⟩
  go_wp2
  go_ret
  exact ⟨rfl, b1⟩

set_option maxHeartbeats 400000 in
theorem err_any (b : Nat) (s : ByteArray) (i : Nat) (e : Int) (w : World) (h : Rd w b s i e) :
    Calls Try.prog 20 #[.pointer (some ⟨b, 0, none⟩)] w fun x w' => x = .returned (.tuple #[.int .i64 i, .int .i64 e]) ∧ Below w.heap.size w w' := by
  go_enter Try.func20, Try.ntmps20
  go_wp2_with fail
  refine (state_any b s i e _ h).mono ?_
  rintro x w1 ⟨rfl, b1⟩
  go_wp2_with fail
  go_quiet (fail)
  go_wp2
  go_ret2
  exact ⟨rfl, below_drewN (b1.alloc b1.size _) _⟩

set_option maxHeartbeats 400000 in
theorem left_any (b : Nat) (s : ByteArray) (i : Nat) (e : Int) (w : World) (h : Rd w b s i e) (hi : i ≤ s.size) :
    Calls Try.prog 22 #[.pointer (some ⟨b, 0, none⟩)] w fun x w' => x = .returned (.int .i64 ((s.size : Int) - i)) ∧ Below w.heap.size w w' := by
  go_enter Try.func22, Try.ntmps22
  go_wp2_with fail
  refine (rest_any b s i e _ h hi).mono ?_
  rintro x w1 ⟨rfl, b1⟩
  go_wp2
  go_ret
  exact ⟨ret_int (by omega), b1⟩

set_option maxHeartbeats 400000 in
theorem new_any (s : ByteArray) (w : World) :
    Calls Try.prog 9 #[.string s] w fun x w' => x = .returned (.pointer (some ⟨w.heap.size, 0, none⟩)) ∧ Rd w' w.heap.size s 0 0 ∧ Below w.heap.size w w' := by
  go_enter Try.func9, Try.ntmps9
  go_wp2
  go_ret
  exact ⟨rfl, heap_alloc_new w _, (Below.refl _ _).alloc (Nat.le_refl _) _⟩
end Go.Proofs.Ytpapakkcomegnaa.Mb
