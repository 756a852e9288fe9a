/-
Rows of bytes that a call itself makes: what they hold, what an append does to them, and that they become a text again. No conditions of its own.
-/
import Derived.Test.YtpgjalikgmagiaaDoorRows
import Derived.WalkKit
import Derived.ProofKit
import Derived.OpenShut
import Derived.Lib.Hide
import Derived.Lib.BufferRead
import Derived.Deep.AppendLies
import Derived.Deep.Draws
namespace Go.Proofs.YtpgjalikgmagiaaDoor.Bytes
open Go.RowKit

/-- The cells of a list of bytes. -/
def cells (l : List UInt8) : List Value := l.map fun b => Value.int .u8 b.toNat
theorem cells_length (l : List UInt8) : (cells l).length = l.length := by simp [cells]
theorem cells_append (l r : List UInt8) : cells (l ++ r) = cells l ++ cells r := by simp [cells]

/-- The slice v holds the bytes l, in a row of the call's own (blocks from base on). -/
def Has (w : World) (base : Nat) (v : Value) (l : List UInt8) : Prop := w.ownsRow base 5 1 v l.length (cells l)

theorem Has.nil (w : World) (base : Nat) : Has w base (.slice none 0 0) [] := World.ownsRow_nil _ _ _ _
theorem Has.alloc {w : World} {base : Nat} {v : Value} {l : List UInt8} (h : Has w base v l) (o : Obj) : Has (w.alloc o) base v l := World.ownsRow.alloc h o
theorem Has.drewN {w : World} {base : Nat} {v : Value} {l : List UInt8} (h : Has w base v l) (n : Nat) : Has (w.drewN n) base v l := h
theorem Has.drew {w : World} {base : Nat} {v : Value} {l : List UInt8} (h : Has w base v l) : Has w.drew base v l := h

theorem infoByte : (Tryd.prog.info? 5).map (fun i => (i.zero, i.size, i.bytes)) = some (some (.int .u8 0), 1, 1) := by kernel_rfl

/-- Behind an append of the bytes r. -/
theorem Has.laid {w : World} {base m : Nat} {v : Value} {l r : List UInt8} (hm : m = r.length) (h : w.ownsRow base 5 1 v (l.length + m) (cells l ++ cells r)) : Has w base v (l ++ r) := by
  subst hm; unfold Has; rw [cells_append, List.length_append]; exact h
theorem Has.laid1 {w : World} {base : Nat} {v : Value} {l : List UInt8} {c : UInt8} (h : w.ownsRow base 5 1 v (l.length + 1) (cells l ++ [.int .u8 (c.toNat : Int)])) : Has w base v (l ++ [c]) :=
  Has.laid (r := [c]) rfl h
theorem Has.laid2 {w : World} {base : Nat} {v : Value} {l : List UInt8} {c d : UInt8} (h : w.ownsRow base 5 1 v (l.length + 2) (cells l ++ [.int .u8 (c.toNat : Int), .int .u8 (d.toNat : Int)])) : Has w base v (l ++ [c, d]) :=
  Has.laid (r := [c, d]) rfl h
theorem Has.below {a w w1 : World} {B : Nat} {v : Value} {l : List UInt8} (h : Has w B v l) (hb : Below B a w) (hB : B ≤ w.heap.size) (o : Obj) (hg : (w.alloc o).grownBy w1 v.ownBlock) : Below B a w1 :=
  (hb.alloc hB o).grown hg (by simp; omega) (fun k e => (World.ownsRow.lt h k e).1)
theorem Has.belowD {a w w1 : World} {B : Nat} {v : Value} {l : List UInt8} (h : Has w B v l) (hb : Below B a w) (hB : B ≤ w.heap.size) (o : Obj) (hg : (w.alloc o).drew.grownBy w1 v.ownBlock) : Below B a w1 :=
  ((hb.alloc hB o).drew).grown hg (by simp; omega) (fun k e => (World.ownsRow.lt h k e).1)
/-- A row's slice, written out. -/
theorem Has.shape {w : World} {base n : Nat} {v : Value} {xs : List Value} (h : w.ownsRow base 5 1 v n xs) : ∃ a cap, v = .slice a n cap := by
  obtain ⟨_, ⟨rfl, rfl⟩ | ⟨g, cap, cur, rfl, _⟩⟩ := h
  · exact ⟨none, 0, rfl⟩
  · exact ⟨_, cap, rfl⟩
/-- A row stays where nothing that was there turns. -/
theorem row_below {w w' : World} {base n : Nat} {v : Value} {xs : List Value} (h : w.ownsRow base 5 1 v n xs) (hb : Below w.heap.size w w') : w'.ownsRow base 5 1 v n xs := by
  refine h.kept (row := none) ⟨hb.os, hb.tape, hb.output, hb.size, fun k hk _ => hb.block k hk⟩ ?_
  cases e : v.ownBlock with
  | none => exact .inl rfl
  | some k => exact .inr (by simp)
theorem base_ok {B : Nat} {w : World} (h : B ≤ w.heap.size) (o : Obj) : B ≤ (w.alloc o).drew.heap.size := by
  show B ≤ (w.alloc o).heap.size
  simp; omega
theorem base_ok' {B : Nat} {w : World} (h : B ≤ w.heap.size) (o : Obj) : B ≤ (w.alloc o).heap.size := by
  simp; omega
theorem top_ok {w : World} (o : Obj) : (w.alloc o).drew.heap.size = w.heap.size + 1 := by
  show (w.alloc o).heap.size = _
  simp
theorem one_pos : (0 : Nat) < 1 := by decide
theorem two_pos : (0 : Nat) < 2 := by decide
end Go.Proofs.YtpgjalikgmagiaaDoor.Bytes
