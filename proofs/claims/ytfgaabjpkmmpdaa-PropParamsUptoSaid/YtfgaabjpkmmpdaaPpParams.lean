/-
The law PropParams, from what the program's Param and Without answer. Conditions: the parameters lie below the caller's blocks.
-/
import Derived.Test.YtfgaabjpkmmpdaaPpTells
import Derived.Test.YtfgaabjpkmmpdaaPpGet
import Derived.Test.YtfgaabjpkmmpdaaPpSame
import Derived.Test.YtfgaabjpkmmpdaaPpWithout
import Derived.Test.YtfgaabjpkmmpdaaPpPTree
namespace Go.Proofs.Ytfgaabjpkmmpdaa.Pp
open Go.RowKit

/-- The two boxes, and both lists of parameters, as they were. -/
structure Lx (w W : World) (X : Nat) (g n : ByteArray) (pv px : Value) (v : ByteArray) (av : Value) (ps : List (ByteArray × ByteArray)) : Prop where
  p : PrAt W w.heap.size g n pv v av
  x : PrAt W X g n px v av
  s : Ps W W.heap.size pv ps
  s2 : Ps W W.heap.size px ps
  b : Below w.heap.size w W
section
variable {w W W' : World} {X : Nat} {g n v : ByteArray} {pv px av : Value} {ps : List (ByteArray × ByteArray)}
theorem Lx.below (h : Lx w W X g n pv px v av ps) (hb : Below W.heap.size W W') : Lx w W' X g n pv px v av ps :=
  ⟨h.p.below hb, h.x.below hb, (h.s.below hb).up hb.size, (h.s2.below hb).up hb.size, h.b.trans (hb.mono h.b.size)⟩
theorem Lx.drew (h : Lx w W X g n pv px v av ps) : Lx w W.drew X g n pv px v av ps := h.below ⟨rfl, rfl, rfl, Nat.le_refl _, fun _ _ => rfl⟩
theorem Lx.cells (h : Lx w W X g n pv px v av ps) : (W.cell? ⟨w.heap.size, 0, none⟩ = some (.string g) ∧ W.cell? ⟨w.heap.size, 1, none⟩ = some (.string n) ∧ W.cell? ⟨w.heap.size, 2, none⟩ = some pv ∧ W.cell? ⟨w.heap.size, 3, none⟩ = some (.string v) ∧ W.cell? ⟨w.heap.size, 4, none⟩ = some av) ∧ (W.cell? ⟨X, 0, none⟩ = some (.string g) ∧ W.cell? ⟨X, 1, none⟩ = some (.string n) ∧ W.cell? ⟨X, 2, none⟩ = some px ∧ W.cell? ⟨X, 3, none⟩ = some (.string v) ∧ W.cell? ⟨X, 4, none⟩ = some av) :=
  ⟨⟨h.p.c0, h.p.c1, h.p.c2, h.p.c3, h.p.c4⟩, ⟨h.x.c0, h.x.c1, h.x.c2, h.x.c3, h.x.c4⟩⟩
end

set_option maxRecDepth 100000 in
set_option maxHeartbeats 4000000 in
theorem params_law (g n v : ByteArray) (pv : Value) (aa : Option Addr) (m ac : Nat) (ps : List (ByteArray × ByteArray)) (nm : ByteArray) (k : Nat) (w : World) (hps : Ps w w.heap.size pv ps) (hag : AgT w w.heap.size k (.slice aa m ac))
    (hGet : ∀ pv' W, Ps W W.heap.size pv' ps → ps.length ≤ 20 → v.size ≤ 5000 → Calls Try.prog 13 #[prV g n pv' v (.slice aa m ac), .string nm] W fun e w' => e = .returned (.tuple #[.string (getV ps nm), .bool (getB ps nm)]) ∧ Below W.heap.size W w')
    (hWout : ∀ pv' W, Ps W W.heap.size pv' ps → AgT W W.heap.size k (.slice aa m ac) → ps.length ≤ 20 → v.size ≤ 5000 → Calls Try.prog 16 #[prV g n pv' v (.slice aa m ac), .string nm] W fun e w' => ∃ pv2 a2 c2, e = .returned (prV g n pv2 v (.slice a2 m c2)) ∧ Ps w' w'.heap.size pv2 (wout ps nm) ∧ Below W.heap.size W w') :
    Calls Try.prog 4 #[prV g n pv v (.slice aa m ac), .string nm] w fun e w' => e = .returned (.bool true) ∧ Below w.heap.size w w' := by
  obtain ⟨pa, pc, rfl⟩ := hps.shape
  have CG := Lib.hid (fun W => great_any g n pa ps.length pc v (.slice aa m ac) W)
  have HB : Below w.heap.size w (w.alloc (.cells #[.string g, .string n, .slice pa ps.length pc, .string v, .slice aa m ac] 25)) := (Below.refl _ _).alloc (Nat.le_refl _) _
  have L0 : Lw w (w.alloc (.cells #[.string g, .string n, .slice pa ps.length pc, .string v, .slice aa m ac] 25)) g n (.slice pa ps.length pc) v (.slice aa m ac) ps := ⟨heap_alloc_new w _, (hps.below HB).up HB.size, HB⟩
  by_cases hg : (decide (20 < ps.length) || decide (5000 < v.size)) = true
  · rw [hg] at CG
    unfold prV at CG ⊢
    go_enter Try.func4, Try.ntmps4
    go_wp2_with fail
    refine (CG.out _).mono ?_
    rintro e w1 ⟨rfl, b1⟩
    go_wp2_with fail
    go_ret
    exact ⟨rfl, HB.trans (b1.mono HB.size)⟩
  · have hg2 : (decide (20 < ps.length) || decide (5000 < v.size)) = false := by simpa using hg
    rw [hg2] at CG
    rw [Bool.or_eq_false_iff, decide_eq_false_iff_not, decide_eq_false_iff_not] at hg2
    have hwl : (wout ps nm).length ≤ ps.length := List.length_filter_le _ _
    have C1 := Lib.hid (fun pv' W h => hGet pv' W h (by omega) (by omega))
    have CW := Lib.hid (fun pv' W h (hB : Below w.heap.size w W) => hWout pv' W h ((hag.below hB).up hB.size) (by omega) (by omega))
    have R1 := Lib.hid (fun W h => rGet_any g n (.slice pa ps.length pc) v (.slice aa m ac) nm ps W h (by omega))
    have RW := Lib.hid (fun W h => rWithout_any g n (.slice pa ps.length pc) v aa m ac nm ps W h (by omega))
    have O := Lib.hid (fun W h => own_any g n (.slice pa ps.length pc) v aa m ac ps W h (by omega))
    have CS1 := Lib.hid (fun pv' pv2 a1 c1 a2 c2 W h h' => rSame_yes g n v pv' pv2 a1 a2 m c1 c2 (wout ps nm) W h h' (by omega))
    have CS0 := Lib.hid (fun px W h h' => rSame_yes g n v px (.slice pa ps.length pc) aa aa m ac ac ps W h h' (by omega))
    generalize getV ps nm = t at C1 R1
    generalize getB ps nm = r at C1 R1
    generalize wout ps nm = qs at CW RW CS1 hwl
    unfold prV at CG C1 CW R1 RW O CS1 CS0 ⊢
    clear hGet hWout hg hg2 hps hwl hag
    go_enter Try.func4, Try.ntmps4
    go_wp2_with fail
    refine (CG.out _).mono ?_
    rintro e w1 ⟨rfl, b1⟩
    have L1 := L0.below b1
    clear L0 HB b1
    have c0 := L1.p.c0
    have c1 := L1.p.c1
    have c2 := L1.p.c2
    have c3 := L1.p.c3
    have c4 := L1.p.c4
    go_wp2_with fail
    refine (O.out _ L1.s).mono ?_
    rintro e w2 ⟨px, rfl, ho2, b2⟩
    have L2 := L1.below b2
    obtain ⟨xa, xc, rfl⟩ := shapeP ho2
    have bx : Below w2.heap.size w2 (w2.alloc (.cells #[.string g, .string n, .slice xa ps.length xc, .string v, .slice aa m ac] 25)) := (Below.refl _ _).alloc (Nat.le_refl _) _
    have L2b := L2.below bx
    have L3 : Lx w (w2.alloc (.cells #[.string g, .string n, .slice xa ps.length xc, .string v, .slice aa m ac] 25)) w2.heap.size g n (.slice pa ps.length pc) (.slice xa ps.length xc) v (.slice aa m ac) ps := ⟨L2b.p, heap_alloc_new w2 _, L2b.s, (ho2.ps.below bx).up bx.size, L2b.b⟩
    have CS2 := Lib.hid (fun W h h' => CS0.out (.slice xa ps.length xc) W h h')
    clear c0 c1 c2 c3 c4 L1 L2 L2b ho2 b2 bx CS0
    go_wp2_with fail
    refine (C1.out _ _ L3.s2).mono ?_
    rintro e w3 ⟨rfl, b3⟩
    have L4 := L3.below b3
    clear L3 b3
    generalize w2.heap.size = X at L4 ⊢
    have c0 := L4.p.c0
    have c1 := L4.p.c1
    have c2 := L4.p.c2
    have c3 := L4.p.c3
    have c4 := L4.p.c4
    go_wp2_with fail
    refine (R1.out _ L4.s).mono ?_
    rintro e w4 ⟨rfl, b4⟩
    have L5 := L4.below b4
    clear c0 c1 c2 c3 c4 L4 b4
    go_wp2_with fail
    have L5d := L5.drew
    go_region_held3 (fun W => (W.cell? ⟨w.heap.size, 0, none⟩ = some (.string g) ∧ W.cell? ⟨w.heap.size, 1, none⟩ = some (.string n) ∧ W.cell? ⟨w.heap.size, 2, none⟩ = some (.slice pa ps.length pc) ∧ W.cell? ⟨w.heap.size, 3, none⟩ = some (.string v) ∧ W.cell? ⟨w.heap.size, 4, none⟩ = some (.slice aa m ac)) ∧ (W.cell? ⟨X, 0, none⟩ = some (.string g) ∧ W.cell? ⟨X, 1, none⟩ = some (.string n) ∧ W.cell? ⟨X, 2, none⟩ = some (.slice xa ps.length xc) ∧ W.cell? ⟨X, 3, none⟩ = some (.string v) ∧ W.cell? ⟨X, 4, none⟩ = some (.slice aa m ac))) (exact Lx.cells (av := .slice aa m ac) (pv := .slice pa ps.length pc) (px := .slice xa ps.length xc) (g := g) (n := n) (v := v) (ps := ps) (w := w) (X := X) (by assumption)) (first | (go_at_call 16; (with_reducible refine (CW.out _ _ (Lx.s2 (av := .slice aa m ac) (pv := .slice pa ps.length pc) (px := .slice xa ps.length xc) (g := g) (n := n) (v := v) (ps := ps) (w := w) (X := X) (by assumption)) (Lx.b (av := .slice aa m ac) (pv := .slice pa ps.length pc) (px := .slice xa ps.length xc) (g := g) (n := n) (v := v) (ps := ps) (w := w) (X := X) (by assumption))).mono ?_); rintro e w6 ⟨pvA, aA, cA, rfl, hpA, b6⟩; have L6 := Lx.below (av := .slice aa m ac) (pv := .slice pa ps.length pc) (px := .slice xa ps.length xc) (g := g) (n := n) (v := v) (ps := ps) (w := w) (X := X) (by assumption) b6; (try (have hqpvB := Ps.up (Ps.below (v := pvB) (by assumption) b6) b6.size))) | (go_at_call 17; (with_reducible refine (RW.out _ (Lx.s (av := .slice aa m ac) (pv := .slice pa ps.length pc) (px := .slice xa ps.length xc) (g := g) (n := n) (v := v) (ps := ps) (w := w) (X := X) (by assumption))).mono ?_); rintro e w7 ⟨pvB, rfl, hoB, b7⟩; have hpB := hoB.ps; have L7 := Lx.below (av := .slice aa m ac) (pv := .slice pa ps.length pc) (px := .slice xa ps.length xc) (g := g) (n := n) (v := v) (ps := ps) (w := w) (X := X) (by assumption) b7; (try (have hqpvA := Ps.up (Ps.below (v := pvA) (by assumption) b7) b7.size))) | (go_at_call 15; first | ((with_reducible refine (CS2.out _ (Lx.s2 (av := .slice aa m ac) (pv := .slice pa ps.length pc) (px := .slice xa ps.length xc) (g := g) (n := n) (v := v) (ps := ps) (w := w) (X := X) (by assumption)) (Lx.s (av := .slice aa m ac) (pv := .slice pa ps.length pc) (px := .slice xa ps.length xc) (g := g) (n := n) (v := v) (ps := ps) (w := w) (X := X) (by assumption))).mono ?_); rintro e w8 ⟨rfl, b8⟩; have L8 := Lx.below (av := .slice aa m ac) (pv := .slice pa ps.length pc) (px := .slice xa ps.length xc) (g := g) (n := n) (v := v) (ps := ps) (w := w) (X := X) (by assumption) b8) | ((with_reducible refine (CS1.out _ _ _ _ _ _ _ (by assumption) (by assumption)).mono ?_); rintro e w8 ⟨rfl, b8⟩; have L8 := Lx.below (av := .slice aa m ac) (pv := .slice pa ps.length pc) (px := .slice xa ps.length xc) (g := g) (n := n) (v := v) (ps := ps) (w := w) (X := X) (by assumption) b8)))
    all_goals go_wp2_with fail
    all_goals (go_ret; exact ⟨rfl, Lx.b (av := .slice aa m ac) (pv := .slice pa ps.length pc) (px := .slice xa ps.length xc) (g := g) (n := n) (v := v) (ps := ps) (w := w) (X := X) (by assumption)⟩)
end Go.Proofs.Ytfgaabjpkmmpdaa.Pp
