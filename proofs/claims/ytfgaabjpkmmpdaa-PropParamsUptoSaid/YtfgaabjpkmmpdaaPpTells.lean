/-
The law PropTells, from what the program's own functions answer. Conditions: at most 2^30 parameters, below the caller's blocks; texts of at most maxLen bytes.
-/
import Derived.Test.YtfgaabjpkmmpdaaPpPrint
import Derived.Test.YtfgaabjpkmmpdaaPpGreat
import Derived.Test.YtfgaabjpkmmpdaaPpOwn2
import Derived.Deep.RegionHeld3
namespace Go.Proofs.Ytfgaabjpkmmpdaa.Pp
open Go.RowKit

theorem a1 : nameB ⟨#[65, 45, 49]⟩ = true := by decide +kernel
/-- The box, and what came in, as they were. -/
structure Lw (w W : World) (g n : ByteArray) (pv : Value) (v : ByteArray) (av : Value) (ps : List (ByteArray × ByteArray)) : Prop where
  p : PrAt W w.heap.size g n pv v av
  s : Ps W W.heap.size pv ps
  b : Below w.heap.size w W
theorem Lw.below {w W W' : World} {g n : ByteArray} {pv : Value} {v : ByteArray} {av : Value} {ps : List (ByteArray × ByteArray)} (h : Lw w W g n pv v av ps) (hb : Below W.heap.size W W') : Lw w W' g n pv v av ps :=
  ⟨h.p.below hb, (h.s.below hb).up hb.size, h.b.trans (hb.mono h.b.size)⟩
theorem Lw.drew {w W : World} {g n : ByteArray} {pv : Value} {v : ByteArray} {av : Value} {ps : List (ByteArray × ByteArray)} (h : Lw w W g n pv v av ps) : Lw w W.drew g n pv v av ps := h.below ⟨rfl, rfl, rfl, Nat.le_refl _, fun _ _ => rfl⟩

theorem Lw.cells {w W : World} {g n : ByteArray} {pv : Value} {v : ByteArray} {av : Value} {ps : List (ByteArray × ByteArray)} (h : Lw w W g n pv v av ps) : W.cell? ⟨w.heap.size, 0, none⟩ = some (.string g) ∧ W.cell? ⟨w.heap.size, 1, none⟩ = some (.string n) ∧ W.cell? ⟨w.heap.size, 2, none⟩ = some pv ∧ W.cell? ⟨w.heap.size, 3, none⟩ = some (.string v) ∧ W.cell? ⟨w.heap.size, 4, none⟩ = some av := ⟨h.p.c0, h.p.c1, h.p.c2, h.p.c3, h.p.c4⟩

set_option maxRecDepth 100000 in
set_option maxHeartbeats 4000000 in
theorem tells_law (g n v : ByteArray) (pv : Value) (aa : Option Addr) (m ac : Nat) (ps : List (ByteArray × ByteArray)) (nm : ByteArray) (w : World) (hps : Ps w w.heap.size pv ps)
    (hPrint : ∀ pv' W, Ps W W.heap.size pv' ps → ps.length ≤ 20 → v.size ≤ 5000 → Calls Try.prog 6 #[prV g n pv' v (.slice aa m ac)] W fun e w' => e = .returned (.tuple #[.string (prt g n ps v (chk g n ps v m)), .int .i64 (chk g n ps v m)]) ∧ Below W.heap.size W w')
    (hCheck : ∀ pv' W, Ps W W.heap.size pv' ps → ps.length ≤ 20 → v.size ≤ 5000 → Calls Try.prog 9 #[prV g n pv' v (.slice aa m ac)] W fun e w' => e = .returned (.int .i64 (chk g n ps v m)) ∧ Below W.heap.size W w')
    (hName : ∀ t W, Calls Try.prog 11 #[.string t] W fun e w' => e = .returned (.bool (nameB t)) ∧ Below W.heap.size W w') :
    Calls Try.prog 3 #[prV g n pv v (.slice aa m ac), .string nm] w fun e w' => e = .returned (.bool true) ∧ Below w.heap.size w w' := by
  obtain ⟨pa, pc, rfl⟩ := hps.shape
  have CG := Lib.hid (fun W => great_any g n pa ps.length pc v (.slice aa m ac) W)
  have HB : Below w.heap.size w (w.alloc (.cells #[.string g, .string n, .slice pa ps.length pc, .string v, .slice aa m ac] 25)) := (Below.refl _ _).alloc (Nat.le_refl _) _
  have L0 : Lw w (w.alloc (.cells #[.string g, .string n, .slice pa ps.length pc, .string v, .slice aa m ac] 25)) g n (.slice pa ps.length pc) v (.slice aa m ac) ps := ⟨heap_alloc_new w _, (hps.below HB).up HB.size, HB⟩
  by_cases hg : (decide (20 < ps.length) || decide (5000 < v.size)) = true
  · rw [hg] at CG
    unfold prV at CG ⊢
    go_enter Try.func3, Try.ntmps3
    go_wp2_with fail
    refine (CG.out _).mono ?_
    rintro e w1 ⟨rfl, b1⟩
    go_wp2_with fail
    go_ret
    exact ⟨rfl, HB.trans (b1.mono HB.size)⟩
  · have hg2 : (decide (20 < ps.length) || decide (5000 < v.size)) = false := by simpa using hg
    rw [hg2] at CG
    rw [Bool.or_eq_false_iff, decide_eq_false_iff_not, decide_eq_false_iff_not] at hg2
    have C1 := Lib.hid (fun pv' W h => hPrint pv' W h (by omega) (by omega))
    have C2 := Lib.hid (fun pv' W h => hCheck pv' W h (by omega) (by omega))
    have C3 := Lib.hid hName
    have R1 := Lib.hid (fun W h => rPrint_any g n (.slice pa ps.length pc) v aa m ac ps W h (by omega) (by omega))
    have R2 := Lib.hid (fun W h => rCheck_any g n (.slice pa ps.length pc) v aa m ac ps W h (by omega) (by omega))
    have R3 := Lib.hid (fun W => rName_any nm W)
    have O := Lib.hid (fun W h => own_any g n (.slice pa ps.length pc) v aa m ac ps W h (by omega))
    have C4 := Lib.hid (fun W => hName ⟨#[65, 45, 49]⟩ W)
    have C5 := Lib.hid (fun W => hName nm W)
    rw [a1] at C4
    generalize prt g n ps v (chk g n ps v m) = t at C1 R1
    generalize chk g n ps v m = r at C1 C2 R1 R2
    generalize nameB nm = y at C5 R3
    unfold prV at CG C1 C2 R1 R2 O ⊢
    clear hPrint hCheck hName hg hg2 C3 hps
    go_enter Try.func3, Try.ntmps3
    go_wp2_with fail
    refine (CG.out _).mono ?_
    rintro e w1 ⟨rfl, b1⟩
    have L1 := L0.below b1
    clear L0 HB b1
    have c0 := L1.p.c0
    have c1 := L1.p.c1
    have c2 := L1.p.c2
    have c3 := L1.p.c3
    have c4 := L1.p.c4
    go_wp2_with fail
    refine (O.out _ L1.s).mono ?_
    rintro e w2 ⟨pv2, rfl, ho2, b2⟩
    have L2 := L1.below b2
    go_wp2_with fail
    refine (C1.out _ _ ho2.ps).mono ?_
    rintro e w3 ⟨rfl, b3⟩
    have L3 := L2.below b3
    clear c0 c1 c2 c3 c4 L1 L2 ho2 b2 b3
    have c0 := L3.p.c0
    have c1 := L3.p.c1
    have c2 := L3.p.c2
    have c3 := L3.p.c3
    have c4 := L3.p.c4
    go_wp2_with fail
    refine (R1.out _ L3.s).mono ?_
    rintro e w4 ⟨rfl, b4⟩
    have L4 := L3.below b4
    clear c0 c1 c2 c3 c4 L3 b4
    have c0 := L4.p.c0
    have c1 := L4.p.c1
    have c2 := L4.p.c2
    have c3 := L4.p.c3
    have c4 := L4.p.c4
    go_wp2_with fail
    have L4d := L4.drew
    clear c0 c1 c2 c3 c4
    go_region_held3 (fun W => W.cell? ⟨w.heap.size, 0, none⟩ = some (.string g) ∧ W.cell? ⟨w.heap.size, 1, none⟩ = some (.string n) ∧ W.cell? ⟨w.heap.size, 2, none⟩ = some (.slice pa ps.length pc) ∧ W.cell? ⟨w.heap.size, 3, none⟩ = some (.string v) ∧ W.cell? ⟨w.heap.size, 4, none⟩ = some (.slice aa m ac)) (exact Lw.cells (av := .slice aa m ac) (pv := .slice pa ps.length pc) (g := g) (n := n) (v := v) (ps := ps) (w := w) (by assumption)) (first | (go_at_call 7; (with_reducible refine (O.out _ (Lw.s (av := .slice aa m ac) (pv := .slice pa ps.length pc) (g := g) (n := n) (v := v) (ps := ps) (w := w) (by assumption))).mono ?_); rintro e w5 ⟨pv5, rfl, ho5, b5⟩; have hp5 := ho5.ps; have L5 := Lw.below (av := .slice aa m ac) (pv := .slice pa ps.length pc) (g := g) (n := n) (v := v) (ps := ps) (w := w) (by assumption) b5) | (go_at_call 9; (with_reducible refine (C2.out _ _ (by assumption)).mono ?_); rintro e w6 ⟨rfl, b6⟩; have L6 := Lw.below (av := .slice aa m ac) (pv := .slice pa ps.length pc) (g := g) (n := n) (v := v) (ps := ps) (w := w) (by assumption) b6) | (go_at_call 10; (with_reducible refine (R2.out _ (Lw.s (av := .slice aa m ac) (pv := .slice pa ps.length pc) (g := g) (n := n) (v := v) (ps := ps) (w := w) (by assumption))).mono ?_); rintro e w7 ⟨rfl, b7⟩; have L7 := Lw.below (av := .slice aa m ac) (pv := .slice pa ps.length pc) (g := g) (n := n) (v := v) (ps := ps) (w := w) (by assumption) b7; (try (have hq := Ps.up (Ps.below (v := pv5) (ps := ps) (by assumption) b7) b7.size))) | (go_at_call 11; first | ((with_reducible refine (C4.out _).mono ?_); rintro e w8 ⟨rfl, b8⟩; have L8 := Lw.below (av := .slice aa m ac) (pv := .slice pa ps.length pc) (g := g) (n := n) (v := v) (ps := ps) (w := w) (by assumption) b8) | ((with_reducible refine (C5.out _).mono ?_); rintro e w8 ⟨rfl, b8⟩; have L8 := Lw.below (av := .slice aa m ac) (pv := .slice pa ps.length pc) (g := g) (n := n) (v := v) (ps := ps) (w := w) (by assumption) b8)) | (go_at_call 12; (with_reducible refine (R3.out _).mono ?_); rintro e w9 ⟨rfl, rfl⟩))
    all_goals go_wp2_with fail
    all_goals (go_ret; exact ⟨rfl, Lw.b (av := .slice aa m ac) (pv := .slice pa ps.length pc) (g := g) (n := n) (v := v) (ps := ps) (w := w) (by assumption)⟩)
end Go.Proofs.Ytfgaabjpkmmpdaa.Pp
