/-
The law BlendTells holds at any two contacts and any name. Conditions: the fields lie below the caller's blocks.
-/
import Derived.Test.YtfghodakdnhleaaBlGreat
import Derived.Test.YtfghodakdnhleaaBlMiss
namespace Go.Proofs.Ytfghodakdnhleaa.Ct
set_option maxRecDepth 100000
open Go.RowKit

set_option maxHeartbeats 4000000 in
theorem pchanges_any (v v' : Value) (l m : List Fd) (w : World) (hl : Fs w w.heap.size v l) (hm : Fs w w.heap.size v' m) (hn : l.length ≤ 1000) (hn' : m.length ≤ 1000) (hsl : ∀ x ∈ l, Sm x) (hsm : ∀ x ∈ m, Sm x) :
    Calls Try.prog 11 #[.agg #[v], .agg #[v']] w fun e w' => e = .returned (.int .i64 ((missF l m + missF m l : Nat) : Int)) ∧ Below w.heap.size w w' := by
  obtain ⟨a, c, rfl⟩ := hl.shape
  obtain ⟨a', c', rfl⟩ := hm.shape
  have L0 := lw_new w _ _ _ _ hl hm
  have L0d := L0.drew
  have z0 := L0.z0
  have z1 := L0.z1
  have C1 : Hid (∀ W, Fs W W.heap.size (.slice a l.length c) l → Fs W W.heap.size (.slice a' m.length c') m → Calls Try.prog 13 #[.agg #[.slice a l.length c], .agg #[.slice a' m.length c']] W fun e w' => e = .returned (.int .i64 (missF l m : Int)) ∧ Below W.heap.size W w') := Lib.hid (fun W h h' => missing_any _ _ l m W h h' hn hn' hsl hsm)
  have C2 : Hid (∀ W, Fs W W.heap.size (.slice a l.length c) l → Fs W W.heap.size (.slice a' m.length c') m → Calls Try.prog 13 #[.agg #[.slice a' m.length c'], .agg #[.slice a l.length c]] W fun e w' => e = .returned (.int .i64 (missF m l : Int)) ∧ Below W.heap.size W w') := Lib.hid (fun W h h' => missing_any _ _ m l W h' h hn' hn hsm hsl)
  have h1 : missF l m ≤ 1000 := Nat.le_trans (missF_le _ _) hn
  have h2 : missF m l ≤ 1000 := Nat.le_trans (missF_le _ _) hn'
  generalize missF l m = p at C1 h1
  generalize missF m l = q at C2 h2
  have hw : IntKind.i64.wrap ((p : Int) + (q : Int)) = (p : Int) + (q : Int) := IntWalk.i64_in _ (by omega)
  have hc : ((p + q : Nat) : Int) = (p : Int) + (q : Int) := by omega
  rw [hc]
  clear hl hm hn hn' hsl hsm hc
  go_enter Try.func11, Try.ntmps11
  go_wp2_with fail
  go_region_held3 (fun W => W.cell? ⟨w.heap.size, 0, none⟩ = some (.slice a l.length c) ∧ W.cell? ⟨w.heap.size + 1, 0, none⟩ = some (.slice a' m.length c')) (exact Lw.cells (w := w) (l := l) (m := m) (by assumption)) (first
    | (go_at_call 13; (with_reducible refine (C1.out _ (Lw.l (w := w) (v' := .slice a' m.length c') (m := m) (by assumption)) (Lw.m (w := w) (v := .slice a l.length c) (l := l) (by assumption))).mono ?_); rintro e w5 ⟨rfl, b5⟩; have L5 := Lw.below (w := w) (v := .slice a l.length c) (v' := .slice a' m.length c') (l := l) (m := m) (by assumption) b5)
    | (go_at_call 13; (with_reducible refine (C2.out _ (Lw.l (w := w) (v' := .slice a' m.length c') (m := m) (by assumption)) (Lw.m (w := w) (v := .slice a l.length c) (l := l) (by assumption))).mono ?_); rintro e w6 ⟨rfl, b6⟩; have L6 := Lw.below (w := w) (v := .slice a l.length c) (v' := .slice a' m.length c') (l := l) (m := m) (by assumption) b6))
  all_goals go_wp2_with fail
  all_goals (go_ret; exact ⟨rfl, Lw.b (w := w) (v := .slice a l.length c) (v' := .slice a' m.length c') (l := l) (m := m) (by assumption)⟩)

/-- The law under way: its two boxes, and the fields of the name. -/
structure L3 (w W : World) (v v' u : Value) (l m g : List Fd) : Prop where
  lw : Lw w W v v' l m
  n : Fs W W.heap.size u g
section
variable {w W W' : World} {v v' u : Value} {l m g : List Fd}
theorem L3.below (h : L3 w W v v' u l m g) (hb : Below W.heap.size W W') : L3 w W' v v' u l m g := ⟨h.lw.below hb, (h.n.below hb).up hb.size⟩
theorem L3.drew (h : L3 w W v v' u l m g) : L3 w W.drew v v' u l m g := h.below ((Below.refl _ _).drew)
theorem L3.cells (h : L3 w W v v' u l m g) : W.cell? ⟨w.heap.size, 0, none⟩ = some v ∧ W.cell? ⟨w.heap.size + 1, 0, none⟩ = some v' := h.lw.cells
end

set_option maxHeartbeats 8000000 in
theorem blend_law (v v' : Value) (l m : List Fd) (s : ByteArray) (w : World) (hl : Fs w w.heap.size v l) (hm : Fs w w.heap.size v' m) (hn : l.length ≤ 9223372036854775807) (hn' : m.length ≤ 9223372036854775807) :
    Calls Try.prog 3 #[.agg #[v], .agg #[v'], .string s] w fun e w' => e = .returned (.bool true) ∧ Below w.heap.size w w' := by
  obtain ⟨a, c, rfl⟩ := hl.shape
  obtain ⟨a', c', rfl⟩ := hm.shape
  have L0 := lw_new w _ _ _ _ hl hm
  have z0 := L0.z0
  have z1 := L0.z1
  have CG := Lib.hid (fun v l W h hn => great2_any v l W h hn)
  have CGl := Lib.hid (CG.out _ _ _ L0.l hn)
  have HN := Lib.hid (And.intro hn hn')
  have HL0 := Lib.hid L0
  clear hl hm L0 hn hn'
  go_enter Try.func3, Try.ntmps3
  go_wp2_with fail
  refine CGl.out.mono ?_
  rintro e w1 ⟨g, rfl, hg, b1⟩
  have hL1 := HL0.out.below b1
  clear CGl HL0 b1 z0 z1
  have z0 := hL1.z0
  have z1 := hL1.z1
  have HL1 := Lib.hid hL1
  clear hL1
  cases g
  rotate_left
  · go_wp2_with fail
    go_ret
    exact ⟨rfl, HL1.out.b⟩
  have hl61 := Lib.hid (hg rfl)
  have CGm := Lib.hid (CG.out _ _ _ HL1.out.m HN.out.2)
  clear CG HN hg
  go_wp2_with fail
  refine CGm.out.mono ?_
  rintro e w2 ⟨g, rfl, hg, b2⟩
  have hL2 := HL1.out.below b2
  clear CGm HL1 b2 z0 z1
  have z0 := hL2.z0
  have z1 := hL2.z1
  have HL2 := Lib.hid hL2
  clear hL2
  cases g
  rotate_left
  · go_wp2_with fail
    go_ret
    exact ⟨rfl, HL2.out.b⟩
  have hm61 := Lib.hid (hg rfl)
  clear hg
  have CO := Lib.hid (fun v l W h hn => own_any v l W h hn)
  have CO1 := Lib.hid (CO.out (.slice a l.length c) l _ HL2.out.l (by have := hl61.out.1; omega))
  go_wp2_with fail
  refine CO1.out.mono ?_
  rintro e w3 ⟨ov, rfl, ho, b3⟩
  have hL3 := HL2.out.below b3
  have CN := Lib.hid (pnamed_any ov l s w3 ho (by have := hl61.out.1; omega))
  clear CO1 HL2 z0 z1 b3 ho
  have HL3 := Lib.hid hL3
  clear hL3
  go_wp2_with fail
  refine CN.out.mono ?_
  rintro e w4 ⟨nv, rfl, hnv, b4⟩
  have hL4 : L3 w w4 (.slice a l.length c) (.slice a' m.length c') nv l m (namF l s) := ⟨HL3.out.below b4, hnv.fs⟩
  have hL4d := hL4.drew
  have z0 := hL4.lw.z0
  have z1 := hL4.lw.z1
  clear CN HL3 b4 hnv
  have CSp : Hid (∀ W, Calls Try.prog 7 #[.string s] W fun e w' => e = .returned (.bool (sgl s)) ∧ Below W.heap.size W w') := Lib.hid (fun W => (psingle_any s W).mono (fun e w' ⟨h, h'⟩ => ⟨h, h' ▸ Below.refl _ _⟩))
  have CSf : Hid (∀ W, Calls Try.prog 7 #[.string ⟨#[70, 78]⟩] W fun e w' => e = .returned (.bool true) ∧ Below W.heap.size W w') := Lib.hid (fun W => (psingle_any ⟨#[70, 78]⟩ W).mono (fun e w' ⟨h, h'⟩ => ⟨by rw [h, show sgl ⟨#[70, 78]⟩ = true from by unfold sgl; rw [ByteArray.toList_eq]; decide], h' ▸ Below.refl _ _⟩))
  have CSr : Hid (∀ W, Calls Try.prog 8 #[.string s] W fun e w' => e = .returned (.bool (sgl s)) ∧ Below W.heap.size W w') := Lib.hid (fun W => (rsingle_any s W).mono (fun e w' ⟨h, h'⟩ => ⟨h, h' ▸ Below.refl _ _⟩))
  have CNr : Hid (∀ W, Fs W W.heap.size (.slice a l.length c) l → Calls Try.prog 10 #[.agg #[.slice a l.length c], .string s] W fun e w' => ∃ v', e = .returned v' ∧ Fs w' w'.heap.size v' (namF l s) ∧ Below W.heap.size W w') := Lib.hid (fun W h => (rnamed_any _ l s W h (by have := hl61.out.1; omega)).mono (fun e w' ⟨v', h1, h2, h3⟩ => ⟨v', h1, h2.fs, h3⟩))
  have CSm : Hid (∀ v v' W, Fs W W.heap.size v (namF l s) → Fs W W.heap.size v' (namF l s) → Calls Try.prog 9 #[.agg #[v], .agg #[v']] W fun e w' => e = .returned (.bool true) ∧ Below W.heap.size W w') := Lib.hid (fun v v' W h h' => (rsame_any v v' _ _ W h h' (by have := namF_le l s; have := hl61.out.1; omega) (by have := namF_le l s; have := hl61.out.1; omega)).mono (fun e w' ⟨h, h'⟩ => ⟨by rw [h, eqL_refl], h'⟩))
  have COa : Hid (∀ W, Fs W W.heap.size (.slice a l.length c) l → Calls Try.prog 6 #[.agg #[.slice a l.length c]] W fun e w' => ∃ v', e = .returned (.agg #[v']) ∧ Fs w' w'.heap.size v' l ∧ Below W.heap.size W w') := Lib.hid (fun W h => CO.out _ _ W h (by have := hl61.out.1; omega))
  have COb : Hid (∀ W, Fs W W.heap.size (.slice a' m.length c') m → Calls Try.prog 6 #[.agg #[.slice a' m.length c']] W fun e w' => ∃ v', e = .returned (.agg #[v']) ∧ Fs w' w'.heap.size v' m ∧ Below W.heap.size W w') := Lib.hid (fun W h => CO.out _ _ W h (by have := hm61.out.1; omega))
  have CPC : Hid (∀ v v' W, Fs W W.heap.size v l → Fs W W.heap.size v' m → Calls Try.prog 11 #[.agg #[v], .agg #[v']] W fun e w' => e = .returned (.int .i64 ((missF l m + missF m l : Nat) : Int)) ∧ Below W.heap.size W w') := Lib.hid (fun v v' W h h' => pchanges_any v v' l m W h h' (by have := hl61.out.1; omega) (by have := hm61.out.1; omega) hl61.out.2 hm61.out.2)
  have CRC : Hid (∀ W, Fs W W.heap.size (.slice a l.length c) l → Fs W W.heap.size (.slice a' m.length c') m → Calls Try.prog 12 #[.agg #[.slice a l.length c], .agg #[.slice a' m.length c']] W fun e w' => e = .returned (.int .i64 ((missF l m + missF m l : Nat) : Int)) ∧ Below W.heap.size W w') := Lib.hid (fun W h h' => rchanges_any _ _ l m W h h' (by have := hl61.out.1; omega) (by have := hm61.out.1; omega))
  generalize ((missF l m + missF m l : Nat) : Int) = q at CPC CRC
  generalize namF l s = g at hL4 hL4d CNr CSm
  generalize sgl s = b at CSp CSr
  obtain ⟨na, nc, rfl⟩ := hL4.n.shape
  have hbb : (b == b) = true := by simp
  have hqq : (q == q) = true := by simp
  clear CO hl61 hm61
  go_wp2_with fail
  go_region_held3 (fun W => W.cell? ⟨w.heap.size, 0, none⟩ = some (.slice a l.length c) ∧ W.cell? ⟨w.heap.size + 1, 0, none⟩ = some (.slice a' m.length c')) (exact L3.cells (w := w) (u := .slice na g.length nc) (l := l) (m := m) (g := g) (by assumption)) (first
    | (go_at_call 7; (with_reducible refine (CSf.out _).mono ?_); rintro e w5 ⟨rfl, b5⟩; have L5 := L3.below (w := w) (v := .slice a l.length c) (v' := .slice a' m.length c') (u := .slice na g.length nc) (l := l) (m := m) (g := g) (by assumption) b5)
    | (go_at_call 7; (with_reducible refine (CSp.out _).mono ?_); rintro e w6 ⟨rfl, b6⟩; have L6 := L3.below (w := w) (v := .slice a l.length c) (v' := .slice a' m.length c') (u := .slice na g.length nc) (l := l) (m := m) (g := g) (by assumption) b6)
    | (go_at_call 8; (with_reducible refine (CSr.out _).mono ?_); rintro e w7 ⟨rfl, b7⟩; have L7 := L3.below (w := w) (v := .slice a l.length c) (v' := .slice a' m.length c') (u := .slice na g.length nc) (l := l) (m := m) (g := g) (by assumption) b7)
    | (go_at_call 10; (with_reducible refine (CNr.out _ (Lw.l (w := w) (v' := .slice a' m.length c') (m := m) (L3.lw (u := .slice na g.length nc) (g := g) (by assumption)))).mono ?_); rintro e w8 ⟨rv, rfl, hrv, b8⟩; obtain ⟨ra, rc, rfl⟩ := hrv.shape; have L8 := L3.below (w := w) (v := .slice a l.length c) (v' := .slice a' m.length c') (u := .slice na g.length nc) (l := l) (m := m) (g := g) (by assumption) b8)
    | (go_at_call 9; (with_reducible refine (CSm.out _ _ _ (L3.n (w := w) (v := .slice a l.length c) (v' := .slice a' m.length c') (l := l) (m := m) (by assumption)) hrv).mono ?_); rintro e w9 ⟨rfl, b9⟩; have L9 := L3.below (w := w) (v := .slice a l.length c) (v' := .slice a' m.length c') (u := .slice na g.length nc) (l := l) (m := m) (g := g) (by assumption) b9)
    | (go_at_call 6; (with_reducible refine (COa.out _ (Lw.l (w := w) (v' := .slice a' m.length c') (m := m) (L3.lw (u := .slice na g.length nc) (g := g) (by assumption)))).mono ?_); rintro e w10 ⟨va, rfl, hva, b10⟩; have L10 := L3.below (w := w) (v := .slice a l.length c) (v' := .slice a' m.length c') (u := .slice na g.length nc) (l := l) (m := m) (g := g) (by assumption) b10; (try have hvb := (hvb.below b10).up b10.size))
    | (go_at_call 6; (with_reducible refine (COb.out _ (Lw.m (w := w) (v := .slice a l.length c) (l := l) (L3.lw (u := .slice na g.length nc) (g := g) (by assumption)))).mono ?_); rintro e w11 ⟨vb, rfl, hvb, b11⟩; have L11 := L3.below (w := w) (v := .slice a l.length c) (v' := .slice a' m.length c') (u := .slice na g.length nc) (l := l) (m := m) (g := g) (by assumption) b11; (try have hva := (hva.below b11).up b11.size))
    | (go_at_call 11; (with_reducible refine (CPC.out _ _ _ hva hvb).mono ?_); rintro e w12 ⟨rfl, b12⟩; have L12 := L3.below (w := w) (v := .slice a l.length c) (v' := .slice a' m.length c') (u := .slice na g.length nc) (l := l) (m := m) (g := g) (by assumption) b12)
    | (go_at_call 12; (with_reducible refine (CRC.out _ (Lw.l (w := w) (v' := .slice a' m.length c') (m := m) (L3.lw (u := .slice na g.length nc) (g := g) (by assumption))) (Lw.m (w := w) (v := .slice a l.length c) (l := l) (L3.lw (u := .slice na g.length nc) (g := g) (by assumption)))).mono ?_); rintro e w13 ⟨rfl, b13⟩; have L13 := L3.below (w := w) (v := .slice a l.length c) (v' := .slice a' m.length c') (u := .slice na g.length nc) (l := l) (m := m) (g := g) (by assumption) b13; (try have hva := (hva.below b13).up b13.size); (try have hvb := (hvb.below b13).up b13.size)))
  all_goals go_wp2_with fail
  all_goals (go_ret; exact ⟨rfl, Lw.b (w := w) (v := .slice a l.length c) (v' := .slice a' m.length c') (l := l) (m := m) (L3.lw (u := .slice na g.length nc) (g := g) (by assumption))⟩)
end Go.Proofs.Ytfghodakdnhleaa.Ct
