/-
The law ContactTells holds at any two contacts and any name. Conditions: the fields lie below the caller's blocks.
-/
import Derived.Test.YtjgfbicllgalkaaCtOwn
namespace Go.Proofs.Ytjgfbicllgalkaa.Ct
set_option maxRecDepth 100000
open Go.RowKit

/-- The law under way: its two boxes. -/
structure Lw (w W : World) (v v' : Value) (l m : List Fd) : Prop where
  z0 : W.cell? ⟨w.heap.size, 0, none⟩ = some v
  z1 : W.cell? ⟨w.heap.size + 1, 0, none⟩ = some v'
  b : Below w.heap.size w W
  s : w.heap.size + 1 < W.heap.size
  l : Fs W W.heap.size v l
  m : Fs W W.heap.size v' m
section
variable {w W W' : World} {v v' : Value} {l m : List Fd}
theorem Lw.below (h : Lw w W v v' l m) (hb : Below W.heap.size W W') : Lw w W' v v' l m :=
  ⟨(hb.cell (p := ⟨w.heap.size, 0, none⟩) (by have := h.s; show w.heap.size < _; omega)).trans h.z0, (hb.cell (p := ⟨w.heap.size + 1, 0, none⟩) h.s).trans h.z1, h.b.trans (hb.mono h.b.size), Nat.lt_of_lt_of_le h.s hb.size, (h.l.below hb).up hb.size, (h.m.below hb).up hb.size⟩
theorem Lw.drew (h : Lw w W v v' l m) : Lw w W.drew v v' l m := h.below ((Below.refl _ _).drew)
theorem Lw.cells (h : Lw w W v v' l m) : W.cell? ⟨w.heap.size, 0, none⟩ = some v ∧ W.cell? ⟨w.heap.size + 1, 0, none⟩ = some v' := ⟨h.z0, h.z1⟩
end
/-- .. with a field of each. -/
structure L2 (w W : World) (v v' : Value) (l m : List Fd) (b o b' o' i k : Nat) (x y : Fd) : Prop where
  lw : Lw w W v v' l m
  c : W.cell? ⟨b, o + i * 3, none⟩ = some (.string x.1) ∧ W.cell? ⟨b, o + i * 3 + 1, none⟩ = some (.string x.2.1) ∧ W.cell? ⟨b, o + i * 3 + 2, none⟩ = some (.string x.2.2)
  d : W.cell? ⟨b', o' + k * 3, none⟩ = some (.string y.1) ∧ W.cell? ⟨b', o' + k * 3 + 1, none⟩ = some (.string y.2.1) ∧ W.cell? ⟨b', o' + k * 3 + 2, none⟩ = some (.string y.2.2)
section
variable {w W W' : World} {v v' : Value} {l m : List Fd} {b o b' o' i k : Nat} {x y : Fd}
theorem L2.below (h : L2 w W v v' l m b o b' o' i k x y) (hb : Below W.heap.size W W') : L2 w W' v v' l m b o b' o' i k x y := by
  have E : ∀ (p : Addr) (u : Value), W.cell? p = some u → W'.cell? p = some u := fun p u hp => (hb.cell (World.block_lt_of_cell? W _ hp)).trans hp
  exact ⟨h.lw.below hb, ⟨E _ _ h.c.1, E _ _ h.c.2.1, E _ _ h.c.2.2⟩, ⟨E _ _ h.d.1, E _ _ h.d.2.1, E _ _ h.d.2.2⟩⟩
theorem L2.drew (h : L2 w W v v' l m b o b' o' i k x y) : L2 w W.drew v v' l m b o b' o' i k x y := h.below ((Below.refl _ _).drew)
theorem L2.cells (h : L2 w W v v' l m b o b' o' i k x y) : W.cell? ⟨w.heap.size, 0, none⟩ = some v ∧ W.cell? ⟨w.heap.size + 1, 0, none⟩ = some v' ∧ W.cell? ⟨b, o + i * 3, none⟩ = some (.string x.1) ∧ W.cell? ⟨b, o + i * 3 + 1, none⟩ = some (.string x.2.1) ∧ W.cell? ⟨b, o + i * 3 + 2, none⟩ = some (.string x.2.2) ∧ W.cell? ⟨b', o' + k * 3, none⟩ = some (.string y.1) ∧ W.cell? ⟨b', o' + k * 3 + 1, none⟩ = some (.string y.2.1) ∧ W.cell? ⟨b', o' + k * 3 + 2, none⟩ = some (.string y.2.2) :=
  ⟨h.lw.z0, h.lw.z1, h.c.1, h.c.2.1, h.c.2.2, h.d.1, h.d.2.1, h.d.2.2⟩
end
theorem cmp_ab : cmpF (⟨#[65]⟩, ⟨#[]⟩, ⟨#[]⟩) (⟨#[66]⟩, ⟨#[]⟩, ⟨#[]⟩) = -1 := by decide

set_option maxHeartbeats 8000000 in
theorem tells_law (v v' : Value) (l m : List Fd) (s : ByteArray) (w : World) (hl : Fs w w.heap.size v l) (hm : Fs w w.heap.size v' m) (hn : l.length ≤ 9223372036854775807) (hn' : m.length ≤ 9223372036854775807) :
    Calls Try.prog 3 #[.agg #[v], .agg #[v'], .string s] w fun e w' => e = .returned (.bool true) ∧ Below w.heap.size w w' := by
  obtain ⟨a, c, rfl⟩ := hl.shape
  obtain ⟨a', c', rfl⟩ := hm.shape
  have hb := two_boxes w (.cells #[.slice a l.length c] 24) (.cells #[.slice a' m.length c'] 24)
  have hX : ((w.alloc (.cells #[.slice a l.length c] 24)).alloc (.cells #[.slice a' m.length c'] 24)).heap[w.heap.size]? = some (.cells #[.slice a l.length c] 24 (0, 0)) :=
    (((Below.refl (w.heap.size + 1) (w.alloc (.cells #[.slice a l.length c] 24))).alloc (by simp) _).block _ (by omega)).trans (heap_alloc_new w _)
  have hY := heap_alloc_new (w.alloc (.cells #[.slice a l.length c] 24)) (.cells #[.slice a' m.length c'] 24)
  rw [World.size_alloc] at hY
  have z0 := cell_of_row _ w.heap.size 0 _ _ _ hX
  have z1 := cell_of_row _ (w.heap.size + 1) 0 _ _ _ hY
  have hsz : w.heap.size + 1 < ((w.alloc (.cells #[.slice a l.length c] 24)).alloc (.cells #[.slice a' m.length c'] 24)).heap.size := (Array.getElem?_eq_some_iff.1 hY).1
  have L0 : Lw w ((w.alloc (.cells #[.slice a l.length c] 24)).alloc (.cells #[.slice a' m.length c'] 24)) (.slice a l.length c) (.slice a' m.length c') l m := ⟨z0, z1, hb, hsz, (hl.below hb).up hb.size, (hm.below hb).up hb.size⟩
  have CG := Lib.hid (fun v l W h hn => great_any v l W h hn)
  have CGl := Lib.hid (CG.out _ _ _ L0.l hn)
  have HN := Lib.hid (And.intro hn hn')
  have HL0 := Lib.hid L0
  clear hl hm hb hsz hX hY L0 hn hn'
  go_enter Try.func3, Try.ntmps3
  go_wp2_with fail
  refine CGl.out.mono ?_
  rintro e w1 ⟨g, rfl, hg, b1⟩
  have hL1 := HL0.out.below b1
  clear CGl HL0 b1 z0 z1
  have z0 := hL1.z0
  have z1 := hL1.z1
  have HL1 := Lib.hid hL1
  clear hL1
  cases g
  rotate_left
  · go_wp2_with fail
    go_ret
    exact ⟨rfl, HL1.out.b⟩
  have hl61 := hg rfl
  have CGm := Lib.hid (CG.out _ _ _ HL1.out.m HN.out.2)
  clear CG HN hg
  go_wp2_with fail
  refine CGm.out.mono ?_
  rintro e w2 ⟨g, rfl, hg, b2⟩
  have hL2 := HL1.out.below b2
  clear CGm HL1 b2 z0 z1
  have z0 := hL2.z0
  have z1 := hL2.z1
  have HL2 := Lib.hid hL2
  clear hL2
  cases g
  rotate_left
  · go_wp2_with fail
    go_ret
    exact ⟨rfl, HL2.out.b⟩
  have hm61 := hg rfl
  clear hg
  have CP := Lib.hid (fun x y W => pcmp_any x y W)
  have CR := Lib.hid (fun x y W => rcmp_any x y W)
  go_wp2_with fail
  go_loopw [7, 8] (fun iv _ wr => ∃ i : Nat, i ≤ l.length ∧ iv = .int .i64 i ∧ Lw w wr (.slice a l.length c) (.slice a' m.length c') l m) (fun iv _ _ => l.length - (intOf iv).toNat)
  case atStart => exact ⟨0, Nat.zero_le _, rfl, HL2.out⟩
  case round =>
    clear HL2 z0 z1
    obtain ⟨i, hi, rfl, hlw⟩ := hrel
    have z0 := hlw.z0
    have z1 := hlw.z1
    by_cases hil : i < l.length
    · have hiz : (i : Int) < (l.length : Int) := by omega
      have HLW := Lib.hid hlw
      clear hlw
      go_wp2_with fail
      go_loopw [8] (fun kv wr => ∃ k : Nat, k ≤ m.length ∧ kv = .int .i64 k ∧ Lw w wr (.slice a l.length c) (.slice a' m.length c') l m) (fun kv _ => m.length - (intOf kv).toNat)
      case atStart => exact ⟨0, Nat.zero_le _, rfl, HLW.out⟩
      case round =>
        clear HLW z0 z1
        obtain ⟨k, hk, rfl, hlw⟩ := hrel
        by_cases hkl : k < m.length
        · have hkz : (k : Int) < (m.length : Int) := by omega
          obtain ⟨b, o, cap, hv1, hbB, c0⟩ := hlw.l.at_ hil
          obtain ⟨b', o', cap', hv1', hbB', d0⟩ := hlw.m.at_ hkl
          simp only [Value.slice.injEq, true_and] at hv1 hv1'
          obtain ⟨rfl, rfl⟩ := hv1
          obtain ⟨rfl, rfl⟩ := hv1'
          generalize l[i] = x at c0
          generalize m[k] = y at d0
          have h2 : L2 w wr (.slice (some ⟨b, o, none⟩) l.length c) (.slice (some ⟨b', o', none⟩) m.length c') l m b o b' o' i k x y := ⟨hlw, c0, d0⟩
          have h2d := h2.drew
          obtain ⟨z0, z1, q0, q1, q2, r0, r1, r2⟩ := h2.cells
          have CPx : Hid (∀ W, Calls Try.prog 5 #[.agg #[.string x.1, .string x.2.1, .string x.2.2], .agg #[.string y.1, .string y.2.1, .string y.2.2]] W fun e w' => e = .returned (.int .i64 (cmpF x y)) ∧ Below W.heap.size W w') := Lib.hid (fun W => CP.out x y W)
          have CRx : Hid (∀ W, Calls Try.prog 6 #[.agg #[.string x.1, .string x.2.1, .string x.2.2], .agg #[.string y.1, .string y.2.1, .string y.2.2]] W fun e w' => e = .returned (.int .i64 (cmpF x y)) ∧ Below W.heap.size W w') := Lib.hid (fun W => CR.out x y W)
          generalize cmpF x y = z at CPx CRx
          obtain ⟨x0, x1, x2⟩ := x
          obtain ⟨y0, y1, y2⟩ := y
          simp only at q0 q1 q2 r0 r1 r2 CPx CRx
          clear hlw c0 d0 hbB hbB' CP CR
          go_wp2_with fail
          go_region_held3 (fun W => W.cell? ⟨w.heap.size, 0, none⟩ = some (.slice (some ⟨b, o, none⟩) l.length c) ∧ W.cell? ⟨w.heap.size + 1, 0, none⟩ = some (.slice (some ⟨b', o', none⟩) m.length c') ∧ W.cell? ⟨b, o + i * 3, none⟩ = some (.string x0) ∧ W.cell? ⟨b, o + i * 3 + 1, none⟩ = some (.string x1) ∧ W.cell? ⟨b, o + i * 3 + 2, none⟩ = some (.string x2) ∧ W.cell? ⟨b', o' + k * 3, none⟩ = some (.string y0) ∧ W.cell? ⟨b', o' + k * 3 + 1, none⟩ = some (.string y1) ∧ W.cell? ⟨b', o' + k * 3 + 2, none⟩ = some (.string y2)) (exact L2.cells (w := w) (l := l) (m := m) (x := (x0, x1, x2)) (y := (y0, y1, y2)) (by assumption)) (first
            | (go_at_call 5; (with_reducible refine (CPx.out _).mono ?_); rintro e w5 ⟨rfl, b5⟩; have L5 := L2.below (w := w) (v := .slice (some ⟨b, o, none⟩) l.length c) (v' := .slice (some ⟨b', o', none⟩) m.length c') (l := l) (m := m) (b := b) (o := o) (b' := b') (o' := o') (i := i) (k := k) (x := (x0, x1, x2)) (y := (y0, y1, y2)) (by assumption) b5)
            | (go_at_call 6; (with_reducible refine (CRx.out _).mono ?_); rintro e w6 ⟨rfl, b6⟩; have L6 := L2.below (w := w) (v := .slice (some ⟨b, o, none⟩) l.length c) (v' := .slice (some ⟨b', o', none⟩) m.length c') (l := l) (m := m) (b := b) (o := o) (b' := b') (o' := o') (i := i) (k := k) (x := (x0, x1, x2)) (y := (y0, y1, y2)) (by assumption) b6))
          all_goals go_wp2_with fail
          all_goals go_roundw
          all_goals (first | exact ⟨k + 1, by omega, by go_num, L2.lw (by assumption)⟩ | (simp [intOf] <;> omega))
        · obtain rfl : k = m.length := by omega
          have hkz : ¬ (m.length : Int) < (m.length : Int) := by omega
          have z1 := hlw.z1
          have HLW := Lib.hid hlw
          clear hlw
          go_wp2_with fail
          go_roundw
          case rel => exact ⟨i + 1, by omega, by go_num, HLW.out⟩
          case measure => simp [intOf] <;> omega
    · obtain rfl : i = l.length := by omega
      have hiz : ¬ (l.length : Int) < (l.length : Int) := by omega
      have CO := Lib.hid (fun v l W h hn => own_any v l W h hn)
      have CPG := Lib.hid (fun v l W h => pget_any v l s W h)
      have CRG := Lib.hid (rget_any (.slice a l.length c) l s)
      have CPS := Lib.hid (fun v v' W h h' => psame_any v v' l m W h h' (by omega) (by omega))
      have CRS := Lib.hid (fun W h h' => rsame_any (.slice a l.length c) (.slice a' m.length c') l m W h h' (by omega) (by omega))
      have CO1 := Lib.hid (CO.out (.slice a l.length c) l _ hlw.l (by omega))
      have HLW := Lib.hid hlw
      have HLM := Lib.hid (And.intro hl61 hm61)
      clear hlw CP CR
      go_wp2_with fail
      refine CO1.out.mono ?_
      rintro e w3 ⟨ov, rfl, ho, b3⟩
      have hL := HLW.out.below b3
      have C4 := Lib.hid (CPG.out ov l w3 ho (by have := HLM.out; omega))
      clear CO1 HLW z0 z1 b3 CPG
      have HL := Lib.hid hL
      clear hL ho
      go_wp2_with fail
      refine C4.out.mono ?_
      rintro e w4 ⟨rfl, b4⟩
      have hL := HL.out.below b4
      have C5 := Lib.hid (CRG.out w4 hL.l (by have := HLM.out; omega))
      clear C4 HL b4 CRG
      have z0 := hL.z0
      have HL := Lib.hid hL
      clear hL
      go_wp2_with fail
      refine C5.out.mono ?_
      rintro e w5 ⟨rfl, b5⟩
      have L5 := HL.out.below b5
      have L5d := L5.drew
      clear C5 HL b5 z0
      have z0 := L5.z0
      have z1 := L5.z1
      have COa : Hid (∀ W, Fs W W.heap.size (.slice a l.length c) l → Calls Try.prog 8 #[.agg #[.slice a l.length c]] W fun e w' => ∃ v', e = .returned (.agg #[v']) ∧ Fs w' w'.heap.size v' l ∧ Below W.heap.size W w') := Lib.hid (fun W h => CO.out _ _ W h (by have := HLM.out; omega))
      have COb : Hid (∀ W, Fs W W.heap.size (.slice a' m.length c') m → Calls Try.prog 8 #[.agg #[.slice a' m.length c']] W fun e w' => ∃ v', e = .returned (.agg #[v']) ∧ Fs w' w'.heap.size v' m ∧ Below W.heap.size W w') := Lib.hid (fun W h => CO.out _ _ W h (by have := HLM.out; omega))
      have CAB : Hid (∀ W, Calls Try.prog 5 #[.agg #[.string ⟨#[65]⟩, .string ⟨#[]⟩, .string ⟨#[]⟩], .agg #[.string ⟨#[66]⟩, .string ⟨#[]⟩, .string ⟨#[]⟩]] W fun e w' => e = .returned (.int .i64 (-1)) ∧ Below W.heap.size W w') := Lib.hid (fun W => by have h := pcmp_any (⟨#[65]⟩, ⟨#[]⟩, ⟨#[]⟩) (⟨#[66]⟩, ⟨#[]⟩, ⟨#[]⟩) W; rw [cmp_ab] at h; exact h)
      generalize getV l s = gv
      generalize getB l s = gb
      generalize eqL l m = eq at CPS CRS
      have hbb : (gb == gb) = true := by simp
      have hee : (eq == eq) = true := by simp
      clear CO hl61 hm61
      go_wp2_with fail
      go_region_held3 (fun W => W.cell? ⟨w.heap.size, 0, none⟩ = some (.slice a l.length c) ∧ W.cell? ⟨w.heap.size + 1, 0, none⟩ = some (.slice a' m.length c')) (exact Lw.cells (w := w) (l := l) (m := m) (by assumption)) (first
        | (go_at_call 8; (with_reducible refine (COa.out _ (Lw.l (w := w) (v' := .slice a' m.length c') (m := m) (by assumption))).mono ?_); rintro e w6 ⟨va, rfl, hva, b6⟩; have L6 := Lw.below (w := w) (v := .slice a l.length c) (v' := .slice a' m.length c') (l := l) (m := m) (by assumption) b6; (try have hvb := (hvb.below b6).up b6.size))
        | (go_at_call 8; (with_reducible refine (COb.out _ (Lw.m (w := w) (v := .slice a l.length c) (l := l) (by assumption))).mono ?_); rintro e w7 ⟨vb, rfl, hvb, b7⟩; have L7 := Lw.below (w := w) (v := .slice a l.length c) (v' := .slice a' m.length c') (l := l) (m := m) (by assumption) b7; (try have hva := (hva.below b7).up b7.size))
        | (go_at_call 10; (with_reducible refine (CPS.out _ _ _ hva hvb).mono ?_); rintro e w8 ⟨rfl, b8⟩; have L8 := Lw.below (w := w) (v := .slice a l.length c) (v' := .slice a' m.length c') (l := l) (m := m) (by assumption) b8)
        | (go_at_call 11; (with_reducible refine (CRS.out _ (Lw.l (w := w) (v' := .slice a' m.length c') (m := m) (by assumption)) (Lw.m (w := w) (v := .slice a l.length c) (l := l) (by assumption))).mono ?_); rintro e w9 ⟨rfl, b9⟩; have L9 := Lw.below (w := w) (v := .slice a l.length c) (v' := .slice a' m.length c') (l := l) (m := m) (by assumption) b9; (try have hva := (hva.below b9).up b9.size); (try have hvb := (hvb.below b9).up b9.size))
        | (go_at_call 5; (with_reducible refine (CAB.out _).mono ?_); rintro e w10 ⟨rfl, b10⟩; have L10 := Lw.below (w := w) (v := .slice a l.length c) (v' := .slice a' m.length c') (l := l) (m := m) (by assumption) b10))
      all_goals go_wp2_with fail
      all_goals (go_ret; exact ⟨rfl, Lw.b (w := w) (v := .slice a l.length c) (v' := .slice a' m.length c') (l := l) (m := m) (by assumption)⟩)
end Go.Proofs.Ytjgfbicllgalkaa.Ct
