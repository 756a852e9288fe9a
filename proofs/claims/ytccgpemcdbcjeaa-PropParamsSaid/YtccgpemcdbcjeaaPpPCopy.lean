/-
prop.copied, to any depth of cards: the parameters in a row of the call's own, as many cards as there were. Conditions: what comes in lies below the caller's blocks.
-/
import Derived.Test.YtccgpemcdbcjeaaPpPTree
namespace Go.Proofs.Ytccgpemcdbcjeaa.Pp
open Go.RowKit

section
variable {w wr w1 : World} {b : Nat} {g n v : ByteArray} {pv av : Value}
theorem At.set2 (h : PrAt w b g n pv v av) (x : Value) : PrAt (w.setCell ⟨b, 2, none⟩ x) b g n x v av := heapSet h _
theorem At.set4 (h : PrAt w b g n pv v av) (x : Value) : PrAt (w.setCell ⟨b, 4, none⟩ x) b g n pv v x := heapSet h _
theorem At.other (h : PrAt w b g n pv v av) {a : Addr} (ha : b ≠ a.block) (u : Value) : PrAt (w.setCell a u) b g n pv v av := (Below.heap_setCell w a u b ha).trans h
theorem At.f (h : PrAt w b g n pv v av) (j : Nat) : w.frozen? ⟨b, j, none⟩ = false := frozen_of_row _ _ _ _ _ h
end
theorem own_below {w w' : World} {base : Nat} {v : Value} {ps : List (ByteArray × ByteArray)} (h : Own w base v ps) (hb : Below w.heap.size w w') : Own w' base v ps := by
  obtain ⟨h0, h⟩ := h
  refine ⟨h0, ?_⟩
  rcases h with h | ⟨g, cap, cur, h1, h2, h3, h4⟩
  · exact .inl h
  · exact .inr ⟨g, cap, cur, h1, h2, (hb.block g (Array.getElem?_eq_some_iff.1 h3).1).trans h3, h4⟩
theorem own_setNe {w : World} {base : Nat} {v : Value} {ps : List (ByteArray × ByteArray)} (h : Own w base v ps) {a : Addr} (hne : ∀ k, v.ownBlock = some k → k ≠ a.block) (u : Value) : Own (w.setCell a u) base v ps := by
  obtain ⟨h0, h⟩ := h
  refine ⟨h0, ?_⟩
  rcases h with h | ⟨g, cap, cur, rfl, h2, h3, h4⟩
  · exact .inl h
  · exact .inr ⟨g, cap, cur, rfl, h2, (Below.heap_setCell w a u g (hne g rfl)).trans h3, h4⟩
theorem own_blk {w : World} {base : Nat} {v : Value} {ps : List (ByteArray × ByteArray)} (h : Own w base v ps) (k : Nat) (e : v.ownBlock = some k) : base ≤ k ∧ k < w.heap.size := by
  obtain ⟨_, ⟨rfl, _⟩ | ⟨g, cap, cur, rfl, h2, h3, _⟩⟩ := h
  · simp [Value.ownBlock] at e
  · cases e; exact ⟨h2, (Array.getElem?_eq_some_iff.1 h3).1⟩

/-- The copy while it is made: its box, the result, the parameters' row; what is written from X on is no part of them. -/
structure Cp (w W : World) (X : Nat) (g n : ByteArray) (pv : Value) (v : ByteArray) (av : Value) (ps : List (ByteArray × ByteArray)) : Prop where
  p : PrAt W w.heap.size g n pv v av
  r : PrAt W (w.heap.size + 1) ⟨#[]⟩ ⟨#[]⟩ (.slice none 0 0) ⟨#[]⟩ (.slice none 0 0)
  own : Own W (w.heap.size + 2) pv ps
  x : w.heap.size + 2 ≤ X
  xs : X ≤ W.heap.size
  low : ∀ k, pv.ownBlock = some k → k < X
  b : Below w.heap.size w W
section
variable {w W W' : World} {X : Nat} {g n v : ByteArray} {pv av : Value} {ps : List (ByteArray × ByteArray)}
theorem Cp.below (h : Cp w W X g n pv v av ps) (hb : Below W.heap.size W W') : Cp w W' X g n pv v av ps :=
  ⟨h.p.below hb, h.r.below hb, own_below h.own hb, h.x, Nat.le_trans h.xs hb.size, h.low, h.b.trans (hb.mono h.b.size)⟩
theorem Cp.far (h : Cp w W X g n pv v av ps) {a : Addr} (ha : X ≤ a.block) (u : Value) : Cp w (W.setCell a u) X g n pv v av ps :=
  ⟨At.other h.p (by have := h.x; omega) u, At.other h.r (by have := h.x; omega) u, own_setNe h.own (fun k e => by have := h.low k e; omega) u, h.x, by rw [World.size_setCell]; exact h.xs, h.low, h.b.setCell (by have := h.x; omega) u⟩
end

set_option maxRecDepth 100000 in
set_option maxHeartbeats 8000000 in
theorem copied_any : ∀ (k : Nat) (g n v : ByteArray) (pv : Value) (aa : Option Addr) (m ac : Nat) (ps : List (ByteArray × ByteArray)) (w : World), Ps w w.heap.size pv ps → ps.length ≤ maxLen → ps.length * 32 ≤ 140737488355328 → AgT w w.heap.size k (.slice aa m ac) →
    Calls Try.prog 33 #[prV g n pv v (.slice aa m ac)] w fun e w' => ∃ pv' a' c', e = .returned (prV g n pv' v (.slice a' m c')) ∧ Own w' w.heap.size pv' ps ∧ Below w.heap.size w w' := by
  intro k
  induction k with
  | zero => intro g n v pv aa m ac ps w _ _ _ h; exact h.elim
  | succ k ih =>
    intro g n v pv aa m ac ps w hps hl1 hl2 hag
    obtain ⟨pa, pc, rfl⟩ := hps.shape
    unfold prV
    have IH := Lib.hid ih
    clear ih
    have HM : Hid (m ≤ maxLen) := Lib.hid (by obtain ⟨aa', m', ac', e, h1, _⟩ := hag; cases e; exact h1)
    have hb1 : Below w.heap.size w (w.alloc (.cells #[.string g, .string n, .slice pa ps.length pc, .string v, .slice aa m ac] 28)) := (Below.refl _ _).alloc (Nat.le_refl _) _
    have z1 : (w.alloc (.cells #[.string g, .string n, .slice pa ps.length pc, .string v, .slice aa m ac] 28)).heap.size = w.heap.size + 1 := World.size_alloc _ _
    have hp1 : PrAt (w.alloc (.cells #[.string g, .string n, .slice pa ps.length pc, .string v, .slice aa m ac] 28)) w.heap.size g n (.slice pa ps.length pc) v (.slice aa m ac) := heap_alloc_new w _
    have hb2 : Below (w.heap.size + 1) (w.alloc (.cells #[.string g, .string n, .slice pa ps.length pc, .string v, .slice aa m ac] 28)) ((w.alloc (.cells #[.string g, .string n, .slice pa ps.length pc, .string v, .slice aa m ac] 28)).alloc (.cells #[.string ⟨#[]⟩, .string ⟨#[]⟩, .slice none 0 0, .string ⟨#[]⟩, .slice none 0 0] 28)) := (Below.refl _ _).alloc (Nat.le_of_eq z1.symm) _
    have hr2 : PrAt ((w.alloc (.cells #[.string g, .string n, .slice pa ps.length pc, .string v, .slice aa m ac] 28)).alloc (.cells #[.string ⟨#[]⟩, .string ⟨#[]⟩, .slice none 0 0, .string ⟨#[]⟩, .slice none 0 0] 28)) (w.heap.size + 1) ⟨#[]⟩ ⟨#[]⟩ (.slice none 0 0) ⟨#[]⟩ (.slice none 0 0) := by rw [← z1]; exact heap_alloc_new _ _
    have hp2 := hp1.below (hb2.mono (Nat.le_of_eq z1))
    have z2 : ((w.alloc (.cells #[.string g, .string n, .slice pa ps.length pc, .string v, .slice aa m ac] 28)).alloc (.cells #[.string ⟨#[]⟩, .string ⟨#[]⟩, .slice none 0 0, .string ⟨#[]⟩, .slice none 0 0] 28)).heap.size = w.heap.size + 2 := by rw [World.size_alloc, z1]
    have hbb := hb1.trans (hb2.mono (Nat.le_succ _))
    have hps2 := (hps.below hbb).up hbb.size
    have CP := Lib.hid (cloneP_ps _ ps _ hps2 hl1 hl2)
    have CC := Lib.hid (fun W h => cloneC_ag hag W h aa m ac rfl)
    have k2 := hp2.c2
    have f2 := At.f hp2 2
    have HALL := Lib.hid (And.intro hp2 (And.intro hr2 (And.intro z2 hbb)))
    clear hps hps2 hag hl1 hl2 hb1 hb2 hp1 z1 hr2 hp2 hbb z2
    go_enter Try.func33, Try.ntmps33
    go_wp2_with fail
    refine CP.out.mono ?_
    rintro e w1 ⟨pv1, rfl, hown, b1⟩
    obtain ⟨qa, qc, rfl⟩ := shapeP hown
    obtain ⟨hp2, hr2, z2, hbb⟩ := HALL.out
    rw [z2] at hown
    have hpa := hp2.below b1
    have hra := hr2.below b1
    have hsz := b1.size
    rw [z2] at hsz
    have hB1 := hbb.trans (b1.mono (by rw [z2]; omega))
    have hpb := At.set2 hpa (.slice qa ps.length qc)
    have hrb := At.other hra (a := ⟨w.heap.size, 2, none⟩) (by show w.heap.size + 1 ≠ w.heap.size; omega) (.slice qa ps.length qc)
    have hownb := own_setNe hown (a := ⟨w.heap.size, 2, none⟩) (fun k e => by have := own_blk hown k e; show k ≠ w.heap.size; omega) (.slice qa ps.length qc)
    have hBb := hB1.setCell (p := ⟨w.heap.size, 2, none⟩) (Nat.le_refl _) (.slice qa ps.length qc)
    have hblk := own_blk hown
    clear k2 f2 HALL CP b1 hp2 hr2 z2 hbb hra hown hB1
    have k2 := hpa.c2
    have f2 := At.f hpa 2
    have k4 := hpb.c4
    have f4 := At.f hpb 4
    clear hpa
    go_wp2_with fail
    refine (CC.out _ hBb).mono ?_
    rintro e w3 ⟨a', c', rfl, hrow, b3⟩
    rw [World.size_setCell] at hrow
    have hp3 := hpb.below b3
    have hr3 := hrb.below b3
    have hown3 := own_below hownb b3
    have hB3 := hBb.trans (b3.mono hBb.size)
    have hX3 : w1.heap.size ≤ w3.heap.size := by have := b3.size; rw [World.size_setCell] at this; exact this
    have hCP : Cp w (w3.setCell ⟨w.heap.size, 4, none⟩ (.slice a' m c')) w1.heap.size g n (.slice qa ps.length qc) v (.slice a' m c') ps :=
      ⟨At.set4 hp3 _, At.other hr3 (by show w.heap.size + 1 ≠ w.heap.size; omega) _, own_setNe hown3 (fun k e => by have := hblk k e; show k ≠ w.heap.size; omega) _, hsz, by rw [World.size_setCell]; exact hX3, fun k e => (hblk k e).2, hB3.setCell (p := ⟨w.heap.size, 4, none⟩) (Nat.le_refl _) _⟩
    have hRW : Hid (0 < m → ∃ ga, a' = some ⟨ga, 0, none⟩ ∧ w1.heap.size ≤ ga ∧ RowC (w3.setCell ⟨w.heap.size, 4, none⟩ (.slice a' m c')) ga m 0 (CaT w w.heap.size (AgT w w.heap.size k))) := Lib.hid (fun h => by
      obtain ⟨ga, e, hg, hr⟩ := hrow h
      exact ⟨ga, e, hg, hr.other (by show ga ≠ w.heap.size; omega) _⟩)
    clear k2 f2 k4 f4 hpb hrb hownb hBb hblk hrow hr3 hown3 hB3 hX3 CC b3
    have k4 := hp3.c4
    have f4 := At.f hp3 4
    have k4b := hCP.p.c4
    clear hp3
    have HCP := Lib.hid hCP
    clear hCP
    have hmx : (maxLen : Int) ≤ 9223372036854775807 := by decide
    have hmz : (m : Int) ≤ 9223372036854775807 := by have := HM.out; omega
    clear hmx
    have HMZ := Lib.hid hmz
    clear hmz
    go_wp2_with fail
    clear k4 f4 k4b
    go_loopw [17] (fun iv wr => ∃ i : Nat, i ≤ m ∧ iv = .int .i64 (i : Int) ∧ Cp w wr w1.heap.size g n (.slice qa ps.length qc) v (.slice a' m c') ps ∧ Hid (0 < m → ∃ ga, a' = some ⟨ga, 0, none⟩ ∧ w1.heap.size ≤ ga ∧ RowC wr ga m i (CaT w w.heap.size (AgT w w.heap.size k)))) (fun iv _ => m - (intOf iv).toNat)
    case atStart => exact ⟨0, Nat.zero_le _, rfl, HCP.out, hRW⟩
    case round =>
      obtain ⟨i, hi, rfl, hcp, hrow⟩ := hrel
      clear hRW HCP
      by_cases hlt : i < m
      · obtain ⟨ga, rfl, hga, hrc⟩ := hrow.out (by omega)
        clear hrow
        obtain ⟨sv, s0, sf, hca⟩ := hrc.at_ hlt
        have hcaS := hca
        obtain ⟨ra, rm, rc, rfl, hrm, _⟩ := hcaS
        have hltz : (i : Int) < (m : Int) := by omega
        have k4 := hcp.p.c4
        have CR := Lib.hid (cloneR_ca hca (fun v hv => hv.one.1) wr hcp.b)
        have HRM := Lib.hid hrm
        have HCP := Lib.hid hcp
        have HRC := Lib.hid hrc
        clear hca hrm hcp hrc
        go_wp2_with fail
        refine CR.out.mono ?_
        rintro e w5 ⟨q', qc', rfl, hrr, b5⟩
        have hcp5 := HCP.out.below b5
        have hrc5 := HRC.out.below b5
        have hgw : ga < wr.heap.size := by obtain ⟨cur, h1, _⟩ := HRC.out; exact (Array.getElem?_eq_some_iff.1 h1).1
        obtain ⟨Y, hY⟩ : ∃ Y, wr.heap.size = Y := ⟨_, rfl⟩
        rw [hY] at hrr hgw
        clear CR HCP HRC k4 s0 sf
        go_wp2_with fail
        go_loopw [29] (fun jv wr => ∃ j : Nat, j ≤ rm ∧ jv = .int .i64 (j : Int) ∧ Cp w wr w1.heap.size g n (.slice qa ps.length qc) v (.slice (some ⟨ga, 0, none⟩) m c') ps ∧ RowC wr ga m i (CaT w w.heap.size (AgT w w.heap.size k)) ∧ Hid (0 < rm → ∃ gp, q' = some ⟨gp, 0, none⟩ ∧ Y ≤ gp ∧ RowR wr gp rm j (fun pv ps bv => Ps w w.heap.size pv ps ∧ ps.length ≤ maxLen ∧ ps.length * 32 ≤ 140737488355328 ∧ AgT w w.heap.size k bv))) (fun jv _ => rm - (intOf jv).toNat)
        case atStart => exact ⟨0, Nat.zero_le _, rfl, hcp5, hrc5, Lib.hid hrr⟩
        case round =>
          obtain ⟨j, hj, rfl, hcp, hrc, hrr⟩ := hrel
          clear hcp5 hrc5
          by_cases hlj : j < rm
          · obtain ⟨gp, rfl, hgp, hrr⟩ := hrr.out (by omega)
            obtain ⟨g1, n1, v1, pv1, bv, ps1, e0, e1, e2, e3, e4, ef, hp1, hl1, hl2, hag⟩ := hrr.at_ hlj
            obtain ⟨ba, bm, bc, rfl⟩ := hag.one.2
            obtain ⟨oa, oc, rfl⟩ := hp1.shape
            have hljz : (j : Int) < (rm : Int) := by omega
            have CI := Lib.hid (IH.out g1 n1 v1 _ ba bm bc ps1 wr ((hp1.below hcp.b).up hcp.b.size) hl1 hl2 ((hag.below hcp.b).up hcp.b.size))
            unfold prV at CI
            have HCP := Lib.hid hcp
            have HRC := Lib.hid hrc
            have HRR := Lib.hid hrr
            clear hp1 hl1 hl2 hag hcp hrc hrr ef
            go_wp2_with fail
            refine CI.out.mono ?_
            rintro e w6 ⟨pv2, a2, c2, rfl, hown2, b6⟩
            obtain ⟨xa, xc, rfl⟩ := shapeP hown2
            have HCP6 := HCP.out.below b6
            have HRC6 := HRC.out.below b6
            have HRR6 := HRR.out.below b6
            obtain ⟨y0, y1, y2, y3, y4, y5, d0, d1, d2, d3, d4, df, _⟩ := HRR6.at_ hlj
            have df0 := df (j * 5)
            have df1 := df (j * 5 + 1)
            have df2 := df (j * 5 + 2)
            have df3 := df (j * 5 + 3)
            have df4 := df (j * 5 + 4)
            have hX := HCP6.x
            have hne : ga ≠ gp := by omega
            have hgX : w1.heap.size ≤ gp := by omega
            clear df e0 e1 e2 e3 e4 CI HCP HRC HRR b6 hown2
            have HA := Lib.hid (And.intro HCP6 (And.intro HRC6 HRR6))
            clear HCP6 HRC6 HRR6
            go_wp2_with fail
            go_roundw
            case rel =>
              obtain ⟨HCP6, HRC6, HRR6⟩ := HA.out
              refine ⟨j + 1, by omega, by go_num, ?_, ?_, Lib.hid (fun _ => ⟨gp, rfl, hgp, HRR6.set _ _ _ _ _⟩)⟩
              · exact ((((HCP6.far (a := ⟨gp, j * 5, none⟩) hgX _).far (a := ⟨gp, j * 5 + 1, none⟩) hgX _).far (a := ⟨gp, j * 5 + 2, none⟩) hgX _).far (a := ⟨gp, j * 5 + 3, none⟩) hgX _).far (a := ⟨gp, j * 5 + 4, none⟩) hgX _
              · exact ((((HRC6.other (a := ⟨gp, j * 5, none⟩) hne _).other (a := ⟨gp, j * 5 + 1, none⟩) hne _).other (a := ⟨gp, j * 5 + 2, none⟩) hne _).other (a := ⟨gp, j * 5 + 3, none⟩) hne _).other (a := ⟨gp, j * 5 + 4, none⟩) hne _
            case measure => simp [intOf]; omega
          · have k4 := hcp.p.c4
            obtain ⟨sv, s0, sf, _⟩ := hrc.at_ hlt
            have hljz : ¬ (j : Int) < (rm : Int) := by omega
            have HCP := Lib.hid hcp
            have HRC := Lib.hid hrc
            clear hcp hrc hrr
            have himz : (i : Int) + 1 ≤ 9223372036854775807 := by have := HMZ.out; omega
            go_wp2_with fail
            go_roundw
            case rel => exact ⟨i + 1, by omega, by go_num, HCP.out.far (a := ⟨ga, i, none⟩) hga _, Lib.hid (fun _ => ⟨ga, rfl, hga, HRC.out.set _⟩)⟩
            case measure => simp [intOf]; omega
      · obtain rfl : i = m := by omega
        have k0 := hcp.p.c0
        have k1 := hcp.p.c1
        have k2 := hcp.p.c2
        have k3 := hcp.p.c3
        have k4 := hcp.p.c4
        have r0 := hcp.r.c0
        have r1 := hcp.r.c1
        have r2 := hcp.r.c2
        have r3 := hcp.r.c3
        have r4 := hcp.r.c4
        have f0 := At.f hcp.r 0
        have f1 := At.f hcp.r 1
        have f2 := At.f hcp.r 2
        have f3 := At.f hcp.r 3
        have f4 := At.f hcp.r 4
        have hltz : ¬ (i : Int) < (i : Int) := by omega
        have HCP := Lib.hid hcp
        clear hcp hrow
        go_wp2_with fail
        have hO := HCP.out.own
        have hB := HCP.out.b
        have hne : ∀ k, (Value.slice qa ps.length qc).ownBlock = some k → k ≠ w.heap.size + 1 := fun k e => by have := own_blk hO k e; omega
        have hO5 := own_setNe (own_setNe (own_setNe (own_setNe (own_setNe hO (a := ⟨w.heap.size + 1, 0, none⟩) hne (.string g)) (a := ⟨w.heap.size + 1, 1, none⟩) hne (.string n)) (a := ⟨w.heap.size + 1, 2, none⟩) hne (.slice qa ps.length qc)) (a := ⟨w.heap.size + 1, 3, none⟩) hne (.string v)) (a := ⟨w.heap.size + 1, 4, none⟩) hne (.slice a' i c')
        exact bodyPost_ret (v := .agg #[.string g, .string n, .slice qa ps.length qc, .string v, .slice a' i c']) (by simp [results, Try.results33, go_sem, r0, r1, r2, r3, r4]) rfl ⟨_, ⟨_, _, rfl⟩, own_low (by omega) hO5, ((((hB.setCell (p := ⟨w.heap.size + 1, 0, none⟩) (Nat.le_succ _) _).setCell (p := ⟨w.heap.size + 1, 1, none⟩) (Nat.le_succ _) _).setCell (p := ⟨w.heap.size + 1, 2, none⟩) (Nat.le_succ _) _).setCell (p := ⟨w.heap.size + 1, 3, none⟩) (Nat.le_succ _) _).setCell (p := ⟨w.heap.size + 1, 4, none⟩) (Nat.le_succ _) _⟩
end Go.Proofs.Ytccgpemcdbcjeaa.Pp
