/-
The law PropBack, from what the program's Parse and Print answer. Conditions: the parameters lie below the caller's blocks.
-/
import Derived.Test.YtccgpemcdbcjeaaDoorPpBkMath
import Derived.Test.YtccgpemcdbcjeaaDoorPpWorksLaw
import Derived.Test.YtccgpemcdbcjeaaDoorPpPPrint
import Derived.Test.YtccgpemcdbcjeaaDoorPpCap
import Derived.Test.YtccgpemcdbcjeaaDoorPpGreat
namespace Go.Proofs.YtccgpemcdbcjeaaDoor.Pp
open Go.RowKit

theorem caps_no {ps : List (ByteArray × ByteArray)} {k : Nat} (h : k < ps.length) (h0 : ps[k].1.size = 0) (hc : ps[k].2.data.toList.all capb = false) : capsB (ps.drop k) = false := by
  unfold capsB
  refine ps_no h ?_
  show (!decide (ps[k].1.size = 0) || ps[k].2.data.toList.all capb) = false
  rw [decide_eq_true h0, hc]; rfl
theorem caps_yes {ps : List (ByteArray × ByteArray)} {k : Nat} (h : k < ps.length) (hc : ¬ ps[k].1.size = 0 ∨ ps[k].2.data.toList.all capb = true) : capsB (ps.drop k) = capsB (ps.drop (k + 1)) := by
  unfold capsB
  refine ps_yes h ?_
  show (!decide (ps[k].1.size = 0) || ps[k].2.data.toList.all capb) = true
  rcases hc with hc | hc
  · rw [decide_eq_false hc]; rfl
  · rw [hc, Bool.or_true]

/-- What is asked of a line that is read. -/
theorem tail_facts (s : ByteArray) (hs : s.size ≤ 5000) : (¬ (prs s).err = 0) ∨
    (Hid (∀ (pv : Value) (W : World), Ps W W.heap.size pv (prs s).ps → Calls Tryd.prog 10 #[prV (prs s).g (prs s).n pv (prs s).v (.slice none 0 0)] W fun e w' => e = .returned (.tuple #[.string (lineB (prs s).g (prs s).n (prs s).ps (prs s).v), .int .i64 0]) ∧ Below W.heap.size W w') ∧
     Hid (∀ W : World, Calls Tryd.prog 5 #[.string (lineB (prs s).g (prs s).n (prs s).ps (prs s).v)] W fun e w' => ∃ pv, e = .returned (.tuple #[prV (prs s).g (prs s).n pv (prs s).v (.slice none 0 0), .int .i64 0, .int .i64 0]) ∧ Own w' W.heap.size pv (prs s).ps ∧ Below W.heap.size W w') ∧
     (lineB (prs s).g (prs s).n (prs s).ps (prs s).v).size = s.size ∧ (prs s).ps.length ≤ 6 ∧ (prs s).err = 0) := by
  by_cases h : (prs s).err = 0
  · right
    obtain ⟨h1, h2, h3⟩ := prs_again rfl h
    obtain ⟨_, g2, _, _, g5, _⟩ := chk_ok h1
    refine ⟨Lib.hid fun pv W hp => ?_, Lib.hid fun W => ?_, h3, g2, h⟩
    · have := pPrint_any (prs s).g (prs s).n pv (prs s).v none 0 0 (prs s).ps W hp (by omega) (by omega)
      rw [h1, prt, if_pos rfl] at this
      exact this
    · have := pParse_any (lineB (prs s).g (prs s).n (prs s).ps (prs s).v) W (by omega)
      rw [h2] at this
      exact this
  · exact .inl h

/-- The box, and what came in, as they were. -/
structure Lv (w W : World) (g n : ByteArray) (pv : Value) (v : ByteArray) (av : Value) (ps : List (ByteArray × ByteArray)) : Prop where
  p : PrAt W w.heap.size g n pv v av
  s : Ps W W.heap.size pv ps
  b : Below w.heap.size w W
theorem Lv.below {w W W' : World} {g n : ByteArray} {pv : Value} {v : ByteArray} {av : Value} {ps : List (ByteArray × ByteArray)} (h : Lv w W g n pv v av ps) (hb : Below W.heap.size W W') : Lv w W' g n pv v av ps :=
  ⟨h.p.below hb, (h.s.below hb).up hb.size, h.b.trans (hb.mono h.b.size)⟩

set_option maxRecDepth 100000 in
set_option maxHeartbeats 8000000 in
theorem back_law (g n v : ByteArray) (pv : Value) (aa : Option Addr) (m ac : Nat) (ps : List (ByteArray × ByteArray)) (s : ByteArray) (w : World) (hps : Ps w w.heap.size pv ps) :
    Calls Tryd.prog 4 #[prV g n pv v (.slice aa m ac), .string s] w fun e w' => e = .returned (.bool true) ∧ Below w.heap.size w w' := by
  obtain ⟨pa, pc, rfl⟩ := hps.shape
  have CW := Lib.hid (fun W => works_any W)
  have CG := Lib.hid (fun W => great_any g n pa ps.length pc v (.slice aa m ac) W)
  have HB : Below w.heap.size w (w.alloc (.cells #[.string g, .string n, .slice pa ps.length pc, .string v, .slice aa m ac] 25)) := (Below.refl _ _).alloc (Nat.le_refl _) _
  have L0 : Lv w (w.alloc (.cells #[.string g, .string n, .slice pa ps.length pc, .string v, .slice aa m ac] 25)) g n (.slice pa ps.length pc) v (.slice aa m ac) ps := ⟨heap_alloc_new w _, (hps.below HB).up HB.size, HB⟩
  by_cases hg : (decide (20 < ps.length) || decide (5000 < v.size)) = true
  · rw [hg] at CG
    unfold prV at CG ⊢
    go_enter Tryd.func4, Tryd.ntmps4
    go_wp2_with fail
    refine (CW.out _).mono ?_
    rintro e w1 ⟨rfl, b1⟩
    have L1 := L0.below b1
    clear L0 HB b1
    have c0 := L1.p.c0
    have c1 := L1.p.c1
    have c2 := L1.p.c2
    have c3 := L1.p.c3
    have c4 := L1.p.c4
    go_wp2_with fail
    refine (CG.out _).mono ?_
    rintro e w2 ⟨rfl, b2⟩
    have L2 := L1.below b2
    clear c0 c1 c2 c3 c4 L1 b2
    have c0 := L2.p.c0
    have c1 := L2.p.c1
    have c2 := L2.p.c2
    have c3 := L2.p.c3
    have c4 := L2.p.c4
    go_wp2_with fail
    go_ret
    exact ⟨rfl, L2.b⟩
  have hg2 : (decide (20 < ps.length) || decide (5000 < v.size)) = false := by simpa using hg
  rw [hg2] at CG
  rw [Bool.or_eq_false_iff, decide_eq_false_iff_not, decide_eq_false_iff_not] at hg2
  by_cases hs3 : 3000 < (s.size : Int)
  · unfold prV at CG ⊢
    go_enter Tryd.func4, Tryd.ntmps4
    go_wp2_with fail
    refine (CW.out _).mono ?_
    rintro e w1 ⟨rfl, b1⟩
    have L1 := L0.below b1
    clear L0 HB b1
    have c0 := L1.p.c0
    have c1 := L1.p.c1
    have c2 := L1.p.c2
    have c3 := L1.p.c3
    have c4 := L1.p.c4
    go_wp2_with fail
    refine (CG.out _).mono ?_
    rintro e w2 ⟨rfl, b2⟩
    have L2 := L1.below b2
    clear c0 c1 c2 c3 c4 L1 b2
    have c0 := L2.p.c0
    have c1 := L2.p.c1
    have c2 := L2.p.c2
    have c3 := L2.p.c3
    have c4 := L2.p.c4
    go_wp2_with fail
    go_ret
    exact ⟨rfl, L2.b⟩
  have O := Lib.hid (fun W h => own_any g n (.slice pa ps.length pc) v aa m ac ps W h (by omega))
  have C1 := Lib.hid (fun pv' W h => pPrint_any g n pv' v aa m ac ps W h (by omega) (by omega))
  have CS := Lib.hid (fun W => pParse_any s W (by omega))
  have HTAIL := tail_facts s (by omega)
  have hl6' : ps.length ≤ 20 := by omega
  generalize prs s = R at CS HTAIL
  obtain ⟨rg, rn, rps, rv, ra, re⟩ := R
  unfold Told at CS
  simp only at CS HTAIL
  have HR := Lib.hid (rfl : chk g n ps v m = chk g n ps v m)
  obtain ⟨r, hr0⟩ : ∃ r, chk g n ps v m = r := ⟨_, rfl⟩
  rw [hr0] at C1
  have HR : Hid (chk g n ps v m = r) := Lib.hid hr0
  clear hr0 hg hg2
  unfold prV at CG C1 CS O ⊢
  rcases HTAIL with hre | ⟨CP5, CQ5, hsz, hl6, rfl⟩
  · have hre2 : (re != 0) = true := bne_iff_ne.2 hre
    by_cases hr : r = 0
    · subst hr
      obtain ⟨h1, h2, h3, h4, h5, h6⟩ := chk_ok HR.out
      obtain rfl : m = 0 := h4
      have hlb := line_bound HR.out
      have hcapv : ∀ k, (h : k < ps.length) → ps[k].2.size ≤ 1099511627776 := fun k h => by have := (goodPs_le h3 h).2; omega
      have HCV := Lib.hid hcapv
      rw [prt, if_pos rfl] at C1
      have CT := Lib.hid (fun W => pParse_any (lineB g n ps v) W (by omega))
      have HEQ1 : Hid (capsB ps = true → prs (lineB g n ps v) = ⟨g, n, ps, v, 0, 0⟩) := Lib.hid (fun h => prs_line HR.out (caps_of h))
      generalize prs (lineB g n ps v) = Q at CT HEQ1
      obtain ⟨qg, qn, qps, qv, qa, qe⟩ := Q
      unfold Told prV at CT
      simp only at CT
      generalize lineB g n ps v = t at C1 CT
      have HEQ : Hid (capsB ps = true → qg = g ∧ qn = n ∧ qps = ps ∧ qv = v ∧ qe = 0) := Lib.hid (fun h => by have := HEQ1.out h; simp only [Par.mk.injEq] at this; exact ⟨this.1, this.2.1, this.2.2.1, this.2.2.2.1, this.2.2.2.2.2⟩)
      clear HEQ1
      have hl40 : ps.length ≤ 1099511627776 := by omega
      obtain ⟨rc, hrc⟩ : ∃ rc, capsB ps = rc := ⟨_, rfl⟩
      rw [hrc] at HEQ
      have HRC := Lib.hid hrc
      clear hrc h1 h2 h3 h5 h6 hlb hcapv HR
      go_enter Tryd.func4, Tryd.ntmps4
      go_wp2_with fail
      refine (CW.out _).mono ?_
      rintro e w1 ⟨rfl, b1⟩
      have L1 := L0.below b1
      clear L0 HB b1
      have c0 := L1.p.c0
      have c1 := L1.p.c1
      have c2 := L1.p.c2
      have c3 := L1.p.c3
      have c4 := L1.p.c4
      go_wp2_with fail
      refine (CG.out _).mono ?_
      rintro e w2 ⟨rfl, b2⟩
      have L2 := L1.below b2
      clear c0 c1 c2 c3 c4 L1 b2
      have c0 := L2.p.c0
      have c1 := L2.p.c1
      have c2 := L2.p.c2
      have c3 := L2.p.c3
      have c4 := L2.p.c4
      go_wp2_with fail
      refine (O.out _ L2.s).mono ?_
      rintro e w3 ⟨pv3, rfl, ho3, b3⟩
      have L3 := L2.below b3
      clear c0 c1 c2 c3 c4 L2
      go_wp2_with fail
      refine (C1.out _ _ ho3.ps).mono ?_
      rintro e w4 ⟨rfl, b4⟩
      have L4 := L3.below b4
      clear L3 b3 b4 ho3
      go_wp2_with fail
      refine (CT.out _).mono ?_
      rintro e w5 ⟨pv5, rfl, hown5, b5⟩
      obtain ⟨a5, c5, rfl⟩ := shapeP hown5
      have bq : Below w5.heap.size w5 (w5.alloc (.cells #[.string qg, .string qn, .slice a5 qps.length c5, .string qv, .slice none 0 0] 25)) := (Below.refl _ _).alloc (Nat.le_refl _) _
      have HQ : PrAt (w5.alloc (.cells #[.string qg, .string qn, .slice a5 qps.length c5, .string qv, .slice none 0 0] 25)) w5.heap.size qg qn (.slice a5 qps.length c5) qv (.slice none 0 0) := heap_alloc_new w5 _
      have PQ := (hown5.ps.below bq).up bq.size
      have L5 := (L4.below b5).below bq
      clear L4 b5 bq hown5
      go_wp2_with fail
      go_loopw [10] (fun iv wr => ∃ k : Nat, k ≤ ps.length ∧ iv = .int .i64 k ∧ wr = w5.alloc (.cells #[.string qg, .string qn, .slice a5 qps.length c5, .string qv, .slice none 0 0] 25) ∧ Hid (capsB (ps.drop k) = rc)) (fun iv _ => ps.length - (intOf iv).toNat)
      case atStart => exact ⟨0, Nat.zero_le _, rfl, rfl, Lib.hid (by rw [List.drop_zero]; exact HRC.out)⟩
      case round =>
        obtain ⟨k, hk, rfl, rfl, HK⟩ := hrel
        have k2 := L5.p.c2
        by_cases hlt : k < ps.length
        · obtain ⟨b, o, cap, hv1, hbB, hc0, hc1⟩ := L5.s.at_ hlt
          simp only [Value.slice.injEq, true_and] at hv1
          obtain ⟨rfl, rfl⟩ := hv1
          have HNO := Lib.hid (caps_no hlt)
          have HYE := Lib.hid (caps_yes hlt)
          have hcv := HCV.out k hlt
          generalize ps[k] = x at hc0 hc1 HNO HYE hcv
          obtain ⟨n', v'⟩ := x
          simp only at HNO HYE hc0 hc1 hcv
          by_cases h0 : n'.size = 0
          · have e0 := str_none h0
            have CC := Lib.hid (fun W => capital_any v' W hcv)
            cases hcap : v'.data.toList.all capb
            · rw [hcap] at CC
              clear HNO HYE hcap
              go_wp2_with fail
              refine (CC.out _).mono ?_
              rintro e w' ⟨rfl, rfl⟩
              go_wp2_with fail
              go_ret
              exact ⟨rfl, L5.b⟩
            · rw [hcap] at CC
              have HK' := Lib.hid ((HYE.out (.inr hcap)).symm.trans HK.out)
              go_wp2_with fail
              refine (CC.out _).mono ?_
              rintro e w' ⟨rfl, rfl⟩
              go_wp2_with fail
              go_roundw
              case rel => exact ⟨k + 1, by omega, by go_num, trivial, HK'⟩
              case measure => simp [intOf]; omega
          · have e0 := str_some h0
            have HK' := Lib.hid ((HYE.out (.inl h0)).symm.trans HK.out)
            go_wp2_with fail
            go_roundw
            case rel => exact ⟨k + 1, by omega, by go_num, trivial, HK'⟩
            case measure => simp [intOf]; omega
        · obtain rfl : k = ps.length := by omega
          obtain rfl : true = rc := by rw [← HK.out, List.drop_length]; rfl
          obtain ⟨rfl, rfl, rfl, rfl, rfl⟩ := HEQ.out rfl
          have CSS := rSame_yes qg qn qv _ _ aa none 0 ac 0 qps _ L5.s PQ hl40
          unfold prV at CSS
          have z0 := L5.p.c0
          have u0 := HQ.c0
          have z1 := L5.p.c1
          have u1 := HQ.c1
          have z2 := L5.p.c2
          have u2 := HQ.c2
          have z3 := L5.p.c3
          have u3 := HQ.c3
          have z4 := L5.p.c4
          have u4 := HQ.c4
          clear k2
          go_wp2_with fail
          refine CSS.mono ?_
          rintro e w6 ⟨rfl, b6⟩
          have B6 := L5.b.trans (b6.mono L5.b.size)
          clear L5 PQ HQ z0 z1 z2 z3 z4 u0 u1 u2 u3 u4 b6
          go_wp2_with fail
          refine (CS.out _).mono ?_
          rintro e wA ⟨pvA, rfl, hownA, bA⟩
          obtain ⟨aA, cA, rfl⟩ := shapeP hownA
          have BQ := B6.trans (bA.mono B6.size)
          go_wp2_with fail
          go_ret
          exact ⟨rfl, BQ.alloc BQ.size _⟩
    · have hne1 : (r == 0) = false := beq_eq_false_iff_ne.2 hr
      clear HR
      go_enter Tryd.func4, Tryd.ntmps4
      go_wp2_with fail
      refine (CW.out _).mono ?_
      rintro e w1 ⟨rfl, b1⟩
      have L1 := L0.below b1
      clear L0 HB b1
      have c0 := L1.p.c0
      have c1 := L1.p.c1
      have c2 := L1.p.c2
      have c3 := L1.p.c3
      have c4 := L1.p.c4
      go_wp2_with fail
      refine (CG.out _).mono ?_
      rintro e w2 ⟨rfl, b2⟩
      have L2 := L1.below b2
      clear c0 c1 c2 c3 c4 L1 b2
      have c0 := L2.p.c0
      have c1 := L2.p.c1
      have c2 := L2.p.c2
      have c3 := L2.p.c3
      have c4 := L2.p.c4
      go_wp2_with fail
      refine (O.out _ L2.s).mono ?_
      rintro e w3 ⟨pv3, rfl, ho3, b3⟩
      have L3 := L2.below b3
      clear c0 c1 c2 c3 c4 L2
      go_wp2_with fail
      refine (C1.out _ _ ho3.ps).mono ?_
      rintro e w4 ⟨rfl, b4⟩
      have L4 := L3.below b4
      clear L3 b3 b4 ho3
      have B4 := L4.b
      clear L4
      go_wp2_with fail
      refine (CS.out _).mono ?_
      rintro e wA ⟨pvA, rfl, hownA, bA⟩
      obtain ⟨aA, cA, rfl⟩ := shapeP hownA
      have BQ := B4.trans (bA.mono B4.size)
      go_wp2_with fail
      go_ret
      exact ⟨rfl, BQ.alloc BQ.size _⟩
  · have hl6 : rps.length ≤ 1099511627776 := by omega
    generalize lineB rg rn rps rv = u at CP5 CQ5 hsz
    unfold prV at CP5 CQ5
    have hszi : (u.size : Int) = (s.size : Int) := by omega
    have heqs : ((u.size : Int) == (s.size : Int)) = true := beq_iff_eq.2 hszi
    clear hsz
    by_cases hr : r = 0
    · subst hr
      obtain ⟨h1, h2, h3, h4, h5, h6⟩ := chk_ok HR.out
      obtain rfl : m = 0 := h4
      have hlb := line_bound HR.out
      have hcapv : ∀ k, (h : k < ps.length) → ps[k].2.size ≤ 1099511627776 := fun k h => by have := (goodPs_le h3 h).2; omega
      have HCV := Lib.hid hcapv
      rw [prt, if_pos rfl] at C1
      have CT := Lib.hid (fun W => pParse_any (lineB g n ps v) W (by omega))
      have HEQ1 : Hid (capsB ps = true → prs (lineB g n ps v) = ⟨g, n, ps, v, 0, 0⟩) := Lib.hid (fun h => prs_line HR.out (caps_of h))
      generalize prs (lineB g n ps v) = Q at CT HEQ1
      obtain ⟨qg, qn, qps, qv, qa, qe⟩ := Q
      unfold Told prV at CT
      simp only at CT
      generalize lineB g n ps v = t at C1 CT
      have HEQ : Hid (capsB ps = true → qg = g ∧ qn = n ∧ qps = ps ∧ qv = v ∧ qe = 0) := Lib.hid (fun h => by have := HEQ1.out h; simp only [Par.mk.injEq] at this; exact ⟨this.1, this.2.1, this.2.2.1, this.2.2.2.1, this.2.2.2.2.2⟩)
      clear HEQ1
      have hl40 : ps.length ≤ 1099511627776 := by omega
      obtain ⟨rc, hrc⟩ : ∃ rc, capsB ps = rc := ⟨_, rfl⟩
      rw [hrc] at HEQ
      have HRC := Lib.hid hrc
      clear hrc h1 h2 h3 h5 h6 hlb hcapv HR
      go_enter Tryd.func4, Tryd.ntmps4
      go_wp2_with fail
      refine (CW.out _).mono ?_
      rintro e w1 ⟨rfl, b1⟩
      have L1 := L0.below b1
      clear L0 HB b1
      have c0 := L1.p.c0
      have c1 := L1.p.c1
      have c2 := L1.p.c2
      have c3 := L1.p.c3
      have c4 := L1.p.c4
      go_wp2_with fail
      refine (CG.out _).mono ?_
      rintro e w2 ⟨rfl, b2⟩
      have L2 := L1.below b2
      clear c0 c1 c2 c3 c4 L1 b2
      have c0 := L2.p.c0
      have c1 := L2.p.c1
      have c2 := L2.p.c2
      have c3 := L2.p.c3
      have c4 := L2.p.c4
      go_wp2_with fail
      refine (O.out _ L2.s).mono ?_
      rintro e w3 ⟨pv3, rfl, ho3, b3⟩
      have L3 := L2.below b3
      clear c0 c1 c2 c3 c4 L2
      go_wp2_with fail
      refine (C1.out _ _ ho3.ps).mono ?_
      rintro e w4 ⟨rfl, b4⟩
      have L4 := L3.below b4
      clear L3 b3 b4 ho3
      go_wp2_with fail
      refine (CT.out _).mono ?_
      rintro e w5 ⟨pv5, rfl, hown5, b5⟩
      obtain ⟨a5, c5, rfl⟩ := shapeP hown5
      have bq : Below w5.heap.size w5 (w5.alloc (.cells #[.string qg, .string qn, .slice a5 qps.length c5, .string qv, .slice none 0 0] 25)) := (Below.refl _ _).alloc (Nat.le_refl _) _
      have HQ : PrAt (w5.alloc (.cells #[.string qg, .string qn, .slice a5 qps.length c5, .string qv, .slice none 0 0] 25)) w5.heap.size qg qn (.slice a5 qps.length c5) qv (.slice none 0 0) := heap_alloc_new w5 _
      have PQ := (hown5.ps.below bq).up bq.size
      have L5 := (L4.below b5).below bq
      clear L4 b5 bq hown5
      go_wp2_with fail
      go_loopw [10] (fun iv wr => ∃ k : Nat, k ≤ ps.length ∧ iv = .int .i64 k ∧ wr = w5.alloc (.cells #[.string qg, .string qn, .slice a5 qps.length c5, .string qv, .slice none 0 0] 25) ∧ Hid (capsB (ps.drop k) = rc)) (fun iv _ => ps.length - (intOf iv).toNat)
      case atStart => exact ⟨0, Nat.zero_le _, rfl, rfl, Lib.hid (by rw [List.drop_zero]; exact HRC.out)⟩
      case round =>
        obtain ⟨k, hk, rfl, rfl, HK⟩ := hrel
        have k2 := L5.p.c2
        by_cases hlt : k < ps.length
        · obtain ⟨b, o, cap, hv1, hbB, hc0, hc1⟩ := L5.s.at_ hlt
          simp only [Value.slice.injEq, true_and] at hv1
          obtain ⟨rfl, rfl⟩ := hv1
          have HNO := Lib.hid (caps_no hlt)
          have HYE := Lib.hid (caps_yes hlt)
          have hcv := HCV.out k hlt
          generalize ps[k] = x at hc0 hc1 HNO HYE hcv
          obtain ⟨n', v'⟩ := x
          simp only at HNO HYE hc0 hc1 hcv
          by_cases h0 : n'.size = 0
          · have e0 := str_none h0
            have CC := Lib.hid (fun W => capital_any v' W hcv)
            cases hcap : v'.data.toList.all capb
            · rw [hcap] at CC
              clear HNO HYE hcap
              go_wp2_with fail
              refine (CC.out _).mono ?_
              rintro e w' ⟨rfl, rfl⟩
              go_wp2_with fail
              go_ret
              exact ⟨rfl, L5.b⟩
            · rw [hcap] at CC
              have HK' := Lib.hid ((HYE.out (.inr hcap)).symm.trans HK.out)
              go_wp2_with fail
              refine (CC.out _).mono ?_
              rintro e w' ⟨rfl, rfl⟩
              go_wp2_with fail
              go_roundw
              case rel => exact ⟨k + 1, by omega, by go_num, trivial, HK'⟩
              case measure => simp [intOf]; omega
          · have e0 := str_some h0
            have HK' := Lib.hid ((HYE.out (.inl h0)).symm.trans HK.out)
            go_wp2_with fail
            go_roundw
            case rel => exact ⟨k + 1, by omega, by go_num, trivial, HK'⟩
            case measure => simp [intOf]; omega
        · obtain rfl : k = ps.length := by omega
          obtain rfl : true = rc := by rw [← HK.out, List.drop_length]; rfl
          obtain ⟨rfl, rfl, rfl, rfl, rfl⟩ := HEQ.out rfl
          have CSS := rSame_yes qg qn qv _ _ aa none 0 ac 0 qps _ L5.s PQ hl40
          unfold prV at CSS
          have z0 := L5.p.c0
          have u0 := HQ.c0
          have z1 := L5.p.c1
          have u1 := HQ.c1
          have z2 := L5.p.c2
          have u2 := HQ.c2
          have z3 := L5.p.c3
          have u3 := HQ.c3
          have z4 := L5.p.c4
          have u4 := HQ.c4
          clear k2
          go_wp2_with fail
          refine CSS.mono ?_
          rintro e w6 ⟨rfl, b6⟩
          have B6 := L5.b.trans (b6.mono L5.b.size)
          clear L5 PQ HQ z0 z1 z2 z3 z4 u0 u1 u2 u3 u4 b6
          go_wp2_with fail
          refine (CS.out _).mono ?_
          rintro e wA ⟨pvA, rfl, hownA, bA⟩
          obtain ⟨aA, cA, rfl⟩ := shapeP hownA
          have bAA := B6.trans (bA.mono B6.size)
          have bx : Below wA.heap.size wA (wA.alloc (.cells #[.string rg, .string rn, .slice aA rps.length cA, .string rv, .slice none 0 0] 25)) := (Below.refl _ _).alloc (Nat.le_refl _) _
          have HX : PrAt (wA.alloc (.cells #[.string rg, .string rn, .slice aA rps.length cA, .string rv, .slice none 0 0] 25)) wA.heap.size rg rn (.slice aA rps.length cA) rv (.slice none 0 0) := heap_alloc_new wA _
          have P5 : Ps (wA.alloc (.cells #[.string rg, .string rn, .slice aA rps.length cA, .string rv, .slice none 0 0] 25)) (wA.alloc (.cells #[.string rg, .string rn, .slice aA rps.length cA, .string rv, .slice none 0 0] 25)).heap.size (.slice aA rps.length cA) rps := (hownA.ps.below bx).up bx.size
          have x0 := HX.c0
          have x1 := HX.c1
          have x2 := HX.c2
          have x3 := HX.c3
          have x4 := HX.c4
          go_wp2_with fail
          refine (CP5.out _ _ P5).mono ?_
          rintro e w6 ⟨rfl, b6⟩
          clear x0 x1 x2 x3 x4
          go_wp2_with fail
          refine (CQ5.out _).mono ?_
          rintro e w7 ⟨pv7, rfl, hown7, b7⟩
          obtain ⟨a7, c7, rfl⟩ := shapeP hown7
          have by7 : Below w7.heap.size w7 (w7.alloc (.cells #[.string rg, .string rn, .slice a7 rps.length c7, .string rv, .slice none 0 0] 25)) := (Below.refl _ _).alloc (Nat.le_refl _) _
          have HY : PrAt (w7.alloc (.cells #[.string rg, .string rn, .slice a7 rps.length c7, .string rv, .slice none 0 0] 25)) w7.heap.size rg rn (.slice a7 rps.length c7) rv (.slice none 0 0) := heap_alloc_new w7 _
          have HX7 := ((HX.below b6).below b7).below by7
          have PX7 := ((((P5.below b6).up b6.size).below b7).up b7.size).below by7 |>.up by7.size
          have PY7 := (hown7.ps.below by7).up by7.size
          have bA7 := ((bx.trans (b6.mono bx.size)).trans (b7.mono (Nat.le_trans bx.size b6.size))).trans (by7.mono (Nat.le_trans (Nat.le_trans bx.size b6.size) b7.size))
          have BF := bAA.trans (bA7.mono bAA.size)
          have CZ := rSame_yes rg rn rv _ _ none none 0 0 0 rps _ PY7 PX7 hl6
          unfold prV at CZ
          have x0 := HX7.c0
          have y0 := HY.c0
          have x1 := HX7.c1
          have y1 := HY.c1
          have x2 := HX7.c2
          have y2 := HY.c2
          have x3 := HX7.c3
          have y3 := HY.c3
          have x4 := HX7.c4
          have y4 := HY.c4
          clear HX HY HX7 P5 PX7 PY7 bA b6 b7 bx by7 bA7 bAA hownA hown7
          go_wp2_with fail
          refine CZ.mono ?_
          rintro e w8 ⟨rfl, b8⟩
          go_wp2_with fail
          go_ret
          exact ⟨rfl, BF.trans (b8.mono BF.size)⟩
    · have hne1 : (r == 0) = false := beq_eq_false_iff_ne.2 hr
      clear HR
      go_enter Tryd.func4, Tryd.ntmps4
      go_wp2_with fail
      refine (CW.out _).mono ?_
      rintro e w1 ⟨rfl, b1⟩
      have L1 := L0.below b1
      clear L0 HB b1
      have c0 := L1.p.c0
      have c1 := L1.p.c1
      have c2 := L1.p.c2
      have c3 := L1.p.c3
      have c4 := L1.p.c4
      go_wp2_with fail
      refine (CG.out _).mono ?_
      rintro e w2 ⟨rfl, b2⟩
      have L2 := L1.below b2
      clear c0 c1 c2 c3 c4 L1 b2
      have c0 := L2.p.c0
      have c1 := L2.p.c1
      have c2 := L2.p.c2
      have c3 := L2.p.c3
      have c4 := L2.p.c4
      go_wp2_with fail
      refine (O.out _ L2.s).mono ?_
      rintro e w3 ⟨pv3, rfl, ho3, b3⟩
      have L3 := L2.below b3
      clear c0 c1 c2 c3 c4 L2
      go_wp2_with fail
      refine (C1.out _ _ ho3.ps).mono ?_
      rintro e w4 ⟨rfl, b4⟩
      have L4 := L3.below b4
      clear L3 b3 b4 ho3
      have B4 := L4.b
      clear L4
      go_wp2_with fail
      refine (CS.out _).mono ?_
      rintro e wA ⟨pvA, rfl, hownA, bA⟩
      obtain ⟨aA, cA, rfl⟩ := shapeP hownA
      have bAA := B4.trans (bA.mono B4.size)
      have bx : Below wA.heap.size wA (wA.alloc (.cells #[.string rg, .string rn, .slice aA rps.length cA, .string rv, .slice none 0 0] 25)) := (Below.refl _ _).alloc (Nat.le_refl _) _
      have HX : PrAt (wA.alloc (.cells #[.string rg, .string rn, .slice aA rps.length cA, .string rv, .slice none 0 0] 25)) wA.heap.size rg rn (.slice aA rps.length cA) rv (.slice none 0 0) := heap_alloc_new wA _
      have P5 : Ps (wA.alloc (.cells #[.string rg, .string rn, .slice aA rps.length cA, .string rv, .slice none 0 0] 25)) (wA.alloc (.cells #[.string rg, .string rn, .slice aA rps.length cA, .string rv, .slice none 0 0] 25)).heap.size (.slice aA rps.length cA) rps := (hownA.ps.below bx).up bx.size
      have x0 := HX.c0
      have x1 := HX.c1
      have x2 := HX.c2
      have x3 := HX.c3
      have x4 := HX.c4
      go_wp2_with fail
      refine (CP5.out _ _ P5).mono ?_
      rintro e w6 ⟨rfl, b6⟩
      clear x0 x1 x2 x3 x4
      go_wp2_with fail
      refine (CQ5.out _).mono ?_
      rintro e w7 ⟨pv7, rfl, hown7, b7⟩
      obtain ⟨a7, c7, rfl⟩ := shapeP hown7
      have by7 : Below w7.heap.size w7 (w7.alloc (.cells #[.string rg, .string rn, .slice a7 rps.length c7, .string rv, .slice none 0 0] 25)) := (Below.refl _ _).alloc (Nat.le_refl _) _
      have HY : PrAt (w7.alloc (.cells #[.string rg, .string rn, .slice a7 rps.length c7, .string rv, .slice none 0 0] 25)) w7.heap.size rg rn (.slice a7 rps.length c7) rv (.slice none 0 0) := heap_alloc_new w7 _
      have HX7 := ((HX.below b6).below b7).below by7
      have PX7 := ((((P5.below b6).up b6.size).below b7).up b7.size).below by7 |>.up by7.size
      have PY7 := (hown7.ps.below by7).up by7.size
      have bA7 := ((bx.trans (b6.mono bx.size)).trans (b7.mono (Nat.le_trans bx.size b6.size))).trans (by7.mono (Nat.le_trans (Nat.le_trans bx.size b6.size) b7.size))
      have BF := bAA.trans (bA7.mono bAA.size)
      have CZ := rSame_yes rg rn rv _ _ none none 0 0 0 rps _ PY7 PX7 hl6
      unfold prV at CZ
      have x0 := HX7.c0
      have y0 := HY.c0
      have x1 := HX7.c1
      have y1 := HY.c1
      have x2 := HX7.c2
      have y2 := HY.c2
      have x3 := HX7.c3
      have y3 := HY.c3
      have x4 := HX7.c4
      have y4 := HY.c4
      clear HX HY HX7 P5 PX7 PY7 bA b6 b7 bx by7 bA7 bAA hownA hown7
      go_wp2_with fail
      refine CZ.mono ?_
      rintro e w8 ⟨rfl, b8⟩
      go_wp2_with fail
      go_ret
      exact ⟨rfl, BF.trans (b8.mono BF.size)⟩
end Go.Proofs.YtccgpemcdbcjeaaDoor.Pp
