/-
Texts joined in one file, each with its own conditions: Whether two cards say the same, for the document's Same of cards. Conditions: at most 2^40 properties in a card, parameters in a property and cards in a property. · The document's Deep: how many cards lie within one another. Conditions: at most 2^40 properties in a card, and cards in a property.
-/
import Derived.Test.YtpdodknldhbbhaaGreatDoorJ03
import Derived.RangeFuncBox
import Derived.Deep.RegionHeld3
import Derived.Deep.CutRange
import Derived.Test.YtpdodknldhbbhaaGreatDoorJ02
namespace Go.Proofs.YtpdodknldhbbhaaGreatDoor.Vc
set_option maxRecDepth 100000
open Go.RowKit Pp

/-- Do two cards say the same, at most so deep? -/
def sameC : Nat → Crd → Crd → Bool
  | 0, _, _ => false
  | m + 1, c, c' => decide (c.ps.length = c'.ps.length) &&
      (c.ps.zip c'.ps).all fun x => sameP x.1.1 x.2.1 x.1.2.length x.2.2.length && (x.1.2.zip x.2.2).all fun y => sameC m y.1 y.2
theorem zip_all {α β : Type} {l : List α} {l' : List β} {k : Nat} {f : α × β → Bool} (h : k < l.length) (h' : k < l'.length) : ((l.drop k).zip (l'.drop k)).all f = (f (l[k], l'[k]) && ((l.drop (k + 1)).zip (l'.drop (k + 1))).all f) := by
  rw [List.drop_eq_getElem_cons h, List.drop_eq_getElem_cons h']; rfl
/-- Two lists of cards, one by one. -/
def allC (m : Nat) (gs gs' : List Crd) : Bool := (gs.zip gs').all fun y => sameC m y.1 y.2
/-- Two lists of properties, one by one. -/
def allP (m : Nat) (l l' : List (Pd × List Crd)) : Bool := (l.zip l').all fun x => sameP x.1.1 x.2.1 x.1.2.length x.2.2.length && allC m x.1.2 x.2.2
theorem allC_at {m j : Nat} {gs gs' : List Crd} (h : j < gs.length) (h' : j < gs'.length) : allC m (gs.drop j) (gs'.drop j) = (sameC m gs[j] gs'[j] && allC m (gs.drop (j + 1)) (gs'.drop (j + 1))) := zip_all h h'
theorem allP_at {m j : Nat} {l l' : List (Pd × List Crd)} (h : j < l.length) (h' : j < l'.length) : allP m (l.drop j) (l'.drop j) = (sameP l[j].1 l'[j].1 l[j].2.length l'[j].2.length && allC m l[j].2 l'[j].2 && allP m (l.drop (j + 1)) (l'.drop (j + 1))) := zip_all h h'
theorem allC_end {m j : Nat} {gs gs' : List Crd} (h : ¬ j < gs.length) : allC m (gs.drop j) (gs'.drop j) = true := by rw [List.drop_eq_nil_of_le (by omega : gs.length ≤ j)]; rfl
theorem allP_end {m j : Nat} {l l' : List (Pd × List Crd)} (h : ¬ j < l.length) : allP m (l.drop j) (l'.drop j) = true := by rw [List.drop_eq_nil_of_le (by omega : l.length ≤ j)]; rfl
theorem two_boxes (wr : World) (o o' : Obj) : ((wr.alloc o).alloc o').drew.heap[wr.heap.size]? = some o ∧ ((wr.alloc o).alloc o').drew.heap[wr.heap.size + 1]? = some o' ∧ Below wr.heap.size wr ((wr.alloc o).alloc o').drew := by
  refine ⟨?_, ?_, (((Below.refl _ _).alloc (Nat.le_refl _) _).alloc (by simp) _).drew⟩
  · exact (((Below.refl (wr.heap.size + 1) (wr.alloc o)).alloc (by simp) o').block wr.heap.size (by omega)).trans (World.alloc_heap_new wr o)
  · have h := World.alloc_heap_new (wr.alloc o) o'
    rw [World.size_alloc] at h
    exact h
/-- No list is too long for its number to be counted. -/
def Fits : Nat → Crd → Prop
  | 0, _ => True
  | k + 1, c => c.ps.length ≤ 1099511627776 ∧ ∀ p ∈ c.ps, (p.1.ps.length ≤ 1099511627776 ∧ p.2.length ≤ 1099511627776) ∧ ∀ a ∈ p.2, Fits k a

set_option maxHeartbeats 4000000 in
theorem refSame_any : ∀ (m k : Nat) (c : Crd) (k' : Nat) (c' : Crd) (sv sv' : Value) (w : World), Fits k c → Fits k' c' → CAt w w.heap.size k c sv → CAt w w.heap.size k' c' sv' → m ≤ 9 →
    Calls Tryz.prog 27 #[.agg #[sv], .agg #[sv'], .int .i64 (m : Int)] w fun e w' => e = .returned (.bool (sameC m c c')) ∧ Below w.heap.size w w' := by
  intro m
  induction m with
  | zero =>
    intro k c k' c' sv sv' w _ _ hc hc' _
    obtain ⟨a, n, cp, rfl⟩ := hc.one
    obtain ⟨a', n', cp', rfl⟩ := hc'.one
    have hr : sameC 0 c c' = false := rfl
    rw [hr]
    clear hc hc' hr
    have hb : Below w.heap.size w ((w.alloc (.cells #[.slice a n cp] 24)).alloc (.cells #[.slice a' n' cp'] 24)) := ((Below.refl _ _).alloc (Nat.le_refl _) _).alloc (by simp) _
    go_enter Tryz.func27, Tryz.ntmps27
    go_wp2_with fail
    go_ret
    exact ⟨rfl, hb⟩
  | succ m ih =>
    intro k c k' c' sv sv' w hf hf' hc hc' hm9
    cases k with
    | zero => exact hc.elim
    | succ k =>
    cases k' with
    | zero => exact hc'.elim
    | succ k' =>
    obtain ⟨l⟩ := c
    obtain ⟨l'⟩ := c'
    replace hf : l.length ≤ 1099511627776 ∧ ∀ p ∈ l, (p.1.ps.length ≤ 1099511627776 ∧ p.2.length ≤ 1099511627776) ∧ ∀ a ∈ p.2, Fits k a := hf
    replace hf' : l'.length ≤ 1099511627776 ∧ ∀ p ∈ l', (p.1.ps.length ≤ 1099511627776 ∧ p.2.length ≤ 1099511627776) ∧ ∀ a ∈ p.2, Fits k' a := hf'
    replace hc : PlAt w w.heap.size (CAt w w.heap.size k) l sv := hc
    replace hc' : PlAt w w.heap.size (CAt w w.heap.size k') l' sv' := hc'
    have hdef : sameC (m + 1) (.node l) (.node l') = (decide (l.length = l'.length) && allP m l l') := rfl
    rw [hdef]
    obtain ⟨a, cp, rfl⟩ := hc.len
    obtain ⟨a', cp', rfl⟩ := hc'.len
    have IH := Lib.hid ih
    have hb : Below w.heap.size w ((w.alloc (.cells #[.slice a l.length cp] 24)).alloc (.cells #[.slice a' l'.length cp'] 24)) := ((Below.refl _ _).alloc (Nat.le_refl _) _).alloc (by simp) _
    have hx := (Boxed.new w 24 (.slice a l.length cp)).alloc (.cells #[.slice a' l'.length cp'] 24)
    have hy := Boxed.new (w.alloc (.cells #[.slice a l.length cp] 24)) 24 (.slice a' l'.length cp')
    rw [World.size_alloc] at hy
    have hxc := hx.cell
    have hyc := hy.cell
    have HC := Lib.hid hc
    have HC' := Lib.hid hc'
    have HF := Lib.hid hf
    have HF' := Lib.hid hf'
    have hm0 : ((m : Int) + 1 == 0) = false := by simp; omega
    have hmz9 : (m : Int) + 1 ≤ 9 := by omega
    have HM : Hid (m ≤ 9) := Lib.hid (by omega)
    have hlz := hf.1
    have hlz' := hf'.1
    have hcast : ((m + 1 : Nat) : Int) = (m : Int) + 1 := by omega
    rw [hcast]
    clear ih hc hc' hf hf' hdef hcast hm9
    by_cases hll : l.length = l'.length
    rotate_left
    · have e1 : ((l.length : Int) == (l'.length : Int)) = false := by simp; omega
      have e2 : ¬ (l.length : Int) = (l'.length : Int) := by omega
      rw [decide_eq_false hll]
      clear hll
      go_enter Tryz.func27, Tryz.ntmps27
      go_wp2_with fail
      go_ret
      exact ⟨rfl, hb⟩
    · have e1 : ((l.length : Int) == (l'.length : Int)) = true := by simp; omega
      have e2 : (l.length : Int) = (l'.length : Int) := by omega
      rw [decide_eq_true hll, Bool.true_and]
      obtain ⟨R, hR⟩ : ∃ R, allP m l l' = R := ⟨_, rfl⟩
      have H0 := Lib.hid (show allP m (l.drop 0) (l'.drop 0) = R from hR)
      rw [hR]
      have HLL := Lib.hid hll
      clear hR hll
      go_enter Tryz.func27, Tryz.ntmps27
      go_wp2_with fail
      clear e1 e2 hxc hyc
      go_loopw [7] (fun iv wr => ∃ i : Nat, iv = .int .i64 (i : Int) ∧ i ≤ l.length ∧ Hid (allP m (l.drop i) (l'.drop i) = R) ∧ Boxed wr w.heap.size 24 (.slice a l.length cp) ∧ Boxed wr (w.heap.size + 1) 24 (.slice a' l'.length cp') ∧ Below w.heap.size w wr) (fun iv _ => l.length - (intOf iv).toNat)
      case atStart => exact ⟨0, rfl, Nat.zero_le _, H0, hx, hy, hb⟩
      case round =>
        obtain ⟨i, rfl, hi, hq, hxb, hyb, hbel⟩ := hrel
        have hxc := hxb.cell
        have hyc := hyb.cell
        by_cases hlt : i < l.length
        · have hlt' : i < l'.length := by rw [← HLL.out]; exact hlt
          have hltz : (i : Int) < (l.length : Int) := by omega
          have hltz' : (i : Int) < (l'.length : Int) := by omega
          have HQ := Lib.hid (by have h := hq.out; rw [allP_at hlt hlt'] at h; exact h)
          obtain ⟨b, o, pv, av, rfl, hbw, c0, c1, c2, c3, c4, hps, hag⟩ := HC.out.at_ hlt
          obtain ⟨b', o', pv', av', rfl, hbw', d0, d1, d2, d3, d4, hps', hag'⟩ := HC'.out.at_ hlt'
          have hbr : b < wr.heap.size := by have := hbel.size; omega
          have hbr' : b' < wr.heap.size := by have := hbel.size; omega
          have hwr : w.heap.size < wr.heap.size := hxb.lt
          have hwr1 : w.heap.size + 1 < wr.heap.size := hyb.lt
          have f0 := (hbel.cell (p := ⟨b, o + i * 5, none⟩) hbw).trans c0
          have f1 := (hbel.cell (p := ⟨b, o + i * 5 + 1, none⟩) hbw).trans c1
          have f2 := (hbel.cell (p := ⟨b, o + i * 5 + 2, none⟩) hbw).trans c2
          have f3 := (hbel.cell (p := ⟨b, o + i * 5 + 3, none⟩) hbw).trans c3
          have f4 := (hbel.cell (p := ⟨b, o + i * 5 + 4, none⟩) hbw).trans c4
          have g0 := (hbel.cell (p := ⟨b', o' + i * 5, none⟩) hbw').trans d0
          have g1 := (hbel.cell (p := ⟨b', o' + i * 5 + 1, none⟩) hbw').trans d1
          have g2 := (hbel.cell (p := ⟨b', o' + i * 5 + 2, none⟩) hbw').trans d2
          have g3 := (hbel.cell (p := ⟨b', o' + i * 5 + 3, none⟩) hbw').trans d3
          have g4 := (hbel.cell (p := ⟨b', o' + i * 5 + 4, none⟩) hbw').trans d4
          have HFp := Lib.hid (HF.out.2 _ (List.getElem_mem hlt))
          have HFp' := Lib.hid (HF'.out.2 _ (List.getElem_mem hlt'))
          generalize l[i] = p at HQ f0 f1 f2 f3 f4 hps hag HFp
          generalize l'[i] = p' at HQ g0 g1 g2 g3 g4 hps' hag' HFp'
          obtain ⟨p, gs⟩ := p
          obtain ⟨p', gs'⟩ := p'
          obtain ⟨pa, pc, rfl⟩ := hps.shape
          obtain ⟨pa', pc', rfl⟩ := hps'.shape
          obtain ⟨ga, gc, rfl⟩ := hag.len
          obtain ⟨ga', gc', rfl⟩ := hag'.len
          dsimp only at HQ f0 f1 f2 f3 f4 g0 g1 g2 g3 g4 hps hps' hag hag' HFp HFp'
          have HB := Lib.hid hbel
          have HXB := Lib.hid hxb
          have HYB := Lib.hid hyb
          have HPS := Lib.hid hps
          have HPS' := Lib.hid hps'
          have HAG := Lib.hid hag
          have HAG' := Lib.hid hag'
          clear c0 c1 c2 c3 c4 d0 d1 d2 d3 d4 hbel hxb hyb hps hps' hag hag' hq
          go_wp2_with fail
          go_cut [8, 9] from 22 to 77 (fun xv yv wc => ∃ XX YY : Nat, xv = .pointer (some ⟨XX, 0, none⟩) ∧ yv = .pointer (some ⟨YY, 0, none⟩) ∧ PrAt wc XX p.g p.n (.slice pa p.ps.length pc) p.v (.slice ga gs.length gc) ∧ PrAt wc YY p'.g p'.n (.slice pa' p'.ps.length pc') p'.v (.slice ga' gs'.length gc') ∧ Below wr.heap.size wr wc)
          case first =>
            go_region
            all_goals
              go_wp2_with fail
              go_meet
              case rel =>
                first
                | exact ⟨wr.heap.size, wr.heap.size + 1, rfl, rfl, (two_boxes wr _ _).1, (two_boxes wr _ _).2.1, (two_boxes wr _ _).2.2⟩
                | exact ⟨wr.heap.size + 1, wr.heap.size, rfl, rfl, (two_boxes wr _ _).2.1, (two_boxes wr _ _).1, (two_boxes wr _ _).2.2⟩
          case rest =>
            obtain ⟨XX, YY, rfl, rfl, hX, hY, hbV⟩ := hcut
            generalize hVc : wc = V at *
            clear hVc
            have k0 := hX.c0
            have k1 := hX.c1
            have k2 := hX.c2
            have k3 := hX.c3
            have k4 := hX.c4
            have l0 := hY.c0
            have l1 := hY.c1
            have l2 := hY.c2
            have l3 := hY.c3
            have l4 := hY.c4
            have hwV := HB.out.trans (hbV.mono HB.out.size)
            have CP := Lib.hid (refSameP_any p p' (.slice pa p.ps.length pc) (.slice pa' p'.ps.length pc') ga ga' gs.length gs'.length gc gc' V ((HPS.out.below hwV).up hwV.size) ((HPS'.out.below hwV).up hwV.size) HFp.out.1.1)
            unfold prV at CP
            have hHX : Boxed V w.heap.size 24 (.slice (some ⟨b, o, none⟩) l.length cp) := (hbV.block _ HXB.out.lt).trans HXB.out
            have hHY : Boxed V (w.heap.size + 1) 24 (.slice (some ⟨b', o', none⟩) l'.length cp') := (hbV.block _ HYB.out.lt).trans HYB.out
            have HV := Lib.hid (And.intro hX (And.intro hY (And.intro hHX (And.intro hHY hwV))))
            clear hX hY hHX hHY hwV hbV hxc hyc hbr hbr' hwr hwr1 f0 f1 f2 f3 f4 g0 g1 g2 g3 g4 HXB HYB HB
            cases hsp : sameP p p' gs.length gs'.length
            · rw [hsp] at CP HQ
              have HE : Hid (R = false) := Lib.hid (by have h := HQ.out; rw [Bool.false_and, Bool.false_and] at h; exact h.symm)
              clear hsp HQ
              go_wp2_with (go_at_call 47; refine CP.out.mono ?_; rintro e V1 ⟨rfl, b1⟩)
              go_ret
              exact ⟨by rw [HE.out]; rfl, HV.out.2.2.2.2.trans (b1.mono HV.out.2.2.2.2.size)⟩
            · rw [hsp] at CP HQ
              have hgl : gs.length = gs'.length := by
                unfold sameP at hsp
                simp only [Bool.and_eq_true, decide_eq_true_eq] at hsp
                exact hsp.1.2
              have HGL := Lib.hid hgl
              have hgz := HFp.out.1.2
              have hgz' := HFp'.out.1.2
              have HQ1 : Hid ((allC m (gs.drop 0) (gs'.drop 0) && allP m (l.drop (i + 1)) (l'.drop (i + 1))) = R) := Lib.hid (by have h := HQ.out; rw [Bool.true_and] at h; exact h)
              clear hsp HQ hgl
              go_wp2_with (go_at_call 47; refine CP.out.mono ?_; rintro e V1 ⟨rfl, b1⟩)
              clear k0 k1 k2 k3 k4 l0 l1 l2 l3 l4
              go_loopw [10] (fun kv wr => ∃ kk : Nat, kv = .int .i64 (kk : Int) ∧ kk ≤ gs.length ∧ Hid ((allC m (gs.drop kk) (gs'.drop kk) && allP m (l.drop (i + 1)) (l'.drop (i + 1))) = R) ∧ PrAt wr XX p.g p.n (.slice pa p.ps.length pc) p.v (.slice ga gs.length gc) ∧ PrAt wr YY p'.g p'.n (.slice pa' p'.ps.length pc') p'.v (.slice ga' gs'.length gc') ∧ Boxed wr w.heap.size 24 (.slice (some ⟨b, o, none⟩) l.length cp) ∧ Boxed wr (w.heap.size + 1) 24 (.slice (some ⟨b', o', none⟩) l'.length cp') ∧ Below w.heap.size w wr) (fun kv _ => gs.length - (intOf kv).toNat)
              case atStart =>
                obtain ⟨hX, hY, hHX, hHY, hwV⟩ := HV.out
                exact ⟨0, rfl, Nat.zero_le _, HQ1, hX.below b1, hY.below b1, (b1.block _ hHX.lt).trans hHX, (b1.block _ hHY.lt).trans hHY, hwV.trans (b1.mono hwV.size)⟩
              case round =>
                obtain ⟨kk, rfl, hkk, hq, hX, hY, hHX, hHY, hbel⟩ := hrel
                have k4 := hX.c4
                have l4 := hY.c4
                by_cases hlk : kk < gs.length
                · have hlk' : kk < gs'.length := by rw [← HGL.out]; exact hlk
                  have hlkz : (kk : Int) < (gs.length : Int) := by omega
                  have hlkz' : (kk : Int) < (gs'.length : Int) := by omega
                  have HQ2 := Lib.hid (by have h := hq.out; rw [allC_at hlk hlk'] at h; exact h)
                  obtain ⟨b2, o2, sv, rfl, hb2, hsv, hcc⟩ := HAG.out.at_ hlk
                  obtain ⟨b3, o3, sv', rfl, hb3, hsv', hcc'⟩ := HAG'.out.at_ hlk'
                  obtain ⟨xa, xn, xc, rfl⟩ := hcc.one
                  obtain ⟨ya, yn, yc, rfl⟩ := hcc'.one
                  have hsv1 := (hbel.cell (p := ⟨b2, o2 + kk, none⟩) hb2).trans hsv
                  have hsv1' := (hbel.cell (p := ⟨b3, o3 + kk, none⟩) hb3).trans hsv'
                  have hbd : Below w.heap.size w wr.drew := hbel.drew
                  have hmm : (m : Int) + 1 - 1 = (m : Int) := by omega
                  have hwm : IntKind.i64.wrap (m : Int) = (m : Int) := by rw [IntKind.wrap_i64]; omega
                  have CI := Lib.hid (IH.out k gs[kk] k' gs'[kk] _ _ wr.drew (HFp.out.2 _ (List.getElem_mem hlk)) (HFp'.out.2 _ (List.getElem_mem hlk')) (hcc.on hbd) (hcc'.on hbd) HM.out)
                  have HW := Lib.hid (And.intro hX (And.intro hY (And.intro hHX (And.intro hHY hbel))))
                  clear hcc hcc' hsv hsv' hX hY hHX hHY hbel hbd hq
                  cases hs : sameC m gs[kk] gs'[kk]
                  · rw [hs] at CI HQ2
                    have HE : Hid (R = false) := Lib.hid (by have h := HQ2.out; rw [Bool.false_and, Bool.false_and] at h; exact h.symm)
                    clear hs HQ2
                    go_wp2_with fail
                    go_region_held3 (fun w' => w'.cell? ⟨XX, 4, none⟩ = some (.slice (some ⟨b2, o2, none⟩) gs.length gc) ∧ w'.cell? ⟨YY, 4, none⟩ = some (.slice (some ⟨b3, o3, none⟩) gs'.length gc') ∧ w'.cell? ⟨b2, o2 + kk, none⟩ = some (.slice xa xn xc) ∧ w'.cell? ⟨b3, o3 + kk, none⟩ = some (.slice ya yn yc)) (first | exact ⟨k4, l4, hsv1, hsv1'⟩ | exact ⟨m1, m2, m3, m4⟩) ((go_at_call 27; refine CI.out.mono ?_; rintro e V2 ⟨rfl, c2⟩; have m1 := (c2.cell (p := ⟨XX, 4, none⟩) HW.out.1.lt).trans k4; have m2 := (c2.cell (p := ⟨YY, 4, none⟩) HW.out.2.1.lt).trans l4; have m3 := (c2.cell (p := ⟨b2, o2 + kk, none⟩) (Nat.lt_of_lt_of_le hb2 HW.out.2.2.2.2.size)).trans hsv1; have m4 := (c2.cell (p := ⟨b3, o3 + kk, none⟩) (Nat.lt_of_lt_of_le hb3 HW.out.2.2.2.2.size)).trans hsv1'))
                    go_wp2_with fail
                    go_ret
                    exact ⟨by rw [HE.out]; rfl, (HW.out.2.2.2.2.drew).trans (c2.mono HW.out.2.2.2.2.size)⟩
                  · rw [hs] at CI HQ2
                    have HQ3 := Lib.hid (by have h := HQ2.out; rw [Bool.true_and] at h; exact h)
                    clear hs HQ2
                    go_wp2_with fail
                    go_region_held3 (fun w' => w'.cell? ⟨XX, 4, none⟩ = some (.slice (some ⟨b2, o2, none⟩) gs.length gc) ∧ w'.cell? ⟨YY, 4, none⟩ = some (.slice (some ⟨b3, o3, none⟩) gs'.length gc') ∧ w'.cell? ⟨b2, o2 + kk, none⟩ = some (.slice xa xn xc) ∧ w'.cell? ⟨b3, o3 + kk, none⟩ = some (.slice ya yn yc)) (first | exact ⟨k4, l4, hsv1, hsv1'⟩ | exact ⟨m1, m2, m3, m4⟩) ((go_at_call 27; refine CI.out.mono ?_; rintro e V2 ⟨rfl, c2⟩; have m1 := (c2.cell (p := ⟨XX, 4, none⟩) HW.out.1.lt).trans k4; have m2 := (c2.cell (p := ⟨YY, 4, none⟩) HW.out.2.1.lt).trans l4; have m3 := (c2.cell (p := ⟨b2, o2 + kk, none⟩) (Nat.lt_of_lt_of_le hb2 HW.out.2.2.2.2.size)).trans hsv1; have m4 := (c2.cell (p := ⟨b3, o3 + kk, none⟩) (Nat.lt_of_lt_of_le hb3 HW.out.2.2.2.2.size)).trans hsv1'))
                    go_wp2_with fail
                    go_roundw
                    case rel =>
                      obtain ⟨hX, hY, hHX, hHY, hbel⟩ := HW.out
                      have hd := (Below.refl wr.heap.size wr).drew.trans c2
                      exact ⟨kk + 1, by go_num, by omega, HQ3, hX.below hd, hY.below hd, (hd.block _ hHX.lt).trans hHX, (hd.block _ hHY.lt).trans hHY, hbel.trans (hd.mono hbel.size)⟩
                    case measure => simp [intOf]; omega
                · obtain rfl : kk = gs.length := by omega
                  have hlkz : ¬ (gs.length : Int) < (gs.length : Int) := by omega
                  have HQ3 : Hid (allP m (l.drop (i + 1)) (l'.drop (i + 1)) = R) := Lib.hid (by have h := hq.out; rw [allC_end (Nat.lt_irrefl _), Bool.true_and] at h; exact h)
                  clear hq
                  go_wp2_with fail
                  go_roundw
                  case rel =>
                    clear HV CP HC HC' HF HF' IH HFp HFp' HPS HPS' HAG HAG' H0 HQ1
                    have e1 : Value.int IntKind.i64 ((i : Int) + 1) = Value.int IntKind.i64 ((i + 1 : Nat) : Int) := congrArg _ (Int.natCast_succ i).symm
                    exact ⟨i + 1, e1, hlt, HQ3, hHX, hHY, hbel⟩
                  case measure => clear HV CP HC HC' HF HF' IH HFp HFp' HPS HPS' HAG HAG' H0 HQ1 HQ3 hHX hHY hbel hX hY hx hy hb; simp [intOf]; omega
        · have hltz : ¬ (i : Int) < (l.length : Int) := by omega
          have HE : Hid (R = true) := Lib.hid (by have h := hq.out; rw [allP_end hlt] at h; exact h.symm)
          go_wp2_with fail
          go_ret
          exact ⟨by rw [HE.out]; rfl, hbel⟩
end Go.Proofs.YtpdodknldhbbhaaGreatDoor.Vc

namespace Go.Proofs.YtpdodknldhbbhaaGreatDoor.Vc
set_option maxRecDepth 100000
open Go.RowKit Pp

end Go.Proofs.YtpdodknldhbbhaaGreatDoor.Vc
