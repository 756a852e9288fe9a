/-
slices.DeleteFunc at parameters of a name, walked. Conditions: the row is the caller's own, at most 100 parameters.
-/
import Derived.Test.YtfgaabjpkmmpdaaPpPDel
namespace Go.Proofs.Ytfgaabjpkmmpdaa.Pp
open Go.RowKit

theorem Cut.ps {W : World} {g j k cap : Nat} {ps kept : List (ByteArray × ByteArray)} (h : Cut W g ps kept j) (hk : k = kept.length) : Ps W W.heap.size (.slice (some ⟨g, 0, none⟩) k cap) kept := by
  subst hk
  obtain ⟨cur, h1, h2, h3, h4⟩ := h
  refine .inr ⟨g, 0, cap, rfl, (Array.getElem?_eq_some_iff.1 h1).1, fun i hi => ?_⟩
  obtain ⟨p1, p2⟩ := pcells_at kept i hi
  rw [Nat.zero_add]
  exact ⟨cell_of_cur h1 (by rw [h3 _ (by omega)]; exact p1), cell_of_cur h1 (by rw [h3 _ (by omega)]; exact p2)⟩

set_option maxRecDepth 100000 in
set_option maxHeartbeats 4000000 in
theorem delFunc_any (v : Value) (ps : List (ByteArray × ByteArray)) (nm : ByteArray) (b base : Nat) (w : World) (hown : Own w base v ps) (hl : ps.length ≤ 100) (hb : w.cell? ⟨b, 0, none⟩ = some (.string nm)) (hbb : b < base) :
    Calls Try.prog 27 #[v, .func (.func 28) #[] #[.pointer (some ⟨b, 0, none⟩)]] w fun e w' => ∃ v', e = .returned v' ∧ Ps w' w'.heap.size v' (wout ps nm) ∧ v'.ownBlock = v.ownBlock ∧ w.grownBy w' v.ownBlock := by
  have hps := hown.ps
  have CI := Lib.hid (indexDel_any v ps nm b w hps (by omega) hb)
  have hbw := World.block_lt_of_cell? w _ hb
  have CD := Lib.hid (fun n v W h => del_any n v nm b W h)
  have HOWN := Lib.hid hown
  obtain ⟨pa, pc, rfl⟩ := hps.shape
  have HPS := Lib.hid hps
  have hsh := hown.2
  clear hown hps
  go_enter Try.func27, Try.ntmps27
  go_wp2_with fail
  refine CI.out.mono ?_
  rintro e w1 ⟨⟨rfl, hall⟩ | ⟨k, hk, rfl, hhit, hpre⟩, b1⟩
  · have HA := Lib.hid hall
    have hP := (HPS.out.below b1).up b1.size
    rw [← hall] at hP
    have HP := Lib.hid hP
    clear hall hsh hP
    go_wp2_with fail
    go_ret
    refine ⟨_, rfl, ?_, rfl, gOf b1⟩
    have := HP.out
    rw [HA.out] at this ⊢
    exact this
  · obtain ⟨g, cap, cur, hv, hg, hgc, hnc, hcm, hcs, htake⟩ : ∃ g cap cur, Value.slice pa ps.length pc = .slice (some ⟨g, 0, none⟩) ps.length cap ∧ base ≤ g ∧ w.heap[g]? = some (.cells cur 39 (0, 0)) ∧ ps.length ≤ cap ∧ cap ≤ maxLen ∧ cur.size = cap * 2 ∧ cur.toList.take (ps.length * 2) = pcells ps := by
      rcases hsh with ⟨_, h0⟩ | h
      · omega
      · exact h
    simp only [Value.slice.injEq, true_and] at hv
    obtain ⟨rfl, rfl⟩ := hv
    have hgw : g < w.heap.size := (Array.getElem?_eq_some_iff.1 hgc).1
    have hcut : ∀ t, t < ps.length * 2 → cur[t]? = (pcells ps)[t]? := fun t ht => by
      rw [← htake, List.getElem?_take_of_lt ht]; simp
    have hc1 : Cut w1 g ps (wout (ps.take (k + 1)) nm) (k + 1) := by
      rw [wout_take_yes hk hhit, hpre]
      refine ⟨cur, (b1.block g hgw).trans hgc, by omega, fun t ht => ?_, fun t _ ht => hcut t ht⟩
      rw [List.length_take] at ht
      rw [hcut t (by omega)]
      conv => lhs; rw [← List.take_append_drop k ps, pcells_append]
      rw [List.getElem?_append_left (by rw [pcells_length, List.length_take]; omega)]
    have hlen1 : (wout (ps.take (k + 1)) nm).length < k + 1 := by rw [wout_take_yes hk hhit, hpre, List.length_take]; omega
    have hlen0 : (wout (ps.take (k + 1)) nm).length = k := by rw [wout_take_yes hk hhit, hpre, List.length_take]; omega
    have HC1 := Lib.hid hc1
    have HB1 := Lib.hid (gOf (r := some g) b1)
    have hmx : maxLen ≤ 9223372036854775807 := by decide
    have hcapi : (pc : Int) ≤ 9223372036854775807 := by omega
    have hnci : (ps.length : Int) ≤ (pc : Int) := by omega
    have HCAP := Lib.hid (And.intro hcapi hnci)
    clear hcapi hnci
    clear hhit hpre hcut htake hcm hcs hc1 hsh hgc HPS HOWN CI hmx
    have hk1 : (k : Int) + 1 ≤ 100 := by omega
    have hne : ((k : Int) == -1) = false := beq_eq_false_iff_ne.2 (by omega)
    go_wp2_with fail
    go_loopw [5, 6] (fun iv jv wr => ∃ j : Nat, j ≤ ps.length ∧ jv = .int .i64 (j : Int) ∧ iv = .int .i64 ((wout (ps.take j) nm).length : Int) ∧ (wout (ps.take j) nm).length < j ∧ Cut wr g ps (wout (ps.take j) nm) j ∧ w.grownBy wr (some g)) (fun _ jv _ => ps.length - (intOf jv).toNat)
    case atStart => exact ⟨k + 1, hk, by go_num, by rw [hlen0], hlen1, HC1.out, HB1.out⟩
    case round =>
      obtain ⟨j, hj, rfl, rfl, hkl, hcut, hbel⟩ := hrel
      by_cases hlt : j < ps.length
      · have HY := Lib.hid (wout_take_yes (s := nm) hlt)
        have HN := Lib.hid (wout_take_no (s := nm) hlt)
        have hat := hcut.at_ hlt
        have hil : (wout (ps.take j) nm).length < ps.length := by omega
        generalize wout (ps.take j) nm = kept at HY HN hkl hcut hil
        generalize ps[j] = x at hat HY HN
        obtain ⟨n', v'⟩ := x
        simp only at hat HY HN
        obtain ⟨hc0, hc1⟩ := hat
        have bq : Below wr.heap.size wr (wr.alloc (.cells #[.string n', .string v'] 39)) := (Below.refl _ _).alloc (Nat.le_refl _) _
        have hbg : some b ≠ some g := fun e => by cases e; omega
        have hbc : (wr.alloc (.cells #[.string n', .string v'] 39)).cell? ⟨b, 0, none⟩ = some (.string nm) := (World.cell?_of_block (a := ⟨b, 0, none⟩) ((gBelow hbel bq).block b hbw hbg)).trans hb
        have C := Lib.hid (CD.out n' v' _ hbc)
        have hltz : (j : Int) < (ps.length : Int) := by omega
        have HCQ := Lib.hid (hcut.below bq)
        have HBQ := Lib.hid (gBelow hbel bq)
        have HKL := Lib.hid hkl
        have hiz : (kept.length : Int) < (ps.length : Int) := by omega
        clear hcut hbel bq hbc hkl hil
        cases he : (n'.toList == nm.toList)
        · rw [he] at C
          have HN' := Lib.hid (HN.out he)
          clear he HN HY
          go_wp2_with (go_at_call 28; refine C.out.mono ?_; rintro e w2 ⟨rfl, b2⟩; have hcut2 := HCQ.out.below b2; have hbel2 := gBelow HBQ.out b2; obtain ⟨⟨u0, hu0⟩, ⟨u1, hu1⟩, hf0, hf1⟩ := hcut2.old (i := kept.length) (by omega); have hqb := (b2.block wr.heap.size (by rw [World.size_alloc]; omega)).trans (heap_alloc_new wr (.cells #[.string n', .string v'] 39)); have q0 : w2.cell? ⟨wr.heap.size, 0, none⟩ = some (.string n') := cell_of_cur hqb rfl; have q1 : w2.cell? ⟨wr.heap.size, 1, none⟩ = some (.string v') := cell_of_cur hqb rfl; clear hqb)
          go_roundw
          case rel =>
            have hk := HKL.out
            refine ⟨j + 1, by omega, by go_num, by rw [HN'.out, List.length_append]; go_num, by rw [HN'.out, List.length_append]; simp; omega, ?_, gSet (gSet hbel2 _ _) _ _⟩
            rw [HN'.out]
            exact hcut2.keep hk hlt n' v'
          case measure => simp [intOf]; omega
        · rw [he] at C
          have HY' := Lib.hid (HY.out he)
          clear he HN HY
          go_wp2_with (go_at_call 28; refine C.out.mono ?_; rintro e w2 ⟨rfl, b2⟩)
          have hcut2 := HCQ.out.below b2
          go_roundw
          case rel => exact ⟨j + 1, by omega, by go_num, by rw [HY'.out], by rw [HY'.out]; have := HKL.out; omega, by rw [HY'.out]; exact hcut2.skip, gBelow HBQ.out b2⟩
          case measure => simp [intOf]; omega
      · obtain rfl : j = ps.length := by omega
        have hwout : wout (ps.take ps.length) nm = wout ps nm := by rw [List.take_length]
        rw [hwout] at hcut hkl ⊢
        have hltz : ¬ (ps.length : Int) < (ps.length : Int) := by omega
        obtain ⟨hcapi, hnci⟩ := HCAP.out
        obtain ⟨cur2, hg2, hsz2, hlow2, _⟩ := hcut
        obtain ⟨W2, hclr, ⟨cur3, hg3, hlow3⟩, bW⟩ := clear_ps g (wout ps nm).length (ps.length - (wout ps nm).length) (pc - (wout ps nm).length) cur2 wr hg2 (by omega) (by omega)
        have hP : Ps W2 W2.heap.size (.slice (some ⟨g, 0, none⟩) (wout ps nm).length pc) (wout ps nm) := by
          refine .inr ⟨g, 0, pc, rfl, (Array.getElem?_eq_some_iff.1 hg3).1, fun i hi => ?_⟩
          obtain ⟨p1, p2⟩ := pcells_at (wout ps nm) i hi
          rw [Nat.zero_add]
          exact ⟨cell_of_cur hg3 (by rw [hlow3 _ (by omega), hlow2 _ (by omega)]; exact p1), cell_of_cur hg3 (by rw [hlow3 _ (by omega), hlow2 _ (by omega)]; exact p2)⟩
        have HP := Lib.hid hP
        have HBW := Lib.hid (gGrown hbel bW)
        have hkz : ((wout ps nm).length : Int) < (ps.length : Int) := by omega
        clear hP hlow2 hlow3 hg2 hg3 hsz2 bW hbel hkl hwout
        generalize (wout ps nm).length = i at *
        go_wp2_with fail
        go_ret
        exact ⟨_, rfl, HP.out, rfl, HBW.out⟩
end Go.Proofs.Ytfgaabjpkmmpdaa.Pp
