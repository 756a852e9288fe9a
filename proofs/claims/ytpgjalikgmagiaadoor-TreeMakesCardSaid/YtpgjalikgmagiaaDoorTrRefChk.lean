/-
What is wrong with an element, as the document says it. Conditions: the element lies below the caller's blocks and is not too much for the law.
-/
import Derived.Test.YtpgjalikgmagiaaDoorTrFault
namespace Go.Proofs.YtpgjalikgmagiaaDoor.Tr
set_option maxRecDepth 100000
open Go.RowKit Sq Pp

abbrev bareL (l : List (Nat × Iv)) : List (Nat × El) := l.map fun y => (y.1, y.2.1)
theorem any_step {l : List (Nat × Iv)} {i : Nat} (h : i < l.length) : (l.drop i).any (fun x => decide (12 < x.1)) = (decide (12 < l[i].1) || (l.drop (i + 1)).any (fun x => decide (12 < x.1))) := by
  rw [List.drop_eq_getElem_cons h, List.any_cons]
theorem flaws_bad {l : List (Nat × Iv)} {i : Nat} (h : i < l.length) {f : Int} (hf : flaw l[i].2.1 = f) (h0 : f ≠ 0) : flaws flaw ((bareL l).drop i) = f := by
  rw [flaws_drop (by rw [List.length_map]; exact h)]
  simp only [List.getElem_map, hf]
  exact if_pos h0
theorem flaws_ok {l : List (Nat × Iv)} {i : Nat} (h : i < l.length) (hf : flaw l[i].2.1 = 0) : flaws flaw ((bareL l).drop i) = flaws flaw ((bareL l).drop (i + 1)) := by
  rw [flaws_drop (by rw [List.length_map]; exact h)]
  simp only [List.getElem_map, hf]
  exact if_neg (fun h => h rfl)
theorem flaws_end {l : List (Nat × Iv)} : flaws flaw ((bareL l).drop l.length) = 0 := by
  rw [List.drop_eq_nil_of_le (by rw [List.length_map]; exact Nat.le_refl _)]; rfl

set_option maxHeartbeats 4000000 in
theorem refCheck_walk (p : Int) (n t : ByteArray) (q : Bool) (a : Option Addr) (m c : Nat) (w : World) (l : List (Nat × Iv)) (W : Nat) (hl : l.length ≤ 3000) (hf : ∀ y ∈ l, y.1 ≤ 61 ∧ y.2.1.text.size ≤ 68719476736 ∧ y.2.1.kids.length ≤ maxLen ∧ ∃ a c, y.2.2 = .slice a y.2.1.kids.length c) (hW : W ≤ 5000)
    (hc : Calls Tryd.prog 15 #[.agg #[.int .i64 p, .string n, .string t, .bool q, .slice a m c], .int .i64 5000, .int .i64 13] (w.alloc (.cells #[.int .i64 p, .string n, .string t, .bool q, .slice a m c] 24)) fun e w' => ∃ v, e = .returned v ∧ Pairs w' (w.heap.size + 1) v l ∧ Below (w.heap.size + 1) (w.alloc (.cells #[.int .i64 p, .string n, .string t, .bool q, .slice a m c] 24)) w')
    (hwt : ∀ w1, Below w.heap.size w w1 → Calls Tryd.prog 9 #[.agg #[.int .i64 p, .string n, .string t, .bool q, .slice a m c]] w1 fun e w' => e = .returned (.int .i64 (W : Int)) ∧ Below w1.heap.size w1 w') :
    Calls Tryd.prog 7 #[.agg #[.int .i64 p, .string n, .string t, .bool q, .slice a m c]] w fun e w' => e = .returned (.int .i64 (if l.any (fun x => decide (12 < x.1)) = true then 9 else if 2000 < W then 4 else flaws flaw (bareL l))) ∧ Below w.heap.size w w' := by
  have hbw : Below w.heap.size w (w.alloc (.cells #[.int .i64 p, .string n, .string t, .bool q, .slice a m c] 24)) := (Below.refl _ _).alloc (Nat.le_refl _) _
  have hbox : ElAt (w.alloc (.cells #[.int .i64 p, .string n, .string t, .bool q, .slice a m c] 24)) w.heap.size (.mk p n t q []) (.slice a m c) := heap_alloc_new w _
  have C := Lib.hid hc
  have CW := Lib.hid hwt
  have HF := Lib.hid hf
  have HL0 := Lib.hid hl
  have HB := Lib.hid hbw
  obtain ⟨R, hR⟩ : ∃ R, (if l.any (fun x => decide (12 < x.1)) = true then (9 : Int) else if 2000 < W then 4 else flaws flaw (bareL l)) = R := ⟨_, rfl⟩
  rw [hR]
  have q0 := hbox.c0
  have q1 := hbox.c1
  have q2 := hbox.c2
  have q3 := hbox.c3
  have q4 := hbox.c4
  simp only [El.page, El.name, El.text, El.bare] at q0 q1 q2 q3
  have HBX := Lib.hid hbox
  have HR := Lib.hid hR
  have HD0 := Lib.hid (show (l.drop 0).any (fun x => decide (12 < x.1)) = l.any (fun x => decide (12 < x.1)) by rw [List.drop_zero])
  generalize l.any (fun x => decide (12 < x.1)) = D at HR HD0
  clear hbox hbw hR hc hwt hf hl
  go_enter Tryd.func7, Tryd.ntmps7
  go_wp2_with (go_at_call 15; refine C.out.mono ?_; rintro e w2 ⟨v2, rfl, hp2, hs2⟩; obtain ⟨ra, rc, rfl⟩ := hp2.shape)
  clear q0 q1 q2 q3 q4 C
  have HP2 := Lib.hid (And.intro hp2 (And.intro (HB.out.trans (hs2.mono (Nat.le_succ _))) ((hs2.block _ (Nat.lt_succ_self _)).trans HBX.out)))
  have hp2s : w.heap.size + 1 ≤ w2.heap.size := by have := hs2.size; simp at this; omega
  clear hp2 hs2 HBX HB
  go_loop [4] (fun iv => ∃ (i : Nat), iv = .int .i64 (i : Int) ∧ i ≤ l.length ∧ Hid ((l.drop i).any (fun x => decide (12 < x.1)) = D)) (fun iv => l.length - (intOf iv).toNat)
  case atStart => exact ⟨0, rfl, Nat.zero_le _, HD0⟩
  case round =>
    clear HD0
    obtain ⟨i, rfl, hi, hd⟩ := hrel
    have hl0 := HL0.out
    by_cases hlt : i < l.length
    · have hltz : (i : Int) < (l.length : Int) := by omega
      obtain ⟨g, c', e1, hgb, c0, _⟩ := HP2.out.1.at_ hlt
      cases e1
      have hz := (HF.out _ (List.getElem_mem hlt)).1
      have HS := Lib.hid (by have h := hd.out; rw [any_step hlt] at h; exact h)
      generalize hy : l[i].1 = yd at c0 hz HS
      by_cases hdp : 12 < (yd : Int)
      · have HE := Lib.hid (show R = 9 by
          have h := HS.out
          rw [decide_eq_true (by omega), Bool.true_or] at h
          have h2 := HR.out
          rw [← h] at h2
          simpa using h2.symm)
        clear hd hy HS
        go_wp2_with fail
        go_ret
        exact ⟨by rw [HE.out]; rfl, HP2.out.2.1⟩
      · have HS2 := Lib.hid (show (l.drop (i + 1)).any (fun x => decide (12 < x.1)) = D by
          have h := HS.out
          rw [decide_eq_false (by omega), Bool.false_or] at h
          exact h)
        clear hd hy HS
        go_wp2_with fail
        go_round
        case rel => exact ⟨i + 1, by go_num, by omega, HS2⟩
        case measure => simp [intOf]; omega
    · obtain rfl : i = l.length := by omega
      have hltz : ¬ (l.length : Int) < (l.length : Int) := by omega
      have HR2 := Lib.hid (show (if 2000 < W then (4 : Int) else flaws flaw (bareL l)) = R by
        have h := hd.out
        rw [List.drop_length, List.any_nil] at h
        have h2 := HR.out
        rw [← h] at h2
        simpa using h2)
      clear hd HR
      have hbx := HP2.out.2.2
      have q0 := ElAt.c0 hbx
      have q1 := ElAt.c1 hbx
      have q2 := ElAt.c2 hbx
      have q3 := ElAt.c3 hbx
      have q4 := ElAt.c4 hbx
      simp only [El.page, El.name, El.text, El.bare] at q0 q1 q2 q3
      have CW2 := Lib.hid (CW.out w2 HP2.out.2.1)
      by_cases hw2 : 2000 < (W : Int)
      · have HE := Lib.hid (show R = 4 by have h := HR2.out; rw [if_pos (by omega)] at h; exact h.symm)
        clear hbx CW
        go_wp2_with (go_at_call 9; refine CW2.out.mono ?_; rintro e w3 ⟨rfl, b3⟩)
        go_ret
        exact ⟨by rw [HE.out]; rfl, HP2.out.2.1.trans (b3.mono (by omega))⟩
      have HR3 := Lib.hid (show flaws flaw ((bareL l).drop 0) = R by have h := HR2.out; rw [if_neg (by omega)] at h; rw [List.drop_zero]; exact h)
      clear hbx CW HR2
      go_wp2_with (go_at_call 9; refine CW2.out.mono ?_; rintro e w3 ⟨rfl, b3⟩)
      clear q0 q1 q2 q3 q4 CW2
      have HP3 := Lib.hid (And.intro (HP2.out.1.keep b3) (HP2.out.2.1.trans (b3.mono (by omega))))
      clear HP2 b3
      go_loopw [5] (fun iv wr => ∃ (i : Nat), iv = .int .i64 (i : Int) ∧ i ≤ l.length ∧ Hid (flaws flaw ((bareL l).drop i) = R) ∧ Pairs wr (w.heap.size + 1) (.slice ra l.length rc) l ∧ Below w.heap.size w wr) (fun iv _ => l.length - (intOf iv).toNat)
      case atStart => exact ⟨0, rfl, Nat.zero_le _, HR3, HP3.out.1, HP3.out.2⟩
      case round =>
        clear HR3 HP3
        obtain ⟨i, rfl, hi, hd, hp, hB⟩ := hrel
        by_cases hlt : i < l.length
        · have hltz : (i : Int) < (l.length : Int) := by omega
          obtain ⟨g, c', e1, hgb, c0, c1, c2, c3, c4, c5⟩ := hp.at_ hlt
          cases e1
          obtain ⟨-, ht, hkl, kka, kkc, hkv⟩ := HF.out _ (List.getElem_mem hlt)
          have HY := Lib.hid (fun f hf h0 => (flaws_bad (f := f) hlt hf h0).symm.trans hd.out)
          have HN := Lib.hid (fun hf => (flaws_ok hlt hf).symm.trans hd.out)
          rw [hkv] at c5
          unfold flaw at HY HN
          generalize hy : l[i].2.1 = y at c1 c2 c3 c4 c5 ht hkl HY HN
          obtain ⟨yp, yn, yt, yq, yk⟩ := y
          simp only [El.page, El.name, El.text, El.bare, El.kids] at c1 c2 c3 c4 c5 ht hkl HY HN
          generalize hm : yk.length = km at c5 hkl HY HN
          clear hd hy hkv
          obtain ⟨U, hU⟩ : ∃ U, wr.alloc (.cells #[.int .i64 yp, .string yn, .string yt, .bool yq, .slice kka km kkc] 24) = U := ⟨_, rfl⟩
          have hbw : Below wr.heap.size wr U := by rw [← hU]; exact (Below.refl _ _).alloc (Nat.le_refl _) _
          have hbox : ElAt U wr.heap.size (.mk yp yn yt yq []) (.slice kka km kkc) := by rw [← hU]; exact heap_alloc_new wr _
          have q0 := hbox.c0
          have q1 := hbox.c1
          have q2 := hbox.c2
          have q3 := hbox.c3
          have q4 := hbox.c4
          simp only [El.page, El.name, El.text, El.bare] at q0 q1 q2 q3
          have C1 := Lib.hid (fun W => rName_any yn W)
          have C2 := Lib.hid (rShown_any yt U ht)
          have HQ := Lib.hid (And.intro (hp.keep hbw) (And.intro (hB.trans (hbw.mono hB.size)) (And.intro hbw.size hB.size)))
          generalize nameB yn = nb at C1 HY HN
          generalize shownB yt = sb at C2 HY HN
          clear hbox hbw hp hB
          subst hU
          by_cases h1 : yp < 0
          · skip
            have HE : Hid (R = 5) := Lib.hid ((HY.out 5 (by unfold flawM; rw [if_pos (.inl h1)]) (by decide)).symm)
            clear HY HN
            go_wp2_with fail
            go_ret
            exact ⟨by rw [HE.out]; rfl, HQ.out.2.1⟩
          by_cases h2 : 2 < yp
          · skip
            have HE : Hid (R = 5) := Lib.hid ((HY.out 5 (by unfold flawM; rw [if_pos (.inr h2)]) (by decide)).symm)
            clear HY HN
            go_wp2_with fail
            go_ret
            exact ⟨by rw [HE.out]; rfl, HQ.out.2.1⟩
          cases nb with
          | false =>
            have HE : Hid (R = 14) := Lib.hid ((HY.out 14 (by unfold flawM; rw [if_neg (fun h => h.elim h1 h2)]; rw [if_pos rfl]) (by decide)).symm)
            clear HY HN
            go_wp2_with (go_at_call 19; refine (C1.out _).mono ?_; rintro e w' ⟨rfl, rfl⟩)
            go_ret
            exact ⟨by rw [HE.out]; rfl, HQ.out.2.1⟩
          | true =>
          by_cases h3 : 200 < (km : Int)
          · skip
            have HE : Hid (R = 4) := Lib.hid ((HY.out 4 (by unfold flawM; rw [if_neg (fun h => h.elim h1 h2)]; rw [if_neg (by simp)]; rw [if_pos (by omega)]) (by decide)).symm)
            clear HY HN
            go_wp2_with (go_at_call 19; refine (C1.out _).mono ?_; rintro e w' ⟨rfl, rfl⟩)
            go_ret
            exact ⟨by rw [HE.out]; rfl, HQ.out.2.1⟩
          by_cases h4 : 0 < km ∧ ¬ yt.size = 0
          · have e1 := str_some h4.2
            have e2 := Cs.full_not (t := yt) (by omega)
            have e3 : 0 < (km : Int) := by omega
            have HE : Hid (R = 7) := Lib.hid ((HY.out 7 (by unfold flawM; rw [if_neg (fun h => h.elim h1 h2)]; rw [if_neg (by simp)]; rw [if_neg (by omega)]; rw [if_pos h4]) (by decide)).symm)
            clear HY HN
            go_wp2_with (go_at_call 19; refine (C1.out _).mono ?_; rintro e w' ⟨rfl, rfl⟩)
            go_ret
            exact ⟨by rw [HE.out]; rfl, HQ.out.2.1⟩
          by_cases h0 : yt.size = 0
          · have e1 := str_none h0
            have e2 := Cs.none_not (t := yt) (by omega)
            have e4 : ¬ 4000 < (yt.size : Int) := by omega
            by_cases hk0 : 0 < (km : Int)
            · cases yq with
              | true =>
                have HE : Hid (R = 3) := Lib.hid ((HY.out 3 (by unfold flawM; rw [if_neg (fun h => h.elim h1 h2)]; rw [if_neg (by simp)]; rw [if_neg (by omega)]; rw [if_neg h4]; rw [if_neg (by omega)]; rw [if_pos (.inl ⟨rfl, h0⟩)]) (by decide)).symm)
                clear HY HN
                go_wp2_with (go_at_call 19; refine (C1.out _).mono ?_; rintro e w' ⟨rfl, rfl⟩)
                go_ret
                exact ⟨by rw [HE.out]; rfl, HQ.out.2.1⟩
              | false =>
                cases sb with
                | false =>
                  have HE : Hid (R = 3) := Lib.hid ((HY.out 3 (by unfold flawM; rw [if_neg (fun h => h.elim h1 h2)]; rw [if_neg (by simp)]; rw [if_neg (by omega)]; rw [if_neg h4]; rw [if_neg (by omega)]; rw [if_pos (.inr ⟨rfl, rfl⟩)]) (by decide)).symm)
                  clear HY HN
                  go_wp2_with (first | (go_at_call 19; refine (C1.out _).mono ?_; rintro e w' ⟨rfl, rfl⟩) | (go_at_call 20; refine C2.out.mono ?_; rintro e w9 ⟨rfl, b9⟩))
                  go_ret
                  exact ⟨by rw [HE.out]; rfl, HQ.out.2.1.trans (b9.mono (Nat.le_trans HQ.out.2.2.2 HQ.out.2.2.1))⟩
                | true =>
                  have HE := Lib.hid (HN.out (by unfold flawM; rw [if_neg (fun h => h.elim h1 h2)]; rw [if_neg (by simp)]; rw [if_neg (by omega)]; rw [if_neg h4]; rw [if_neg (by omega)]; rw [if_neg (by simp)]))
                  clear HY HN
                  go_wp2_with (first | (go_at_call 19; refine (C1.out _).mono ?_; rintro e w' ⟨rfl, rfl⟩) | (go_at_call 20; refine C2.out.mono ?_; rintro e w9 ⟨rfl, b9⟩))
                  go_roundw
                  case rel => exact ⟨i + 1, by go_num, by omega, HE, HQ.out.1.keep b9, HQ.out.2.1.trans (b9.mono (Nat.le_trans HQ.out.2.2.2 HQ.out.2.2.1))⟩
                  case measure => simp [intOf]; omega
            · cases yq with
              | true =>
                have HE : Hid (R = 3) := Lib.hid ((HY.out 3 (by unfold flawM; rw [if_neg (fun h => h.elim h1 h2)]; rw [if_neg (by simp)]; rw [if_neg (by omega)]; rw [if_neg h4]; rw [if_neg (by omega)]; rw [if_pos (.inl ⟨rfl, h0⟩)]) (by decide)).symm)
                clear HY HN
                go_wp2_with (go_at_call 19; refine (C1.out _).mono ?_; rintro e w' ⟨rfl, rfl⟩)
                go_ret
                exact ⟨by rw [HE.out]; rfl, HQ.out.2.1⟩
              | false =>
                cases sb with
                | false =>
                  have HE : Hid (R = 3) := Lib.hid ((HY.out 3 (by unfold flawM; rw [if_neg (fun h => h.elim h1 h2)]; rw [if_neg (by simp)]; rw [if_neg (by omega)]; rw [if_neg h4]; rw [if_neg (by omega)]; rw [if_pos (.inr ⟨rfl, rfl⟩)]) (by decide)).symm)
                  clear HY HN
                  go_wp2_with (first | (go_at_call 19; refine (C1.out _).mono ?_; rintro e w' ⟨rfl, rfl⟩) | (go_at_call 20; refine C2.out.mono ?_; rintro e w9 ⟨rfl, b9⟩))
                  go_ret
                  exact ⟨by rw [HE.out]; rfl, HQ.out.2.1.trans (b9.mono (Nat.le_trans HQ.out.2.2.2 HQ.out.2.2.1))⟩
                | true =>
                  have HE := Lib.hid (HN.out (by unfold flawM; rw [if_neg (fun h => h.elim h1 h2)]; rw [if_neg (by simp)]; rw [if_neg (by omega)]; rw [if_neg h4]; rw [if_neg (by omega)]; rw [if_neg (by simp)]))
                  clear HY HN
                  go_wp2_with (first | (go_at_call 19; refine (C1.out _).mono ?_; rintro e w' ⟨rfl, rfl⟩) | (go_at_call 20; refine C2.out.mono ?_; rintro e w9 ⟨rfl, b9⟩))
                  go_roundw
                  case rel => exact ⟨i + 1, by go_num, by omega, HE, HQ.out.1.keep b9, HQ.out.2.1.trans (b9.mono (Nat.le_trans HQ.out.2.2.2 HQ.out.2.2.1))⟩
                  case measure => simp [intOf]; omega
          · have e1 := str_some h0
            have e2 := Cs.full_not (t := yt) (by omega)
            have hm0 : km = 0 := by
              rcases Nat.eq_zero_or_pos km with h | h
              · exact h
              · exact absurd ⟨h, h0⟩ h4
            subst hm0
            by_cases h5 : 4000 < (yt.size : Int)
            · skip
              have HE : Hid (R = 8) := Lib.hid ((HY.out 8 (by unfold flawM; rw [if_neg (fun h => h.elim h1 h2)]; rw [if_neg (by simp)]; rw [if_neg (by omega)]; rw [if_neg h4]; rw [if_pos (by omega)]) (by decide)).symm)
              clear HY HN
              go_wp2_with (go_at_call 19; refine (C1.out _).mono ?_; rintro e w' ⟨rfl, rfl⟩)
              go_ret
              exact ⟨by rw [HE.out]; rfl, HQ.out.2.1⟩
            cases yq with
            | true =>
              have HE := Lib.hid (HN.out (by unfold flawM; rw [if_neg (fun h => h.elim h1 h2)]; rw [if_neg (by simp)]; rw [if_neg (by omega)]; rw [if_neg h4]; rw [if_neg (by omega)]; rw [if_neg (by simp [h0])]))
              clear HY HN
              go_wp2_with (go_at_call 19; refine (C1.out _).mono ?_; rintro e w' ⟨rfl, rfl⟩)
              go_roundw
              case rel => exact ⟨i + 1, by go_num, by omega, HE, HQ.out.1, HQ.out.2.1⟩
              case measure => simp [intOf]; omega
            | false =>
              cases sb with
              | false =>
                have HE : Hid (R = 3) := Lib.hid ((HY.out 3 (by unfold flawM; rw [if_neg (fun h => h.elim h1 h2)]; rw [if_neg (by simp)]; rw [if_neg (by omega)]; rw [if_neg h4]; rw [if_neg (by omega)]; rw [if_pos (.inr ⟨rfl, rfl⟩)]) (by decide)).symm)
                clear HY HN
                go_wp2_with (first | (go_at_call 19; refine (C1.out _).mono ?_; rintro e w' ⟨rfl, rfl⟩) | (go_at_call 20; refine C2.out.mono ?_; rintro e w9 ⟨rfl, b9⟩))
                go_ret
                exact ⟨by rw [HE.out]; rfl, HQ.out.2.1.trans (b9.mono (Nat.le_trans HQ.out.2.2.2 HQ.out.2.2.1))⟩
              | true =>
                have HE := Lib.hid (HN.out (by unfold flawM; rw [if_neg (fun h => h.elim h1 h2)]; rw [if_neg (by simp)]; rw [if_neg (by omega)]; rw [if_neg h4]; rw [if_neg (by omega)]; rw [if_neg (by simp)]))
                clear HY HN
                go_wp2_with (first | (go_at_call 19; refine (C1.out _).mono ?_; rintro e w' ⟨rfl, rfl⟩) | (go_at_call 20; refine C2.out.mono ?_; rintro e w9 ⟨rfl, b9⟩))
                go_roundw
                case rel => exact ⟨i + 1, by go_num, by omega, HE, HQ.out.1.keep b9, HQ.out.2.1.trans (b9.mono (Nat.le_trans HQ.out.2.2.2 HQ.out.2.2.1))⟩
                case measure => simp [intOf]; omega
        · obtain rfl : i = l.length := by omega
          have hltz : ¬ (l.length : Int) < (l.length : Int) := by omega
          have HE := Lib.hid (show R = 0 by rw [← hd.out, flaws_end])
          clear hd
          go_wp2_with fail
          go_ret
          exact ⟨by rw [HE.out]; rfl, hB⟩
end Go.Proofs.YtpgjalikgmagiaaDoor.Tr
