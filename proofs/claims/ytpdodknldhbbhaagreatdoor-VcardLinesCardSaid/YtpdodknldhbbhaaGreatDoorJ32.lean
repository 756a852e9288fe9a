/-
Texts joined in one file, each with its own conditions: What is wrong with a card but for how deep it is and how long its text: the program's answer is the plain one. Conditions: the card lies below the caller's blocks, and no list of it is longer than 2^40. · The document's Check and Print answer the plain ones. Conditions: the card lies below the caller's blocks, and no list of it is longer than 2^40. · The law's Great answers the plain one. Conditions: the card lies below the caller's blocks, and no list of it is longer than 2^40. · The statement on cards' texts holds, if the program's Print and Deep answer the plain ones. Conditions: the card lies below the caller's blocks, and no list of it is longer than 2^40. · What the program's reader does to its open cards: one more is opened, one gets a property, one ends. No conditions but those that each theorem states. · The program's reader: the innermost card, and its end. Conditions: the reader lies in memory as the plain machine's state. · The program's reader takes a value: the property's value may go on in the next line, or the property is whole. Conditions: the reader lies in memory as the plain machine's state; texts have at most 2^20 bytes. · The program's reader takes a value that is written in quoted-printable: the property's value goes on in the next line, or the property is whole. Conditions: the reader lies in memory as the plain machine's state; texts have at most 2^20 bytes. · The program's reader takes a property's line. Conditions: the reader lies in memory as the plain machine's state; the line has at most 10000 bytes; the library's tables hold what the rows list.
-/
import Derived.Test.YtpdodknldhbbhaaGreatDoorJ22
import Derived.Test.YtpdodknldhbbhaaGreatDoorJ30
import Derived.Test.YtpdodknldhbbhaaGreatDoorJ19
import Derived.Deep.RegionHeld3
import Derived.Test.YtpdodknldhbbhaaGreatDoorJ31
import Derived.Test.YtpdodknldhbbhaaGreatDoorJ03
import Derived.Test.YtpdodknldhbbhaaGreatDoorJ04
import Derived.Test.YtpdodknldhbbhaaGreatDoorJ07
import Derived.Test.YtpdodknldhbbhaaGreatDoorJ26
import Derived.BigQuiet
import Derived.Deep.QuietTactic
import Derived.RegionTactic
import Derived.Test.YtpdodknldhbbhaaGreatDoorJ20
import Derived.Deep.RegionWith
import Derived.Deep.CutRange
import Derived.Deep.RegionLaw
import Derived.Test.YtpdodknldhbbhaaGreatDoorJ24
namespace Go.Proofs.YtpdodknldhbbhaaGreatDoor.Vc
set_option maxRecDepth 100000
open Go.RowKit Pp

set_option maxHeartbeats 1000000 in
theorem oddParam_any (n v : ByteArray) (hv : v.size ≤ 1099511627776) (w : World) :
    Calls Tryz.prog 57 #[.agg #[.string n, .string v]] w fun e w' => e = .returned (.bool (oddP (n, v))) ∧ Below w.heap.size w w' := by
  have BB : Below w.heap.size w (w.alloc (.cells #[.string n, .string v] 66)) := (Below.refl _ _).alloc (Nat.le_refl _) _
  have hxc : (w.alloc (.cells #[.string n, .string v] 66)).heap[w.heap.size]? = some (.cells #[.string n, .string v] 66) := heap_alloc_new w _
  have x0 := cell_of_row _ w.heap.size 0 _ _ _ hxc
  have x1 := cell_of_row _ w.heap.size 1 _ _ _ hxc
  have C1 := Lib.hid (fun W => saysHow_any n v W)
  have C2 := Lib.hid (fun W => Cs.caps_any v W (by omega))
  have HXC := Lib.hid hxc
  have HBB := Lib.hid BB
  have hlt : w.heap.size < (w.alloc (.cells #[.string n, .string v] 66)).heap.size := by rw [World.size_alloc]; omega
  have HLT := Lib.hid hlt
  have HO := Lib.hid (odd_says n v)
  have K0 : Hid (Kp w (w.alloc (.cells #[.string n, .string v] 66))) := Lib.hid ⟨HLT.out, HBB.out⟩
  clear hxc BB hlt
  rw [HO.out]
  clear HO
  generalize sayHow (n, v) = t at C1 ⊢
  cases t
  · rw [Bool.false_or]
    by_cases hz : n.size = 0
    · have hs0 := str_none hz
      rw [decide_eq_true hz, Bool.true_and, up_caps]
      go_enter Tryz.func57, Tryz.ntmps57
      go_wp2_with fail
      go_region_held3 (fun W => W.cell? ⟨w.heap.size, 0, none⟩ = some (.string n) ∧ W.cell? ⟨w.heap.size, 1, none⟩ = some (.string v) ∧ Kp w W) (first | exact ⟨x0, x1, K0.out⟩ | exact ⟨x0, x1, K0.out.drew⟩ | exact ⟨y0, y1, k1⟩ | exact ⟨z0, z1, k2⟩ | go_keep) (first
        | (go_at_call 106; (with_reducible refine (C1.out _).mono ?_); rintro e w1 ⟨rfl, b1⟩; have y0 := (b1.cell (p := ⟨w.heap.size, 0, none⟩) (Kp.l (w := w) (by first | exact K0.out.drew | exact k1 | assumption))).trans (by assumption); have y1 := (b1.cell (p := ⟨w.heap.size, 1, none⟩) (Kp.l (w := w) (by first | exact K0.out.drew | exact k1 | assumption))).trans (by assumption); have k1 := Kp.below (w := w) (by first | exact K0.out.drew | exact k1 | assumption) b1)
        | (go_at_call 52; (with_reducible refine (C2.out _).mono ?_); rintro e w2 ⟨rfl, b2⟩; have z0 := (b2.cell (p := ⟨w.heap.size, 0, none⟩) (Kp.l (w := w) (by first | exact K0.out.drew | exact k1 | assumption))).trans (by assumption); have z1 := (b2.cell (p := ⟨w.heap.size, 1, none⟩) (Kp.l (w := w) (by first | exact K0.out.drew | exact k1 | assumption))).trans (by assumption); have k2 := Kp.below (w := w) (by first | exact K0.out.drew | exact k1 | assumption) b2))
      go_wp2_with fail
      go_ret
      exact ⟨rfl, Kp.b (by assumption)⟩
    · have hs0 := str_some hz
      have hs1 : (n.toList == []) = false := by cases hq : n.toList with | nil => rw [hq] at hs0; cases hs0 | cons x r => rfl
      have hs2 : decide (n.toList = []) = false := by cases hq : n.toList with | nil => rw [hq] at hs0; cases hs0 | cons x r => rfl
      rw [decide_eq_false hz, Bool.false_and]
      clear C2
      go_enter Tryz.func57, Tryz.ntmps57
      go_wp2_with fail
      first | (go_region_with (go_at_call 106; (with_reducible refine (C1.out _).mono ?_); rintro e w1 ⟨rfl, b1⟩; have y0 := (b1.cell (p := ⟨w.heap.size, 0, none⟩) K0.out.drew.l).trans x0; have k1 := K0.out.drew.below b1)) | fail "A"
      all_goals go_wp2_with fail
      all_goals go_ret
      all_goals exact ⟨rfl, Kp.b (by assumption)⟩
  · rw [Bool.true_or]
    have hud : undef = (.tuple #[]) := rfl
    clear C2
    go_enter Tryz.func57, Tryz.ntmps57
    go_wp2_with fail
    first | (go_region_with (go_at_call 106; (with_reducible refine (C1.out _).mono ?_); rintro e w1 ⟨rfl, b1⟩; have y0 := (b1.cell (p := ⟨w.heap.size, 0, none⟩) K0.out.drew.l).trans x0; have k1 := K0.out.drew.below b1)) | fail "B"
    all_goals go_wp2_with fail
    all_goals go_ret
    all_goals exact ⟨rfl, Kp.b (by assumption)⟩

set_option maxHeartbeats 800000 in
theorem indexOdd_any (pv : Value) (ps : List (ByteArray × ByteArray)) (w : World) (hps : Ps w w.heap.size pv ps) (hl : ps.length ≤ 1099511627776) (hsz : ∀ x ∈ ps, x.2.size ≤ 1099511627776) :
    Calls Tryz.prog 105 #[pv, .func (.func 57) #[] #[]] w fun e w' => (∃ i : Int, e = .returned (.int .i64 i) ∧ decide (0 ≤ i) = ps.any oddP) ∧ Below w.heap.size w w' := by
  obtain ⟨pa, pc, rfl⟩ := hps.shape
  obtain ⟨r, hr⟩ : ∃ r, ps.any oddP = r := ⟨_, rfl⟩
  rw [hr]
  have CN := Lib.hid (fun n v h W => oddParam_any n v h W)
  have HSZ := Lib.hid hsz
  clear hsz
  go_enter Tryz.func105, Tryz.ntmps105
  go_wp2_with fail
  go_loopw [8] (fun iv wr => ∃ k : Nat, k ≤ ps.length ∧ iv = .int .i64 k ∧ Below w.heap.size w wr ∧ Hid ((ps.drop k).any oddP = r)) (fun iv _ => ps.length - (intOf iv).toNat)
  case atStart => exact ⟨0, Nat.zero_le _, rfl, Below.refl _ _, Lib.hid hr⟩
  case round =>
    obtain ⟨k, hk, rfl, hbel, HK⟩ := hrel
    clear hr
    by_cases hlt : k < ps.length
    · obtain ⟨b, o, cap, hv1, hbB, hc0, hc1⟩ := (hps.below hbel).at_ hlt
      simp only [Value.slice.injEq, true_and] at hv1
      obtain ⟨rfl, rfl⟩ := hv1
      have HN := Lib.hid (any_no (f := oddP) hlt)
      have HY := Lib.hid (any_yes (f := oddP) hlt)
      have hsx := HSZ.out _ (List.getElem_mem hlt)
      generalize ps[k] = x at hc0 hc1 HN HY hsx
      obtain ⟨n', v'⟩ := x
      simp only at HN HY hc0 hc1 hsx
      have C := Lib.hid (fun W => CN.out n' v' hsx W)
      clear hsx
      cases hp : oddP (n', v') <;> rw [hp] at C
      · have HK' := Lib.hid ((HN.out hp).symm.trans HK.out)
        go_wp2_with fail
        refine (C.out _).mono ?_
        rintro e w2 ⟨rfl, b2⟩
        go_wp2_with fail
        go_roundw
        case rel => exact ⟨k + 1, by omega, by go_num, hbel.trans (b2.mono hbel.size), HK'⟩
        case measure => simp [intOf]; omega
      · obtain rfl : true = r := by rw [← HK.out]; exact (HY.out hp).symm
        go_wp2_with fail
        refine (C.out _).mono ?_
        rintro e w2 ⟨rfl, b2⟩
        go_wp2_with fail
        go_ret
        exact ⟨⟨_, rfl, by simp⟩, hbel.trans (b2.mono hbel.size)⟩
    · obtain rfl : k = ps.length := by omega
      obtain rfl : false = r := by rw [← HK.out, List.drop_length]; rfl
      go_wp2_with fail
      go_ret
      exact ⟨⟨_, rfl, by simp⟩, hbel⟩
set_option maxHeartbeats 400000 in
theorem containsOdd_any (pv : Value) (ps : List (ByteArray × ByteArray)) (w : World) (hps : Ps w w.heap.size pv ps) (hl : ps.length ≤ 1099511627776) (hsz : ∀ x ∈ ps, x.2.size ≤ 1099511627776) :
    Calls Tryz.prog 56 #[pv, .func (.func 57) #[] #[]] w fun e w' => e = .returned (.bool (ps.any oddP)) ∧ Below w.heap.size w w' := by
  have C := Lib.hid (indexOdd_any pv ps w hps hl hsz)
  obtain ⟨pa, pc, rfl⟩ := hps.shape
  generalize ps.any oddP = R at C ⊢
  clear hps hsz
  go_enter Tryz.func56, Tryz.ntmps56
  go_wp2_with fail
  refine C.out.mono ?_
  rintro e w2 ⟨⟨i, rfl, hi⟩, b2⟩
  have HI := Lib.hid hi
  clear hi
  go_wp2_with fail
  go_ret
  exact ⟨ret_bool HI.out, b2⟩

/-- A property's box, and what lies below it. -/
structure Fb (w W : World) (g n : ByteArray) (pv : Value) (v : ByteArray) (av : Value) : Prop where
  p : PrAt W w.heap.size g n pv v av
  b : Below w.heap.size w W
theorem Fb.below {w W W' : World} {g n v : ByteArray} {pv av : Value} (h : Fb w W g n pv v av) (hb : Below W.heap.size W W') : Fb w W' g n pv v av := ⟨h.p.below hb, h.b.trans (hb.mono h.b.size)⟩
/-- A right list of parameters has short values. -/
theorem chk_vals_le {g n : ByteArray} {ps : List (ByteArray × ByteArray)} (h : chk g n ps ⟨#[]⟩ 0 = 0) : ∀ x ∈ ps, x.2.size ≤ 1099511627776 := by
  intro x hx
  have hg : goodPs ps = true := by
    cases hq : goodPs ps with
    | true => rfl
    | false =>
      exfalso
      unfold chk at h
      rw [hq] at h
      split at h
      · cases h
      split at h
      · cases h
      · simp at h
  have h := List.all_eq_true.1 hg x hx
  unfold paramB at h
  rw [Bool.and_eq_true] at h
  have := valB_le h.2
  omega

/-- What the program's check of a card is asked, at cards of a depth. -/
def FltAt (k : Nat) : Prop := ∀ (t : Crd) (sv : Value) (w : World), Fits k t → CAt w w.heap.size k t sv →
  Calls Tryz.prog 18 #[.agg #[sv]] w fun e w' => e = .returned (.int .i64 (chkC k t)) ∧ Below w.heap.size w w'

set_option maxHeartbeats 8000000 in
theorem propFault_any (k : Nat) (IH : FltAt k) (g n v : ByteArray) (ps : List (ByteArray × ByteArray)) (gs : List Crd) (pv av : Value) (w : World) (hps : Ps w w.heap.size pv ps) (hag : AgAt w w.heap.size (CAt w w.heap.size k) gs av) (hpl : ps.length ≤ 1099511627776) (hgl : gs.length ≤ 1099511627776) (hfit : ∀ a ∈ gs, Fits k a) :
    Calls Tryz.prog 30 #[prV g n pv v av] w fun e w' => e = .returned (.int .i64 (chkP (chkC k) (⟨g, n, ps, v⟩, gs))) ∧ Below w.heap.size w w' := by
  obtain ⟨pa, pc, rfl⟩ := hps.shape
  obtain ⟨ga, gc, rfl⟩ := hag.len
  unfold prV
  have hp0 : PrAt (w.alloc (.cells #[.string g, .string n, .slice pa ps.length pc, .string v, .slice ga gs.length gc] 53)) w.heap.size g n (.slice pa ps.length pc) v (.slice ga gs.length gc) := heap_alloc_new w _
  have hb0 : Below w.heap.size w (w.alloc (.cells #[.string g, .string n, .slice pa ps.length pc, .string v, .slice ga gs.length gc] 53)) := (Below.refl _ _).alloc (Nat.le_refl _) _
  have F0 := Lib.hid (Fb.mk hp0 hb0)
  have C1 := Lib.hid (fun (W : World) (h : Below w.heap.size w W) => pCheck_any g n _ ⟨#[]⟩ none 0 0 ps W ((hps.below h).up h.size) hpl (by decide))
  have C2 := Lib.hid (fun (h0 : ∀ x ∈ ps, x.2.size ≤ 1099511627776) (W : World) (h : Below w.heap.size w W) => containsOdd_any _ ps W ((hps.below h).up h.size) hpl h0)
  have C3 := Lib.hid (fun (W : World) => lineName_any n W)
  have HV := Lib.hid (chk_vals_le (g := g) (n := n) (ps := ps))
  have HAG := Lib.hid hag
  have HFI := Lib.hid hfit
  obtain ⟨R, hR⟩ : ∃ R, chkP (chkC k) (⟨g, n, ps, v⟩, gs) = R := ⟨_, rfl⟩
  rw [hR]
  have HR := Lib.hid hR
  have HPF : Hid (pflt ⟨g, n, ps, v⟩ gs.length = if chk g n ps ⟨#[]⟩ 0 ≠ 0 then chk g n ps ⟨#[]⟩ 0 else if 4 < ps.length then 4 else if ps.any oddP = true then 3 else if framed n = true then 14 else if 600 < v.size then 8 else if badA ⟨g, n, ps, v⟩ gs.length = true then 5 else 0) := Lib.hid rfl
  have HBADP : Hid (pflt ⟨g, n, ps, v⟩ gs.length ≠ 0 → R = pflt ⟨g, n, ps, v⟩ gs.length) := Lib.hid (fun h => by rw [← hR]; exact chkP_bad h)
  have IHH := Lib.hid IH
  have HONE : Hid (∀ a, gs = [a] → pflt ⟨g, n, ps, v⟩ gs.length = 0 → R = chkC k a) := Lib.hid (fun a h h0 => by rw [← hR]; exact chkP_one h0 h)
  have HNONE : Hid (gs.length = 0 → pflt ⟨g, n, ps, v⟩ gs.length = 0 → R = 0) := Lib.hid (fun h h0 => by rw [← hR]; exact chkP_none h0 h)
  unfold prV at C1
  clear hR hag hps hp0 hb0 hfit IH
  generalize chk g n ps ⟨#[]⟩ 0 = E at C1 HV HPF
  generalize hod : ps.any oddP = od at C2 HPF
  generalize hfr : framed n = fr at C3 HPF
  have HBA : Hid (badA ⟨g, n, ps, v⟩ gs.length = (decide (1 < gs.length) || ((n.toList == agtL) != decide (gs.length = 1)) || (decide (gs.length = 1) && !decide (v.size = 0)))) := Lib.hid rfl
  generalize badA ⟨g, n, ps, v⟩ gs.length = ba at HPF HBA
  generalize pflt ⟨g, n, ps, v⟩ gs.length = pf at HPF HBADP HONE HNONE
  have HLEN : Hid (gs.length ≤ 1099511627776) := Lib.hid hgl
  obtain ⟨m, hm⟩ : ∃ m, gs.length = m := ⟨_, rfl⟩
  have HM := Lib.hid hm
  rw [hm] at F0 HBA HNONE HLEN
  rw [hm]
  clear hm hod hfr hgl
  by_cases hE : E = 0
  rotate_left
  · have heb : (E == 0) = false := by simpa using hE
    have HE : Hid (R = E) := Lib.hid (by
      have h1 : pf = E := by rw [HPF.out, if_pos hE]
      rw [← h1]; exact HBADP.out (by rw [h1]; exact hE))
    clear HPF HBADP HONE HNONE HBA C2 C3 HV hE
    go_enter Tryz.func30, Tryz.ntmps30
    go_wp2_with fail
    refine (C1.out _ F0.out.b).mono ?_
    rintro e w1 ⟨rfl, b1⟩
    have HF1 := Lib.hid (F0.out.below b1)
    clear b1 C1 F0
    go_wp2_with fail
    go_ret
    exact ⟨by rw [HE.out]; rfl, HF1.out.b⟩
  subst hE
  have HPF1 : Hid (pf = if 4 < ps.length then 4 else if od = true then 3 else if fr = true then 14 else if 600 < v.size then 8 else if ba = true then 5 else 0) := Lib.hid (by have h := HPF.out; rw [if_neg (fun e => e rfl)] at h; exact h)
  have HC2 := Lib.hid (C2.out (HV.out rfl))
  clear HPF C2 HV
  have c0 := F0.out.p.c0
  have c1 := F0.out.p.c1
  have c2 := F0.out.p.c2
  go_enter Tryz.func30, Tryz.ntmps30
  go_wp2_with fail
  refine (C1.out _ F0.out.b).mono ?_
  rintro e w1 ⟨rfl, b1⟩
  have HF1 := Lib.hid (F0.out.below b1)
  clear b1 C1 F0 c0 c1 c2
  have c1 := HF1.out.p.c1
  have c2 := HF1.out.p.c2
  by_cases h4 : 4 < ps.length
  · have h4z : (4 : Int) < (ps.length : Int) := by omega
    have HE : Hid (R = 4) := Lib.hid (by
      have h1 : pf = 4 := by rw [HPF1.out, if_pos h4]
      rw [← h1]; exact HBADP.out (by rw [h1]; decide))
    clear HPF1 HBADP HONE HNONE HBA C3 HC2 h4
    go_wp2_with fail
    go_ret
    exact ⟨by rw [HE.out]; rfl, HF1.out.b⟩
  have h4z : ¬ (4 : Int) < (ps.length : Int) := by omega
  have HPF2 : Hid (pf = if od = true then 3 else if fr = true then 14 else if 600 < v.size then 8 else if ba = true then 5 else 0) := Lib.hid (by have h := HPF1.out; rw [if_neg h4] at h; exact h)
  clear HPF1 h4
  go_wp2_with fail
  refine (HC2.out _ HF1.out.b).mono ?_
  rintro e w2 ⟨rfl, b2⟩
  have HF2 := Lib.hid (HF1.out.below b2)
  clear b2 HC2 HF1 c1 c2 h4z
  have c1 := HF2.out.p.c1
  have c3 := HF2.out.p.c3
  have c4 := HF2.out.p.c4
  cases od with
  | true =>
    have HE : Hid (R = 3) := Lib.hid (by
      have h1 : pf = 3 := by rw [HPF2.out, if_pos rfl]
      rw [← h1]; exact HBADP.out (by rw [h1]; decide))
    clear HPF2 HBADP HONE HNONE HBA C3
    go_wp2_with fail
    go_ret
    exact ⟨by rw [HE.out]; rfl, HF2.out.b⟩
  | false =>
  have HPF3 : Hid (pf = if fr = true then 14 else if 600 < v.size then 8 else if ba = true then 5 else 0) := Lib.hid (by have h := HPF2.out; rw [if_neg (by decide)] at h; exact h)
  clear HPF2
  go_wp2_with fail
  refine (C3.out _).mono ?_
  rintro e w3 ⟨rfl, rfl⟩
  clear C3
  cases fr with
  | true =>
    have HE : Hid (R = 14) := Lib.hid (by
      have h1 : pf = 14 := by rw [HPF3.out, if_pos rfl]
      rw [← h1]; exact HBADP.out (by rw [h1]; decide))
    clear HPF3 HBADP HONE HNONE HBA
    go_wp2_with fail
    go_ret
    exact ⟨by rw [HE.out]; rfl, HF2.out.b⟩
  | false =>
  have HPF4 : Hid (pf = if 600 < v.size then 8 else if ba = true then 5 else 0) := Lib.hid (by have h := HPF3.out; rw [if_neg (by decide)] at h; exact h)
  clear HPF3
  by_cases h6 : 600 < v.size
  · have h6z : (600 : Int) < (v.size : Int) := by omega
    have HE : Hid (R = 8) := Lib.hid (by
      have h1 : pf = 8 := by rw [HPF4.out, if_pos h6]
      rw [← h1]; exact HBADP.out (by rw [h1]; decide))
    clear HPF4 HBADP HONE HNONE HBA h6
    go_wp2_with fail
    go_ret
    exact ⟨by rw [HE.out]; rfl, HF2.out.b⟩
  have h6z : ¬ (600 : Int) < (v.size : Int) := by omega
  have HPF5 : Hid (pf = if ba = true then 5 else 0) := Lib.hid (by have h := HPF4.out; rw [if_neg h6] at h; exact h)
  clear HPF4 h6
  cases ba with
  | true =>
    have HE : Hid (R = 5) := Lib.hid (by
      have h1 : pf = 5 := by rw [HPF5.out, if_pos rfl]
      rw [← h1]; exact HBADP.out (by rw [h1]; decide))
    clear HPF5 HBADP HONE HNONE
    by_cases hA : n.toList = [65, 71, 69, 78, 84]
    · have hab : (n.toList == [65, 71, 69, 78, 84]) = true := by simpa using hA
      by_cases hm1 : m = 1
      · subst hm1
        by_cases hv0 : v.size = 0
        · exfalso
          have h := HBA.out
          rw [show (n.toList == agtL) = true from hab] at h
          simp [hv0] at h
        · have hs0 := str_some hv0
          have hs1 : (v.toList == []) = false := by cases hq : v.toList with | nil => rw [hq] at hs0; cases hs0 | cons x r => rfl
          clear HBA hv0 hA
          go_wp2_with fail
          go_ret
          exact ⟨by rw [HE.out]; rfl, HF2.out.b⟩
      · have hmz : ¬ (m : Int) = 1 := by omega
        have hmb : ((m : Int) == 1) = false := by rw [beq_eq_false_iff_ne]; omega
        have hmn : ((m : Int) != 1) = true := by rw [bne_iff_ne]; omega
        clear HBA hA hm1
        go_wp2_with fail
        go_ret
        exact ⟨by rw [HE.out]; rfl, HF2.out.b⟩
    · have hab : (n.toList == [65, 71, 69, 78, 84]) = false := by simpa using hA
      have hm0 : (0 : Int) < (m : Int) := by
        rcases Nat.eq_zero_or_pos m with h0 | h0
        · exfalso
          have h := HBA.out
          rw [show (n.toList == agtL) = false from hab, h0] at h
          simp at h
        · omega
      clear HBA hA
      go_wp2_with fail
      go_ret
      exact ⟨by rw [HE.out]; rfl, HF2.out.b⟩
  | false =>
    have hpf : pf = 0 := by rw [HPF5.out, if_neg (by decide)]
    by_cases hA : n.toList = [65, 71, 69, 78, 84]
    · have hab : (n.toList == [65, 71, 69, 78, 84]) = true := by simpa using hA
      have hm1 : m = 1 := by
        have h := HBA.out
        rw [show (n.toList == agtL) = true from hab] at h
        by_cases hm1 : m = 1
        · exact hm1
        · exfalso; simp [hm1] at h
      subst hm1
      have hv0 : v.size = 0 := by
        have h := HBA.out
        rw [show (n.toList == agtL) = true from hab] at h
        by_cases hv0 : v.size = 0
        · exact hv0
        · exfalso; simp [hv0] at h
      have hs0 := str_none hv0
      have hs1 : v.toList = [] := by rw [List.isEmpty_iff] at hs0; exact hs0
      obtain ⟨b, o, sv, rfl, hbB, hsv, hcc⟩ := HAG.out.at_ (i := 0) (by have := HM.out; omega)
      rw [Nat.add_zero] at hsv
      obtain ⟨xa, xn, xc, rfl⟩ := hcc.one
      have hsv2 := (HF2.out.b.cell (p := ⟨b, o, none⟩) hbB).trans hsv
      have hg1 : gs = [gs[0]'(by have := HM.out; omega)] := by
        match gs, HM.out with
        | [a], _ => rfl
      have HRE := Lib.hid (HONE.out _ hg1 hpf)
      have CI := Lib.hid (IHH.out _ _ w2 (HFI.out _ (List.getElem_mem (by have := HM.out; omega))) (hcc.on HF2.out.b))
      rw [← HRE.out] at CI
      clear HBA hA hv0 HPF5 HBADP HONE HNONE hpf hg1 hsv hcc IHH HFI HAG
      go_wp2_with fail
      refine CI.out.mono ?_
      rintro e w4 ⟨rfl, b4⟩
      have HF4 := Lib.hid (HF2.out.below b4)
      clear b4 CI
      go_wp2_with fail
      go_ret
      exact ⟨rfl, HF4.out.b⟩
    · have hab : (n.toList == [65, 71, 69, 78, 84]) = false := by simpa using hA
      have hm0 : m = 0 := by
        have h := HBA.out
        rw [show (n.toList == agtL) = false from hab] at h
        by_cases hm1 : m = 1
        · exfalso; simp [hm1] at h
        · by_cases hm2 : 1 < m
          · exfalso; simp [hm2] at h
          · omega
      subst hm0
      have HE := Lib.hid (HNONE.out rfl hpf)
      clear HBA hA HPF5 HBADP HONE HNONE hpf
      go_wp2_with fail
      go_ret
      exact ⟨by rw [HE.out]; rfl, HF2.out.b⟩

set_option maxHeartbeats 4000000 in
theorem cardFault_any : ∀ (k : Nat), FltAt k := by
  intro k
  induction k with
  | zero => intro t sv w _ h; exact h.elim
  | succ k ih =>
    intro t sv w hfit0 hca0
    obtain ⟨c⟩ := t
    have hfit : c.length ≤ 1099511627776 ∧ ∀ p ∈ c, (p.1.ps.length ≤ 1099511627776 ∧ p.2.length ≤ 1099511627776) ∧ ∀ a ∈ p.2, Fits k a := hfit0
    have hca : PlAt w w.heap.size (CAt w w.heap.size k) c sv := hca0
    have hch : chkC (k + 1) (.node c) = if 24 < c.length then 4 else chkL (chkC k) c := rfl
    rw [hch]
    clear hfit0 hca0 hch
    obtain ⟨a, cp, rfl⟩ := hca.len
    have hb1 : Below w.heap.size w (w.alloc (.cells #[.slice a c.length cp] 24)) := (Below.refl _ _).alloc (Nat.le_refl _) _
    have hbox := Boxed.new w 24 (.slice a c.length cp)
    have hc0 := hbox.cell
    have hcl : c.length ≤ 1099511627776 := hfit.1
    have IH := Lib.hid ih
    have HC := Lib.hid hca
    have HFIT := Lib.hid hfit
    have HB1 := Lib.hid hb1
    clear ih hca hfit hb1 hbox
    by_cases h24 : 24 < c.length
    · rw [if_pos h24]
      have h24z : (24 : Int) < (c.length : Int) := by omega
      clear h24
      go_enter Tryz.func18, Tryz.ntmps18
      go_wp2_with fail
      go_ret
      exact ⟨rfl, HB1.out⟩
    rw [if_neg h24]
    have h24z : ¬ (24 : Int) < (c.length : Int) := by omega
    obtain ⟨R, hR⟩ : ∃ R, chkL (chkC k) c = R := ⟨_, rfl⟩
    have H0 := Lib.hid (show chkL (chkC k) (c.drop 0) = R by rw [List.drop_zero]; exact hR)
    rw [hR]
    clear hR h24
    go_enter Tryz.func18, Tryz.ntmps18
    go_wp2_with fail
    go_loopw [13] (fun iv wr => ∃ i : Nat, i ≤ c.length ∧ iv = .int .i64 (i : Int) ∧ Hid (chkL (chkC k) (c.drop i) = R) ∧ Below w.heap.size w wr) (fun iv _ => c.length - (intOf iv).toNat)
    case atStart => exact ⟨0, Nat.zero_le _, rfl, H0, HB1.out⟩
    case round =>
      clear H0 hc0
      obtain ⟨i, hi, rfl, hd, hbel⟩ := hrel
      by_cases hlt : i < c.length
      · have hltz : (i : Int) < (c.length : Int) := by omega
        obtain ⟨b, o, pv, av, rfl, hbw, q0, q1, q2, q3, q4, hps, hag⟩ := HC.out.at_ hlt
        have HBAD := Lib.hid (chkL_bad (f := chkC k) hlt)
        have HOK := Lib.hid (chkL_ok (f := chkC k) hlt)
        have hfi := HFIT.out.2 _ (List.getElem_mem hlt)
        generalize c[i] = y at q0 q1 q2 q3 q4 hps hag HBAD HOK hfi
        obtain ⟨⟨g, n, ps, v⟩, gs⟩ := y
        simp only at q0 q1 q2 q3 hps hag hfi
        obtain ⟨pa, pc, rfl⟩ := hps.shape
        obtain ⟨ga, gc, rfl⟩ := hag.len
        have q0 := (hbel.cell (p := ⟨b, o + i * 5, none⟩) hbw).trans q0
        have q1 := (hbel.cell (p := ⟨b, o + i * 5 + 1, none⟩) hbw).trans q1
        have q2 := (hbel.cell (p := ⟨b, o + i * 5 + 2, none⟩) hbw).trans q2
        have q3 := (hbel.cell (p := ⟨b, o + i * 5 + 3, none⟩) hbw).trans q3
        have q4 := (hbel.cell (p := ⟨b, o + i * 5 + 4, none⟩) hbw).trans q4
        have hp1 : PrAt (wr.alloc (.cells #[.string g, .string n, .slice pa ps.length pc, .string v, .slice ga gs.length gc] 53)) wr.heap.size g n (.slice pa ps.length pc) v (.slice ga gs.length gc) := heap_alloc_new wr _
        have hbx : Below wr.heap.size wr (wr.alloc (.cells #[.string g, .string n, .slice pa ps.length pc, .string v, .slice ga gs.length gc] 53)) := (Below.refl _ _).alloc (Nat.le_refl _) _
        have hbel1 := hbel.trans (hbx.mono hbel.size)
        have CP := Lib.hid (propFault_any k IH.out g n v ps gs _ _ (wr.alloc (.cells #[.string g, .string n, .slice pa ps.length pc, .string v, .slice ga gs.length gc] 53)) ((hps.below hbel1).up hbel1.size) (AgAt.move hag (fun b o h => hbel1.cell (p := ⟨b, o, none⟩) h) hbel1.size (fun x u h => (CAt.on hbel1 h))) hfi.1.1 hfi.1.2 hfi.2)
        have p0 := hp1.c0
        have p1 := hp1.c1
        have p2 := hp1.c2
        have p3 := hp1.c3
        have p4 := hp1.c4
        have HBL := Lib.hid hbel1
        unfold prV at CP
        clear hp1 hbx hbel hbel1 hps hag hfi
        generalize chkP (chkC k) (⟨g, n, ps, v⟩, gs) = E at CP HBAD HOK
        by_cases hE : E = 0
        · subst hE
          have HK := Lib.hid ((HOK.out rfl).symm.trans hd.out)
          clear hd HBAD HOK
          go_wp2_with fail
          refine CP.out.mono ?_
          rintro e w2 ⟨rfl, b2⟩
          have HBL2 := Lib.hid (HBL.out.trans (b2.mono HBL.out.size))
          clear b2 CP
          go_wp2_with fail
          go_roundw
          case rel => exact ⟨i + 1, by omega, by go_num, HK, HBL2.out⟩
          case measure => simp [intOf]; omega
        · have heb : (E == 0) = false := by simpa using hE
          have HK := Lib.hid ((HBAD.out hE).symm.trans hd.out)
          clear hd HBAD HOK hE
          go_wp2_with fail
          refine CP.out.mono ?_
          rintro e w2 ⟨rfl, b2⟩
          have HBL2 := Lib.hid (HBL.out.trans (b2.mono HBL.out.size))
          clear b2 CP
          go_wp2_with fail
          go_ret
          exact ⟨by rw [← HK.out]; rfl, HBL2.out⟩
      · have hltz : ¬ (i : Int) < (c.length : Int) := by omega
        have HE : Hid (0 = R) := Lib.hid (by have h := hd.out; rw [List.drop_eq_nil_of_le (by omega)] at h; exact h)
        clear hd
        go_wp2_with fail
        go_ret
        exact ⟨by rw [← HE.out]; rfl, hbel⟩
end Go.Proofs.YtpdodknldhbbhaaGreatDoor.Vc

namespace Go.Proofs.YtpdodknldhbbhaaGreatDoor.Vc
set_option maxRecDepth 100000
open Go.RowKit Pp

end Go.Proofs.YtpdodknldhbbhaaGreatDoor.Vc

namespace Go.Proofs.YtpdodknldhbbhaaGreatDoor.Vc
set_option maxRecDepth 100000
open Go.RowKit Pp

end Go.Proofs.YtpdodknldhbbhaaGreatDoor.Vc

namespace Go.Proofs.YtpdodknldhbbhaaGreatDoor.Vc
set_option maxRecDepth 100000
open Go.RowKit Pp

end Go.Proofs.YtpdodknldhbbhaaGreatDoor.Vc

namespace Go.Proofs.YtpdodknldhbbhaaGreatDoor.Vc
set_option maxRecDepth 100000
open Go.RowKit Pp Sq

/-- A row with one more element. -/
theorem row_form {w : World} {base : Nat} {e : TypeId} {size : Nat} {v : Value} {n : Nat} {xs : List Value} (h : w.ownsRow base e size v n xs) (hn : 0 < n) :
    ∃ g cap cur, v = .slice (some ⟨g, 0, none⟩) n cap ∧ base ≤ g ∧ w.heap[g]? = some (.cells cur e (0, 0)) ∧ n ≤ cap ∧ cap ≤ maxLen ∧ cur.size = cap * size ∧ cur.toList.take (n * size) = xs := by
  obtain ⟨_, ⟨_, h0⟩ | ⟨g, cap, cur, rfl, hb, hg, hn, hm, hc, ht⟩⟩ := h
  · omega
  · exact ⟨g, cap, cur, rfl, hb, hg, hn, hm, hc, ht⟩
theorem Addr.add_block0 {b j : Nat} : (⟨b, 0, none⟩ : Addr).add j = ⟨b, j, none⟩ := by rw [Lib.addr_add, Nat.zero_add]
theorem row_shape {w : World} {base : Nat} {e : TypeId} {size : Nat} {v : Value} {n : Nat} {xs : List Value} (h : w.ownsRow base e size v n xs) : ∃ a c, v = .slice a n c := by
  obtain ⟨_, ⟨rfl, rfl⟩ | ⟨g, cap, cur, rfl, _⟩⟩ := h
  · exact ⟨_, _, rfl⟩
  · exact ⟨_, _, rfl⟩
/-- The innermost card's cell. -/
theorem OpAt.top {w : World} {rb base : Nat} {M X : Nat → Prop} {f : Fr} {os : List Fr} {ov : Value} (h : OpAt w rb base M X (f :: os) ov) :
    ∃ og oc a c, ov = .slice (some ⟨og, 0, none⟩) (os.length + 1) oc ∧ w.cell? ⟨og, os.length, none⟩ = some (.slice a f.length c) ∧ w.frozen? ⟨og, os.length, none⟩ = false ∧ og < w.heap.size ∧ og ≠ rb ∧ ((os.length + 1 : Nat) : Int) ≤ (oc : Int) ∧ oc ≤ maxLen := by
  obtain ⟨F, vs, h1, h2, h3, h4, h5⟩ := h
  cases vs with
  | nil => exact h2.elim
  | cons v vs =>
    have hl := h2.2.2.len
    obtain ⟨og, oc, cur, rfl, hb, hg, hn, hm, hc, ht⟩ := row_form h1 (by simp)
    obtain ⟨cs, hr, _, _⟩ := h2.1
    obtain ⟨a, c, rfl⟩ := row_shape hr
    have hx : cur[os.length]? = some (.slice a f.length c) := by
      have : cur.toList[os.length]? = some (.slice a f.length c) := by
        rw [← List.getElem?_take_of_lt (show os.length < (f :: os).length * 1 by simp), ht, List.reverse_cons, List.getElem?_append_right (by simp [hl]), List.length_reverse, hl, Nat.sub_self]
        rfl
      simpa using this
    refine ⟨og, oc, a, c, rfl, ?_, ?_, (Array.getElem?_eq_some_iff.1 hg).1, (h4 og rfl).2.1, by simp at hn; omega, hm⟩
    · simp [World.cell?, hg, hx]
    · simp [World.frozen?, hg]
theorem OpAt.shape {w : World} {rb base : Nat} {M X : Nat → Prop} {os : List Fr} {ov : Value} (h : OpAt w rb base M X os ov) : ∃ a c, ov = .slice a os.length c := by
  obtain ⟨F, vs, h1, _⟩ := h
  exact row_shape h1
theorem heap_row {w : World} {g k : Nat} {cur : Array Value} {e : TypeId} {u : Value} (hg : w.heap[g]? = some (.cells cur e (0, 0))) : (w.setCell ⟨g, k, none⟩ u).heap[g]? = some (.cells (cur.setIfInBounds k u) e (0, 0)) := heap_set hg u
/-- The last element of a row is another one. -/
theorem row_last {w : World} {base g n cap : Nat} {e : TypeId} {xs : List Value} {a u : Value} (h : w.ownsRow base e 1 (.slice (some ⟨g, 0, none⟩) (n + 1) cap) (n + 1) (xs ++ [a])) : (w.setCell ⟨g, n, none⟩ u).ownsRow base e 1 (.slice (some ⟨g, 0, none⟩) (n + 1) cap) (n + 1) (xs ++ [u]) := by
  obtain ⟨h0, ⟨hv, _⟩ | ⟨g', cap', cur, hv, hb, hg, hn, hm, hc, ht⟩⟩ := h
  · cases hv
  · cases hv
    have hxs : xs.length = n := by simp at h0; exact h0
    refine ⟨by simpa using h0, .inr ⟨g, cap, cur.setIfInBounds n u, rfl, hb, heap_row hg, hn, hm, by simpa using hc, ?_⟩⟩
    rw [Array.toList_setIfInBounds]
    have : (cur.toList.set n u).take ((n + 1) * 1) = (cur.toList.take ((n + 1) * 1)).set n u := by rw [List.take_set]
    rw [this, ht, List.set_append_right _ _ (by omega), hxs, Nat.sub_self]
    rfl
/-- A row without its last element. -/
theorem row_short {w : World} {base g n cap : Nat} {e : TypeId} {xs : List Value} {a : Value} (h : w.ownsRow base e 1 (.slice (some ⟨g, 0, none⟩) (n + 1) cap) (n + 1) (xs ++ [a])) : w.ownsRow base e 1 (.slice (some ⟨g, 0, none⟩) n cap) n xs := by
  obtain ⟨h0, ⟨hv, _⟩ | ⟨g', cap', cur, hv, hb, hg, hn, hm, hc, ht⟩⟩ := h
  · cases hv
  · cases hv
    have hxs : xs.length = n := by simp at h0; exact h0
    refine ⟨by simpa using hxs, .inr ⟨g, cap, cur, rfl, hb, hg, by omega, hm, hc, ?_⟩⟩
    have : (cur.toList.take ((n + 1) * 1)).take (n * 1) = xs := by rw [ht, List.take_append_of_le_length (by omega), List.take_of_length_le (by omega)]
    rwa [List.take_take, Nat.min_eq_left (by omega)] at this
/-- One more card is open. -/
theorem OpAt.push {w w' : World} {rb base : Nat} {M X : Nat → Prop} {os : List Fr} {ov ov' : Value} {F : Nat → Prop} {vs : List Value} (h2 : FrsAt w base F (fun k => k = rb ∨ ov.ownBlock = some k ∨ X k) os vs)
    (h3 : ∀ k, F k → M k ∧ k ≠ rb ∧ ov.ownBlock ≠ some k ∧ ¬ X k) (h4 : ∀ k, ov.ownBlock = some k → M k ∧ k ≠ rb ∧ ¬ X k) (h5 : ∀ u ∈ vs, ∀ k, u.ownBlock = some k → M k)
    (hrb : rb < w.heap.size) (hXl : ∀ k, X k → k < w.heap.size) (hown : w'.ownsRow base 24 1 ov' (os.length + 1) (vs.reverse ++ [.slice none 0 0])) (hg : w.grownBy w' ov.ownBlock) (hp : ∀ g, ov'.ownBlock = some g → ov.ownBlock = some g ∨ w.heap.size ≤ g) :
    OpAt w' rb base (fun k => M k ∨ w.heap.size ≤ k) X ([] :: os) ov' := by
  have hlt := h2.lt
  have hX := h2.notX
  have hsF : Stays (fun k => (F k ∧ k < w.heap.size) ∧ k < w.heap.size) w w' := ⟨hg.os, hg.tape, hg.output, hg.size, fun k hk => hg.block k hk.2 (fun e => (h3 k hk.1.1).2.2.1 e.symm)⟩
  refine ⟨fun k => F k ∧ k < w.heap.size, .slice none 0 0 :: vs, by rw [List.reverse_cons]; exact hown, ⟨⟨[], World.ownsRow_nil _ _ _ _, rfl, fun j hj => by simp at hj⟩, fun g e => by simp [Value.ownBlock] at e, ?_⟩, fun k hk => ?_, fun k hk => ?_, fun u hu k hk => ?_⟩
  · refine FrsAt.move h2 (hsF.mono fun k hk => ⟨hk, hk.2⟩) (fun b hb hl => ⟨hb, hl⟩) (fun u hu g hgo => hg.block g (hlt u hu g hgo).2 (fun e => (hX u hu g hgo).2 (.inr (.inl e.symm)))) (fun u hu g hgo => ⟨fun h => (hX u hu g hgo).1 h.1, ?_⟩)
    rintro (e | e | e)
    · exact (hX u hu g hgo).2 (.inl e)
    · rcases hp g e with e | e
      · exact (hX u hu g hgo).2 (.inr (.inl e))
      · have := (hlt u hu g hgo).2; omega
    · exact (hX u hu g hgo).2 (.inr (.inr e))
  · obtain ⟨a, b, c, d⟩ := h3 k hk.1
    exact ⟨.inl a, b, fun e => (hp k e).elim c (fun e => by have := hk.2; omega), d⟩
  · rcases hp k hk with e | e
    · obtain ⟨a, b, c⟩ := h4 k e; exact ⟨.inl a, b, c⟩
    · exact ⟨.inr e, by omega, fun h => by have := hXl k h; omega⟩
  · rcases List.mem_cons.1 hu with rfl | hu
    · simp [Value.ownBlock] at hk
    · exact .inl (h5 u hu k hk)
/-- The cells of an own row. -/
theorem row_cell {w : World} {base g n cap size : Nat} {e : TypeId} {xs : List Value} (h : w.ownsRow base e size (.slice (some ⟨g, 0, none⟩) n cap) n xs) {j : Nat} {u : Value} (hj : xs[j]? = some u) : w.cell? ⟨g, j, none⟩ = some u := by
  obtain ⟨h0, ⟨hv, _⟩ | ⟨g', cap', cur, hv, hb, hg, hn, hm, hc, ht⟩⟩ := h
  · cases hv
  · cases hv
    have hlt : j < n * size := by rw [← h0]; exact (List.getElem?_eq_some_iff.1 hj).1
    have : cur.toList[j]? = some u := by rw [← List.getElem?_take_of_lt hlt, ht]; exact hj
    have h2 : cur[j]? = some u := by simpa using this
    simp [World.cell?, hg, h2]
/-- A cell of an own row is another one. -/
theorem row_set {w : World} {base g n cap size j : Nat} {e : TypeId} {xs : List Value} {u : Value} (h : w.ownsRow base e size (.slice (some ⟨g, 0, none⟩) n cap) n xs) (_hj : j < n * size) : (w.setCell ⟨g, j, none⟩ u).ownsRow base e size (.slice (some ⟨g, 0, none⟩) n cap) n (xs.set j u) := by
  obtain ⟨h0, ⟨hv, _⟩ | ⟨g', cap', cur, hv, hb, hg, hn, hm, hc, ht⟩⟩ := h
  · cases hv
  · cases hv
    refine ⟨by simpa using h0, .inr ⟨g, cap, cur.setIfInBounds j u, rfl, hb, heap_row hg, hn, hm, by simpa using hc, ?_⟩⟩
    rw [Array.toList_setIfInBounds, List.take_set, ht]
/-- A card that was open, as a card. -/
theorem FrAt.ca {w : World} {base : Nat} {F F' : Nat → Prop} {k : Nat} {v : Value} {f : Fr} (h : FrAt w base F k v f) (hF : ∀ b, F b → b < w.heap.size → F' b) (hv : ∀ g, v.ownBlock = some g → F' g) : CAf w F' (k + 1) (.node f) v := by
  obtain ⟨cs, hr, hl, hc⟩ := h
  obtain ⟨a, c, rfl⟩ := row_shape hr
  refine ⟨a, c, rfl, fun hne => ?_, fun b o e j hj => ?_⟩
  · obtain ⟨g, cap, cur, e, hb, hg, _⟩ := row_form hr (List.length_pos_iff.2 hne)
    simp only [Value.slice.injEq] at e
    obtain ⟨rfl, _, rfl⟩ := e
    exact ⟨g, 0, rfl, hv g rfl, (Array.getElem?_eq_some_iff.1 hg).1⟩
  · subst e
    have hj' : j < f.length := hj
    obtain ⟨g, cap, cur, e, hb, hg, _⟩ := row_form hr (by omega)
    simp only [Value.slice.injEq, Option.some.injEq, Addr.mk.injEq, and_true] at e
    obtain ⟨⟨rfl, rfl⟩, _, rfl⟩ := e
    obtain ⟨c0, c1, c2, c3, c4, e0, e1, e2, e3, e4, hp⟩ := hc j hj'
    simp only [Nat.zero_add]
    exact ⟨c0, c1, c2, c3, c4, row_cell hr e0, row_cell hr e1, row_cell hr e2, row_cell hr e3, row_cell hr e4, hp.move (Stays.refl _ _) hF (fun _ _ h => h.move (Stays.refl _ _) hF)⟩

/-- The innermost card gets a property without cards. -/
theorem OpAt.app {W W1 : World} {rb base og oc : Nat} {M X F : Nat → Prop} {f : Fr} {os : List Fr} {v v' pv : Value} {vs cs : List Value} {p : Pd}
    (h1 : W.ownsRow base 24 1 (.slice (some ⟨og, 0, none⟩) (os.length + 1) oc) (os.length + 1) (v :: vs).reverse)
    (hv : W.ownsRow base 53 5 v f.length cs) (hcl : cs.length = f.length * 5)
    (hcs : ∀ j (hj : j < f.length), ∃ c0 c1 c2 c3 c4, cs[j * 5]? = some c0 ∧ cs[j * 5 + 1]? = some c1 ∧ cs[j * 5 + 2]? = some c2 ∧ cs[j * 5 + 3]? = some c3 ∧ cs[j * 5 + 4]? = some c4 ∧ PcF W F (CAf W F (2 - os.length)) f[j] c0 c1 c2 c3 c4)
    (hvX : ∀ g, v.ownBlock = some g → ¬ F g ∧ ¬ (g = rb ∨ (Value.slice (some ⟨og, 0, none⟩) (os.length + 1) oc).ownBlock = some g ∨ X g) ∧ ∀ u ∈ vs, u.ownBlock ≠ some g)
    (h2 : FrsAt W base F (fun k => k = rb ∨ (Value.slice (some ⟨og, 0, none⟩) (os.length + 1) oc).ownBlock = some k ∨ X k) os vs)
    (h3 : ∀ k, F k → M k ∧ k ≠ rb ∧ (Value.slice (some ⟨og, 0, none⟩) (os.length + 1) oc).ownBlock ≠ some k ∧ ¬ X k)
    (h4 : ∀ k, (Value.slice (some ⟨og, 0, none⟩) (os.length + 1) oc).ownBlock = some k → M k ∧ k ≠ rb ∧ ¬ X k) (h5 : ∀ u ∈ v :: vs, ∀ k, u.ownBlock = some k → M k)
    (hrb : rb < W.heap.size) (hX : ∀ k, X k → M k ∧ k ≠ rb ∧ k < W.heap.size)
    (hown : W1.ownsRow base 53 5 v' (f.length + 1) (cs ++ [.string p.g, .string p.n, pv, .string p.v, .slice none 0 0])) (hg : W.grownBy W1 v.ownBlock) (hp : ∀ g, v'.ownBlock = some g → v.ownBlock = some g ∨ W.heap.size ≤ g)
    (hps : Ps W W.heap.size pv p.ps) (hpv : ∀ g, pv.ownBlock = some g → X g) :
    OpAt (W1.setCell ⟨og, os.length, none⟩ v') rb base (fun k => M k ∨ W.heap.size ≤ k) (fun _ => False) ((f ++ [(p, [])]) :: os) (.slice (some ⟨og, 0, none⟩) (os.length + 1) oc) := by
  have hogs : (Value.slice (some ⟨og, 0, none⟩) (os.length + 1) oc).ownBlock = some og := rfl
  have hogW := (own_lt h1 og rfl).2
  have hog := h4 og rfl
  have hvlt := own_lt hv
  have hlt := h2.lt
  have hnX := h2.notX
  have hvog : ∀ g, v.ownBlock = some g → g ≠ og := fun g e h => (hvX g e).2.1 (.inr (.inl (by rw [h]; rfl)))
  have hS2 : ∀ k, k ≠ og → (W1.setCell ⟨og, os.length, none⟩ v').heap[k]? = W1.heap[k]? := fun k hk => Below.heap_setCell W1 ⟨og, os.length, none⟩ v' k hk
  have hkeep : ∀ k, k < W.heap.size → k ≠ og → v.ownBlock ≠ some k → (W1.setCell ⟨og, os.length, none⟩ v').heap[k]? = W.heap[k]? := fun k hk ho hn => (hS2 k ho).trans (hg.block k hk (fun e => hn e.symm))
  have hsz : W.heap.size ≤ (W1.setCell ⟨og, os.length, none⟩ v').heap.size := by rw [World.size_setCell]; exact hg.size
  have hFv : ∀ k, F k ∨ X k → k < W.heap.size → k ≠ og ∧ v.ownBlock ≠ some k := fun k hk hl => by
    rcases hk with hk | hk
    · exact ⟨fun e => (h3 k hk).2.2.1 (by rw [e]; rfl), fun e => (hvX k e).1 hk⟩
    · exact ⟨fun e => hog.2.2 (e ▸ hk), fun e => (hvX k e).2.1 (.inr (.inr hk))⟩
  have hsF : Stays (fun k => (F k ∨ X k) ∧ k < W.heap.size) W (W1.setCell ⟨og, os.length, none⟩ v') :=
    ⟨hg.os, hg.tape, hg.output, hsz, fun k hk => hkeep k hk.2 (hFv k hk.1 hk.2).1 (hFv k hk.1 hk.2).2⟩
  have hsF1 : Stays (fun k => F k ∧ k < W.heap.size) W (W1.setCell ⟨og, os.length, none⟩ v') := hsF.mono fun k hk => ⟨.inl hk.1, hk.2⟩
  have hF' : ∀ b, F b → b < W.heap.size → (F b ∨ X b) ∧ b < W.heap.size := fun b hb hl => ⟨.inl hb, hl⟩
  have hv'og : ∀ g, v'.ownBlock = some g → g ≠ og := fun g e h => by
    rcases hp g e with e | e
    · exact hvog g e h
    · omega
  have hnews : ∀ i, i < 5 → (cs ++ [Value.string p.g, .string p.n, pv, .string p.v, .slice none 0 0])[f.length * 5 + i]? = [Value.string p.g, .string p.n, pv, .string p.v, .slice none 0 0][i]? := fun i hi => by
    rw [List.getElem?_append_right (by omega), hcl, Nat.add_sub_cancel_left]
  refine ⟨fun k => (F k ∨ X k) ∧ k < W.heap.size, v' :: vs, ?_, ⟨⟨cs ++ [.string p.g, .string p.n, pv, .string p.v, .slice none 0 0], ?_, by simp [hcl]; omega, fun j hj => ?_⟩, fun g e => ⟨fun h => ?_, ?_, ?_⟩, ?_⟩, fun k hk => ?_, fun k hk => ?_, fun u hu k hk => ?_⟩
  · have h1' : W1.ownsRow base 24 1 (.slice (some ⟨og, 0, none⟩) (os.length + 1) oc) (os.length + 1) (vs.reverse ++ [v]) := by
      rw [List.reverse_cons] at h1
      exact row_stays h1 (fun g e => hg.block g (own_lt h1 g e).2 (fun e' => hvog g e'.symm (Option.some.inj e).symm))
    show World.ownsRow _ base _ 1 _ (os.length + 1) _
    rw [List.reverse_cons]
    exact row_last h1'
  · show World.ownsRow _ base _ 5 v' (f ++ [(p, [])]).length _
    rw [List.length_append]
    exact row_stays hown (fun g e => hS2 g (hv'og g e))
  · by_cases hjl : j < f.length
    · obtain ⟨c0, c1, c2, c3, c4, e0, e1, e2, e3, e4, hq⟩ := hcs j hjl
      refine ⟨c0, c1, c2, c3, c4, ?_, ?_, ?_, ?_, ?_, ?_⟩
      · rw [List.getElem?_append_left (by omega)]; exact e0
      · rw [List.getElem?_append_left (by omega)]; exact e1
      · rw [List.getElem?_append_left (by omega)]; exact e2
      · rw [List.getElem?_append_left (by omega)]; exact e3
      · rw [List.getElem?_append_left (by omega)]; exact e4
      · rw [List.getElem_append_left hjl]
        exact hq.move hsF1 hF' (fun _ _ h => h.move hsF1 hF')
    · have hj' : j = f.length := by simp at hj; omega
      subst hj'
      refine ⟨_, _, _, _, _, (hnews 0 (by omega)), (hnews 1 (by omega)), (hnews 2 (by omega)), (hnews 3 (by omega)), (hnews 4 (by omega)), ?_⟩
      rw [List.getElem_append_right (Nat.le_refl _)]
      simp only [Nat.sub_self, List.getElem_cons_zero]
      refine ⟨rfl, rfl, rfl, ?_, AgF.nil⟩
      rcases hps with h | ⟨b, o, cap, rfl, hb, hc⟩
      · exact .inl h
      · have hXb := hpv b rfl
        have hk := hsF.block b ⟨.inr hXb, hb⟩
        exact .inr ⟨b, o, cap, rfl, ⟨.inr hXb, hb⟩, Nat.lt_of_lt_of_le hb hsz, fun i hi => ⟨(World.cell?_of_block (a := ⟨b, o + i * 2, none⟩) hk).trans (hc i hi).1, (World.cell?_of_block (a := ⟨b, o + i * 2 + 1, none⟩) hk).trans (hc i hi).2⟩⟩
  · rcases hp g e with e | e
    · rcases h.1 with h | h
      · exact (hvX g e).1 h
      · exact (hvX g e).2.1 (.inr (.inr h))
    · have := h.2; omega
  · rintro (h | h | h)
    · rcases hp g e with e | e
      · exact (hvX g e).2.1 (.inl h)
      · omega
    · exact hv'og g e (Option.some.inj h).symm
    · exact h
  · intro u hu hue
    rcases hp g e with e | e
    · exact (hvX g e).2.2 u hu hue
    · have := (hlt u hu g hue).2; omega
  · refine FrsAt.move h2 hsF1 hF' (fun u hu g hgo => hkeep g (hlt u hu g hgo).2 (fun h => (hnX u hu g hgo).2 (.inr (.inl (by rw [h]; rfl)))) (fun h => (hvX g h).2.2 u hu hgo)) (fun u hu g hgo => ⟨fun h => ?_, ?_⟩)
    · rcases h.1 with h | h
      · exact (hnX u hu g hgo).1 h
      · exact (hnX u hu g hgo).2 (.inr (.inr h))
    · rintro (h | h | h)
      · exact (hnX u hu g hgo).2 (.inl h)
      · exact (hnX u hu g hgo).2 (.inr (.inl h))
      · exact h
  · rcases hk.1 with h | h
    · obtain ⟨a, b, c, _⟩ := h3 k h; exact ⟨.inl a, b, c, id⟩
    · obtain ⟨a, b, _⟩ := hX k h; exact ⟨.inl a, b, fun e => (hFv k (.inr h) hk.2).1 (Option.some.inj e).symm, id⟩
  · obtain ⟨a, b, _⟩ := h4 k hk; exact ⟨.inl a, b, id⟩
  · rcases List.mem_cons.1 hu with rfl | hu
    · rcases hp k hk with e | e
      · exact .inl (h5 v (List.mem_cons_self ..) k e)
      · exact .inr e
    · exact .inl (h5 u (List.mem_cons_of_mem _ hu) k hk)

theorem infoPr : (Tryz.prog.info? 53).map (fun i => (i.zero, i.size, i.bytes)) = some (some (.agg #[.string .empty, .string .empty, .slice none 0 0, .string .empty, .slice none 0 0]), 5, 96) := by kernel_rfl
theorem infoCd : (Tryz.prog.info? 24).map (fun i => (i.zero, i.size, i.bytes)) = some (some (.agg #[.slice none 0 0]), 1, 24) := by kernel_rfl

/-- append of a property to the innermost card's: where it lies, and what the reader's cards are behind the store. -/
theorem OpAt.grow {U : World} {rb base og oc : Nat} {M X : Nat → Prop} {f : Fr} {os : List Fr} {v pv : Value} {p : Pd}
    (h : OpAt U rb base M X (f :: os) (.slice (some ⟨og, 0, none⟩) (os.length + 1) oc)) (t : U.cell? ⟨og, os.length, none⟩ = some v) (hf : f.length < 24) (hps : Ps U U.heap.size pv p.ps) (hpc : pv.oneCell' = true) (hpv : ∀ g, pv.ownBlock = some g → X g)
    (hrb : rb < U.heap.size) (hX : ∀ k, X k → M k ∧ k ≠ rb ∧ k < U.heap.size) (hbase : base ≤ U.heap.size) :
    ∃ v' w', (∀ ty, (Builtin.append_ #[22, 22] ty #[v, .slice (some ⟨U.heap.size, 0, none⟩) 1 1]).run Tryz.prog (U.alloc (.cells #[.string p.g, .string p.n, pv, .string p.v, .slice none 0 0] 53)).drew = .ok v' w') ∧
      OpAt (w'.setCell ⟨og, os.length, none⟩ v') rb base (fun k => M k ∨ U.heap.size ≤ k) (fun _ => False) ((f ++ [(p, [])]) :: os) (.slice (some ⟨og, 0, none⟩) (os.length + 1) oc) ∧
      Stays (fun k => k < U.heap.size ∧ v.ownBlock ≠ some k) U w' ∧ (∃ a c, v' = .slice a (f.length + 1) c) ∧ M og ∧ og ≠ rb ∧ og < U.heap.size ∧ v.ownBlock ≠ some og ∧ v.ownBlock ≠ some rb ∧ (∀ g, v.ownBlock = some g → M g) ∧ w'.frozen? ⟨og, os.length, none⟩ = false := by
  have hogU : og < U.heap.size := by
    obtain ⟨F, vs, h1, _⟩ := h
    exact (own_lt h1 og rfl).2
  have hfz : U.frozen? ⟨og, os.length, none⟩ = false := by
    obtain ⟨og', oc', a, c, e, _, hz, _⟩ := h.top
    simp only [Value.slice.injEq, Option.some.injEq, Addr.mk.injEq, and_true] at e
    obtain ⟨rfl, _⟩ := e
    exact hz
  have hS : Stays (fun k => k < U.heap.size) U (U.alloc (.cells #[.string p.g, .string p.n, pv, .string p.v, .slice none 0 0] 53)).drew := ((Stays.refl _ U).alloc _ (fun k hk => hk)).drew
  obtain ⟨F, vs, h1, h2, h3, h4, h5⟩ := h
  match vs, h2, h1, h5 with
  | [], h2, _, _ => exact h2.elim
  | v0 :: vs, h2, h1, h5 =>
    have hvl := h2.2.2.len
    have c1 := row_cell h1 (j := os.length) (u := v0) (by rw [List.reverse_cons, List.getElem?_append_right (by simp [hvl])]; simp [hvl])
    rw [t] at c1
    cases c1
    have hlz := h2.lt
    have hnX := h2.notX
    have hS1 : Stays (fun k => F k ∧ k < U.heap.size) U (U.alloc (.cells #[.string p.g, .string p.n, pv, .string p.v, .slice none 0 0] 53)).drew := hS.mono fun k hk => hk.2
    have h2' := FrsAt.move (F' := fun k => F k ∧ k < U.heap.size) (X' := fun k => k = rb ∨ (Value.slice (some ⟨og, 0, none⟩) (os.length + 1) oc).ownBlock = some k ∨ X k) h2 hS1 (fun b hb hlt => ⟨hb, hlt⟩) (fun w hw k hk => hS.block k (hlz w hw k hk).2) (fun w hw k hk => ⟨fun e => (hnX w hw k hk).1 e.1, (hnX w hw k hk).2⟩)
    have h1' := row_stays h1 (w' := (U.alloc (.cells #[.string p.g, .string p.n, pv, .string p.v, .slice none 0 0] 53)).drew) (fun k hk => hS.block k (own_lt h1 k hk).2)
    obtain ⟨⟨cs, hr, hcl, hcc⟩, hvX, hrest⟩ := h2'
    obtain ⟨i0, hi, hz0, hz1, hz2⟩ := info_parts infoPr
    have hb : (U.alloc (.cells #[.string p.g, .string p.n, pv, .string p.v, .slice none 0 0] 53)).drew.heap[U.heap.size]? = some (.cells #[.string p.g, .string p.n, pv, .string p.v, .slice none 0 0] 53 (0, 0)) := heap_alloc_new U _
    have hzs : (U.alloc (.cells #[.string p.g, .string p.n, pv, .string p.v, .slice none 0 0] 53)).drew.heap.size = U.heap.size + 1 := by show (U.alloc _).heap.size = _; rw [World.size_alloc]
    obtain ⟨v', w', hrun, hown, hgr, hpl⟩ := App.run_append_where (P := Tryz.prog) _ base 22 0 53 i0 _ 5 96 Tryz.underlying22 hi hz0 hz1 hz2 rfl (by decide) v f.length cs hr ⟨U.heap.size, 0, none⟩ 1 1 [.string p.g, .string p.n, pv, .string p.v, .slice none 0 0] rfl
      (fun j u hj => by
        have hj5 : j < 5 := by have := (List.getElem?_eq_some_iff.1 hj).1; simpa using this
        have := cell_of_row _ U.heap.size j _ _ _ hb
        rw [Addr.add_block0, this]
        have e : (#[Value.string p.g, .string p.n, pv, .string p.v, .slice none 0 0] : Array Value)[j]? = [Value.string p.g, .string p.n, pv, .string p.v, .slice none 0 0][j]? := by simp
        rw [e]; exact hj)
      (fun u hu => by
        simp only [List.mem_cons, List.not_mem_nil, or_false] at hu
        rcases hu with rfl | rfl | rfl | rfl | rfl
        · rfl
        · rfl
        · exact hpc
        · rfl
        · rfl) (by unfold maxLen; omega) (by omega) (by rw [hzs]; omega) (by decide)
    have hp : ∀ g, v'.ownBlock = some g → v.ownBlock = some g ∨ U.heap.size ≤ g := fun g e => by
      rcases hpl with h | h
      · exact .inl (h ▸ e)
      · rw [e] at h; cases h; right; rw [hzs]; omega
    have hps' : Ps (U.alloc (.cells #[.string p.g, .string p.n, pv, .string p.v, .slice none 0 0] 53)).drew (U.alloc (.cells #[.string p.g, .string p.n, pv, .string p.v, .slice none 0 0] 53)).drew.heap.size pv p.ps := (hps.below (w' := (U.alloc (.cells #[.string p.g, .string p.n, pv, .string p.v, .slice none 0 0] 53)).drew) ((Below.refl _ U).alloc (Nat.le_refl _) _).drew).up (by rw [hzs]; omega)
    have hO := OpAt.app (M := M) (X := X) (F := fun k => F k ∧ k < U.heap.size) h1' hr hcl hcc hvX hrest (fun k hk => h3 k hk.1) h4 h5 (by rw [hzs]; omega) (fun k hk => ⟨(hX k hk).1, (hX k hk).2.1, by rw [hzs]; have := (hX k hk).2.2; omega⟩) hown hgr (fun g e => by
      rcases hpl with h | h
      · exact .inl (h ▸ e)
      · rw [e] at h; cases h; exact .inr (Nat.le_refl _)) hps' hpv
    have hvog : v.ownBlock ≠ some og := fun e => (hvX og e).2.1 (.inr (.inl rfl))
    refine ⟨v', w', fun ty => hrun, ?_, ⟨hgr.os.trans hS.os, hgr.tape.trans hS.tape, hgr.output.trans hS.output, Nat.le_trans hS.size hgr.size, fun k hk => (hgr.block k (by rw [hzs]; have := hk.1; omega) (fun e => hk.2 e.symm)).trans (hS.block k hk.1)⟩, row_shape hown, (h4 og rfl).1, (h4 og rfl).2.1, hogU, hvog, fun e => (hvX rb e).2.1 (.inl rfl), fun g e => h5 v (List.mem_cons_self ..) g e, ?_⟩
    · obtain ⟨F2, vs2, a1, a2, a3, a4, a5⟩ := hO
      refine ⟨F2, vs2, a1, a2, fun k hk => ⟨(a3 k hk).1.imp id (fun e => by rw [hzs] at e; omega), (a3 k hk).2⟩, fun k hk => ⟨(a4 k hk).1.imp id (fun e => by rw [hzs] at e; omega), (a4 k hk).2⟩, fun u hu k hk => (a5 u hu k hk).imp id (fun e => by rw [hzs] at e; omega)⟩
    · have hb2 : w'.heap[og]? = U.heap[og]? := (hgr.block og (by rw [hzs]; omega) (fun e => hvog e.symm)).trans (hS.block og hogU)
      unfold World.frozen? at hfz ⊢
      rw [hb2]; exact hfz
/-- The last property gets a card. -/
def setF (g : Fr) (c : Crd) : Fr :=
  match g.getLast? with
  | none => []
  | some p => g.dropLast ++ [(p.1, [c])]
/-- The innermost card ends: it is the card of the last property of the one around it. -/
theorem OpAt.agent {W : World} {rb base og oc gb gc ab : Nat} {M : Nat → Prop} {F : Nat → Prop} {f g : Fr} {os : List Fr} {v : Value} {vs : List Value} {z : Nat}
    (h1 : W.ownsRow base 24 1 (.slice (some ⟨og, 0, none⟩) (os.length + 2) oc) (os.length + 2) (v :: .slice (some ⟨gb, 0, none⟩) g.length gc :: vs).reverse)
    (h2 : FrsAt W base F (fun k => k = rb ∨ (Value.slice (some ⟨og, 0, none⟩) (os.length + 2) oc).ownBlock = some k ∨ False) (f :: g :: os) (v :: .slice (some ⟨gb, 0, none⟩) g.length gc :: vs))
    (h3 : ∀ k, F k → M k ∧ k ≠ rb ∧ (Value.slice (some ⟨og, 0, none⟩) (os.length + 2) oc).ownBlock ≠ some k ∧ ¬ False)
    (h4 : ∀ k, (Value.slice (some ⟨og, 0, none⟩) (os.length + 2) oc).ownBlock = some k → M k ∧ k ≠ rb ∧ ¬ False) (h5 : ∀ u ∈ v :: .slice (some ⟨gb, 0, none⟩) g.length gc :: vs, ∀ k, u.ownBlock = some k → M k)
    (hos : os.length ≤ 1) (hg0 : g ≠ []) (hab : W.heap[ab]? = some (.cells #[v] 24 (0, 0))) (hz : z ≤ ab) (hrb : rb < z) (hogz : og < z) (hlz : ∀ u ∈ v :: .slice (some ⟨gb, 0, none⟩) g.length gc :: vs, ∀ k, u.ownBlock = some k → k < z) :
    OpAt (W.setCell ⟨gb, (g.length - 1) * 5 + 4, none⟩ (.slice (some ⟨ab, 0, none⟩) 1 1)) rb base (fun k => M k ∨ z ≤ k) (fun _ => False) (setF g (.node f) :: os) (.slice (some ⟨og, 0, none⟩) (os.length + 1) oc) := by
  have habW : ab < W.heap.size := (Array.getElem?_eq_some_iff.1 hab).1
  obtain ⟨hfv, hfX, hgu, hgX, hrest⟩ := h2
  have hgbog : gb ≠ og := fun h => (hgX gb rfl).2.1 (.inr (.inl (by rw [h]; rfl)))
  have hgbab : gb ≠ ab := by have := hlz _ (List.mem_cons_of_mem _ (List.mem_cons_self ..)) gb rfl; omega
  have hvgb : ∀ k, v.ownBlock = some k → k ≠ gb := fun k e h => (hfX k e).2.2 _ (List.mem_cons_self ..) (by rw [h]; rfl)
  have hS2 : ∀ k, k ≠ gb → (W.setCell ⟨gb, (g.length - 1) * 5 + 4, none⟩ (.slice (some ⟨ab, 0, none⟩) 1 1)).heap[k]? = W.heap[k]? := fun k hk => Below.heap_setCell W ⟨gb, _, none⟩ _ k hk
  have hFgb : ∀ k, F k → k ≠ gb := fun k hk h => (hgX gb rfl).1 (h ▸ hk)
  have hsF' : Stays (fun k => k ≠ gb) W (W.setCell ⟨gb, (g.length - 1) * 5 + 4, none⟩ (.slice (some ⟨ab, 0, none⟩) 1 1)) := ⟨rfl, rfl, rfl, by rw [World.size_setCell]; exact Nat.le_refl _, fun k hk => hS2 k hk⟩
  have hsF : Stays (fun k => F k ∧ k < W.heap.size) W (W.setCell ⟨gb, (g.length - 1) * 5 + 4, none⟩ (.slice (some ⟨ab, 0, none⟩) 1 1)) := hsF'.mono fun k hk => hFgb k hk.1
  have hF' : ∀ b, F b → b < W.heap.size → (F b ∨ v.ownBlock = some b ∨ b = ab) ∧ b < W.heap.size := fun b hb hl => ⟨.inl hb, hl⟩
  have hca : CAf W (fun k => (F k ∨ v.ownBlock = some k ∨ k = ab) ∧ k < W.heap.size) (2 - os.length) (.node f) v := by
    have h := hfv.ca hF' (fun k e => ⟨.inr (.inl e), (hfv.lt k e).2⟩)
    have e : 2 - (g :: os).length + 1 = 2 - os.length := by simp; omega
    rwa [e] at h
  have hsC : Stays (fun k => ((F k ∨ v.ownBlock = some k ∨ k = ab) ∧ k < W.heap.size) ∧ k < W.heap.size) W (W.setCell ⟨gb, (g.length - 1) * 5 + 4, none⟩ (.slice (some ⟨ab, 0, none⟩) 1 1)) := hsF'.mono fun k hk => by
    rcases hk.1.1 with h | h | h
    · exact hFgb k h
    · exact hvgb k h
    · rw [h]; exact fun e => hgbab e.symm
  have hca2 := hca.move hsC (fun b hb _ => hb)
  obtain ⟨cs, hgr, hgl, hgc⟩ := hgu
  have hsetA : setF g (.node f) = g.dropLast ++ [((g.getLast hg0).1, [.node f])] := by
    unfold setF
    rw [List.getLast?_eq_some_getLast hg0]
  have hlen : (setF g (.node f)).length = g.length := by rw [hsetA]; have := List.length_pos_iff.2 hg0; simp; omega
  have hgpos := List.length_pos_iff.2 hg0
  refine ⟨fun k => (F k ∨ v.ownBlock = some k ∨ k = ab) ∧ k < W.heap.size, .slice (some ⟨gb, 0, none⟩) g.length gc :: vs, ?_, ⟨⟨cs.set ((g.length - 1) * 5 + 4) (.slice (some ⟨ab, 0, none⟩) 1 1), ?_, by rw [List.length_set, hgl, hlen], fun j hj => ?_⟩, fun k e => ⟨fun h => ?_, ?_, (hgX k e).2.2⟩, ?_⟩, fun k hk => ?_, fun k hk => ?_, fun u hu k hk => ?_⟩
  · have h1' := row_short (by rw [List.reverse_cons] at h1; exact h1)
    exact row_stays h1' (fun k e => hS2 k (by rw [← Option.some.inj e]; exact fun h => hgbog h.symm))
  · rw [hlen]
    exact row_set hgr (by omega)
  · rw [hlen] at hj
    obtain ⟨c0, c1, c2, c3, c4, e0, e1, e2, e3, e4, hq⟩ := hgc j hj
    by_cases hjl : j = g.length - 1
    · subst hjl
      refine ⟨c0, c1, c2, c3, .slice (some ⟨ab, 0, none⟩) 1 1, ?_, ?_, ?_, ?_, ?_, ?_⟩
      · rw [List.getElem?_set_ne (by omega)]; exact e0
      · rw [List.getElem?_set_ne (by omega)]; exact e1
      · rw [List.getElem?_set_ne (by omega)]; exact e2
      · rw [List.getElem?_set_ne (by omega)]; exact e3
      · rw [List.getElem?_set_self (by omega)]
      · have e5 : (setF g (.node f))[g.length - 1]'(by rw [hlen]; exact hj) = (g[g.length - 1].1, [.node f]) := by
          have e6 : g.getLast hg0 = g[g.length - 1] := List.getLast_eq_getElem hg0
          simp only [hsetA, e6]
          rw [List.getElem_append_right (by simp)]
          simp
        rw [e5]
        obtain ⟨r0, r1, r3, r2, _⟩ := hq
        refine ⟨r0, r1, r3, r2.move hsF hF', some ⟨ab, 0, none⟩, 1, rfl, fun _ => ⟨ab, 0, rfl, ⟨.inr (.inr rfl), habW⟩, by rw [World.size_setCell]; exact habW⟩, fun b o e i hi => ?_⟩
        simp only [Option.some.injEq, Addr.mk.injEq, and_true] at e
        obtain ⟨rfl, rfl⟩ := e
        have hi0 : i = 0 := by simp at hi; exact hi
        subst hi0
        refine ⟨v, ?_, hca2⟩
        have hb : (W.setCell ⟨gb, (g.length - 1) * 5 + 4, none⟩ (.slice (some ⟨ab, 0, none⟩) 1 1)).heap[ab]? = W.heap[ab]? := hS2 ab (fun e => hgbab e.symm)
        simp [World.cell?, hb, hab]
    · have hjd : j < g.dropLast.length := by simp; omega
      refine ⟨c0, c1, c2, c3, c4, ?_, ?_, ?_, ?_, ?_, ?_⟩
      · rw [List.getElem?_set_ne (by omega)]; exact e0
      · rw [List.getElem?_set_ne (by omega)]; exact e1
      · rw [List.getElem?_set_ne (by omega)]; exact e2
      · rw [List.getElem?_set_ne (by omega)]; exact e3
      · rw [List.getElem?_set_ne (by omega)]; exact e4
      · have e5 : (setF g (.node f))[j]'(by rw [hlen]; exact hj) = g[j] := by
          simp only [hsetA]
          rw [List.getElem_append_left hjd, List.getElem_dropLast]
        rw [e5]
        exact hq.move hsF hF' (fun _ _ h => h.move hsF hF')
  · obtain rfl : gb = k := Option.some.inj e
    rcases h.1 with h | h | h
    · exact (hgX gb rfl).1 h
    · exact hvgb gb h rfl
    · exact hgbab h
  · rintro (h | h | h)
    · exact (hgX k e).2.1 (.inl h)
    · exact (hgX k e).2.1 (.inr (.inl h))
    · exact h
  · refine FrsAt.move hrest hsF hF' (fun u hu k hk => hS2 k (fun h => (hgX gb rfl).2.2 u hu (by rw [← h]; exact hk))) (fun u hu k hk => ⟨fun h => ?_, ?_⟩)
    · rcases h.1 with h | h | h
      · exact (hrest.notX u hu k hk).1 h
      · exact (hfX k h).2.2 u (List.mem_cons_of_mem _ hu) hk
      · have := hlz u (List.mem_cons_of_mem _ (List.mem_cons_of_mem _ hu)) k hk; omega
    · rintro (h | h | h)
      · exact (hrest.notX u hu k hk).2 (.inl h)
      · exact (hrest.notX u hu k hk).2 (.inr (.inl h))
      · exact h
  · rcases hk.1 with h | h | h
    · obtain ⟨a, b, c, _⟩ := h3 k h; exact ⟨.inl a, b, c, id⟩
    · exact ⟨.inl (h5 v (List.mem_cons_self ..) k h), fun e => (hfX k h).2.1 (.inl e), fun e => (hfX k h).2.1 (.inr (.inl e)), id⟩
    · exact ⟨.inr (by omega), by omega, fun e => by have e2 : og = k := Option.some.inj e; omega, id⟩
  · obtain ⟨a, b, _⟩ := h4 k hk; exact ⟨.inl a, b, id⟩
  · exact .inl (h5 u (List.mem_cons_of_mem _ hu) k hk)
end Go.Proofs.YtpdodknldhbbhaaGreatDoor.Vc

namespace Go.Proofs.YtpdodknldhbbhaaGreatDoor.Vc
set_option maxRecDepth 100000
open Go.RowKit Pp Sq

theorem inner_any (rb og n oc : Nat) (w : World) (h : w.cell? ⟨rb, 2, none⟩ = some (.slice (some ⟨og, 0, none⟩) (n + 1) oc)) (hn : n ≤ 1099511627776) :
    Calls Tryz.prog 92 #[.pointer (some ⟨rb, 0, none⟩)] w fun e w' => e = .returned (.pointer (some ⟨og, n, none⟩)) ∧ ∃ q, w' = w.drewN q := by
  have h1 : ((n + 1 : Nat) : Int) - 1 = (n : Int) := by omega
  have h2 : (n : Int) < ((n + 1 : Nat) : Int) := by omega
  have hlt := World.block_lt_of_cell? w _ h
  go_enter Tryz.func92, Tryz.ntmps92
  go_wp2_with fail
  go_quiet (fail)
  go_wp2_with fail
  go_ret
  exact ⟨by simp, _, rfl⟩

/-- Only the reader's own blocks have turned. -/
def Fin (M : Nat → Prop) (w w' : World) : Prop := Stays (fun k => k < w.heap.size ∧ ¬ M k) w w'

theorem drew_all (w : World) (q : Nat) : Stays (fun _ => True) w (w.drewN q) := ⟨rfl, rfl, rfl, Nat.le_refl _, fun _ _ => rfl⟩
/-- append at a step of a region that draws, by what it is known to do. -/
theorem step_run {P : Program} {ops : Array Oper} {o : Oper} {a : Act} {w w' : World} {K : Act → World → Prop} {Q : Exit → Act → World → Prop} {E : Prop} (hgd : o.guard = none) (s x : Operand) (t : TypeId)
    (ho : o.op = .call { callee := .builtin .append, args := #[s, x], argTypes := #[t, t] }) (v xv v' : Value) (hs : a.eval s = v) (hx : a.eval x = xv) (hr : ∀ ty, (Builtin.append_ #[t, t] ty #[v, xv]).run P w = .ok v' w') (h : K (a.put o.dst v') w') :
    if Region.wanted o (yielded ops a.tmps) = true then Oper.wp P o a w K Q else E := by
  have hw : Region.wanted o (yielded ops a.tmps) = true := by simp [Region.wanted, hgd]
  rw [if_pos hw]
  unfold Oper.wp execOp
  simp only [ho, resolve, invoke, builtin, Sem.run_bind, Sem.run_pure, Result.andThen_ok, List.map_toArray, List.map_cons, List.map_nil, hs, hx, hr]
  exact h
/-- .. in a plain region's list. -/
theorem list_run {P : Program} {ops : Array Oper} {rest : List Oper} {o : Oper} {a : Act} {w w' : World} {Q : Exit → Act → World → Prop} (hgd : o.guard = none) (s x : Operand) (t : TypeId)
    (ho : o.op = .call { callee := .builtin .append, args := #[s, x], argTypes := #[t, t] }) (v xv v' : Value) (hs : a.eval s = v) (hx : a.eval x = xv) (hr : ∀ ty, (Builtin.append_ #[t, t] ty #[v, xv]).run P w = .ok v' w') (h : wpList P ops Q rest (a.put o.dst v') w') :
    wpList P ops Q (o :: rest) a w := by
  refine wpList_plain hgd fun K hK => ?_
  unfold Oper.wp execOp
  simp only [ho, resolve, invoke, builtin, Sem.run_bind, Sem.run_pure, Result.andThen_ok, List.map_toArray, List.map_cons, List.map_nil, hs, hx, hr]
  exact hK _ _ h
theorem push_modify {α : Type} (a : Array α) (i : Nat) (f : α → α) (o : α) (h : i < a.size) : (a.modify i f).push o = (a.push o).modify i f := by
  apply Array.ext
  · simp
  · intro j h1 h2
    simp only [Array.getElem_push, Array.getElem_modify, Array.size_modify]
    split
    · split <;> rfl
    · rename_i hj
      rw [if_neg (by omega)]
/-- A cell that is written ahead of a new block, or behind it. -/
theorem set_alloc {U : World} {o : Obj} {a : Addr} {x : Value} (h : a.block < U.heap.size) : (U.setCell a x).alloc o = (U.alloc o).setCell a x := by
  unfold World.setCell World.alloc
  simp only [push_modify _ _ _ _ h]
theorem stays_set {O : Nat → Prop} {A B : World} {a : Addr} {u : Value} (h : Stays O A B) (hb : ¬ O a.block) : Stays O A (B.setCell a u) :=
  h.trans ⟨rfl, rfl, rfl, by rw [World.size_setCell]; exact Nat.le_refl _, fun k hk => Below.heap_setCell B a u k (fun e => hb (e ▸ hk))⟩
theorem boxed_new (W : World) (t : TypeId) (u : Value) {z : Nat} (hz : W.heap.size = z) : Boxed (W.alloc (.cells #[u] t)).drew z t u := by subst hz; exact Boxed.new W t u
theorem close_one {W : World} {rb base og oc : Nat} {M : Nat → Prop} {f : Fr} (h : OpAt W rb base M (fun _ => False) [f] (.slice (some ⟨og, 0, none⟩) 1 oc)) :
    OpAt W rb base M (fun _ => False) [] (.slice (some ⟨og, 0, none⟩) 0 oc) ∧ ∀ u, W.cell? ⟨og, 0, none⟩ = some u → CAf W (fun k => M k ∧ k ≠ rb ∧ (Value.slice (some ⟨og, 0, none⟩) 0 oc).ownBlock ≠ some k) 3 (.node f) u := by
  obtain ⟨F, vs, h1, h2, h3, h4, h5⟩ := h
  match vs, h2, h1, h5 with
  | [], h2, _, _ => exact h2.elim
  | v :: _ :: _, h2, _, _ => exact h2.2.2.elim
  | [v], h2, h1, h5 =>
    have hc := row_cell h1 (j := 0) (u := v) rfl
    refine ⟨⟨F, [], row_short (n := 0) (a := v) (xs := []) h1, trivial, h3, h4, fun u hu => by cases hu⟩, fun u hu => ?_⟩
    rw [hc] at hu
    cases hu
    exact h2.1.ca (fun k hk _ => ⟨(h3 k hk).1, (h3 k hk).2.1, (h3 k hk).2.2.1⟩) (fun k hk => ⟨h5 v (List.mem_cons_self ..) k hk, fun e => (h2.2.1 k hk).2.1 (.inl e), fun e => (h2.2.1 k hk).2.1 (.inr (.inl e))⟩)
theorem end_one (rb base : Nat) (M : Nat → Prop) (f : Fr) (c : Crd) (w : World) (h : RdAt w rb base M (.at_ 2 [f] c)) :
    Calls Tryz.prog 53 #[.pointer (some ⟨rb, 0, none⟩)] w fun e w' => (∃ v, e = .returned v) ∧ RdAt w' rb base (fun k => M k ∨ w.heap.size ≤ k) (Vm.ended (G := G) [f] c) ∧ Fin M w w' := by
  obtain ⟨nu, ov, cv, g, n, pv, v, av, en, hR, hM, hO, _⟩ := h
  obtain ⟨og, oc, a, cp, rfl, htop, _, hog, hogr, hoc, hoc2⟩ := hO.top
  simp only [List.length_nil, Nat.zero_add] at htop hO hR hoc
  have hoc3 : oc ≤ 9223372036854775807 := Nat.le_trans hoc2 (by decide)
  have CI := Lib.hid (inner_any rb og 0 oc w hR.c2 (by omega))
  have c0 := hR.c0
  have c2 := hR.c2
  have c3 := hR.c3
  have f0 := hR.f 0
  have f2 := hR.f 2
  have f3 := hR.f 3
  have hrb := hR.lt
  have HR := Lib.hid hR
  have HO := Lib.hid hO
  have HOC := Lib.hid hoc3
  clear hR hO hoc2 hoc3
  go_enter Tryz.func53, Tryz.ntmps53
  go_wp2_with fail
  refine CI.out.mono ?_
  rintro e w1 ⟨rfl, q, rfl⟩
  obtain ⟨W, hWe⟩ : ∃ W, w.drewN q = W := ⟨_, rfl⟩
  have hS0 : Stays (fun _ => True) w W := by rw [← hWe]; exact drew_all w q
  have R1 := HR.out.kept (hS0.block rb trivial)
  have O1 := HO.out.move (hS0.mono fun _ _ => trivial) (fun k h _ => h) (fun k h => .inl h)
  have t1 : W.cell? ⟨og, 0, none⟩ = some (.slice a f.length cp) := (World.cell?_of_block (a := ⟨og, 0, none⟩) (hS0.block og trivial)).trans htop
  rw [hWe]
  clear c0 c2 c3 f0 f2 f3 htop hWe
  have c0 := R1.c0
  have c2 := R1.c2
  have c3 := R1.c3
  have f0 := R1.f 0
  have f2 := R1.f 2
  have f3 := R1.f 3
  have hrW := R1.lt
  have hw0 : IntKind.i64.wrap 0 = 0 := by decide
  have hocz : (0 : Int) ≤ (oc : Int) := by omega
  have S1 := Lib.hid hS0
  have HR1 := Lib.hid R1
  have HO1 := Lib.hid O1
  clear R1 O1 hS0
  go_wp2_with fail
  go_region
  obtain ⟨V, hV⟩ : ∃ V, ((W.setCell ⟨rb, 2, none⟩ (.slice (some ⟨og, 0, none⟩) 0 oc)).alloc (.cells #[.slice a f.length cp] 24)).drew = V := ⟨_, rfl⟩
  have hbx : Boxed V W.heap.size 24 (.slice a f.length cp) := by rw [← hV]; exact boxed_new _ _ _ (by simp)
  have hSV : Stays (fun k => k ≠ rb ∧ k < W.heap.size) W V := by
    rw [← hV]; exact ((stays_set (Stays.refl _ W) (fun h => h.1 rfl)).alloc _ (fun k hk => by rw [World.size_setCell]; exact hk.2)).drew
  have R2 : RdC V rb 2 nu (.slice (some ⟨og, 0, none⟩) 0 oc) cv g n pv v av en false := by
    rw [← hV]; exact (HR1.out.set2 _).kept (((Below.refl _ (W.setCell ⟨rb, 2, none⟩ (.slice (some ⟨og, 0, none⟩) 0 oc))).alloc (Nat.le_refl _) _).block rb (by rw [World.size_setCell]; exact hrW))
  rw [hV]
  have O2 := close_one HO1.out
  have O3 := O2.1.move (M' := fun k => M k ∨ W.heap.size ≤ k) (X' := fun _ => False) (hSV.mono fun k hk => ⟨hk.2.1, hk.2.2.2⟩) (fun k h _ => .inl h) (fun k h => .inl h)
  have C3 := (O2.2 _ t1).move (F' := fun k => (M k ∨ W.heap.size ≤ k) ∧ k ≠ rb ∧ (Value.slice (some ⟨og, 0, none⟩) 0 oc).ownBlock ≠ some k) (hSV.mono fun k hk => ⟨hk.1.2.1, hk.2⟩) (fun k h _ => ⟨.inl h.1, h.2⟩)
  have hcx := hbx.cell
  clear c0 c2 c3 f0 f2 f3
  have c0 := R2.c0
  have c2 := R2.c2
  have c3 := R2.c3
  have f0 := R2.f 0
  have f3 := R2.f 3
  have HF := Lib.hid (And.intro R2 (And.intro O3 (And.intro C3 (And.intro hSV hrW))))
  clear R2 O2 O3 C3 hSV hbx hV
  go_wp2_with fail
  obtain ⟨R2, O3, C3, hSV, hrW⟩ := HF.out
  have hS2 : Stays (fun k => k ≠ rb) V ((V.setCell ⟨rb, 3, none⟩ (.slice a f.length cp)).setCell ⟨rb, 0, none⟩ (.int .i64 3)) := stays_set (stays_set (Stays.refl _ V) (fun h => h rfl)) (fun h => h rfl)
  have hWw := S1.out.size
  refine bodyPost_ret (v := .tuple #[]) (by simp [results, Tryz.results53]) rfl ⟨⟨_, rfl⟩, ⟨nu, _, _, g, n, pv, v, av, en, (R2.set3 _).set0 3, .inl hM, O3.move (hS2.mono fun k hk => hk.2.1) (fun k h _ => h.imp id (fun h => Nat.le_trans hWw h)) (fun k h => .inl h), fun _ => C3.move (hS2.mono fun k hk => hk.1.2.1) (fun k h _ => ⟨h.1.imp id (fun h => Nat.le_trans hWw h), h.2⟩)⟩, ?_⟩
  exact ((S1.out.mono fun _ _ => trivial).trans (hSV.mono fun k hk => ⟨fun e => hk.2 (e ▸ hM), Nat.lt_of_lt_of_le hk.1 hWw⟩)).trans (hS2.mono fun k hk e => hk.2 (e ▸ hM))

theorem OpAt.low {w : World} {rb base og oc n : Nat} {M X : Nat → Prop} {os : List Fr} (h : OpAt w rb base M X os (.slice (some ⟨og, 0, none⟩) n oc)) : og < w.heap.size := by
  obtain ⟨F, vs, h1, _⟩ := h
  obtain ⟨_, h⟩ := row_shape h1
  simp only [Value.slice.injEq] at h
  obtain ⟨_, rfl, _⟩ := h
  exact (own_lt h1 og rfl).2
/-- The card around the innermost one. -/
theorem OpAt.snd {w : World} {rb base og oc m : Nat} {M : Nat → Prop} {f g : Fr} {os : List Fr} (h : OpAt w rb base M (fun _ => False) (f :: g :: os) (.slice (some ⟨og, 0, none⟩) (os.length + 2) oc)) (hg : g.length = m + 1) :
    ∃ gb gc x, w.cell? ⟨og, os.length, none⟩ = some (.slice (some ⟨gb, 0, none⟩) (m + 1) gc) ∧ w.cell? ⟨gb, m * 5 + 4, none⟩ = some x ∧ w.frozen? ⟨gb, m * 5 + 4, none⟩ = false ∧ gb < w.heap.size ∧ gb ≠ rb ∧ gb ≠ og ∧ M gb ∧ M og := by
  obtain ⟨F, vs, h1, h2, h3, h4, h5⟩ := h
  match vs, h2, h1, h5 with
  | [], h2, _, _ => exact h2.elim
  | [_], h2, _, _ => exact h2.2.2.elim
  | v :: u :: vs, h2, h1, h5 =>
    obtain ⟨_, _, h2⟩ := h2
    obtain ⟨⟨cs, hr, hl, _⟩, hX, hrest⟩ := h2
    obtain ⟨gb, gc, cur, rfl, hb, hgh, hn, _, hc, ht⟩ := row_form hr (by omega)
    have hvl := hrest.len
    have hc0 := row_cell h1 (j := os.length) (u := .slice (some ⟨gb, 0, none⟩) g.length gc) (by
      rw [List.reverse_cons, List.reverse_cons, List.append_assoc, List.getElem?_append_right (by simp [hvl])]
      simp [hvl])
    have hlt : m * 5 + 4 < cs.length := by omega
    have hx : cs[m * 5 + 4]? = some cs[m * 5 + 4] := List.getElem?_eq_getElem hlt
    refine ⟨gb, gc, cs[m * 5 + 4], by rw [hc0, hg], row_cell hr hx, by simp [World.frozen?, hgh], (Array.getElem?_eq_some_iff.1 hgh).1, fun e => (hX gb rfl).2.1 (.inl e), fun e => (hX gb rfl).2.1 (.inr (.inl (by rw [e]; rfl))), h5 _ (List.mem_cons_of_mem _ (List.mem_cons_self ..)) gb rfl, (h4 og rfl).1⟩

theorem OpAt.close2 {U : World} {rb base og oc gb gc m : Nat} {M : Nat → Prop} {f g : Fr} {os : List Fr} {v : Value} (h : OpAt U rb base M (fun _ => False) (f :: g :: os) (.slice (some ⟨og, 0, none⟩) (os.length + 2) oc)) (t : U.cell? ⟨og, os.length + 1, none⟩ = some v) (u : U.cell? ⟨og, os.length, none⟩ = some (.slice (some ⟨gb, 0, none⟩) (m + 1) gc)) (hm : g.length = m + 1) (hos : os.length ≤ 1) (hrb : rb < U.heap.size) :
    OpAt ((U.alloc (.cells #[v] 24)).setCell ⟨gb, m * 5 + 4, none⟩ (.slice (some ⟨U.heap.size, 0, none⟩) 1 1)) rb base (fun k => M k ∨ U.heap.size ≤ k) (fun _ => False) (setF g (.node f) :: os) (.slice (some ⟨og, 0, none⟩) (os.length + 1) oc) := by
  have hogU := h.low
  have hS : Stays (fun k => k < U.heap.size) U (U.alloc (.cells #[v] 24)) := (Stays.refl _ U).alloc _ (fun k hk => hk)
  have hl : ∀ (F X : Nat → Prop) vs, FrsAt U base F X (f :: g :: os) vs → ∀ w ∈ vs, ∀ k, w.ownBlock = some k → k < U.heap.size := fun F X vs h w hw k hk => (h.lt w hw k hk).2
  obtain ⟨F, vs, h1, h2, h3, h4, h5⟩ := h
  match vs, h2, h1, h5 with
  | [], h2, _, _ => exact h2.elim
  | [_], h2, _, _ => exact h2.2.2.elim
  | v' :: u' :: vs, h2, h1, h5 =>
    have hvl := h2.2.2.2.2.len
    have c1 := row_cell h1 (j := os.length + 1) (u := v') (by rw [List.reverse_cons, List.getElem?_append_right (by simp [hvl])]; simp [hvl])
    have c2 := row_cell h1 (j := os.length) (u := u') (by rw [List.reverse_cons, List.reverse_cons, List.append_assoc, List.getElem?_append_right (by simp [hvl])]; simp [hvl])
    rw [t] at c1
    rw [u, ← hm] at c2
    cases c1
    cases c2
    have hlz := hl _ _ _ h2
    have hS1 : Stays (fun k => F k ∧ k < U.heap.size) U (U.alloc (.cells #[v] 24)) := hS.mono fun k hk => hk.2
    have hnX := h2.notX
    have h2' := FrsAt.move (F' := fun k => F k ∧ k < U.heap.size) (X' := fun k => k = rb ∨ (Value.slice (some ⟨og, 0, none⟩) (os.length + 2) oc).ownBlock = some k ∨ False) h2 hS1 (fun b hb hlt => ⟨hb, hlt⟩) (fun w hw k hk => hS.block k (hlz w hw k hk)) (fun w hw k hk => ⟨fun e => (hnX w hw k hk).1 e.1, (hnX w hw k hk).2⟩)
    have h1' := row_stays h1 (w' := U.alloc (.cells #[v] 24)) (fun k hk => hS.block k (own_lt h1 k hk).2)
    have hm5 : m * 5 + 4 = (g.length - 1) * 5 + 4 := by rw [hm, Nat.add_sub_cancel]
    rw [hm5]
    exact OpAt.agent h1' h2' (fun k hk => h3 k hk.1) h4 h5 hos (fun e => by rw [e] at hm; simp at hm) (World.alloc_heap_new U _) (Nat.le_refl _) hrb hogU hlz

theorem setF_eq (g : Fr) (c : Crd) : setF g c = Vm.setA (G := G) g c := by
  unfold setF Vm.setA
  cases g.getLast? <;> rfl

set_option maxHeartbeats 800000 in
theorem end_two (rb base : Nat) (M : Nat → Prop) (f g : Fr) (os : List Fr) (c : Crd) (w : World) (h : RdAt w rb base M (.at_ 2 (f :: g :: os) c)) (hos : os.length ≤ 1) (hg0 : g ≠ []) (hgl : g.length ≤ 24) :
    Calls Tryz.prog 53 #[.pointer (some ⟨rb, 0, none⟩)] w fun e w' => (∃ v, e = .returned v) ∧ RdAt w' rb base (fun k => M k ∨ w.heap.size ≤ k) (Vm.ended (G := G) (f :: g :: os) c) ∧ Fin M w w' := by
  obtain ⟨nu, ov, cv, gg, n, pv, v, av, en, hR, hM, hO, _⟩ := h
  obtain ⟨og, oc, a, cp, rfl, htop, _, hog, hogr, hoc, hoc2⟩ := hO.top
  have e2 : (g :: os).length + 1 = os.length + 2 := by simp
  have e1 : (g :: os).length = os.length + 1 := by simp
  rw [e2] at hO hR hoc
  rw [e1] at htop
  obtain ⟨m, hm⟩ : ∃ m, g.length = m + 1 := ⟨g.length - 1, by have := List.length_pos_iff.2 hg0; omega⟩
  have hmb : m ≤ 23 := by omega
  have hoc3 : oc ≤ 9223372036854775807 := Nat.le_trans hoc2 (by decide)
  have CI := Lib.hid (inner_any rb og (os.length + 1) oc w hR.c2 (by omega))
  have c0 := hR.c0
  have c2 := hR.c2
  have c3 := hR.c3
  have f0 := hR.f 0
  have f2 := hR.f 2
  have f3 := hR.f 3
  have hrb := hR.lt
  have HR := Lib.hid hR
  have HO := Lib.hid hO
  have HOC := Lib.hid hoc3
  have HM := Lib.hid hm
  have HG := Lib.hid hg0
  clear hR hO hoc2 hoc3 hm hgl e1 e2 hg0
  go_enter Tryz.func53, Tryz.ntmps53
  go_wp2_with fail
  refine CI.out.mono ?_
  rintro e w1 ⟨rfl, q, rfl⟩
  obtain ⟨W, hWe⟩ : ∃ W, w.drewN q = W := ⟨_, rfl⟩
  have hS0 : Stays (fun _ => True) w W := by rw [← hWe]; exact drew_all w q
  have R1 := HR.out.kept (hS0.block rb trivial)
  have O1 := HO.out.move (hS0.mono fun _ _ => trivial) (fun k h _ => h) (fun k h => .inl h)
  have t1 : W.cell? ⟨og, os.length + 1, none⟩ = some (.slice a f.length cp) := (World.cell?_of_block (a := ⟨og, os.length + 1, none⟩) (hS0.block og trivial)).trans htop
  rw [hWe]
  clear c0 c2 c3 f0 f2 f3 htop hWe
  have c0 := R1.c0
  have c2 := R1.c2
  have c3 := R1.c3
  have f0 := R1.f 0
  have f2 := R1.f 2
  have f3 := R1.f 3
  have hrW := R1.lt
  have hone : ((os.length + 2 : Nat) : Int) - 1 = ((os.length + 1 : Nat) : Int) := by omega
  have hocz : ((os.length + 1 : Nat) : Int) ≤ (oc : Int) := by omega
  have hnz : ((os.length : Int) + 1 == 0) = false := by simp; omega
  have S1 := Lib.hid hS0
  have HR1 := Lib.hid R1
  have HO1 := Lib.hid O1
  clear R1 O1 hS0
  go_wp2_with fail
  go_region
  obtain ⟨V, hV⟩ : ∃ V, ((W.setCell ⟨rb, 2, none⟩ (.slice (some ⟨og, 0, none⟩) (os.length + 1) oc)).alloc (.cells #[.slice a f.length cp] 24)).drew = V := ⟨_, rfl⟩
  have hbx : Boxed V W.heap.size 24 (.slice a f.length cp) := by rw [← hV]; exact boxed_new _ _ _ (by simp)
  have hSV : Stays (fun k => k ≠ rb ∧ k < W.heap.size) W V := by
    rw [← hV]; exact ((stays_set (Stays.refl _ W) (fun h => h.1 rfl)).alloc _ (fun k hk => by rw [World.size_setCell]; exact hk.2)).drew
  have hzV : V.heap.size = W.heap.size + 1 := by rw [← hV]; simp
  have R2 : RdC V rb 2 nu (.slice (some ⟨og, 0, none⟩) (os.length + 1) oc) cv gg n pv v av en false := by
    rw [← hV]; exact (HR1.out.set2 _).kept (((Below.refl _ (W.setCell ⟨rb, 2, none⟩ (.slice (some ⟨og, 0, none⟩) (os.length + 1) oc))).alloc (Nat.le_refl _) _).block rb (by rw [World.size_setCell]; exact hrW))
  rw [hV]
  have O2 := HO1.out.move (M' := M) (X' := fun _ => False) (hSV.mono fun k hk => ⟨hk.2.1, hk.2.2.2⟩) (fun k h _ => h) (fun k h => .inl h)
  have hcx := hbx.cell
  obtain ⟨gb, gc, x, s1, s2, s3, hgbV, hgbr, hgbo, hMgb, hMog⟩ := O2.snd HM.out
  have hlow := O2.low
  have t2 : V.cell? ⟨og, os.length + 1, none⟩ = some (.slice a f.length cp) := (World.cell?_of_block (a := ⟨og, os.length + 1, none⟩) (hSV.block og ⟨hogr, HO1.out.low⟩)).trans t1
  clear c0 c2 c3 f0 f2 f3 hV t1
  have c0 := R2.c0
  have c2 := R2.c2
  have c3 := R2.c3
  have f0 := R2.f 0
  have f3 := R2.f 3
  have CI2 := Lib.hid (inner_any rb og os.length oc V R2.c2 (by omega))
  have HF := Lib.hid (And.intro R2 (And.intro O2 (And.intro hSV (And.intro hbx (And.intro HO1.out.low t2)))))
  have hm1 : ((m + 1 : Nat) : Int) - 1 = (m : Int) := by omega
  have hm2 : (m : Int) < ((m + 1 : Nat) : Int) := by omega
  clear R2 O2 hSV hbx hlow t2
  go_wp2_with fail
  refine CI2.out.mono ?_
  rintro e w1 ⟨rfl, q2, rfl⟩
  obtain ⟨U, hUe⟩ : ∃ U, V.drewN q2 = U := ⟨_, rfl⟩
  have hSU : Stays (fun _ => True) V U := by rw [← hUe]; exact drew_all V q2
  rw [hUe]
  obtain ⟨R2, O2, hSV, hbx, hlo, t2⟩ := HF.out
  have R3 := R2.kept (hSU.block rb trivial)
  have O3 := O2.move (M' := M) (X' := fun _ => False) (hSU.mono fun _ _ => trivial) (fun k h _ => h) (fun k h => .inl h)
  have hbx3 : Boxed U W.heap.size 24 (.slice a f.length cp) := (hSU.block _ trivial).trans hbx
  have u1 : U.cell? ⟨og, os.length, none⟩ = _ := (World.cell?_of_block (a := ⟨og, os.length, none⟩) (hSU.block og trivial)).trans s1
  have u2 : U.cell? ⟨gb, m * 5 + 4, none⟩ = _ := (World.cell?_of_block (a := ⟨gb, m * 5 + 4, none⟩) (hSU.block gb trivial)).trans s2
  have u3 : U.frozen? ⟨gb, m * 5 + 4, none⟩ = false := by rw [← hUe]; exact s3
  have u4 := hbx3.cell
  have hgbU : gb < U.heap.size := Nat.lt_of_lt_of_le hgbV hSU.size
  have HF2 := Lib.hid (And.intro R3 (And.intro O3 (And.intro hSV (And.intro hSU (And.intro hlo t2)))))
  clear R2 O2 hSV hbx t2 R3 O3 hSU hbx3 s1 s2 s3 c0 c2 c3 f0 f3 hcx hUe hlo
  go_wp2_with fail
  obtain ⟨R3, O3, hSV, hSU, hlo, t2⟩ := HF2.out
  have hWw := S1.out.size
  have hrU : rb < U.heap.size := R3.lt
  have t3 : U.cell? ⟨og, os.length + 1, none⟩ = some (.slice a f.length cp) := (World.cell?_of_block (a := ⟨og, os.length + 1, none⟩) (hSU.block og trivial)).trans t2
  have O4 := O3.close2 t3 u1 HM.out hos hrU
  rw [setF_eq] at O4
  have hS2 : Stays (fun k => k ≠ gb ∧ k < U.heap.size) U ((U.alloc (.cells #[.slice a f.length cp] 24)).setCell ⟨gb, m * 5 + 4, none⟩ (.slice (some ⟨U.heap.size, 0, none⟩) 1 1)) := stays_set ((Stays.refl _ U).alloc _ (fun k hk => hk.2)) (fun h => h.1 rfl)
  rw [set_alloc (a := ⟨gb, m * 5 + 4, none⟩) hgbU]
  have hUW : W.heap.size ≤ U.heap.size := Nat.le_trans hSV.size hSU.size
  have O5 := O4.move (M' := fun k => M k ∨ w.heap.size ≤ k) (X' := fun _ => False) (Stays.refl _ _) (fun k h _ => h.imp id (fun h => by omega)) (fun k h => .inl h)
  exact bodyPost_end (v := .tuple #[]) (by simp [results, Tryz.results53]) rfl ⟨⟨_, rfl⟩, ⟨nu, _, cv, gg, n, pv, v, av, en, R3.kept (hS2.block rb ⟨fun e => hgbr e.symm, hrU⟩), .inl hM, O5, fun h => by simp at h⟩, ((S1.out.mono fun _ _ => trivial).trans (hSV.mono fun k hk => ⟨fun e => hk.2 (e ▸ hM), Nat.lt_of_lt_of_le hk.1 hWw⟩)).trans ((hSU.mono fun _ _ => trivial).trans (hS2.mono fun k hk => ⟨fun e => hk.2 (e ▸ hMgb), by have := hk.1; omega⟩))⟩
end Go.Proofs.YtpdodknldhbbhaaGreatDoor.Vc

namespace Go.Proofs.YtpdodknldhbbhaaGreatDoor.Vc
set_option maxRecDepth 100000
open Go.RowKit Pp Sq

/-- What a step hands back. -/
def Took (w : World) (rb base : Nat) (M : Nat → Prop) (o : Vm.Out G) (e : Ending) (w' : World) : Prop :=
  match o with
  | .go s => e = .returned (.int .i64 0) ∧ RdAt w' rb base (fun k => M k ∨ w.heap.size ≤ k) s ∧ Fin M w w'
  | .bad k er => e = .returned (.int .i64 er) ∧ w'.cell? ⟨rb, 1, none⟩ = some (.int .i64 (k : Int)) ∧ Fin M w w'

theorem grown_cell9 {w w' : World} {r : Option Nat} {b o : Nat} (h : w.grownBy w' r) (hb : b < w.heap.size) (hr : r ≠ some b) : w'.cell? ⟨b, o, none⟩ = w.cell? ⟨b, o, none⟩ := World.cell?_of_block (a := ⟨b, o, none⟩) (h.block b hb (fun e => hr e.symm))
theorem cell_al {w : World} {o : Obj} {a : Addr} {v : Value} (h : w.cell? a = some v) : (w.alloc o).cell? a = some v := (World.cell?_of_block (((Below.refl _ w).alloc (Nat.le_refl _) o).block a.block (World.block_lt_of_cell? w a h))).trans h
theorem prat_grown {w w' : World} {r : Option Nat} {b : Nat} {g n v : ByteArray} {pv av : Value} (h : PrAt w b g n pv v av) (hg : w.grownBy w' r) (hb : b < w.heap.size) (hr : some b ≠ r) : PrAt w' b g n pv v av := (hg.block b hb hr).trans h
theorem six_grown {w w' : World} {r : Option Nat} {b : Nat} {v4 v5 v6 v7 v8 v9 : Value} (h : w.cell? ⟨b, 4, none⟩ = some v4 ∧ w.cell? ⟨b, 5, none⟩ = some v5 ∧ w.cell? ⟨b, 6, none⟩ = some v6 ∧ w.cell? ⟨b, 7, none⟩ = some v7 ∧ w.cell? ⟨b, 8, none⟩ = some v8 ∧ w.cell? ⟨b, 9, none⟩ = some v9) (hg : w.grownBy w' r) (hb : b < w.heap.size) (hr : r ≠ some b) :
    w'.cell? ⟨b, 4, none⟩ = some v4 ∧ w'.cell? ⟨b, 5, none⟩ = some v5 ∧ w'.cell? ⟨b, 6, none⟩ = some v6 ∧ w'.cell? ⟨b, 7, none⟩ = some v7 ∧ w'.cell? ⟨b, 8, none⟩ = some v8 ∧ w'.cell? ⟨b, 9, none⟩ = some v9 :=
  ⟨(grown_cell9 hg hb hr).trans h.1, (grown_cell9 hg hb hr).trans h.2.1, (grown_cell9 hg hb hr).trans h.2.2.1, (grown_cell9 hg hb hr).trans h.2.2.2.1, (grown_cell9 hg hb hr).trans h.2.2.2.2.1, (grown_cell9 hg hb hr).trans h.2.2.2.2.2⟩
theorem six_set {w : World} {b z o : Nat} {u v4 v5 v6 v7 v8 v9 : Value} (h : w.cell? ⟨b, 4, none⟩ = some v4 ∧ w.cell? ⟨b, 5, none⟩ = some v5 ∧ w.cell? ⟨b, 6, none⟩ = some v6 ∧ w.cell? ⟨b, 7, none⟩ = some v7 ∧ w.cell? ⟨b, 8, none⟩ = some v8 ∧ w.cell? ⟨b, 9, none⟩ = some v9) (hb : b ≠ z) :
    (w.setCell ⟨z, o, none⟩ u).cell? ⟨b, 4, none⟩ = some v4 ∧ (w.setCell ⟨z, o, none⟩ u).cell? ⟨b, 5, none⟩ = some v5 ∧ (w.setCell ⟨z, o, none⟩ u).cell? ⟨b, 6, none⟩ = some v6 ∧ (w.setCell ⟨z, o, none⟩ u).cell? ⟨b, 7, none⟩ = some v7 ∧ (w.setCell ⟨z, o, none⟩ u).cell? ⟨b, 8, none⟩ = some v8 ∧ (w.setCell ⟨z, o, none⟩ u).cell? ⟨b, 9, none⟩ = some v9 := by
  have E : ∀ i, (w.setCell ⟨z, o, none⟩ u).cell? ⟨b, i, none⟩ = w.cell? ⟨b, i, none⟩ := fun i => World.cell?_of_block (a := ⟨b, i, none⟩) (Below.heap_setCell w ⟨z, o, none⟩ u b hb)
  exact ⟨(E 4).trans h.1, (E 5).trans h.2.1, (E 6).trans h.2.2.1, (E 7).trans h.2.2.2.1, (E 8).trans h.2.2.2.2.1, (E 9).trans h.2.2.2.2.2⟩
theorem gr_al {w w1 : World} {r : Option Nat} {o : Obj} (h : w.drew.grownBy w1 r) : w.grownBy (w1.alloc o) r :=
  grown_below (w := w) (W := w1) ⟨h.os, h.tape, h.output, h.size, h.block⟩ h.size ((Below.refl w.heap.size w1).alloc h.size o)
theorem gr_be {w w1 : World} {r : Option Nat} {o : Obj} (hb : Below w.heap.size w (w.alloc o)) (h : (w.alloc o).drew.grownBy w1 r) : w.grownBy w1 r :=
  ⟨h.os.trans hb.os, h.tape.trans hb.tape, h.output.trans hb.output, Nat.le_trans hb.size h.size, fun k hk hne => (h.block k (Nat.lt_of_lt_of_le hk hb.size) hne).trans (hb.block k hk)⟩
theorem six_al {w : World} {o : Obj} {b : Nat} {v4 v5 v6 v7 v8 v9 : Value} (h : w.cell? ⟨b, 4, none⟩ = some v4 ∧ w.cell? ⟨b, 5, none⟩ = some v5 ∧ w.cell? ⟨b, 6, none⟩ = some v6 ∧ w.cell? ⟨b, 7, none⟩ = some v7 ∧ w.cell? ⟨b, 8, none⟩ = some v8 ∧ w.cell? ⟨b, 9, none⟩ = some v9) :
    (w.alloc o).cell? ⟨b, 4, none⟩ = some v4 ∧ (w.alloc o).cell? ⟨b, 5, none⟩ = some v5 ∧ (w.alloc o).cell? ⟨b, 6, none⟩ = some v6 ∧ (w.alloc o).cell? ⟨b, 7, none⟩ = some v7 ∧ (w.alloc o).cell? ⟨b, 8, none⟩ = some v8 ∧ (w.alloc o).cell? ⟨b, 9, none⟩ = some v9 :=
  ⟨cell_al h.1, cell_al h.2.1, cell_al h.2.2.1, cell_al h.2.2.2.1, cell_al h.2.2.2.2.1, cell_al h.2.2.2.2.2⟩
theorem OpAt.notX {w : World} {rb base og oc n : Nat} {M X : Nat → Prop} {os : List Fr} (h : OpAt w rb base M X os (.slice (some ⟨og, 0, none⟩) n oc)) (hx : X og) : False := by
  obtain ⟨F, vs, _, _, _, h4, _⟩ := h
  obtain ⟨_, e⟩ := row_shape ‹_›
  simp only [Value.slice.injEq] at e
  obtain ⟨_, rfl, _⟩ := e
  exact (h4 og rfl).2.2 hx
theorem OpAt.top_lt {w : World} {rb base og oc : Nat} {M X : Nat → Prop} {f : Fr} {os : List Fr} {v : Value} (h : OpAt w rb base M X (f :: os) (.slice (some ⟨og, 0, none⟩) (os.length + 1) oc)) (t : w.cell? ⟨og, os.length, none⟩ = some v) (g : Nat) (hg : v.ownBlock = some g) : g < w.heap.size := by
  obtain ⟨F, vs, h1, h2, h3, h4, h5⟩ := h
  match vs, h2, h1, h5 with
  | [], h2, _, _ => exact h2.elim
  | v0 :: vs, h2, h1, h5 =>
    have hvl := h2.2.2.len
    have c1 := row_cell h1 (j := os.length) (u := v0) (by rw [List.reverse_cons, List.getElem?_append_right (by simp [hvl])]; simp [hvl])
    rw [t] at c1
    cases c1
    exact (h2.lt v (List.mem_cons_self ..) g hg).2
/-- What lies there behind asMeant: its property in a box, its error. -/
def MeantAt (w wc : World) (r : Option Nat) (p : Pd) (er : Int) (xv yv : Value) : Prop :=
  ∃ (Z : Nat) (xa : Option Addr) (xc : Nat), xv = .pointer (some ⟨Z, 0, none⟩) ∧ yv = .int .i64 er ∧ PrAt wc Z p.g p.n (.slice xa p.ps.length xc) p.v (.slice none 0 0) ∧ Ps wc wc.heap.size (.slice xa p.ps.length xc) p.ps ∧ (∀ k, (Value.slice xa p.ps.length xc).ownBlock = some k → r = some k) ∧ w.grownBy wc r ∧ w.heap.size ≤ Z
theorem relA {w w1 : World} {r : Option Nat} {p : Pd} {er : Int} {xa : Option Addr} {xc : Nat} (hps : Ps w1 w1.heap.size (.slice xa p.ps.length xc) p.ps) (hob : ∀ k, (Value.slice xa p.ps.length xc).ownBlock = some k → r = some k) (hg : w.drew.grownBy w1 r) :
    MeantAt w (w1.alloc (.cells #[.string p.g, .string p.n, .slice xa p.ps.length xc, .string p.v, .slice none 0 0] 53)) r p er (.pointer (some ⟨w1.heap.size, 0, none⟩)) (.int .i64 er) :=
  ⟨w1.heap.size, xa, xc, rfl, rfl, heap_alloc_new w1 _, (hps.below ((Below.refl _ _).alloc (Nat.le_refl _) _)).up (by rw [World.size_alloc]; omega), hob, gr_al hg, hg.size⟩
theorem relB {w w1 : World} {o : Obj} {r : Option Nat} {p : Pd} {er : Int} {xa : Option Addr} {xc : Nat} {g n v : ByteArray} {pv av : Value} (hps : Ps w1 w1.heap.size (.slice xa p.ps.length xc) p.ps) (hob : ∀ k, (Value.slice xa p.ps.length xc).ownBlock = some k → r = some k) (hb : Below w.heap.size w (w.alloc o)) (hg : (w.alloc o).drew.grownBy w1 r) (hz : PrAt w1 w.heap.size g n pv v av) (hr : ∀ k, r = some k → k < w.heap.size) :
    MeantAt w (((((w1.setCell ⟨w.heap.size, 0, none⟩ (.string p.g)).setCell ⟨w.heap.size, 1, none⟩ (.string p.n)).setCell ⟨w.heap.size, 2, none⟩ (.slice xa p.ps.length xc)).setCell ⟨w.heap.size, 3, none⟩ (.string p.v)).setCell ⟨w.heap.size, 4, none⟩ (.slice none 0 0)) r p er (.pointer (some ⟨w.heap.size, 0, none⟩)) (.int .i64 er) :=
  ⟨w.heap.size, xa, xc, rfl, rfl, ((((hz.set0 _).set1 _).set2 _).set3 _).set4 _, ps5 hps (fun k e => by have := hr k (hob k e); omega) _ _ _ _ _, hob, set5 (gr_be hb hg) (Nat.le_refl _) _ _ _ _ _, Nat.le_refl _⟩
set_option maxHeartbeats 1600000 in
theorem value_tail (rb base : Nat) (M : Nat → Prop) (k : Nat) (f : Fr) (os : List Fr) (c : Crd) (q : Par) (ov cv pv : Value) (w : World)
    (hR : RdC w rb 2 k ov cv q.g q.n pv q.v (.slice none 0 0) (wayV q.ps) false) (hM : M rb) (hown : Pp.Own w base pv q.ps) (hpvM : ∀ g, pv.ownBlock = some g → M g ∧ g ≠ rb) (hO : OpAt w rb base M (fun k => pv.ownBlock = some k) (f :: os) ov)
    (hlen : os.length ≤ 2) (hf : f.length < 24) (hv : q.v.size ≤ 1048576) (hl : q.ps.length ≤ 100) (hps : ∀ x ∈ q.ps, x.2.size ≤ 1048576) (hbs : base ≤ w.heap.size) (T : Qu.Tabs w) (hd1 : (decW (wayV q.ps) q.v).1.size ≤ 1048576) (hqp : ¬ (wayV q.ps).toList = [81, 85, 79, 84, 69, 68, 45, 80, 82, 73, 78, 84, 65, 66, 76, 69]) :
    Calls Tryz.prog 50 #[.pointer (some ⟨rb, 0, none⟩)] w (Took w rb base M (Vm.takeD (G := G) k (f :: os) c q)) := by
  have hshape := hown.ps.shape
  obtain ⟨pa, pc, rfl⟩ := hshape
  have bd : Below w.heap.size w w.drew := (Below.refl _ _).drew
  have CA := Lib.hid (fun W (hb : Below w.heap.size w W) => asMeant_any (wayV q.ps) q.g q.n (.slice pa q.ps.length pc) q.v q.ps base W (hown.below hb) hl hv hps (T.below hb) hd1)
  unfold prV at CA
  unfold Vm.takeD
  obtain ⟨⟨er, p⟩, hmean⟩ : ∃ x, meanW (wayV q.ps) q.g q.n q.ps q.v = x := ⟨_, rfl⟩
  have hmean' : G.mean q = (er, p) := hmean
  rw [hmean']
  rw [hmean] at CA
  simp only at CA ⊢
  unfold Meant prV at CA
  simp only at CA
  generalize hOut : (if er ≠ 0 then Vm.Out.bad k er else if G.agent p = false then Vm.Out.go (Vm.St.at_ 2 (Vm.addP (f :: os) (p, [])) c) else if G.hasV p = true then Vm.Out.bad k 5 else if (f :: os).length = 3 then Vm.Out.bad k 9 else Vm.Out.go (Vm.St.at_ 0 (Vm.addP (f :: os) (p, [])) c) : Vm.Out G) = OUT
  have HOUT := Lib.hid hOut
  clear hOut
  have hb9 : ((wayV q.ps).toList == [81, 85, 79, 84, 69, 68, 45, 80, 82, 73, 78, 84, 65, 66, 76, 69]) = false := by simpa using hqp
  have c9 := hR.c9
  have c4 := hR.c4
  have c5 := hR.c5
  have c6 := hR.c6
  have c7 := hR.c7
  have c8 := hR.c8
  have hrb := hR.lt
  have hrbd : rb < w.drew.heap.size := hrb
  have ba : Below w.heap.size w (w.alloc (.cells #[.string ⟨#[]⟩, .string ⟨#[]⟩, .slice none 0 0, .string ⟨#[]⟩, .slice none 0 0] 53)) := (Below.refl _ _).alloc (Nat.le_refl _) _
  have bda : Below w.heap.size w (w.alloc (.cells #[.string ⟨#[]⟩, .string ⟨#[]⟩, .slice none 0 0, .string ⟨#[]⟩, .slice none 0 0] 53)).drew := ba.drew
  have hA := hR.kept (ba.block rb hrb)
  have sc : w.cell? ⟨rb, 4, none⟩ = some (.string q.g) ∧ w.cell? ⟨rb, 5, none⟩ = some (.string q.n) ∧ w.cell? ⟨rb, 6, none⟩ = some (.slice pa q.ps.length pc) ∧ w.cell? ⟨rb, 7, none⟩ = some (.string q.v) ∧ w.cell? ⟨rb, 8, none⟩ = some (.slice none 0 0) ∧ w.cell? ⟨rb, 9, none⟩ = some (.string (wayV q.ps)) := ⟨hR.c4, hR.c5, hR.c6, hR.c7, hR.c8, hR.c9⟩
  have scd : w.drew.cell? ⟨rb, 4, none⟩ = some (.string q.g) ∧ w.drew.cell? ⟨rb, 5, none⟩ = some (.string q.n) ∧ w.drew.cell? ⟨rb, 6, none⟩ = some (.slice pa q.ps.length pc) ∧ w.drew.cell? ⟨rb, 7, none⟩ = some (.string q.v) ∧ w.drew.cell? ⟨rb, 8, none⟩ = some (.slice none 0 0) ∧ w.drew.cell? ⟨rb, 9, none⟩ = some (.string (wayV q.ps)) := sc
  have sa : (w.alloc (.cells #[.string ⟨#[]⟩, .string ⟨#[]⟩, .slice none 0 0, .string ⟨#[]⟩, .slice none 0 0] 53)).cell? ⟨rb, 4, none⟩ = some (.string q.g) ∧ (w.alloc (.cells #[.string ⟨#[]⟩, .string ⟨#[]⟩, .slice none 0 0, .string ⟨#[]⟩, .slice none 0 0] 53)).cell? ⟨rb, 5, none⟩ = some (.string q.n) ∧ (w.alloc (.cells #[.string ⟨#[]⟩, .string ⟨#[]⟩, .slice none 0 0, .string ⟨#[]⟩, .slice none 0 0] 53)).cell? ⟨rb, 6, none⟩ = some (.slice pa q.ps.length pc) ∧ (w.alloc (.cells #[.string ⟨#[]⟩, .string ⟨#[]⟩, .slice none 0 0, .string ⟨#[]⟩, .slice none 0 0] 53)).cell? ⟨rb, 7, none⟩ = some (.string q.v) ∧ (w.alloc (.cells #[.string ⟨#[]⟩, .string ⟨#[]⟩, .slice none 0 0, .string ⟨#[]⟩, .slice none 0 0] 53)).cell? ⟨rb, 8, none⟩ = some (.slice none 0 0) ∧ (w.alloc (.cells #[.string ⟨#[]⟩, .string ⟨#[]⟩, .slice none 0 0, .string ⟨#[]⟩, .slice none 0 0] 53)).cell? ⟨rb, 9, none⟩ = some (.string (wayV q.ps)) := ⟨hA.c4, hA.c5, hA.c6, hA.c7, hA.c8, hA.c9⟩
  have sad : (w.alloc (.cells #[.string ⟨#[]⟩, .string ⟨#[]⟩, .slice none 0 0, .string ⟨#[]⟩, .slice none 0 0] 53)).drew.cell? ⟨rb, 4, none⟩ = some (.string q.g) ∧ (w.alloc (.cells #[.string ⟨#[]⟩, .string ⟨#[]⟩, .slice none 0 0, .string ⟨#[]⟩, .slice none 0 0] 53)).drew.cell? ⟨rb, 5, none⟩ = some (.string q.n) ∧ (w.alloc (.cells #[.string ⟨#[]⟩, .string ⟨#[]⟩, .slice none 0 0, .string ⟨#[]⟩, .slice none 0 0] 53)).drew.cell? ⟨rb, 6, none⟩ = some (.slice pa q.ps.length pc) ∧ (w.alloc (.cells #[.string ⟨#[]⟩, .string ⟨#[]⟩, .slice none 0 0, .string ⟨#[]⟩, .slice none 0 0] 53)).drew.cell? ⟨rb, 7, none⟩ = some (.string q.v) ∧ (w.alloc (.cells #[.string ⟨#[]⟩, .string ⟨#[]⟩, .slice none 0 0, .string ⟨#[]⟩, .slice none 0 0] 53)).drew.cell? ⟨rb, 8, none⟩ = some (.slice none 0 0) ∧ (w.alloc (.cells #[.string ⟨#[]⟩, .string ⟨#[]⟩, .slice none 0 0, .string ⟨#[]⟩, .slice none 0 0] 53)).drew.cell? ⟨rb, 9, none⟩ = some (.string (wayV q.ps)) := sa
  have hrba : rb < (w.alloc (.cells #[.string ⟨#[]⟩, .string ⟨#[]⟩, .slice none 0 0, .string ⟨#[]⟩, .slice none 0 0] 53)).drew.heap.size := hA.lt
  have hz0 : PrAt (w.alloc (.cells #[.string ⟨#[]⟩, .string ⟨#[]⟩, .slice none 0 0, .string ⟨#[]⟩, .slice none 0 0] 53)).drew w.heap.size ⟨#[]⟩ ⟨#[]⟩ (.slice none 0 0) ⟨#[]⟩ (.slice none 0 0) := heap_alloc_new w _
  have hzl : w.heap.size < (w.alloc (.cells #[.string ⟨#[]⟩, .string ⟨#[]⟩, .slice none 0 0, .string ⟨#[]⟩, .slice none 0 0] 53)).drew.heap.size := by show w.heap.size < (w.alloc (.cells #[.string ⟨#[]⟩, .string ⟨#[]⟩, .slice none 0 0, .string ⟨#[]⟩, .slice none 0 0] 53)).heap.size; rw [World.size_alloc]; omega
  have hzo : some w.heap.size ≠ (Value.slice pa q.ps.length pc).ownBlock := fun e => by have := (own_blk hown _ e.symm).2; omega
  have hrz : rb ≠ w.heap.size := by omega
  have hrbo : (Value.slice pa q.ps.length pc).ownBlock ≠ some rb := fun e => (hpvM rb e).2 rfl
  have HBS := Lib.hid hbs
  have HOB := Lib.hid (fun k e => (own_blk hown k e).2)
  have HR := Lib.hid hR
  have HO := Lib.hid hO
  have HW := Lib.hid hown
  have HT := Lib.hid T
  clear hbs hA hR hO hown T hd1 hps hv hl hqp
  generalize wayV q.ps = en at *
  go_enter Tryz.func50, Tryz.ntmps50
  go_upto_region 5 with fail
  go_cut [3, 4] from 6 to 73 (fun xv yv wc => MeantAt w wc (Value.slice pa q.ps.length pc).ownBlock p er xv yv)
  case first =>
    go_region_held3 (fun w' => w'.cell? ⟨rb, 4, none⟩ = some (.string q.g) ∧ w'.cell? ⟨rb, 5, none⟩ = some (.string q.n) ∧ w'.cell? ⟨rb, 6, none⟩ = some (.slice pa q.ps.length pc) ∧ w'.cell? ⟨rb, 7, none⟩ = some (.string q.v) ∧ w'.cell? ⟨rb, 8, none⟩ = some (.slice none 0 0) ∧ w'.cell? ⟨rb, 9, none⟩ = some (.string en)) (first | with_reducible exact scd | with_reducible exact sad | with_reducible exact sd | with_reducible exact six_al sd | with_reducible exact sc | with_reducible exact sa | exact six_set (six_set (six_set (six_set (six_set sd hrz) hrz) hrz) hrz) hrz | go_keep) ((go_at_call 91; refine (CA.out _ (by first | with_reducible exact bd | with_reducible exact bda)).mono ?_; rintro e w1 ⟨pv', rfl, hps1, hob, hg1⟩; obtain ⟨xa, xc, rfl⟩ := hps1.shape; first | (have sd := six_grown scd hg1 hrbd hrbo) | (have sd := six_grown sad hg1 hrba hrbo; have hbz := prat_grown hz0 hg1 hzl hzo; have z0 := hbz.c0; have y0 := hbz.f 0; have z1 := hbz.c1; have y1 := hbz.f 1; have z2 := hbz.c2; have y2 := hbz.f 2; have z3 := hbz.c3; have y3 := hbz.f 3; have z4 := hbz.c4; have y4 := hbz.f 4)))
    all_goals
      go_wp2_with fail
      go_meet
    case rel => exact relA hps1 hob hg1
    case rel => exact relB hps1 hob ba hg1 hbz (fun k e => HOB.out k e)
  case rest =>
    obtain ⟨Z, xa, xc, rfl, rfl, hZ, hps1, hob, hg1, hzZ⟩ := hcut
    generalize hVc : wc = V at *
    clear hVc
    have hrV : V.heap[rb]? = w.heap[rb]? := hg1.block rb hrb (fun e => hrbo e.symm)
    have R1 := HR.out.kept hrV
    have hSV : Stays (fun k => k < w.heap.size ∧ (Value.slice pa q.ps.length pc).ownBlock ≠ some k) w V := ⟨hg1.os, hg1.tape, hg1.output, hg1.size, fun k hk => hg1.block k hk.1 (fun e => hk.2 e.symm)⟩
    have O1 := HO.out.move (M' := fun k => M k ∨ w.heap.size ≤ k) (X' := fun k => (Value.slice pa q.ps.length pc).ownBlock = some k) (hSV.mono fun k hk => ⟨hk.2.2.2, hk.2.2.1⟩) (fun k h _ => .inl h) (fun k h => .inl h)
    have hFin : Fin M w V := hSV.mono fun k hk => ⟨hk.1, fun e => hk.2 (hpvM k e).1⟩
    have p0 := hZ.c0
    have p1 := hZ.c1
    have p2 := hZ.c2
    have p3 := hZ.c3
    have p4 := hZ.c4
    by_cases her : er = 0
    rotate_left
    · have heb : (er == 0) = false := by simpa using her
      have HE : Hid (OUT = .bad k er) := Lib.hid (by rw [← HOUT.out, if_pos her])
      have r1 := R1.c1
      clear HOUT
      go_wp2_with fail
      go_ret
      rw [HE.out]
      exact ⟨rfl, r1, hFin⟩
    · subst her
      have HOUT1 : Hid ((if G.agent p = false then Vm.Out.go (Vm.St.at_ 2 (Vm.addP (f :: os) (p, [])) c) else if G.hasV p = true then Vm.Out.bad k 5 else if (f :: os).length = 3 then Vm.Out.bad k 9 else Vm.Out.go (Vm.St.at_ 0 (Vm.addP (f :: os) (p, [])) c) : Vm.Out G) = OUT) := Lib.hid (by have h := HOUT.out; rw [if_neg (fun h => h rfl)] at h; exact h)
      obtain ⟨og, oc, fa, fc, rfl, t1, tf, hogV, hogr, hoc, hoc2⟩ := O1.top
      have CI := Lib.hid (inner_any rb og os.length oc V R1.c2 (by omega))
      have HF := Lib.hid (And.intro R1 (And.intro O1 (And.intro hSV (And.intro hFin (And.intro hZ (And.intro hps1 (And.intro hob hzZ)))))))
      clear HOUT R1 O1 hSV hFin hZ hps1 hob hzZ hrV p0 p1 p2 p3 p4 hg1 hoc2
      go_wp2_with fail
      refine CI.out.mono ?_
      rintro e w2 ⟨rfl, qq, rfl⟩
      obtain ⟨U, hUe⟩ : ∃ U, V.drewN qq = U := ⟨_, rfl⟩
      have hSU : Stays (fun _ => True) V U := by rw [← hUe]; exact drew_all V qq
      have hfU : ∀ a, U.frozen? a = V.frozen? a := fun a => by rw [← hUe]; rfl
      rw [hUe]
      obtain ⟨R1, O1, hSV, hFin, hZ, hps1, hob, hzZ⟩ := HF.out
      have R2 := R1.kept (hSU.block rb trivial)
      have O2 := O1.move (M' := fun k => M k ∨ w.heap.size ≤ k) (X' := fun k => (Value.slice pa q.ps.length pc).ownBlock = some k) (hSU.mono fun _ _ => trivial) (fun k h _ => h) (fun k h => .inl h)
      have hZ2 : PrAt U Z p.g p.n (.slice xa p.ps.length xc) p.v (.slice none 0 0) := (hSU.block Z trivial).trans hZ
      have hsU : U.heap.size = V.heap.size := by rw [← hUe]; rfl
      have hps2 : Ps U U.heap.size (.slice xa p.ps.length xc) p.ps := by rw [← hUe]; exact hps1
      have t2 : U.cell? ⟨og, os.length, none⟩ = some (.slice fa f.length fc) := (World.cell?_of_block (a := ⟨og, os.length, none⟩) (hSU.block og trivial)).trans t1
      have tf2 : U.frozen? ⟨og, os.length, none⟩ = false := (hfU _).trans tf
      have hogU : og < U.heap.size := by omega
      have p0 := hZ2.c0
      have p1 := hZ2.c1
      have p2 := hZ2.c2
      have p3 := hZ2.c3
      have p4 := hZ2.c4
      have HF2 := Lib.hid (And.intro R2 (And.intro O2 (And.intro hSU (And.intro hZ2 hps2))))
      have HSU := Lib.hid hSU
      have HZU := Lib.hid (fun (h : PrAt V Z p.g p.n (.slice xa p.ps.length xc) p.v (.slice none 0 0)) => show PrAt U Z p.g p.n (.slice xa p.ps.length xc) p.v (.slice none 0 0) from (hSU.block Z trivial).trans h)
      have hsU' : V.heap.size ≤ U.heap.size := hSU.size
      have t1' := t1
      clear R1 O1 hSV hFin hZ hps1 hob hzZ R2 O2 hSU hZ2 hps2 t1 tf hfU hUe
      obtain ⟨R2, O2, hSU, hZ2, hps2⟩ := HF2.out
      obtain ⟨R1, O1, hSV, hFin, hZ, hps1, hob, hzZ⟩ := HF.out
      have hUw : w.heap.size ≤ U.heap.size := Nat.le_trans hSV.size hSU.size
      obtain ⟨v', W3, hrun, hO3, hS3, ⟨va, vc, rfl⟩, hMog, _, _, hvog, hvrb, hvM, hf3⟩ := O2.grow (X := fun k => (Value.slice pa q.ps.length pc).ownBlock = some k) t2 hf hps2 rfl hob (Nat.lt_of_lt_of_le hrb hUw) (fun k hk => ⟨.inl (hpvM k hk).1, (hpvM k hk).2, by have := HOB.out k hk; omega⟩) (Nat.le_trans HBS.out hUw)
      have hrW : RdC W3 rb 2 k (.slice (some ⟨og, 0, none⟩) (os.length + 1) oc) cv q.g q.n (.slice pa q.ps.length pc) q.v (.slice none 0 0) en false := R2.kept (hS3.block rb ⟨Nat.lt_of_lt_of_le hrb hUw, hvrb⟩)
      have hog3 : W3.cell? ⟨og, os.length, none⟩ = some (.slice fa f.length fc) := (World.cell?_of_block (a := ⟨og, os.length, none⟩) (hS3.block og ⟨hogU, hvog⟩)).trans t2
      have HF3 := Lib.hid (And.intro hrW (And.intro hO3 (And.intro hS3 (And.intro hMog (And.intro hvM hUw)))))
      clear R1 O1 hSV hFin hZ hps1 hob hzZ R2 O2 hSU hZ2 hps2 hrW hO3 hS3 hMog hvM hvog hvrb HF2 hsU
      go_upto_region 9 with fail
      go_cut [5] from 6 to 73 (fun xv wc => xv = .pointer (some ⟨og, os.length, none⟩) ∧ wc = W3.setCell ⟨og, os.length, none⟩ (.slice va (f.length + 1) vc))
      case first =>
        go_region_law (refine step_run rfl _ _ _ rfl _ _ _ rfl rfl hrun ?_)
        all_goals
          go_wp2_with fail
          go_meet
        all_goals exact ⟨rfl, rfl⟩
      case rest =>
        obtain ⟨rfl, rfl⟩ := hcut
        clear hrun
        obtain ⟨hrW, hO3, hS3, hMog, hvM, hUw⟩ := HF3.out
        obtain ⟨R1, O1, hSV, hFin, hZ, hps1, hob, hzZ⟩ := HF.out
        have hogw : og < w.heap.size := HO.out.low
        have hownog : (Value.slice pa q.ps.length pc).ownBlock ≠ some og := fun e => HO.out.notX e
        have hvw : ∀ g, (Value.slice fa f.length fc).ownBlock = some g → g < w.heap.size := HO.out.top_lt ((World.cell?_of_block (a := ⟨og, os.length, none⟩) (hSV.block og ⟨hogw, hownog⟩)).symm.trans t1')
        have hvZ : (Value.slice fa f.length fc).ownBlock ≠ some Z := fun e => by have := hvw Z e; omega
        have hZU : Z < U.heap.size := Nat.lt_of_lt_of_le hZ.lt hsU'
        have hZ3 : PrAt W3 Z p.g p.n (.slice xa p.ps.length xc) p.v (.slice none 0 0) := (hS3.block Z ⟨hZU, hvZ⟩).trans (HZU.out hZ)
        have hZ4 := hZ3.other (a := ⟨og, os.length, none⟩) (by show Z ≠ og; omega) (.slice va (f.length + 1) vc)
        have hR4 : RdC (W3.setCell ⟨og, os.length, none⟩ (.slice va (f.length + 1) vc)) rb 2 k (.slice (some ⟨og, 0, none⟩) (os.length + 1) oc) cv q.g q.n (.slice pa q.ps.length pc) q.v (.slice none 0 0) en false := hrW.kept (Below.heap_setCell W3 ⟨og, os.length, none⟩ _ rb (fun e => hogr e.symm))
        have hO4 := hO3.move (M' := fun k => M k ∨ w.heap.size ≤ k) (X' := fun _ => False) (Stays.refl _ _) (fun k h _ => h.elim id (fun h => .inr (Nat.le_trans hUw h))) (fun k h => .inl h)
        have hF4 : Fin M w (W3.setCell ⟨og, os.length, none⟩ (.slice va (f.length + 1) vc)) :=
          ((hFin.trans (HSU.out.mono fun _ _ => trivial)).trans (hS3.mono fun k hk => ⟨Nat.lt_of_lt_of_le hk.1 hUw, fun e => (hvM k e).elim hk.2 (fun h => by have := hk.1; omega)⟩)).trans (stays_set (Stays.refl _ W3) (fun h => hMog.elim h.2 (fun h => by omega)))
        have m1 := hZ4.c1
        have m3 := hZ4.c3
        have r0 := hR4.c0
        have r1 := hR4.c1
        have r2 := hR4.c2
        have rf := hR4.f 0
        have HY := Lib.hid (And.intro hR4 (And.intro hO4 hF4))
        obtain ⟨Y, hY⟩ : ∃ Y, W3.setCell ⟨og, os.length, none⟩ (.slice va (f.length + 1) vc) = Y := ⟨_, rfl⟩
        rw [hY] at m1 m3 r0 r1 r2 rf HY ⊢
        clear hrW hO3 hS3 hMog hvM hUw R1 O1 hSV hFin hZ hps1 hob hzZ hogw hownog hvw hvZ hZU hZ3 hZ4 hR4 hO4 hF4 hY HF HF3 HSU HZU t1' hsU' t2 tf2 hf3 hog3 hogU p0 p1 p2 p3 p4
        by_cases ha : p.n.toList = [65, 71, 69, 78, 84]
        rotate_left
        · have hab : (p.n.toList == [65, 71, 69, 78, 84]) = false := by simpa using ha
          have HE : Hid (OUT = .go (.at_ 2 (Vm.addP (f :: os) (p, [])) c)) := Lib.hid (by rw [← HOUT1.out, if_pos (by show decide _ = false; simp [ha])])
          go_wp2_with fail
          go_ret
          rw [HE.out]
          exact ⟨rfl, ⟨_, _, _, _, _, _, _, _, _, HY.out.1, .inl hM, HY.out.2.1, fun h => by simp at h⟩, HY.out.2.2⟩
        · have hab : (p.n.toList == [65, 71, 69, 78, 84]) = true := by simp [ha]
          by_cases hz : p.v.size = 0
          rotate_left
          · have hs0 := str_some hz
            have HE : Hid (OUT = .bad k 5) := Lib.hid (by rw [← HOUT1.out, if_neg (by show ¬ decide _ = false; simp [ha]), if_pos (by show (!decide _) = true; simp [hz])])
            go_wp2_with fail
            go_ret
            rw [HE.out]
            exact ⟨rfl, r1, HY.out.2.2⟩
          · have hs0 := str_none hz
            by_cases h3 : os.length + 1 = 3
            · have hlb : ((os.length : Int) + 1 == 3) = true := by simp; omega
              have HE : Hid (OUT = .bad k 9) := Lib.hid (by rw [← HOUT1.out, if_neg (by show ¬ decide _ = false; simp [ha]), if_neg (by show ¬ (!decide _) = true; simp [hz]), if_pos (show (f :: os).length = 3 from h3)])
              go_wp2_with fail
              go_ret
              rw [HE.out]
              exact ⟨rfl, r1, HY.out.2.2⟩
            · have hlb : ((os.length : Int) + 1 == 3) = false := by simp; omega
              have HE : Hid (OUT = .go (.at_ 0 (Vm.addP (f :: os) (p, [])) c)) := Lib.hid (by rw [← HOUT1.out, if_neg (by show ¬ decide _ = false; simp [ha]), if_neg (by show ¬ (!decide _) = true; simp [hz]), if_neg (show ¬ (f :: os).length = 3 from h3)])
              go_wp2_with fail
              go_ret
              rw [HE.out]
              have hS5 : Stays (fun k => k ≠ rb) Y (Y.setCell ⟨rb, 0, none⟩ (.int .i64 0)) := stays_set (Stays.refl _ Y) (fun h => h rfl)
              exact ⟨rfl, ⟨_, _, _, _, _, _, _, _, _, HY.out.1.set0 0, .inl hM, HY.out.2.1.move (hS5.mono fun k hk => hk.2.1) (fun k h _ => h) (fun k h => .inl h), fun h => by simp at h⟩, HY.out.2.2.trans (hS5.mono fun k hk e => hk.2 (e ▸ hM))⟩
end Go.Proofs.YtpdodknldhbbhaaGreatDoor.Vc

namespace Go.Proofs.YtpdodknldhbbhaaGreatDoor.Vc
set_option maxRecDepth 100000
open Go.RowKit Pp Sq

set_option maxHeartbeats 800000 in
/-- The value goes on in the next line. -/
theorem value_on (rb base : Nat) (M : Nat → Prop) (k : Nat) (os : List Fr) (c : Crd) (q : Par) (on0 : Bool) (ov cv pv : Value) (w : World)
    (hR : RdC w rb 2 k ov cv q.g q.n pv q.v (.slice none 0 0) (wayV q.ps) on0) (hM : M rb) (hown : Pp.Own w base pv q.ps) (hpvM : ∀ g, pv.ownBlock = some g → M g ∧ g ≠ rb) (hO : OpAt w rb base M (fun k => pv.ownBlock = some k) os ov)
    (hv : q.v.size ≤ 1048576) (hqp : (wayV q.ps).toList = [81, 85, 79, 84, 69, 68, 45, 80, 82, 73, 78, 84, 65, 66, 76, 69]) (hmk : markB q.v = true) :
    Calls Tryz.prog 50 #[.pointer (some ⟨rb, 0, none⟩)] w (Took w rb base M (.go (.on k os c { q with v := cutM q.v }))) := by
  have hb9 : ((wayV q.ps).toList == [81, 85, 79, 84, 69, 68, 45, 80, 82, 73, 78, 84, 65, 66, 76, 69]) = true := by simp [hqp]
  have CM : Hid (Calls Tryz.prog 90 #[.string q.v, .string ⟨#[61]⟩] w fun e w' => e = .returned (.tuple #[.string (cutM q.v), .bool true]) ∧ w = w') := Lib.hid (by have h := cutMark_any q.v w (by omega); rw [hmk] at h; exact h)
  have c9 := hR.c9
  have c7 := hR.c7
  have c10 := hR.c10
  have f7 := hR.f 7
  have f10 := hR.f 10
  have hR2 := (hR.set7 (cutM q.v)).set10 true
  have k10 := hR2.c10
  have hS : Stays (fun k => k ≠ rb) w ((w.setCell ⟨rb, 7, none⟩ (.string (cutM q.v))).setCell ⟨rb, 10, none⟩ (.bool true)) := stays_set (stays_set (Stays.refl _ w) (fun h => h rfl)) (fun h => h rfl)
  have hown2 : Pp.Own ((w.setCell ⟨rb, 7, none⟩ (.string (cutM q.v))).setCell ⟨rb, 10, none⟩ (.bool true)) base pv q.ps := row_stays hown (fun g e => hS.block g (hpvM g e).2)
  have hO2 := hO.move (M' := fun k => M k ∨ w.heap.size ≤ k) (X' := fun k => pv.ownBlock = some k) (hS.mono fun k hk => hk.2.1) (fun k h _ => .inl h) (fun k h => .inl h)
  have HY := Lib.hid (And.intro hR2 (And.intro hown2 (And.intro hO2 hS)))
  clear hR hown hO hR2 hS hown2 hO2 hqp hmk hv
  go_enter Tryz.func50, Tryz.ntmps50
  go_wp2_with (go_at_call 90; refine CM.out.mono ?_; rintro e w' ⟨rfl, rfl⟩)
  go_ret
  obtain ⟨hR2, hown2, hO2, hS⟩ := HY.out
  exact ⟨rfl, ⟨_, _, _, hR2, .inl hM, hown2, fun g e => ⟨.inl (hpvM g e).1, (hpvM g e).2⟩, hO2⟩, hS.mono fun k hk e => hk.2 (e ▸ hM)⟩

set_option maxHeartbeats 1600000 in
theorem value_qp (rb base : Nat) (M : Nat → Prop) (k : Nat) (f : Fr) (os : List Fr) (c : Crd) (q : Par) (ov cv pv u10 : Value) (w0 w : World) (hw : (w0.setCell ⟨rb, 7, none⟩ (.string q.v)).setCell ⟨rb, 10, none⟩ (.bool false) = w) (e9 : w0.cell? ⟨rb, 9, none⟩ = some (.string (wayV q.ps))) (e7 : w0.cell? ⟨rb, 7, none⟩ = some (.string q.v)) (e10 : w0.cell? ⟨rb, 10, none⟩ = some u10) (g7 : w0.frozen? ⟨rb, 7, none⟩ = false) (g10 : w0.frozen? ⟨rb, 10, none⟩ = false)
    (hR : RdC w rb 2 k ov cv q.g q.n pv q.v (.slice none 0 0) (wayV q.ps) false) (hM : M rb) (hown : Pp.Own w base pv q.ps) (hpvM : ∀ g, pv.ownBlock = some g → M g ∧ g ≠ rb) (hO : OpAt w rb base M (fun k => pv.ownBlock = some k) (f :: os) ov)
    (hlen : os.length ≤ 2) (hf : f.length < 24) (hv : q.v.size ≤ 1048576) (hl : q.ps.length ≤ 100) (hps : ∀ x ∈ q.ps, x.2.size ≤ 1048576) (hbs : base ≤ w.heap.size) (T : Qu.Tabs w) (hd1 : (decW (wayV q.ps) q.v).1.size ≤ 1048576) (hqp : (wayV q.ps).toList = [81, 85, 79, 84, 69, 68, 45, 80, 82, 73, 78, 84, 65, 66, 76, 69]) (hmk : markB q.v = false) :
    Calls Tryz.prog 50 #[.pointer (some ⟨rb, 0, none⟩)] w0 (Took w rb base M (Vm.takeD (G := G) k (f :: os) c q)) := by
  have hshape := hown.ps.shape
  obtain ⟨pa, pc, rfl⟩ := hshape
  have bd : Below w.heap.size w w.drew := (Below.refl _ _).drew
  have CA := Lib.hid (fun W (hb : Below w.heap.size w W) => asMeant_any (wayV q.ps) q.g q.n (.slice pa q.ps.length pc) q.v q.ps base W (hown.below hb) hl hv hps (T.below hb) hd1)
  unfold prV at CA
  unfold Vm.takeD
  obtain ⟨⟨er, p⟩, hmean⟩ : ∃ x, meanW (wayV q.ps) q.g q.n q.ps q.v = x := ⟨_, rfl⟩
  have hmean' : G.mean q = (er, p) := hmean
  rw [hmean']
  rw [hmean] at CA
  simp only at CA ⊢
  unfold Meant prV at CA
  simp only at CA
  generalize hOut : (if er ≠ 0 then Vm.Out.bad k er else if G.agent p = false then Vm.Out.go (Vm.St.at_ 2 (Vm.addP (f :: os) (p, [])) c) else if G.hasV p = true then Vm.Out.bad k 5 else if (f :: os).length = 3 then Vm.Out.bad k 9 else Vm.Out.go (Vm.St.at_ 0 (Vm.addP (f :: os) (p, [])) c) : Vm.Out G) = OUT
  have HOUT := Lib.hid hOut
  clear hOut
  have hb9 : ((wayV q.ps).toList == [81, 85, 79, 84, 69, 68, 45, 80, 82, 73, 78, 84, 65, 66, 76, 69]) = true := by simp [hqp]
  have CM : Hid (Calls Tryz.prog 90 #[.string q.v, .string ⟨#[61]⟩] w0 fun e w' => e = .returned (.tuple #[.string q.v, .bool false]) ∧ w0 = w') := Lib.hid (by have h := cutMark_any q.v w0 (by omega); rw [hmk] at h; exact h)
  have k10 := hR.c10
  have c9 := hR.c9
  have c4 := hR.c4
  have c5 := hR.c5
  have c6 := hR.c6
  have c7 := hR.c7
  have c8 := hR.c8
  have hrb := hR.lt
  have hrbd : rb < w.drew.heap.size := hrb
  have ba : Below w.heap.size w (w.alloc (.cells #[.string ⟨#[]⟩, .string ⟨#[]⟩, .slice none 0 0, .string ⟨#[]⟩, .slice none 0 0] 53)) := (Below.refl _ _).alloc (Nat.le_refl _) _
  have bda : Below w.heap.size w (w.alloc (.cells #[.string ⟨#[]⟩, .string ⟨#[]⟩, .slice none 0 0, .string ⟨#[]⟩, .slice none 0 0] 53)).drew := ba.drew
  have hA := hR.kept (ba.block rb hrb)
  have sc : w.cell? ⟨rb, 4, none⟩ = some (.string q.g) ∧ w.cell? ⟨rb, 5, none⟩ = some (.string q.n) ∧ w.cell? ⟨rb, 6, none⟩ = some (.slice pa q.ps.length pc) ∧ w.cell? ⟨rb, 7, none⟩ = some (.string q.v) ∧ w.cell? ⟨rb, 8, none⟩ = some (.slice none 0 0) ∧ w.cell? ⟨rb, 9, none⟩ = some (.string (wayV q.ps)) := ⟨hR.c4, hR.c5, hR.c6, hR.c7, hR.c8, hR.c9⟩
  have scd : w.drew.cell? ⟨rb, 4, none⟩ = some (.string q.g) ∧ w.drew.cell? ⟨rb, 5, none⟩ = some (.string q.n) ∧ w.drew.cell? ⟨rb, 6, none⟩ = some (.slice pa q.ps.length pc) ∧ w.drew.cell? ⟨rb, 7, none⟩ = some (.string q.v) ∧ w.drew.cell? ⟨rb, 8, none⟩ = some (.slice none 0 0) ∧ w.drew.cell? ⟨rb, 9, none⟩ = some (.string (wayV q.ps)) := sc
  have sa : (w.alloc (.cells #[.string ⟨#[]⟩, .string ⟨#[]⟩, .slice none 0 0, .string ⟨#[]⟩, .slice none 0 0] 53)).cell? ⟨rb, 4, none⟩ = some (.string q.g) ∧ (w.alloc (.cells #[.string ⟨#[]⟩, .string ⟨#[]⟩, .slice none 0 0, .string ⟨#[]⟩, .slice none 0 0] 53)).cell? ⟨rb, 5, none⟩ = some (.string q.n) ∧ (w.alloc (.cells #[.string ⟨#[]⟩, .string ⟨#[]⟩, .slice none 0 0, .string ⟨#[]⟩, .slice none 0 0] 53)).cell? ⟨rb, 6, none⟩ = some (.slice pa q.ps.length pc) ∧ (w.alloc (.cells #[.string ⟨#[]⟩, .string ⟨#[]⟩, .slice none 0 0, .string ⟨#[]⟩, .slice none 0 0] 53)).cell? ⟨rb, 7, none⟩ = some (.string q.v) ∧ (w.alloc (.cells #[.string ⟨#[]⟩, .string ⟨#[]⟩, .slice none 0 0, .string ⟨#[]⟩, .slice none 0 0] 53)).cell? ⟨rb, 8, none⟩ = some (.slice none 0 0) ∧ (w.alloc (.cells #[.string ⟨#[]⟩, .string ⟨#[]⟩, .slice none 0 0, .string ⟨#[]⟩, .slice none 0 0] 53)).cell? ⟨rb, 9, none⟩ = some (.string (wayV q.ps)) := ⟨hA.c4, hA.c5, hA.c6, hA.c7, hA.c8, hA.c9⟩
  have sad : (w.alloc (.cells #[.string ⟨#[]⟩, .string ⟨#[]⟩, .slice none 0 0, .string ⟨#[]⟩, .slice none 0 0] 53)).drew.cell? ⟨rb, 4, none⟩ = some (.string q.g) ∧ (w.alloc (.cells #[.string ⟨#[]⟩, .string ⟨#[]⟩, .slice none 0 0, .string ⟨#[]⟩, .slice none 0 0] 53)).drew.cell? ⟨rb, 5, none⟩ = some (.string q.n) ∧ (w.alloc (.cells #[.string ⟨#[]⟩, .string ⟨#[]⟩, .slice none 0 0, .string ⟨#[]⟩, .slice none 0 0] 53)).drew.cell? ⟨rb, 6, none⟩ = some (.slice pa q.ps.length pc) ∧ (w.alloc (.cells #[.string ⟨#[]⟩, .string ⟨#[]⟩, .slice none 0 0, .string ⟨#[]⟩, .slice none 0 0] 53)).drew.cell? ⟨rb, 7, none⟩ = some (.string q.v) ∧ (w.alloc (.cells #[.string ⟨#[]⟩, .string ⟨#[]⟩, .slice none 0 0, .string ⟨#[]⟩, .slice none 0 0] 53)).drew.cell? ⟨rb, 8, none⟩ = some (.slice none 0 0) ∧ (w.alloc (.cells #[.string ⟨#[]⟩, .string ⟨#[]⟩, .slice none 0 0, .string ⟨#[]⟩, .slice none 0 0] 53)).drew.cell? ⟨rb, 9, none⟩ = some (.string (wayV q.ps)) := sa
  have hrba : rb < (w.alloc (.cells #[.string ⟨#[]⟩, .string ⟨#[]⟩, .slice none 0 0, .string ⟨#[]⟩, .slice none 0 0] 53)).drew.heap.size := hA.lt
  have hz0 : PrAt (w.alloc (.cells #[.string ⟨#[]⟩, .string ⟨#[]⟩, .slice none 0 0, .string ⟨#[]⟩, .slice none 0 0] 53)).drew w.heap.size ⟨#[]⟩ ⟨#[]⟩ (.slice none 0 0) ⟨#[]⟩ (.slice none 0 0) := heap_alloc_new w _
  have hzl : w.heap.size < (w.alloc (.cells #[.string ⟨#[]⟩, .string ⟨#[]⟩, .slice none 0 0, .string ⟨#[]⟩, .slice none 0 0] 53)).drew.heap.size := by show w.heap.size < (w.alloc (.cells #[.string ⟨#[]⟩, .string ⟨#[]⟩, .slice none 0 0, .string ⟨#[]⟩, .slice none 0 0] 53)).heap.size; rw [World.size_alloc]; omega
  have hzo : some w.heap.size ≠ (Value.slice pa q.ps.length pc).ownBlock := fun e => by have := (own_blk hown _ e.symm).2; omega
  have hrz : rb ≠ w.heap.size := by omega
  have hrbo : (Value.slice pa q.ps.length pc).ownBlock ≠ some rb := fun e => (hpvM rb e).2 rfl
  have HBS := Lib.hid hbs
  have HOB := Lib.hid (fun k e => (own_blk hown k e).2)
  have HR := Lib.hid hR
  have HO := Lib.hid hO
  have HW := Lib.hid hown
  have HT := Lib.hid T
  clear hbs hA hR hO hown T hd1 hps hv hl hqp hmk
  have f7 := g7
  have f10 := g10
  generalize wayV q.ps = en at *
  go_enter Tryz.func50, Tryz.ntmps50
  go_upto_region 5 with (go_at_call 90; refine CM.out.mono ?_; rintro e w' ⟨rfl, rfl⟩)
  clear k10 CM e9 e7 e10 g7 g10 f7 f10 hw
  go_cut [3, 4] from 6 to 73 (fun xv yv wc => MeantAt w wc (Value.slice pa q.ps.length pc).ownBlock p er xv yv)
  case first =>
    go_region_held3 (fun w' => w'.cell? ⟨rb, 4, none⟩ = some (.string q.g) ∧ w'.cell? ⟨rb, 5, none⟩ = some (.string q.n) ∧ w'.cell? ⟨rb, 6, none⟩ = some (.slice pa q.ps.length pc) ∧ w'.cell? ⟨rb, 7, none⟩ = some (.string q.v) ∧ w'.cell? ⟨rb, 8, none⟩ = some (.slice none 0 0) ∧ w'.cell? ⟨rb, 9, none⟩ = some (.string en)) (first | with_reducible exact scd | with_reducible exact sad | with_reducible exact sd | with_reducible exact six_al sd | with_reducible exact sc | with_reducible exact sa | exact six_set (six_set (six_set (six_set (six_set sd hrz) hrz) hrz) hrz) hrz | go_keep) ((go_at_call 91; refine (CA.out _ (by first | with_reducible exact bd | with_reducible exact bda)).mono ?_; rintro e w1 ⟨pv', rfl, hps1, hob, hg1⟩; obtain ⟨xa, xc, rfl⟩ := hps1.shape; first | (have sd := six_grown scd hg1 hrbd hrbo) | (have sd := six_grown sad hg1 hrba hrbo; have hbz := prat_grown hz0 hg1 hzl hzo; have z0 := hbz.c0; have y0 := hbz.f 0; have z1 := hbz.c1; have y1 := hbz.f 1; have z2 := hbz.c2; have y2 := hbz.f 2; have z3 := hbz.c3; have y3 := hbz.f 3; have z4 := hbz.c4; have y4 := hbz.f 4)))
    all_goals
      go_wp2_with fail
      go_meet
    case rel => exact relA hps1 hob hg1
    case rel => exact relB hps1 hob ba hg1 hbz (fun k e => HOB.out k e)
  case rest =>
    obtain ⟨Z, xa, xc, rfl, rfl, hZ, hps1, hob, hg1, hzZ⟩ := hcut
    generalize hVc : wc = V at *
    clear hVc
    have hrV : V.heap[rb]? = w.heap[rb]? := hg1.block rb hrb (fun e => hrbo e.symm)
    have R1 := HR.out.kept hrV
    have hSV : Stays (fun k => k < w.heap.size ∧ (Value.slice pa q.ps.length pc).ownBlock ≠ some k) w V := ⟨hg1.os, hg1.tape, hg1.output, hg1.size, fun k hk => hg1.block k hk.1 (fun e => hk.2 e.symm)⟩
    have O1 := HO.out.move (M' := fun k => M k ∨ w.heap.size ≤ k) (X' := fun k => (Value.slice pa q.ps.length pc).ownBlock = some k) (hSV.mono fun k hk => ⟨hk.2.2.2, hk.2.2.1⟩) (fun k h _ => .inl h) (fun k h => .inl h)
    have hFin : Fin M w V := hSV.mono fun k hk => ⟨hk.1, fun e => hk.2 (hpvM k e).1⟩
    have p0 := hZ.c0
    have p1 := hZ.c1
    have p2 := hZ.c2
    have p3 := hZ.c3
    have p4 := hZ.c4
    by_cases her : er = 0
    rotate_left
    · have heb : (er == 0) = false := by simpa using her
      have HE : Hid (OUT = .bad k er) := Lib.hid (by rw [← HOUT.out, if_pos her])
      have r1 := R1.c1
      clear HOUT
      go_wp2_with fail
      go_ret
      rw [HE.out]
      exact ⟨rfl, r1, hFin⟩
    · subst her
      have HOUT1 : Hid ((if G.agent p = false then Vm.Out.go (Vm.St.at_ 2 (Vm.addP (f :: os) (p, [])) c) else if G.hasV p = true then Vm.Out.bad k 5 else if (f :: os).length = 3 then Vm.Out.bad k 9 else Vm.Out.go (Vm.St.at_ 0 (Vm.addP (f :: os) (p, [])) c) : Vm.Out G) = OUT) := Lib.hid (by have h := HOUT.out; rw [if_neg (fun h => h rfl)] at h; exact h)
      obtain ⟨og, oc, fa, fc, rfl, t1, tf, hogV, hogr, hoc, hoc2⟩ := O1.top
      have CI := Lib.hid (inner_any rb og os.length oc V R1.c2 (by omega))
      have HF := Lib.hid (And.intro R1 (And.intro O1 (And.intro hSV (And.intro hFin (And.intro hZ (And.intro hps1 (And.intro hob hzZ)))))))
      clear HOUT R1 O1 hSV hFin hZ hps1 hob hzZ hrV p0 p1 p2 p3 p4 hg1 hoc2
      go_wp2_with fail
      refine CI.out.mono ?_
      rintro e w2 ⟨rfl, qq, rfl⟩
      obtain ⟨U, hUe⟩ : ∃ U, V.drewN qq = U := ⟨_, rfl⟩
      have hSU : Stays (fun _ => True) V U := by rw [← hUe]; exact drew_all V qq
      have hfU : ∀ a, U.frozen? a = V.frozen? a := fun a => by rw [← hUe]; rfl
      rw [hUe]
      obtain ⟨R1, O1, hSV, hFin, hZ, hps1, hob, hzZ⟩ := HF.out
      have R2 := R1.kept (hSU.block rb trivial)
      have O2 := O1.move (M' := fun k => M k ∨ w.heap.size ≤ k) (X' := fun k => (Value.slice pa q.ps.length pc).ownBlock = some k) (hSU.mono fun _ _ => trivial) (fun k h _ => h) (fun k h => .inl h)
      have hZ2 : PrAt U Z p.g p.n (.slice xa p.ps.length xc) p.v (.slice none 0 0) := (hSU.block Z trivial).trans hZ
      have hsU : U.heap.size = V.heap.size := by rw [← hUe]; rfl
      have hps2 : Ps U U.heap.size (.slice xa p.ps.length xc) p.ps := by rw [← hUe]; exact hps1
      have t2 : U.cell? ⟨og, os.length, none⟩ = some (.slice fa f.length fc) := (World.cell?_of_block (a := ⟨og, os.length, none⟩) (hSU.block og trivial)).trans t1
      have tf2 : U.frozen? ⟨og, os.length, none⟩ = false := (hfU _).trans tf
      have hogU : og < U.heap.size := by omega
      have p0 := hZ2.c0
      have p1 := hZ2.c1
      have p2 := hZ2.c2
      have p3 := hZ2.c3
      have p4 := hZ2.c4
      have HF2 := Lib.hid (And.intro R2 (And.intro O2 (And.intro hSU (And.intro hZ2 hps2))))
      have HSU := Lib.hid hSU
      have HZU := Lib.hid (fun (h : PrAt V Z p.g p.n (.slice xa p.ps.length xc) p.v (.slice none 0 0)) => show PrAt U Z p.g p.n (.slice xa p.ps.length xc) p.v (.slice none 0 0) from (hSU.block Z trivial).trans h)
      have hsU' : V.heap.size ≤ U.heap.size := hSU.size
      have t1' := t1
      clear R1 O1 hSV hFin hZ hps1 hob hzZ R2 O2 hSU hZ2 hps2 t1 tf hfU hUe
      obtain ⟨R2, O2, hSU, hZ2, hps2⟩ := HF2.out
      obtain ⟨R1, O1, hSV, hFin, hZ, hps1, hob, hzZ⟩ := HF.out
      have hUw : w.heap.size ≤ U.heap.size := Nat.le_trans hSV.size hSU.size
      obtain ⟨v', W3, hrun, hO3, hS3, ⟨va, vc, rfl⟩, hMog, _, _, hvog, hvrb, hvM, hf3⟩ := O2.grow (X := fun k => (Value.slice pa q.ps.length pc).ownBlock = some k) t2 hf hps2 rfl hob (Nat.lt_of_lt_of_le hrb hUw) (fun k hk => ⟨.inl (hpvM k hk).1, (hpvM k hk).2, by have := HOB.out k hk; omega⟩) (Nat.le_trans HBS.out hUw)
      have hrW : RdC W3 rb 2 k (.slice (some ⟨og, 0, none⟩) (os.length + 1) oc) cv q.g q.n (.slice pa q.ps.length pc) q.v (.slice none 0 0) en false := R2.kept (hS3.block rb ⟨Nat.lt_of_lt_of_le hrb hUw, hvrb⟩)
      have hog3 : W3.cell? ⟨og, os.length, none⟩ = some (.slice fa f.length fc) := (World.cell?_of_block (a := ⟨og, os.length, none⟩) (hS3.block og ⟨hogU, hvog⟩)).trans t2
      have HF3 := Lib.hid (And.intro hrW (And.intro hO3 (And.intro hS3 (And.intro hMog (And.intro hvM hUw)))))
      clear R1 O1 hSV hFin hZ hps1 hob hzZ R2 O2 hSU hZ2 hps2 hrW hO3 hS3 hMog hvM hvog hvrb HF2 hsU
      go_upto_region 9 with fail
      go_cut [5] from 6 to 73 (fun xv wc => xv = .pointer (some ⟨og, os.length, none⟩) ∧ wc = W3.setCell ⟨og, os.length, none⟩ (.slice va (f.length + 1) vc))
      case first =>
        go_region_law (refine step_run rfl _ _ _ rfl _ _ _ rfl rfl hrun ?_)
        all_goals
          go_wp2_with fail
          go_meet
        all_goals exact ⟨rfl, rfl⟩
      case rest =>
        obtain ⟨rfl, rfl⟩ := hcut
        clear hrun
        obtain ⟨hrW, hO3, hS3, hMog, hvM, hUw⟩ := HF3.out
        obtain ⟨R1, O1, hSV, hFin, hZ, hps1, hob, hzZ⟩ := HF.out
        have hogw : og < w.heap.size := HO.out.low
        have hownog : (Value.slice pa q.ps.length pc).ownBlock ≠ some og := fun e => HO.out.notX e
        have hvw : ∀ g, (Value.slice fa f.length fc).ownBlock = some g → g < w.heap.size := HO.out.top_lt ((World.cell?_of_block (a := ⟨og, os.length, none⟩) (hSV.block og ⟨hogw, hownog⟩)).symm.trans t1')
        have hvZ : (Value.slice fa f.length fc).ownBlock ≠ some Z := fun e => by have := hvw Z e; omega
        have hZU : Z < U.heap.size := Nat.lt_of_lt_of_le hZ.lt hsU'
        have hZ3 : PrAt W3 Z p.g p.n (.slice xa p.ps.length xc) p.v (.slice none 0 0) := (hS3.block Z ⟨hZU, hvZ⟩).trans (HZU.out hZ)
        have hZ4 := hZ3.other (a := ⟨og, os.length, none⟩) (by show Z ≠ og; omega) (.slice va (f.length + 1) vc)
        have hR4 : RdC (W3.setCell ⟨og, os.length, none⟩ (.slice va (f.length + 1) vc)) rb 2 k (.slice (some ⟨og, 0, none⟩) (os.length + 1) oc) cv q.g q.n (.slice pa q.ps.length pc) q.v (.slice none 0 0) en false := hrW.kept (Below.heap_setCell W3 ⟨og, os.length, none⟩ _ rb (fun e => hogr e.symm))
        have hO4 := hO3.move (M' := fun k => M k ∨ w.heap.size ≤ k) (X' := fun _ => False) (Stays.refl _ _) (fun k h _ => h.elim id (fun h => .inr (Nat.le_trans hUw h))) (fun k h => .inl h)
        have hF4 : Fin M w (W3.setCell ⟨og, os.length, none⟩ (.slice va (f.length + 1) vc)) :=
          ((hFin.trans (HSU.out.mono fun _ _ => trivial)).trans (hS3.mono fun k hk => ⟨Nat.lt_of_lt_of_le hk.1 hUw, fun e => (hvM k e).elim hk.2 (fun h => by have := hk.1; omega)⟩)).trans (stays_set (Stays.refl _ W3) (fun h => hMog.elim h.2 (fun h => by omega)))
        have m1 := hZ4.c1
        have m3 := hZ4.c3
        have r0 := hR4.c0
        have r1 := hR4.c1
        have r2 := hR4.c2
        have rf := hR4.f 0
        have HY := Lib.hid (And.intro hR4 (And.intro hO4 hF4))
        obtain ⟨Y, hY⟩ : ∃ Y, W3.setCell ⟨og, os.length, none⟩ (.slice va (f.length + 1) vc) = Y := ⟨_, rfl⟩
        rw [hY] at m1 m3 r0 r1 r2 rf HY ⊢
        clear hrW hO3 hS3 hMog hvM hUw R1 O1 hSV hFin hZ hps1 hob hzZ hogw hownog hvw hvZ hZU hZ3 hZ4 hR4 hO4 hF4 hY HF HF3 HSU HZU t1' hsU' t2 tf2 hf3 hog3 hogU p0 p1 p2 p3 p4
        by_cases ha : p.n.toList = [65, 71, 69, 78, 84]
        rotate_left
        · have hab : (p.n.toList == [65, 71, 69, 78, 84]) = false := by simpa using ha
          have HE : Hid (OUT = .go (.at_ 2 (Vm.addP (f :: os) (p, [])) c)) := Lib.hid (by rw [← HOUT1.out, if_pos (by show decide _ = false; simp [ha])])
          go_wp2_with fail
          go_ret
          rw [HE.out]
          exact ⟨rfl, ⟨_, _, _, _, _, _, _, _, _, HY.out.1, .inl hM, HY.out.2.1, fun h => by simp at h⟩, HY.out.2.2⟩
        · have hab : (p.n.toList == [65, 71, 69, 78, 84]) = true := by simp [ha]
          by_cases hz : p.v.size = 0
          rotate_left
          · have hs0 := str_some hz
            have HE : Hid (OUT = .bad k 5) := Lib.hid (by rw [← HOUT1.out, if_neg (by show ¬ decide _ = false; simp [ha]), if_pos (by show (!decide _) = true; simp [hz])])
            go_wp2_with fail
            go_ret
            rw [HE.out]
            exact ⟨rfl, r1, HY.out.2.2⟩
          · have hs0 := str_none hz
            by_cases h3 : os.length + 1 = 3
            · have hlb : ((os.length : Int) + 1 == 3) = true := by simp; omega
              have HE : Hid (OUT = .bad k 9) := Lib.hid (by rw [← HOUT1.out, if_neg (by show ¬ decide _ = false; simp [ha]), if_neg (by show ¬ (!decide _) = true; simp [hz]), if_pos (show (f :: os).length = 3 from h3)])
              go_wp2_with fail
              go_ret
              rw [HE.out]
              exact ⟨rfl, r1, HY.out.2.2⟩
            · have hlb : ((os.length : Int) + 1 == 3) = false := by simp; omega
              have HE : Hid (OUT = .go (.at_ 0 (Vm.addP (f :: os) (p, [])) c)) := Lib.hid (by rw [← HOUT1.out, if_neg (by show ¬ decide _ = false; simp [ha]), if_neg (by show ¬ (!decide _) = true; simp [hz]), if_neg (show ¬ (f :: os).length = 3 from h3)])
              go_wp2_with fail
              go_ret
              rw [HE.out]
              have hS5 : Stays (fun k => k ≠ rb) Y (Y.setCell ⟨rb, 0, none⟩ (.int .i64 0)) := stays_set (Stays.refl _ Y) (fun h => h rfl)
              exact ⟨rfl, ⟨_, _, _, _, _, _, _, _, _, HY.out.1.set0 0, .inl hM, HY.out.2.1.move (hS5.mono fun k hk => hk.2.1) (fun k h _ => h) (fun k h => .inl h), fun h => by simp at h⟩, HY.out.2.2.trans (hS5.mono fun k hk e => hk.2 (e ▸ hM))⟩

/-- Whatever the value. -/
theorem takeValue_any (rb base : Nat) (M : Nat → Prop) (k : Nat) (f : Fr) (os : List Fr) (c : Crd) (q : Par) (on0 : Bool) (ov cv pv : Value) (w : World)
    (hR : RdC w rb 2 k ov cv q.g q.n pv q.v (.slice none 0 0) (wayV q.ps) on0) (hon : on0 = true → (wayV q.ps).toList = [81, 85, 79, 84, 69, 68, 45, 80, 82, 73, 78, 84, 65, 66, 76, 69]) (hM : M rb) (hown : Pp.Own w base pv q.ps) (hpvM : ∀ g, pv.ownBlock = some g → M g ∧ g ≠ rb) (hO : OpAt w rb base M (fun k => pv.ownBlock = some k) (f :: os) ov)
    (hlen : os.length ≤ 2) (hf : f.length < 24) (hv : q.v.size ≤ 1048576) (hl : q.ps.length ≤ 100) (hps : ∀ x ∈ q.ps, x.2.size ≤ 1048576) (hbs : base ≤ w.heap.size) (T : Qu.Tabs w) (hTr : Qu.Tabs ((w.setCell ⟨rb, 7, none⟩ (.string q.v)).setCell ⟨rb, 10, none⟩ (.bool false))) (hd1 : (decW (wayV q.ps) q.v).1.size ≤ 1048576) :
    Calls Tryz.prog 50 #[.pointer (some ⟨rb, 0, none⟩)] w (Took w rb base M (Vm.takeV (G := G) k (f :: os) c q)) := by
  unfold Vm.takeV
  by_cases hqp : (wayV q.ps).toList = [81, 85, 79, 84, 69, 68, 45, 80, 82, 73, 78, 84, 65, 66, 76, 69]
  · cases hmk : markB q.v
    · have e : G.on q = none := by show (if _ ∧ _ then _ else _) = _; rw [if_neg (by rw [hmk]; simp)]
      rw [e]
      have hS : Stays (fun k => k ≠ rb) w ((w.setCell ⟨rb, 7, none⟩ (.string q.v)).setCell ⟨rb, 10, none⟩ (.bool false)) := stays_set (stays_set (Stays.refl _ w) (fun h => h rfl)) (fun h => h rfl)
      have hz : ((w.setCell ⟨rb, 7, none⟩ (.string q.v)).setCell ⟨rb, 10, none⟩ (.bool false)).heap.size = w.heap.size := by rw [World.size_setCell, World.size_setCell]
      have h := value_qp rb base M k f os c q ov cv pv _ w _ rfl hR.c9 hR.c7 hR.c10 (hR.f 7) (hR.f 10) ((hR.set7 q.v).set10 false) hM (row_stays hown (fun g e => hS.block g (hpvM g e).2)) hpvM (hO.move (hS.mono fun k hk => hk.2.1) (fun k h _ => h) (fun k h => .inl h)) hlen hf hv hl hps (by rw [hz]; exact hbs) hTr hd1 hqp hmk
      refine h.mono fun e w' ht => ?_
      have hF : Fin M w ((w.setCell ⟨rb, 7, none⟩ (.string q.v)).setCell ⟨rb, 10, none⟩ (.bool false)) := hS.mono fun k hk e => hk.2 (e ▸ hM)
      unfold Took at ht ⊢
      rw [hz] at ht
      cases hO2 : Vm.takeD (G := G) k (f :: os) c q with
      | go s => rw [hO2] at ht; exact ⟨ht.1, ht.2.1, hF.trans (ht.2.2.mono fun k hk => ⟨by rw [hz]; exact hk.1, hk.2⟩)⟩
      | bad k' er => rw [hO2] at ht; exact ⟨ht.1, ht.2.1, hF.trans (ht.2.2.mono fun k hk => ⟨by rw [hz]; exact hk.1, hk.2⟩)⟩
    · have e : G.on q = some { q with v := cutM q.v } := by show (if _ ∧ _ then _ else _) = _; rw [if_pos ⟨hqp, hmk⟩]
      rw [e]
      exact value_on rb base M k (f :: os) c q on0 ov cv pv w hR hM hown hpvM hO hv hqp hmk
  · have e : G.on q = none := by show (if _ ∧ _ then _ else _) = _; rw [if_neg (fun h => hqp h.1)]
    rw [e]
    have h0 : on0 = false := by cases on0; rfl; exact absurd (hon rfl) hqp
    subst h0
    exact value_tail rb base M k f os c q ov cv pv w hR hM hown hpvM hO hlen hf hv hl hps hbs T hd1 hqp
end Go.Proofs.YtpdodknldhbbhaaGreatDoor.Vc

namespace Go.Proofs.YtpdodknldhbbhaaGreatDoor.Vc
set_option maxRecDepth 100000
open Go.RowKit Pp Sq

theorem qdec_len : ∀ (n : Nat) (l : List UInt8), l.length ≤ n → (Qu.dec l).1.length ≤ l.length := by
  intro n
  induction n with
  | zero => intro l h; have : l = [] := List.eq_nil_of_length_eq_zero (by omega); subst this; simp [Qu.dec]
  | succ n ih =>
    have hp : ∀ (b : List UInt8) (p : List UInt8 × Nat) (m : Nat), b.length + p.1.length ≤ m → (Qu.pre b p).1.length ≤ m := fun b p m h => by
      unfold Qu.pre; split
      · simp; omega
      · simp
    intro l h
    match l with
    | [] => simp [Qu.dec]
    | [c] => unfold Qu.dec; split; simp; split <;> simp
    | [c, x] =>
      unfold Qu.dec
      split
      · exact hp _ _ _ (by have := ih [x] (by simp at h ⊢; omega); simp at this ⊢; omega)
      · split <;> simp
    | c :: x :: y :: r =>
      unfold Qu.dec
      split
      · exact hp _ _ _ (by have := ih (x :: y :: r) (by simp at h ⊢; omega); simp at this ⊢; omega)
      · split
        · split
          · exact hp _ _ _ (by have := ih r (by simp at h; omega); have := Qu.behind_length (x :: y :: r); simp at *; omega)
          · simp
        · simp
theorem cut4_len : ∀ (n : Nat) (l : List UInt8), l.length ≤ n → (((Sx.cut 4 l).map Sx.good).flatten).length ≤ l.length := by
  intro n
  induction n with
  | zero => intro l h; have : l = [] := List.eq_nil_of_length_eq_zero (by omega); subst this; rw [Sx.cut_nil]; simp
  | succ n ih =>
    intro l h
    by_cases h0 : 0 < l.length
    · rw [Sx.cut_step (by decide) h0, List.map_cons, List.flatten_cons, List.length_append]
      have h1 := ih (l.drop 4) (by rw [List.length_drop]; omega)
      have h2 : (Sx.good (l.take 4)).length ≤ (l.take 4).length := by
        unfold Sx.good
        rw [List.length_take]
        have : (Sx.said (l.take 4)).length ≤ (l.take 4).length := by
          unfold Sx.said Lib.trimRightS
          rw [List.length_reverse]
          have h3 := congrArg List.length (List.takeWhile_append_dropWhile (p := fun c => List.contains [61, 61] c) (l := (l.take 4).reverse))
          rw [List.length_append, List.length_reverse] at h3
          omega
        omega
      rw [List.length_drop] at h1
      rw [List.length_take] at h2
      omega
    · have : l = [] := List.eq_nil_of_length_eq_zero (by omega)
      subst this; rw [Sx.cut_nil]; simp
theorem mk_size (l : List UInt8) : (⟨l.toArray⟩ : ByteArray).size = l.length := by simp [ByteArray.size]
theorem decW_size (m v : ByteArray) : (decW m v).1.size ≤ v.size := by
  have hl : v.data.toList.length = v.size := by rw [Array.length_toList]; rfl
  unfold decW
  split
  · show (⟨_⟩ : ByteArray).size ≤ _; rw [mk_size, ← hl]; exact qdec_len _ _ (Nat.le_refl _)
  · split
    · show (⟨_⟩ : ByteArray).size ≤ _
      rw [mk_size, ← hl]
      unfold Sx.dec
      split
      · split
        · simp
        · exact Nat.le_trans (cut4_len _ _ (Nat.le_refl _)) (Sx.strip_length _)
      · simp
    · split
      · exact Nat.le_refl _
      · exact Nat.zero_le _

/-- A property that was read has few parameters, and they are short. -/
theorem parse_few {s : ByteArray} (he : (parse s).err = 0) : (parse s).ps.length ≤ 6 ∧ (parse s).v.size ≤ 2400 ∧ ∀ x ∈ (parse s).ps, x.2.size ≤ 1048576 := by
  obtain ⟨_, h2, h3, _, h5, _⟩ := chk_ok (parse_ok he)
  refine ⟨h2, h5, fun x hx => ?_⟩
  have h := List.all_eq_true.1 h3 x hx
  have := valB_le (param_parts h).2
  omega

theorem RdAt.mono {w : World} {rb base : Nat} {M M' : Nat → Prop} (hM : ∀ k, M k → M' k) : ∀ {s : Vm.St G}, RdAt w rb base M s → RdAt w rb base M' s
  | .at_ _ _ _, ⟨nu, ov, cv, g, n, pv, v, av, en, h1, h2, h3, h4⟩ => ⟨nu, ov, cv, g, n, pv, v, av, en, h1, hM _ h2, h3.move (Stays.refl _ _) (fun k h _ => hM k h) (fun _ h => .inl h), fun e => (h4 e).move (Stays.refl _ _) (fun k h _ => ⟨hM k h.1, h.2⟩)⟩
  | .on _ _ _ _, ⟨ov, cv, pv, h1, h2, h3, h4, h5⟩ => ⟨ov, cv, pv, h1, hM _ h2, h3, fun g e => ⟨hM _ (h4 g e).1, (h4 g e).2⟩, h5.move (Stays.refl _ _) (fun k h _ => hM k h) (fun _ h => .inl h)⟩
theorem took_from {w wc w' : World} {rb base : Nat} {M : Nat → Prop} {O : Vm.Out G} {e : Ending} (hF : Fin M w wc) (h : Took wc rb base (fun k => M k ∨ w.heap.size ≤ k) O e w') : Took w rb base M O e w' := by
  have hz := hF.size
  have hF2 : Fin (fun k => M k ∨ w.heap.size ≤ k) wc w' → Fin M w w' := fun h => Stays.trans hF (h.mono fun k hk => ⟨Nat.lt_of_lt_of_le hk.1 hz, fun e => e.elim hk.2 (fun e => by have := hk.1; omega)⟩)
  cases O with
  | go s => exact ⟨h.1, h.2.1.mono (fun k hk => hk.elim id (fun e => .inr (Nat.le_trans hz e))), hF2 h.2.2⟩
  | bad k er => exact ⟨h.1, h.2.1, hF2 h.2.2⟩

theorem five_below {w w' : World} {z : Nat} {v0 v1 v2 v3 v4 : Value} (h : w.drew.cell? ⟨z, 0, none⟩ = some v0 ∧ w.drew.cell? ⟨z, 1, none⟩ = some v1 ∧ w.drew.cell? ⟨z, 2, none⟩ = some v2 ∧ w.drew.cell? ⟨z, 3, none⟩ = some v3 ∧ w.drew.cell? ⟨z, 4, none⟩ = some v4) (hb : Below w.drew.heap.size w.drew w') (hz : z < w.heap.size) :
    w'.cell? ⟨z, 0, none⟩ = some v0 ∧ w'.cell? ⟨z, 1, none⟩ = some v1 ∧ w'.cell? ⟨z, 2, none⟩ = some v2 ∧ w'.cell? ⟨z, 3, none⟩ = some v3 ∧ w'.cell? ⟨z, 4, none⟩ = some v4 :=
  ⟨(hb.cell (p := ⟨z, 0, none⟩) hz).trans h.1, (hb.cell (p := ⟨z, 1, none⟩) hz).trans h.2.1, (hb.cell (p := ⟨z, 2, none⟩) hz).trans h.2.2.1, (hb.cell (p := ⟨z, 3, none⟩) hz).trans h.2.2.2.1, (hb.cell (p := ⟨z, 4, none⟩) hz).trans h.2.2.2.2⟩
theorem five_set {w : World} {z r o : Nat} {u v0 v1 v2 v3 v4 : Value} (h : w.cell? ⟨z, 0, none⟩ = some v0 ∧ w.cell? ⟨z, 1, none⟩ = some v1 ∧ w.cell? ⟨z, 2, none⟩ = some v2 ∧ w.cell? ⟨z, 3, none⟩ = some v3 ∧ w.cell? ⟨z, 4, none⟩ = some v4) (hb : z ≠ r) :
    (w.setCell ⟨r, o, none⟩ u).cell? ⟨z, 0, none⟩ = some v0 ∧ (w.setCell ⟨r, o, none⟩ u).cell? ⟨z, 1, none⟩ = some v1 ∧ (w.setCell ⟨r, o, none⟩ u).cell? ⟨z, 2, none⟩ = some v2 ∧ (w.setCell ⟨r, o, none⟩ u).cell? ⟨z, 3, none⟩ = some v3 ∧ (w.setCell ⟨r, o, none⟩ u).cell? ⟨z, 4, none⟩ = some v4 := by
  have E : ∀ i, (w.setCell ⟨r, o, none⟩ u).cell? ⟨z, i, none⟩ = w.cell? ⟨z, i, none⟩ := fun i => World.cell?_of_block (a := ⟨z, i, none⟩) (Below.heap_setCell w ⟨r, o, none⟩ u z hb)
  exact ⟨(E 0).trans h.1, (E 1).trans h.2.1, (E 2).trans h.2.2.1, (E 3).trans h.2.2.2.1, (E 4).trans h.2.2.2.2⟩
/-- What lies there behind a property has been laid into the reader. -/
def SetAt (U wc : World) (rb k : Nat) (ov cv : Value) (q : Par) (pv : Value) : Prop :=
  RdC wc rb 2 k ov cv q.g q.n pv q.v (.slice none 0 0) (wayV q.ps) false ∧ Stays (fun k => k < U.heap.size ∧ k ≠ rb) U wc
theorem setAt_of {U w5 : World} {rb k : Nat} {ov cv : Value} {q : Par} {pv pv0 av0 : Value} {g0 n0 v0 en0 : ByteArray} (h : RdC U rb 2 k ov cv g0 n0 pv0 v0 av0 en0 false) (hb : Below U.drew.heap.size U.drew w5) :
    SetAt U ((((((w5.setCell ⟨rb, 4, none⟩ (.string q.g)).setCell ⟨rb, 5, none⟩ (.string q.n)).setCell ⟨rb, 6, none⟩ pv).setCell ⟨rb, 7, none⟩ (.string q.v)).setCell ⟨rb, 8, none⟩ (.slice none 0 0)).setCell ⟨rb, 9, none⟩ (.string (wayV q.ps))) rb k ov cv q pv :=
  ⟨((((((h.kept (hb.block rb h.lt)).set4 _).set5 _).set6 _).set7 _).set8 _).set9 _,
    Stays.trans ⟨hb.os, hb.tape, hb.output, hb.size, fun k hk => hb.block k hk.1⟩ (stays_set (stays_set (stays_set (stays_set (stays_set (stays_set (Stays.refl _ w5) (fun h => h.2 rfl)) (fun h => h.2 rfl)) (fun h => h.2 rfl)) (fun h => h.2 rfl)) (fun h => h.2 rfl)) (fun h => h.2 rfl))⟩
set_option maxHeartbeats 1600000 in
/-- A property's line. -/
theorem takeProp_any (rb base : Nat) (M : Nat → Prop) (k : Nat) (f : Fr) (os : List Fr) (c : Crd) (s : ByteArray) (ov cv pv0 av0 : Value) (g0 n0 v0 en0 : ByteArray) (w : World)
    (hR : RdC w rb 2 k ov cv g0 n0 pv0 v0 av0 en0 false) (hM : M rb) (hO : OpAt w rb base M (fun _ => False) (f :: os) ov)
    (hlen : os.length ≤ 2) (hf : f.length ≤ 24) (hs : s.size ≤ 10000) (hbs : base ≤ w.heap.size) (HTab : ∀ W, Fin M w W → Qu.Tabs W) :
    Calls Tryz.prog 54 #[.pointer (some ⟨rb, 0, none⟩), .string s] w (Took w rb base M (Vm.takeP (G := G) k (f :: os) c s)) := by
  obtain ⟨og, oc, a, cp, rfl, htop, _, hog, hogr, hoc, hoc2⟩ := hO.top
  have CI := Lib.hid (inner_any rb og os.length oc w hR.c2 (by omega))
  have CP := Lib.hid (fun W => pParse_any s W hs)
  rw [prs_eq] at CP
  have hrb := hR.lt
  have HR := Lib.hid hR
  have HO := Lib.hid hO
  have HBS := Lib.hid hbs
  have HT := Lib.hid HTab
  have HP6 := Lib.hid (parse_few (s := s))
  have hrd : G.rd s = ((parse s).err, parse s) := rfl
  obtain ⟨OUT, hOut⟩ : ∃ O, Vm.takeP (G := G) k (f :: os) c s = O := ⟨_, rfl⟩
  rw [hOut]
  unfold Vm.takeP at hOut
  rw [hrd] at hOut
  generalize parse s = q at CP hOut HP6
  have HOUT : Hid ((if f.length = 24 then Vm.Out.bad k 4 else if q.err ≠ 0 then Vm.Out.bad k q.err else Vm.takeV (G := G) k (f :: os) c q) = OUT) := Lib.hid hOut
  have r1 := hR.c1
  have hfz : (f.length : Int) ≤ 24 := by omega
  clear hOut hrd hR hO hbs HTab hs hoc2
  by_cases h24 : f.length = 24
  · have hb : ((f.length : Int) == 24) = true := by simp; omega
    have HE : Hid (OUT = .bad k 4) := Lib.hid (by rw [← HOUT.out, if_pos h24])
    clear HOUT
    go_enter Tryz.func54, Tryz.ntmps54
    go_wp2_with fail
    refine CI.out.mono ?_
    rintro e w1 ⟨rfl, qq, rfl⟩
    have t1 : (w.drewN qq).cell? ⟨og, os.length, none⟩ = some (.slice a f.length cp) := htop
    have hF : Fin M w (w.drewN qq) := (drew_all w qq).mono fun _ _ => trivial
    have s1 : (w.drewN qq).cell? ⟨rb, 1, none⟩ = some (.int .i64 (k : Int)) := r1
    generalize w.drewN qq = W at t1 hF s1 ⊢
    go_wp2_with fail
    go_ret
    rw [HE.out]
    exact ⟨rfl, s1, hF⟩
  · have hb : ((f.length : Int) == 24) = false := by simp; omega
    have HOUT1 : Hid ((if q.err ≠ 0 then Vm.Out.bad k q.err else Vm.takeV (G := G) k (f :: os) c q) = OUT) := Lib.hid (by have h := HOUT.out; rw [if_neg h24] at h; exact h)
    have hf24 : f.length < 24 := by omega
    clear HOUT h24
    go_enter Tryz.func54, Tryz.ntmps54
    go_wp2_with fail
    refine CI.out.mono ?_
    rintro e w1 ⟨rfl, qq, rfl⟩
    have t1 : (w.drewN qq).cell? ⟨og, os.length, none⟩ = some (.slice a f.length cp) := htop
    obtain ⟨W, hWe⟩ : ∃ W, w.drewN qq = W := ⟨_, rfl⟩
    have hSW : Stays (fun _ => True) w W := by rw [← hWe]; exact drew_all w qq
    have hzW : W.heap.size = w.heap.size := by rw [← hWe]; rfl
    rw [hWe] at t1 ⊢
    clear hWe htop
    go_wp2_with fail
    refine (CP.out _).mono ?_
    rintro e w2 ⟨pv, rfl, hown, b2⟩
    obtain ⟨pa, pc, rfl⟩ := shapeP hown
    unfold prV
    have R2 := (HR.out.kept (hSW.block rb trivial)).kept (b2.block rb (by rw [hzW]; exact hrb))
    have hS2 : Stays (fun k => k < w.heap.size) w w2 := (hSW.mono fun _ _ => trivial).trans ⟨b2.os, b2.tape, b2.output, b2.size, fun k hk => b2.block k (by rw [hzW]; exact hk)⟩
    have hF2 : Fin M w w2 := hS2.mono fun k hk => hk.1
    have r1' := R2.c1
    have hz2 : w.heap.size ≤ w2.heap.size := hS2.size
    by_cases her : q.err = 0
    rotate_left
    · have heb : (q.err == 0) = false := by simpa using her
      have HE : Hid (OUT = .bad k q.err) := Lib.hid (by rw [← HOUT1.out, if_pos her])
      have hl1 := cell_al (o := .cells #[.string q.g, .string q.n, .slice pa q.ps.length pc, .string q.v, .slice none 0 0] 53) r1'
      have hF3 : Fin M w (w2.alloc (.cells #[.string q.g, .string q.n, .slice pa q.ps.length pc, .string q.v, .slice none 0 0] 53)) := Stays.alloc hF2 _ (fun k hk => Nat.lt_of_lt_of_le hk.1 hz2)
      clear HOUT1
      go_wp2_with fail
      go_ret
      rw [HE.out]
      exact ⟨rfl, hl1, hF3⟩
    · have heb : (q.err == 0) = true := by simp [her]
      have HE : Hid (Vm.takeV (G := G) k (f :: os) c q = OUT) := Lib.hid (by rw [← HOUT1.out, if_neg (fun h => h her)])
      have hq6 := HP6.out her
      obtain ⟨U, hU⟩ : ∃ U, w2.alloc (.cells #[.string q.g, .string q.n, .slice pa q.ps.length pc, .string q.v, .slice none 0 0] 53) = U := ⟨_, rfl⟩
      have bU : Below w2.heap.size w2 U := by rw [← hU]; exact (Below.refl _ _).alloc (Nat.le_refl _) _
      have hzU : U.heap.size = w2.heap.size + 1 := by rw [← hU, World.size_alloc]
      have hZ : PrAt U w2.heap.size q.g q.n (.slice pa q.ps.length pc) q.v (.slice none 0 0) := by rw [← hU]; exact heap_alloc_new w2 _
      have R3 := R2.kept (bU.block rb (by omega))
      have hSU : Stays (fun k => k < w.heap.size) w U := hS2.trans ⟨bU.os, bU.tape, bU.output, bU.size, fun k hk => bU.block k (Nat.lt_of_lt_of_le hk hz2)⟩
      have hownU : Pp.Own U W.heap.size (.slice pa q.ps.length pc) q.ps := hown.below bU
      have hownlt := own_blk hown
      have CE := Lib.hid (fun V (b : Below U.heap.size U V) => encodingOf_any q.g q.n (.slice pa q.ps.length pc) q.v (.slice none 0 0) q.ps V ((hownU.ps.below b).up b.size) (by omega) (fun x hx => by have := hq6.2.2 x hx; omega))
      unfold prV at CE
      have HF := Lib.hid (And.intro R3 (And.intro hSU (And.intro hownU (And.intro hownlt (And.intro hq6 hF2)))))
      have z0 := hZ.c0
      have z1 := hZ.c1
      have z2 := hZ.c2
      have z3 := hZ.c3
      have z4 := hZ.c4
      have k4 := R3.c4
      have k5 := R3.c5
      have k6 := R3.c6
      have k7 := R3.c7
      have k8 := R3.c8
      have k9 := R3.c9
      have f4 := R3.f 4
      have f5 := R3.f 5
      have f6 := R3.f 6
      have f7 := R3.f 7
      have f8 := R3.f 8
      have f9 := R3.f 9
      have hrU := R3.lt
      have hzz : w2.heap.size < U.heap.size := by omega
      have HU := Lib.hid hU
      clear R3 R2 hSU hS2 hF2 hown hownU hownlt hq6 hZ r1' bU HOUT1 t1 hSW b2 r1 hU
      have b0 : Below U.heap.size U U.drew := (Below.refl _ _).drew
      have dz : U.drew.cell? ⟨w2.heap.size, 0, none⟩ = some (.string q.g) ∧ U.drew.cell? ⟨w2.heap.size, 1, none⟩ = some (.string q.n) ∧ U.drew.cell? ⟨w2.heap.size, 2, none⟩ = some (.slice pa q.ps.length pc) ∧ U.drew.cell? ⟨w2.heap.size, 3, none⟩ = some (.string q.v) ∧ U.drew.cell? ⟨w2.heap.size, 4, none⟩ = some (.slice none 0 0) := ⟨z0, z1, z2, z3, z4⟩
      have sz : U.cell? ⟨w2.heap.size, 0, none⟩ = some (.string q.g) ∧ U.cell? ⟨w2.heap.size, 1, none⟩ = some (.string q.n) ∧ U.cell? ⟨w2.heap.size, 2, none⟩ = some (.slice pa q.ps.length pc) ∧ U.cell? ⟨w2.heap.size, 3, none⟩ = some (.string q.v) ∧ U.cell? ⟨w2.heap.size, 4, none⟩ = some (.slice none 0 0) := ⟨z0, z1, z2, z3, z4⟩
      clear z0 z1 z2 z3 z4
      have hne : w2.heap.size ≠ rb := by omega
      go_upto_region 6 with fail
      rw [HU.out]
      go_cut [5] from 8 to 35 (fun xv wc => xv = .pointer (some ⟨w2.heap.size, 0, none⟩) ∧ SetAt U wc rb k (.slice (some ⟨og, 0, none⟩) (os.length + 1) oc) cv q (.slice pa q.ps.length pc))
      case first =>
        go_region_held3 (fun w' => w'.cell? ⟨w2.heap.size, 0, none⟩ = some (.string q.g) ∧ w'.cell? ⟨w2.heap.size, 1, none⟩ = some (.string q.n) ∧ w'.cell? ⟨w2.heap.size, 2, none⟩ = some (.slice pa q.ps.length pc) ∧ w'.cell? ⟨w2.heap.size, 3, none⟩ = some (.string q.v) ∧ w'.cell? ⟨w2.heap.size, 4, none⟩ = some (.slice none 0 0)) (first | with_reducible exact dz | with_reducible exact sz | with_reducible exact ez | exact five_set (five_set (five_set (five_set (five_set ez hne) hne) hne) hne) hne | exact five_set (five_set (five_set (five_set (five_set (five_set ez hne) hne) hne) hne) hne) hne | go_keep) ((go_at_call 101; refine (CE.out _ b0).mono ?_; rintro e w5 ⟨rfl, b5⟩; have ez := five_below dz b5 hzz; have e4 := (b5.cell (p := ⟨rb, 4, none⟩) hrU).trans k4; have e5 := (b5.cell (p := ⟨rb, 5, none⟩) hrU).trans k5; have e6 := (b5.cell (p := ⟨rb, 6, none⟩) hrU).trans k6; have e7 := (b5.cell (p := ⟨rb, 7, none⟩) hrU).trans k7; have e8 := (b5.cell (p := ⟨rb, 8, none⟩) hrU).trans k8; have e9 := (b5.cell (p := ⟨rb, 9, none⟩) hrU).trans k9; have g4 := (World.frozen?_of_block (a := ⟨rb, 4, none⟩) (b5.block rb hrU)).trans f4; have g5 := (World.frozen?_of_block (a := ⟨rb, 5, none⟩) (b5.block rb hrU)).trans f5; have g6 := (World.frozen?_of_block (a := ⟨rb, 6, none⟩) (b5.block rb hrU)).trans f6; have g7 := (World.frozen?_of_block (a := ⟨rb, 7, none⟩) (b5.block rb hrU)).trans f7; have g8 := (World.frozen?_of_block (a := ⟨rb, 8, none⟩) (b5.block rb hrU)).trans f8; have g9 := (World.frozen?_of_block (a := ⟨rb, 9, none⟩) (b5.block rb hrU)).trans f9))
        go_wp2_with fail
        go_meet
        case rel => exact ⟨rfl, setAt_of HF.out.1 b5⟩
      case rest =>
        obtain ⟨rfl, hRc, hSc⟩ := hcut
        generalize hVc : wc = V at *
        clear hVc
        obtain ⟨R3, hSU, hownU, hownlt, hq6, hF2⟩ := HF.out
        have hSV : Stays (fun k => k < w.heap.size ∧ k ≠ rb) w V := (hSU.mono fun k hk => hk.1).trans (hSc.mono fun k hk => ⟨Nat.lt_of_lt_of_le hk.1 (by omega), hk.2⟩)
        have hFV : Fin M w V := hSV.mono fun k hk => ⟨hk.1, fun e => hk.2 (e ▸ hM)⟩
        have hS2 : Stays (fun k => k ≠ rb) V ((V.setCell ⟨rb, 7, none⟩ (.string q.v)).setCell ⟨rb, 10, none⟩ (.bool false)) := stays_set (stays_set (Stays.refl _ V) (fun h => h rfl)) (fun h => h rfl)
        have hFV2 : Fin M w ((V.setCell ⟨rb, 7, none⟩ (.string q.v)).setCell ⟨rb, 10, none⟩ (.bool false)) := hFV.trans (hS2.mono fun k hk e => hk.2 (e ▸ hM))
        have hdz := decW_size (wayV q.ps) q.v
        have hWb := HBS.out
        have CT := Lib.hid (takeValue_any rb base (fun k => M k ∨ w.heap.size ≤ k) k f os c q false _ cv (.slice pa q.ps.length pc) V hRc (fun h => by cases h) (.inl hM)
          (own_low (by omega) (row_stays hownU (fun g e => hSc.block g ⟨by have := (hownlt g e).2; omega, by have := (hownlt g e).1; omega⟩)))
          (fun g e => ⟨.inr (by have := (hownlt g e).1; omega), by have := (hownlt g e).1; omega⟩)
          (HO.out.move (hSV.mono fun k hk => ⟨hk.2.2.2, hk.2.1⟩) (fun k h _ => .inl h) (fun k e => .inr (by have := (hownlt k e).1; omega)))
          hlen hf24 (by omega) (by omega) hq6.2.2 (by have := hSV.size; omega) (HT.out V hFV) (HT.out _ hFV2) (by omega))
        rw [HE.out] at CT
        have HFV := Lib.hid hFV
        clear R3 hSU hownU hownlt hq6 hF2 hSV hFV hS2 hFV2 hdz hRc hSc HF
        go_wp2_with fail
        refine CT.out.mono ?_
        rintro e w' ht
        obtain ⟨x, rfl⟩ : ∃ x, e = .returned (.int .i64 x) := by
          cases OUT with
          | go s => exact ⟨_, ht.1⟩
          | bad k' er => exact ⟨_, ht.1⟩
        go_wp2_with fail
        go_ret
        exact took_from HFV.out ht
end Go.Proofs.YtpdodknldhbbhaaGreatDoor.Vc
