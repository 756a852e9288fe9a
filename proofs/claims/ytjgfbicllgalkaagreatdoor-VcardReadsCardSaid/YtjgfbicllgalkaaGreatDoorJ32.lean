/-
Texts joined in one file, each with its own conditions: The document's card does as the plain descent, if its prop does. No conditions but that. · The document's Parse of a card answers what the plain descent reads. Conditions: the document's card does as the plain descent; the text has at most 4000 bytes. · The program's reader takes a value: the property's value may go on in the next line, or the property is whole. Conditions: the reader lies in memory as the plain machine's state; texts have at most 2^20 bytes. · The program's reader takes a value that is written in quoted-printable: the property's value goes on in the next line, or the property is whole. Conditions: the reader lies in memory as the plain machine's state; texts have at most 2^20 bytes. · The program's reader takes a property's line. Conditions: the reader lies in memory as the plain machine's state; the line has at most 10000 bytes; the library's tables hold what the rows list. · The program's reader takes a line, as the plain machine does. Conditions: the reader lies in memory as the plain machine's state; the line has at most 10000 bytes; the library's tables hold what the rows list.
-/
import Derived.Test.YtjgfbicllgalkaaGreatDoorJ29
import Derived.Test.YtjgfbicllgalkaaGreatDoorJ03
import Derived.Test.YtjgfbicllgalkaaGreatDoorJ28
import Derived.Test.YtjgfbicllgalkaaGreatDoorJ31
import Derived.Deep.RegionWith
import Derived.Deep.CutRange
import Derived.Deep.RegionHeld3
import Derived.Deep.RegionLaw
import Derived.Test.YtjgfbicllgalkaaGreatDoorJ20
namespace Go.Proofs.YtjgfbicllgalkaaGreatDoor.Vc
set_option maxRecDepth 100000
open Go.RowKit Pp Sq

def begB : ByteArray := ⟨#[66, 69, 71, 73, 78, 58, 86, 67, 65, 82, 68]⟩
def verB : ByteArray := ⟨#[86, 69, 82, 83, 73, 79, 78, 58, 50, 46, 49]⟩
/-- A card's lines, of whose two first ones so many are still to come. -/
def headR (N d : Nat) : Nat → List (Nat × ByteArray) → Vm.Res Crd
  | 0, l => Vm.bodyR G (Vm.propR G (Vm.cardR G N d) (d == 0)) N [] l
  | 1, l => match Vm.next G l with
    | none => .end_
    | some (y, r) => if G.isV y.2 = false then .bad y.1 3 else headR N d 0 r
  | _ + 2, l => match Vm.next G l with
    | none => .end_
    | some (x, r) => if G.isB x.2 = false then .bad x.1 3 else headR N d 1 r
theorem card_head (N d : Nat) (l : List (Nat × ByteArray)) : Vm.cardR G N (d + 1) l = headR N d 2 l := by
  rw [Vm.cardR, headR]
  cases Vm.next G l with
  | none => rfl
  | some x =>
    obtain ⟨x, r⟩ := x
    simp only
    rw [headR]
    split
    · rfl
    · cases Vm.next G r with
      | none => rfl
      | some y => obtain ⟨y, r2⟩ := y; simp only; rw [headR]
/-- The call's own two blocks. -/
structure CdAt (w wr : World) (b : Nat) : Prop where
  r : wr.heap[w.heap.size]? = some (.cells #[.slice none 0 0] 24 (0, 0))
  s : wr.heap[w.heap.size + 1]? = some (.cells #[.string ⟨#[66, 69, 71, 73, 78, 58, 86, 67, 65, 82, 68]⟩, .string ⟨#[86, 69, 82, 83, 73, 79, 78, 58, 50, 46, 49]⟩] 9 (0, 0))
  g : w.grownBy wr (some b)
theorem CdAt.grown {w wr wr' : World} {b : Nat} (h : CdAt w wr b) (hg : wr.grownBy wr' (some b)) (hb : b < w.heap.size) : CdAt w wr' b :=
  ⟨(hg.block _ (Array.getElem?_eq_some_iff.1 h.r).1 (fun e => by injection e with e; omega)).trans h.r, (hg.block _ (Array.getElem?_eq_some_iff.1 h.s).1 (fun e => by injection e with e; omega)).trans h.s,
   ⟨hg.os.trans h.g.os, hg.tape.trans h.g.tape, hg.output.trans h.g.output, Nat.le_trans h.g.size hg.size, fun k hk hne => (hg.block k (Nat.lt_of_lt_of_le hk h.g.size) hne).trans (h.g.block k hk hne)⟩⟩
theorem grown_of_below {w w' : World} {r : Option Nat} (h : Below w.heap.size w w') : w.grownBy w' r := ⟨h.os, h.tape, h.output, h.size, fun k hk _ => h.block k hk⟩
theorem CdAt.below {w wr wr' : World} {b : Nat} (h : CdAt w wr b) (hb : Below wr.heap.size wr wr') (hbw : b < w.heap.size) : CdAt w wr' b := h.grown (grown_of_below hb) hbw
theorem CdAt.put {w wr : World} {b : Nat} (h : CdAt w wr b) (v : Value) : w.grownBy (wr.setCell ⟨w.heap.size, 0, none⟩ v) (some b) ∧ (wr.setCell ⟨w.heap.size, 0, none⟩ v).cell? ⟨w.heap.size, 0, none⟩ = some v :=
  ⟨⟨h.g.os, h.g.tape, h.g.output, by rw [World.size_setCell]; exact h.g.size, fun k hk hne => (Below.heap_setCell wr ⟨w.heap.size, 0, none⟩ v k (by show k ≠ w.heap.size; omega)).trans (h.g.block k hk hne)⟩, cell_of_row _ w.heap.size 0 _ _ _ (heap_set h.r v)⟩
theorem Rdr.below {w w' : World} {b i : Nat} {nv lv : Value} (h : Rdr w b nv lv i) (hb : Below w.heap.size w w') : Rdr w' b nv lv i := (hb.block _ h.lt).trans h
theorem up_eq (s : ByteArray) (l : List UInt8) : ((⟨(up s.data.toList).toArray⟩ : ByteArray).toList == l) = decide (upS s = l) := by
  rw [Bool.eq_iff_iff, beq_iff_eq, decide_eq_true_eq]
  unfold upS
  rw [show (⟨(up s.data.toList).toArray⟩ : ByteArray).toList = up s.data.toList by rw [ByteArray.toList_eq]]

theorem CdAt.stays {w wr wr' : World} {b : Nat} {O : Nat → Prop} (h : CdAt w wr b) (hS : Stays O wr wr') (h0 : ∀ k, k < w.heap.size + 2 → k ≠ b → O k) (hb : b < w.heap.size) : CdAt w wr' b :=
  ⟨(hS.block _ (h0 _ (by omega) (by omega))).trans h.r, (hS.block _ (h0 _ (by omega) (by omega))).trans h.s,
   ⟨hS.os.trans h.g.os, hS.tape.trans h.g.tape, hS.output.trans h.g.output, Nat.le_trans h.g.size hS.size, fun k hk hne => (hS.block k (h0 k (by omega) (fun e => hne (by rw [e])))).trans (h.g.block k hk hne)⟩⟩
set_option maxHeartbeats 8000000 in
theorem refCard_step (N d : Nat) (HP : PropOk N d) : CardOk N (d + 1) := by
  intro w b i nv lv l hr hls hi hlN hN ht
  rw [card_head]
  have hcast : (4 : Int) - ((d + 1 : Nat) : Int) = 3 - (d : Int) := by omega
  rw [hcast]
  obtain ⟨R, hR⟩ : ∃ R, headR N d 2 (l.drop i) = R := ⟨_, rfl⟩
  rw [hR]
  have HR := Lib.hid hR
  have HLS := Lib.hid hls
  have CN := Lib.hid (fun W i h1 h2 h3 => refNext_any false l b i nv lv W h1 h2 h3 (by omega) (fun x hx => by have := le_tot hx; omega))
  have HN := Lib.hid hlN
  have HT := Lib.hid ht
  have HPR := Lib.hid HP
  have hbw := hr.lt
  have ba : Below w.heap.size w ((w.alloc (.cells #[.slice none 0 0] 24)).alloc (.cells #[.string ⟨#[66, 69, 71, 73, 78, 58, 86, 67, 65, 82, 68]⟩, .string ⟨#[86, 69, 82, 83, 73, 79, 78, 58, 50, 46, 49]⟩] 9)) := ((Below.refl _ _).alloc (Nat.le_refl _) _).alloc (by simp) _
  have hC0 : CdAt w ((w.alloc (.cells #[.slice none 0 0] 24)).alloc (.cells #[.string ⟨#[66, 69, 71, 73, 78, 58, 86, 67, 65, 82, 68]⟩, .string ⟨#[86, 69, 82, 83, 73, 79, 78, 58, 50, 46, 49]⟩] 9)) b := by
    refine ⟨?_, ?_, grown_of_below ba⟩
    · exact (((Below.refl (w.heap.size + 1) (w.alloc (.cells #[.slice none 0 0] 24))).alloc (by simp) _).block _ (by omega)).trans (heap_alloc_new w _)
    · have h := heap_alloc_new (w.alloc (.cells #[.slice none 0 0] 24)) (.cells #[.string ⟨#[66, 69, 71, 73, 78, 58, 86, 67, 65, 82, 68]⟩, .string ⟨#[86, 69, 82, 83, 73, 79, 78, 58, 50, 46, 49]⟩] 9)
      rw [World.size_alloc] at h
      exact h
  have hr0 := hr.below ba
  clear hR hls ht HP hr ba hcast hlN
  go_enter Tryz.func50, Tryz.ntmps50
  go_wp2_with fail
  go_loopw [8] (fun iv wr => ∃ k j : Nat, iv = .int .i64 (k : Int) ∧ k ≤ 2 ∧ j ≤ l.length ∧ Hid (headR N d (2 - k) (l.drop j) = R) ∧ Rdr wr b nv lv j ∧ CdAt w wr b) (fun iv _ => 2 - (intOf iv).toNat)
  case atStart => exact ⟨0, i, rfl, by omega, hi, HR, hr0, hC0⟩
  case round =>
    clear HR hr0 hC0
    obtain ⟨k, j, rfl, hk, hj, hq, hrd, hcd⟩ := hrel
    obtain rfl | rfl | rfl : k = 0 ∨ k = 1 ∨ k = 2 := by omega
    · -- round 0
      have CJ := Lib.hid (CN.out wr j hrd (HLS.out.grown hcd.g (Nat.le_of_lt hbw)) hj)
      unfold nextAns at CJ
      rw [nextL_next] at CJ
      cases hn : Vm.next G (l.drop j) with
      | none =>
        rw [hn] at CJ
        have HE : Hid (R = .end_) := Lib.hid (by rw [← hq.out, headR, hn])
        clear hq
        have HCD := Lib.hid hcd
        clear hcd hrd CN
        go_wp2_with fail
        refine CJ.out.mono ?_
        rintro e w1 ⟨rfl, -, hg1⟩
        have hc1 := HCD.out.grown hg1 hbw
        have hp := hc1.put (.slice none 0 0)
        have q0 := hp.2
        have f0 := frozen_of_row _ w.heap.size 0 _ _ hc1.r
        have g0 := cell_of_row _ w.heap.size 0 _ _ _ hc1.r
        have HG := Lib.hid hp.1
        clear hc1 hp hg1 CJ HCD
        go_wp2_with fail
        exact bodyPost_ret (v := .tuple #[.agg #[.slice none 0 0], .int .i64 0, .int .i64 1]) (by simp [results, Tryz.results50, go_sem, q0]) rfl ⟨HG.out, by rw [HE.out]⟩
      | some y =>
        obtain ⟨⟨xn, xs⟩, r⟩ := y
        rw [hn] at CJ
        have hxt := next_tot hn
        have htd := tot_drop l j
        have hxs : xs.size ≤ 140737488355328 := by have := HT.out; simp only at hxt; omega
        have CU : Hid (∀ W, Calls Tryz.prog 85 #[.string xs] W fun e w' => e = .returned (.string ⟨(up xs.data.toList).toArray⟩) ∧ Below W.heap.size W w') := Lib.hid (fun W => rUpper_any xs W hxs)
        have hue : ((⟨(up xs.data.toList).toArray⟩ : ByteArray).toList == [66, 69, 71, 73, 78, 58, 86, 67, 65, 82, 68]) = G.isB xs := up_eq xs _
        generalize (⟨(up xs.data.toList).toArray⟩ : ByteArray) = u at CU hue
        have HCD := Lib.hid hcd
        have HQ := Lib.hid hq.out
        have HRB := Lib.hid (show nextRest false (l.drop j) = r by unfold nextRest; rw [nextL_next, hn])
        clear hxt htd hxs hcd hrd hq
        cases hb : G.isB xs
        · rw [hb] at hue
          have HE : Hid (R = .bad xn 3) := Lib.hid (by rw [← HQ.out, headR, hn]; simp only; rw [if_pos hb])
          clear HQ hn hb
          go_wp2_with fail
          refine CJ.out.mono ?_
          rintro e w1 ⟨rfl, -, hg1⟩
          have hc1 := HCD.out.grown hg1 hbw
          have sc : w1.cell? ⟨w.heap.size + 1, 0, none⟩ = some (.string ⟨#[66, 69, 71, 73, 78, 58, 86, 67, 65, 82, 68]⟩) := cell_of_row _ (w.heap.size + 1) 0 _ _ _ hc1.s
          have scd : w1.drew.cell? ⟨w.heap.size + 1, 0, none⟩ = some (.string ⟨#[66, 69, 71, 73, 78, 58, 86, 67, 65, 82, 68]⟩) := sc
          have hsl := (Array.getElem?_eq_some_iff.1 hc1.s).1
          have HC1 := Lib.hid hc1
          clear hc1 hg1 CJ HCD
          go_wp2_with fail
          go_region_held3 (fun W => W.cell? ⟨w.heap.size + 1, 0, none⟩ = some (.string ⟨#[66, 69, 71, 73, 78, 58, 86, 67, 65, 82, 68]⟩)) (first | with_reducible exact scd | with_reducible exact sc | with_reducible exact se | go_keep) ((go_at_call 85; refine (CU.out _).mono ?_; rintro e w2 ⟨rfl, b2⟩; have se := (b2.cell (p := ⟨w.heap.size + 1, 0, none⟩) hsl).trans scd))
          all_goals
            have hc2 := HC1.out.below ((Below.refl w1.heap.size w1).drew.trans b2) hbw
            have hp := hc2.put (.slice none 0 0)
            have q0 := hp.2
            have f0 := frozen_of_row _ w.heap.size 0 _ _ hc2.r
            have g0 := cell_of_row _ w.heap.size 0 _ _ _ hc2.r
            have HG := Lib.hid hp.1
            clear hc2 hp HC1 b2 se sc scd
            go_wp2_with fail
            exact bodyPost_ret (v := .tuple #[.agg #[.slice none 0 0], .int .i64 (xn : Int), .int .i64 3]) (by simp [results, Tryz.results50, go_sem, q0]) rfl ⟨HG.out, by rw [HE.out]⟩
        · rw [hb] at hue
          have HE : Hid (headR N d (2 - 1) r = R) := Lib.hid (by rw [← HQ.out, show headR N d (2 - 0) (l.drop j) = _ from headR.eq_3 .., hn]; simp only; rw [if_neg (show ¬ G.isB xs = false by rw [hb]; simp)])
          clear HQ hn hb
          go_wp2_with fail
          refine CJ.out.mono ?_
          rintro e w1 ⟨rfl, ⟨j2, hj2, hr2, hd2⟩, hg1⟩
          rw [HRB.out] at hd2
          have hc1 := HCD.out.grown hg1 hbw
          have sc : w1.cell? ⟨w.heap.size + 1, 0, none⟩ = some (.string ⟨#[66, 69, 71, 73, 78, 58, 86, 67, 65, 82, 68]⟩) := cell_of_row _ (w.heap.size + 1) 0 _ _ _ hc1.s
          have scd : w1.drew.cell? ⟨w.heap.size + 1, 0, none⟩ = some (.string ⟨#[66, 69, 71, 73, 78, 58, 86, 67, 65, 82, 68]⟩) := sc
          have hsl := (Array.getElem?_eq_some_iff.1 hc1.s).1
          have HC1 := Lib.hid (And.intro hc1 (And.intro hj2 (And.intro hr2 hd2)))
          clear hc1 hg1 CJ HCD hj2 hr2 hd2
          go_wp2_with fail
          go_region_held3 (fun W => W.cell? ⟨w.heap.size + 1, 0, none⟩ = some (.string ⟨#[66, 69, 71, 73, 78, 58, 86, 67, 65, 82, 68]⟩)) (first | with_reducible exact scd | with_reducible exact sc | with_reducible exact se | go_keep) ((go_at_call 85; refine (CU.out _).mono ?_; rintro e w2 ⟨rfl, b2⟩; have se := (b2.cell (p := ⟨w.heap.size + 1, 0, none⟩) hsl).trans scd))
          all_goals
            have b12 := (Below.refl w1.heap.size w1).drew.trans b2
            go_wp2_with fail
            go_roundw
            case rel => exact ⟨1, j2, by go_num, by omega, HC1.out.2.1, by rw [HC1.out.2.2.2]; exact HE, HC1.out.2.2.1.below b12, HC1.out.1.below b12 hbw⟩
            case measure => simp [intOf]
    · -- round 1
      have CJ := Lib.hid (CN.out wr j hrd (HLS.out.grown hcd.g (Nat.le_of_lt hbw)) hj)
      unfold nextAns at CJ
      rw [nextL_next] at CJ
      cases hn : Vm.next G (l.drop j) with
      | none =>
        rw [hn] at CJ
        have HE : Hid (R = .end_) := Lib.hid (by rw [← hq.out, headR, hn])
        clear hq
        have HCD := Lib.hid hcd
        clear hcd hrd CN
        go_wp2_with fail
        refine CJ.out.mono ?_
        rintro e w1 ⟨rfl, -, hg1⟩
        have hc1 := HCD.out.grown hg1 hbw
        have hp := hc1.put (.slice none 0 0)
        have q0 := hp.2
        have f0 := frozen_of_row _ w.heap.size 0 _ _ hc1.r
        have g0 := cell_of_row _ w.heap.size 0 _ _ _ hc1.r
        have HG := Lib.hid hp.1
        clear hc1 hp hg1 CJ HCD
        go_wp2_with fail
        exact bodyPost_ret (v := .tuple #[.agg #[.slice none 0 0], .int .i64 0, .int .i64 1]) (by simp [results, Tryz.results50, go_sem, q0]) rfl ⟨HG.out, by rw [HE.out]⟩
      | some y =>
        obtain ⟨⟨xn, xs⟩, r⟩ := y
        rw [hn] at CJ
        have hxt := next_tot hn
        have htd := tot_drop l j
        have hxs : xs.size ≤ 140737488355328 := by have := HT.out; simp only at hxt; omega
        have CU : Hid (∀ W, Calls Tryz.prog 85 #[.string xs] W fun e w' => e = .returned (.string ⟨(up xs.data.toList).toArray⟩) ∧ Below W.heap.size W w') := Lib.hid (fun W => rUpper_any xs W hxs)
        have hue : ((⟨(up xs.data.toList).toArray⟩ : ByteArray).toList == [86, 69, 82, 83, 73, 79, 78, 58, 50, 46, 49]) = G.isV xs := up_eq xs _
        generalize (⟨(up xs.data.toList).toArray⟩ : ByteArray) = u at CU hue
        have HCD := Lib.hid hcd
        have HQ := Lib.hid hq.out
        have HRB := Lib.hid (show nextRest false (l.drop j) = r by unfold nextRest; rw [nextL_next, hn])
        clear hxt htd hxs hcd hrd hq
        cases hb : G.isV xs
        · rw [hb] at hue
          have HE : Hid (R = .bad xn 3) := Lib.hid (by rw [← HQ.out, headR, hn]; simp only; rw [if_pos hb])
          clear HQ hn hb
          go_wp2_with fail
          refine CJ.out.mono ?_
          rintro e w1 ⟨rfl, -, hg1⟩
          have hc1 := HCD.out.grown hg1 hbw
          have sc : w1.cell? ⟨w.heap.size + 1, 1, none⟩ = some (.string ⟨#[86, 69, 82, 83, 73, 79, 78, 58, 50, 46, 49]⟩) := cell_of_row _ (w.heap.size + 1) 1 _ _ _ hc1.s
          have scd : w1.drew.cell? ⟨w.heap.size + 1, 1, none⟩ = some (.string ⟨#[86, 69, 82, 83, 73, 79, 78, 58, 50, 46, 49]⟩) := sc
          have hsl := (Array.getElem?_eq_some_iff.1 hc1.s).1
          have HC1 := Lib.hid hc1
          clear hc1 hg1 CJ HCD
          go_wp2_with fail
          go_region_held3 (fun W => W.cell? ⟨w.heap.size + 1, 1, none⟩ = some (.string ⟨#[86, 69, 82, 83, 73, 79, 78, 58, 50, 46, 49]⟩)) (first | with_reducible exact scd | with_reducible exact sc | with_reducible exact se | go_keep) ((go_at_call 85; refine (CU.out _).mono ?_; rintro e w2 ⟨rfl, b2⟩; have se := (b2.cell (p := ⟨w.heap.size + 1, 1, none⟩) hsl).trans scd))
          all_goals
            have hc2 := HC1.out.below ((Below.refl w1.heap.size w1).drew.trans b2) hbw
            have hp := hc2.put (.slice none 0 0)
            have q0 := hp.2
            have f0 := frozen_of_row _ w.heap.size 0 _ _ hc2.r
            have g0 := cell_of_row _ w.heap.size 0 _ _ _ hc2.r
            have HG := Lib.hid hp.1
            clear hc2 hp HC1 b2 se sc scd
            go_wp2_with fail
            exact bodyPost_ret (v := .tuple #[.agg #[.slice none 0 0], .int .i64 (xn : Int), .int .i64 3]) (by simp [results, Tryz.results50, go_sem, q0]) rfl ⟨HG.out, by rw [HE.out]⟩
        · rw [hb] at hue
          have HE : Hid (headR N d (2 - 2) r = R) := Lib.hid (by rw [← HQ.out, show headR N d (2 - 1) (l.drop j) = _ from headR.eq_2 .., hn]; simp only; rw [if_neg (show ¬ G.isV xs = false by rw [hb]; simp)])
          clear HQ hn hb
          go_wp2_with fail
          refine CJ.out.mono ?_
          rintro e w1 ⟨rfl, ⟨j2, hj2, hr2, hd2⟩, hg1⟩
          rw [HRB.out] at hd2
          have hc1 := HCD.out.grown hg1 hbw
          have sc : w1.cell? ⟨w.heap.size + 1, 1, none⟩ = some (.string ⟨#[86, 69, 82, 83, 73, 79, 78, 58, 50, 46, 49]⟩) := cell_of_row _ (w.heap.size + 1) 1 _ _ _ hc1.s
          have scd : w1.drew.cell? ⟨w.heap.size + 1, 1, none⟩ = some (.string ⟨#[86, 69, 82, 83, 73, 79, 78, 58, 50, 46, 49]⟩) := sc
          have hsl := (Array.getElem?_eq_some_iff.1 hc1.s).1
          have HC1 := Lib.hid (And.intro hc1 (And.intro hj2 (And.intro hr2 hd2)))
          clear hc1 hg1 CJ HCD hj2 hr2 hd2
          go_wp2_with fail
          go_region_held3 (fun W => W.cell? ⟨w.heap.size + 1, 1, none⟩ = some (.string ⟨#[86, 69, 82, 83, 73, 79, 78, 58, 50, 46, 49]⟩)) (first | with_reducible exact scd | with_reducible exact sc | with_reducible exact se | go_keep) ((go_at_call 85; refine (CU.out _).mono ?_; rintro e w2 ⟨rfl, b2⟩; have se := (b2.cell (p := ⟨w.heap.size + 1, 1, none⟩) hsl).trans scd))
          all_goals
            have b12 := (Below.refl w1.heap.size w1).drew.trans b2
            go_wp2_with fail
            go_roundw
            case rel => exact ⟨2, j2, by go_num, by omega, HC1.out.2.1, by rw [HC1.out.2.2.2]; exact HE, HC1.out.2.2.1.below b12, HC1.out.1.below b12 hbw⟩
            case measure => simp [intOf]
    · have hq0 : Vm.bodyR G (Vm.propR G (Vm.cardR G N d) (d == 0)) N [] (l.drop j) = R := by have h := hq.out; rw [show headR N d (2 - 2) (l.drop j) = _ from headR.eq_1 ..] at h; exact h
      clear hq
      have hb1 : Below wr.heap.size wr (wr.alloc (.cells #[.slice none 0 0] 24)) := (Below.refl _ _).alloc (Nat.le_refl _) _
      have hc0 := hcd.below hb1 hbw
      have hx0 : (wr.alloc (.cells #[.slice none 0 0] 24)).heap[wr.heap.size]? = some (.cells #[.slice none 0 0] 24 (0, 0)) := heap_alloc_new wr _
      have hr0 := hrd.below hb1
      have hzw : w.heap.size + 1 < wr.heap.size := (Array.getElem?_eq_some_iff.1 hcd.s).1
      have hlr : (l.drop j).length < N := by have := HN.out; rw [List.length_drop]; omega
      obtain ⟨Z, hZ⟩ : ∃ Z, wr.heap.size = Z := ⟨_, rfl⟩
      have hx0' := hx0
      rw [hZ] at hx0' hzw
      have hfo : FrO (wr.alloc (.cells #[.slice none 0 0] 24)) (Z + 1) d (.slice none 0 0) [] := FrO.nil _ _ _
      have hzs : Z < (wr.alloc (.cells #[.slice none 0 0] 24)).heap.size := by rw [World.size_alloc]; omega
      have HI := Lib.hid (And.intro hc0 (And.intro hx0' (And.intro hr0 (And.intro hfo hzs))))
      have HB0 := Lib.hid (And.intro hq0 hlr)
      clear hc0 hr0 hfo hb1 hcd hrd hq0 hlr hx0 hx0' hzs hk
      go_wp2_with fail
      go_loopg [] N (fun gk w2 => ∃ (n j : Nat) (f : Fr) (v : Value), gk = n ∧ j ≤ l.length ∧ f.length ≤ 24 ∧ (l.drop j).length < n ∧ Hid (Vm.bodyR G (Vm.propR G (Vm.cardR G N d) (d == 0)) n f (l.drop j) = R) ∧ Rdr w2 b nv lv j ∧ CdAt w w2 b ∧ w2.heap[Z]? = some (.cells #[v] 24 (0, 0)) ∧ FrO w2 (Z + 1) d v f)
      case atStart => exact ⟨N, j, [], _, rfl, hj, Nat.zero_le _, HB0.out.2, Lib.hid HB0.out.1, HI.out.2.2.1, HI.out.1, HI.out.2.1, HI.out.2.2.2.1⟩
      case round =>
        clear HI HB0 hj
        obtain ⟨n, j, f, v, rfl, hj, hf24, hln, hq, hrd, hcd, hcx, hfo⟩ := hrel
        cases gk with
        | zero => omega
        | succ n =>
        have HQ := Lib.hid (by have h := hq.out; rw [Vm.bodyR] at h; exact h)
        have CJ := Lib.hid (CN.out wr j hrd (HLS.out.grown hcd.g (Nat.le_of_lt hbw)) hj)
        unfold nextAns at CJ
        rw [nextL_next] at CJ
        have hHC := Lib.hid (And.intro hcd (And.intro hcx hfo))
        cases hn : Vm.next G (l.drop j) with
        | none =>
          rw [hn] at CJ
          have HE : Hid (R = .end_) := Lib.hid (by have h := HQ.out; rw [hn] at h; exact h.symm)
          clear hq HQ hcd hrd CN hcx hfo
          go_wp2_with fail
          refine CJ.out.mono ?_
          rintro e w3 ⟨rfl, -, hg3⟩
          have hc3 := hHC.out.1.grown hg3 hbw
          have hp := hc3.put (.slice none 0 0)
          have q0 := hp.2
          have f0 := frozen_of_row _ w.heap.size 0 _ _ hc3.r
          have g0 := cell_of_row _ w.heap.size 0 _ _ _ hc3.r
          have HG := Lib.hid hp.1
          clear hp
          clear hc3 hg3 CJ hHC
          go_wp2_with fail
          exact bodyPost_ret (v := .tuple #[.agg #[.slice none 0 0], .int .i64 0, .int .i64 1]) (by simp [results, Tryz.results50, go_sem, q0]) rfl ⟨HG.out, by rw [HE.out]⟩
        | some y =>
          obtain ⟨⟨xn, xs⟩, r⟩ := y
          rw [hn] at CJ
          have hxt := next_tot hn
          have hnl := Vm.next_len hn
          have htd := tot_drop l j
          have hxs : xs.size ≤ 140737488355328 := by have := HT.out; simp only at hxt; omega
          have hrt : xs.size + tot r ≤ 1048576 := by have := HT.out; simp only at hxt; omega
          have CU : Hid (∀ W, Calls Tryz.prog 85 #[.string xs] W fun e w' => e = .returned (.string ⟨(up xs.data.toList).toArray⟩) ∧ Below W.heap.size W w') := Lib.hid (fun W => rUpper_any xs W hxs)
          have hue : ((⟨(up xs.data.toList).toArray⟩ : ByteArray).toList == [69, 78, 68, 58, 86, 67, 65, 82, 68]) = G.isE xs := up_eq xs _
          generalize (⟨(up xs.data.toList).toArray⟩ : ByteArray) = u at CU hue
          have HRB := Lib.hid (show nextRest false (l.drop j) = r by unfold nextRest; rw [nextL_next, hn])
          have HUE := Lib.hid hue
          clear hue
          have HTR := Lib.hid (And.intro hrt hnl)
          have HQ2 := Lib.hid (by have h := HQ.out; rw [hn] at h; exact h)
          clear hxt hnl htd hxs hrt hcd hrd hcx hfo hq HQ hn
          go_wp2_with fail
          refine CJ.out.mono ?_
          rintro e w3 ⟨rfl, ⟨j2, hj2, hr3, hd2⟩, hg3⟩
          rw [HRB.out] at hd2
          have hc3 := hHC.out.1.grown hg3 hbw
          have hx3 : w3.heap[Z]? = some (.cells #[v] 24 (0, 0)) := (hg3.block _ (Array.getElem?_eq_some_iff.1 hHC.out.2.1).1 (fun e => by injection e with e; omega)).trans hHC.out.2.1
          have hf3 := hHC.out.2.2.keep hg3 (by omega)
          have H3 := Lib.hid (And.intro hc3 (And.intro hx3 (And.intro hr3 hf3)))
          clear hc3 hx3 hr3 hf3 hg3 hHC CJ HRB
          go_wp2_with fail
          refine (CU.out _).mono ?_
          rintro e w4 ⟨rfl, b4⟩
          have hc4 := H3.out.1.below b4 hbw
          have hx4 := (b4.block Z (Array.getElem?_eq_some_iff.1 H3.out.2.1).1).trans H3.out.2.1
          have hr4 := H3.out.2.2.1.below b4
          have hf4 := H3.out.2.2.2.stays b4
          obtain ⟨va, vc, rfl⟩ := (show ∃ a c, v = .slice a f.length c by obtain ⟨cs, h, _⟩ := hf4; exact row_shape h)
          have z0 := cell_of_row _ Z 0 _ _ _ hx4
          have zf := frozen_of_row _ Z 0 _ _ hx4
          have HC4 := Lib.hid (And.intro hc4 (And.intro hx4 (And.intro hr4 (And.intro hf4 (And.intro hj2 hd2)))))
          clear H3 b4 hx4 hr4 hf4 hj2 hd2 CU
          have hue : (u.toList == [69, 78, 68, 58, 86, 67, 65, 82, 68]) = G.isE xs := HUE.out
          clear HUE
          cases hb : G.isE xs
          · rw [hb] at hue
            by_cases h24 : f.length = 24
            · have h24z : ((f.length : Int) == 24) = true := by rw [h24]; rfl
              have HE : Hid (R = .bad xn 4) := Lib.hid (by have h := HQ2.out; rw [if_neg (show ¬ G.isE xs = true by rw [hb]; simp), if_pos h24] at h; exact h.symm)
              have hp := hc4.put (.slice none 0 0)
              have q0 := hp.2
              have f0 := frozen_of_row _ w.heap.size 0 _ _ hc4.r
              have g0 := cell_of_row _ w.heap.size 0 _ _ _ hc4.r
              have HG := Lib.hid hp.1
              clear hp
              clear hc4 HC4 HQ2 CN HPR
              go_wp2_with fail
              exact bodyPost_ret (v := .tuple #[.agg #[.slice none 0 0], .int .i64 (xn : Int), .int .i64 4]) (by simp [results, Tryz.results50, go_sem, q0]) rfl ⟨HG.out, by rw [HE.out]⟩
            · have h24z : ((f.length : Int) == 24) = false := by rw [beq_eq_false_iff_ne]; omega
              have C5 := Lib.hid (HPR.out w4 b j2 nv lv l xs xn HC4.out.2.2.1 (HLS.out.grown hc4.g (Nat.le_of_lt hbw)) HC4.out.2.2.2.2.1 HN.out hN HT.out (by rw [HC4.out.2.2.2.2.2]; exact HTR.out.1))
              rw [HC4.out.2.2.2.2.2] at C5
              have HQ3 := Lib.hid (by have h := HQ2.out; rw [if_neg (show ¬ G.isE xs = true by rw [hb]; simp), if_neg h24] at h; exact h)
              clear HQ2 HPR hc4
              cases hQ : Vm.propR G (Vm.cardR G N d) (d == 0) xs xn r with
              | end_ =>
                rw [hQ] at C5
                have HE : Hid (R = .end_) := Lib.hid (by have h := HQ3.out; rw [hQ] at h; exact h.symm)
                clear hQ HQ3
                clear CN
                go_wp2_with fail
                refine C5.out.mono ?_
                rintro e w5 ⟨hg5, rfl⟩
                have hc6 := (HC4.out.1.grown hg5 hbw).below ((Below.refl w5.heap.size w5).alloc (Nat.le_refl _) (.cells #[.string ⟨#[]⟩, .string ⟨#[]⟩, .slice none 0 0, .string ⟨#[]⟩, .slice none 0 0] 56)) hbw
                have hp := hc6.put (.slice none 0 0)
                have q0 := hp.2
                have f0 := frozen_of_row _ w.heap.size 0 _ _ hc6.r
                have g0 := cell_of_row _ w.heap.size 0 _ _ _ hc6.r
                have HG := Lib.hid hp.1
                clear hp hc6 hg5 C5 HC4 z0 zf
                go_wp2_with fail
                exact bodyPost_ret (v := .tuple #[.agg #[.slice none 0 0], .int .i64 0, .int .i64 1]) (by simp [results, Tryz.results50, go_sem, q0]) rfl ⟨HG.out, by rw [HE.out]⟩
              | bad k er =>
                rw [hQ] at C5
                have HE : Hid (R = .bad k er) := Lib.hid (by have h := HQ3.out; rw [hQ] at h; exact h.symm)
                have hne := Vm.prop_bad (fun l k e h => Vm.card_bad d l k e h) hQ
                have hneb : (er == 0) = false := by simpa using hne
                clear hQ HQ3
                clear CN
                go_wp2_with fail
                refine C5.out.mono ?_
                rintro e w5 ⟨hg5, rfl⟩
                have hc6 := (HC4.out.1.grown hg5 hbw).below ((Below.refl w5.heap.size w5).alloc (Nat.le_refl _) (.cells #[.string ⟨#[]⟩, .string ⟨#[]⟩, .slice none 0 0, .string ⟨#[]⟩, .slice none 0 0] 56)) hbw
                have hp := hc6.put (.slice none 0 0)
                have q0 := hp.2
                have f0 := frozen_of_row _ w.heap.size 0 _ _ hc6.r
                have g0 := cell_of_row _ w.heap.size 0 _ _ _ hc6.r
                have HG := Lib.hid hp.1
                clear hp hc6 hg5 C5 HC4 z0 zf
                go_wp2_with fail
                exact bodyPost_ret (v := .tuple #[.agg #[.slice none 0 0], .int .i64 (k : Int), .int .i64 er]) (by simp [results, Tryz.results50, go_sem, q0]) rfl ⟨HG.out, by rw [HE.out]⟩
              | ok p r' =>
                rw [hQ] at C5
                have HE : Hid (Vm.bodyR G (Vm.propR G (Vm.cardR G N d) (d == 0)) n (f ++ [p]) r' = R) := Lib.hid (by have h := HQ3.out; rw [hQ] at h; exact h)
                have hrl := Vm.prop_len (fun l t r h => Vm.card_len N d l t r h) _ _ _ _ _ hQ
                clear hQ HQ3
                go_wp2_with fail
                refine C5.out.mono ?_
                rintro e w5 ⟨hg5, c0, c1, c2, c3, c4, rfl, hpc, j3, hj3, hr5, hd3⟩
                obtain ⟨rfl, rfl, rfl, ⟨a2, n2, k2, rfl⟩, ⟨a4, n4, k4, rfl⟩⟩ := hpc.shape
                clear z0 zf
                obtain ⟨hc4, hx4, hr4, hf4, -, -⟩ := HC4.out
                have hZ4 := (Array.getElem?_eq_some_iff.1 hx4).1
                have hc5 := hc4.grown hg5 hbw
                have hx5 := (hg5.block Z hZ4 (fun e => by injection e with e; omega)).trans hx4
                have hf5 := hf4.keep hg5 (by omega)
                have hp5 := pc_out (base := Z + 1) (v := .slice va f.length vc) hpc (by omega) (fun g e => (hf4.lt g e).2)
                obtain ⟨w6, hw6⟩ : ∃ w6, w5.alloc (.cells #[.string p.1.g, .string p.1.n, .slice a2 n2 k2, .string p.1.v, .slice a4 n4 k4] 56) = w6 := ⟨_, rfl⟩
                have hb6 : Below w5.heap.size w5 w6 := by rw [← hw6]; exact (Below.refl _ _).alloc (Nat.le_refl _) _
                have hn6 : w6.heap[w5.heap.size]? = some (.cells #[.string p.1.g, .string p.1.n, .slice a2 n2 k2, .string p.1.v, .slice a4 n4 k4] 56 (0, 0)) := by rw [← hw6]; exact heap_alloc_new w5 _
                have hc6 := hc5.below hb6 hbw
                have hx6 := (hb6.block Z (Array.getElem?_eq_some_iff.1 hx5).1).trans hx5
                have hr6 := hr5.below hb6
                have hf6 := hf5.stays hb6
                have hp6 : PcF w6 (Out w6 (Z + 1) (.slice va f.length vc)) (CAf w6 (Out w6 (Z + 1) (.slice va f.length vc)) d) p (.string p.1.g) (.string p.1.n) (.slice a2 n2 k2) (.string p.1.v) (.slice a4 n4 k4) := by
                  have hS : Stays (fun j => Out w5 (Z + 1) (.slice va f.length vc) j ∧ j < w5.heap.size) w5 w6 := ⟨hb6.os, hb6.tape, hb6.output, hb6.size, fun j hj => hb6.block j hj.2⟩
                  have hF : ∀ b, Out w5 (Z + 1) (.slice va f.length vc) b → b < w5.heap.size → Out w6 (Z + 1) (.slice va f.length vc) b := fun b hb hl => ⟨hb.1, Nat.lt_of_lt_of_le hl hb6.size, hb.2.2⟩
                  exact hp5.move hS hF (fun _ _ h => CAf.move hS hF h)
                have hZ6 := (Array.getElem?_eq_some_iff.1 hx6).1
                obtain ⟨v', w7, hrun, hf7, hS7, ⟨va', vc', rfl⟩⟩ := hf6.grow (by omega) rfl rfl hp6 (by omega)
                have hlt6 := hf6.lt
                have hx7 := (hS7.block Z ⟨hZ6, fun e => by have := (hlt6 Z e).1; omega⟩).trans hx6
                have hr7 : Rdr w7 b nv lv j3 := (hS7.block b ⟨hr6.lt, fun e => by have := (hlt6 b e).1; omega⟩).trans hr6
                have hc7 := hc6.stays hS7 (fun k hk _ => ⟨by omega, fun e => by have := (hlt6 k e).1; omega⟩) hbw
                have m0 := cell_of_row _ w5.heap.size 0 _ _ _ hn6
                have m1 := cell_of_row _ w5.heap.size 1 _ _ _ hn6
                have m2 := cell_of_row _ w5.heap.size 2 _ _ _ hn6
                have m3 := cell_of_row _ w5.heap.size 3 _ _ _ hn6
                have m4 := cell_of_row _ w5.heap.size 4 _ _ _ hn6
                have z0 := cell_of_row _ Z 0 _ _ _ hx6
                have y0 := cell_of_row _ Z 0 _ _ _ hx7
                have yf := frozen_of_row _ Z 0 _ _ hx7
                have HF := Lib.hid (And.intro hc7 (And.intro hx7 (And.intro hr7 (And.intro hf7 (And.intro hj3 hd3)))))
                have HL := Lib.hid (And.intro hrl HTR.out.2)
                clear hc7 hx7 hr7 hf7 hS7 hc6 hx6 hr6 hf6 hp6 hlt6 hn6 hb6 hc5 hx5 hf5 hp5 hc4 hx4 hr4 hf4 hpc hg5 hr5 hj3 hd3 HC4 C5 hrl HTR
                go_wp2_with (refine list_run rfl _ _ _ rfl _ _ _ rfl rfl hrun ?_)
                go_roundg n
                case measure => omega
                case rel =>
                  obtain ⟨hc7, hx7, hr7, hf7, hj3, hd3⟩ := HF.out
                  refine ⟨n, j3, f ++ [p], .slice va' (f.length + 1) vc', rfl, hj3, by rw [List.length_append]; simp; omega, by rw [hd3]; have := HL.out.1; have := HL.out.2; omega, Lib.hid (by rw [hd3]; exact HE.out), (Below.heap_setCell w7 ⟨Z, 0, none⟩ _ b (by show b ≠ Z; omega)).trans hr7, hc7.stays (stays_set (Stays.refl (fun k => k ≠ Z) w7) (fun h => h rfl)) (fun k hk _ => by omega) hbw, heap_set hx7 _, hf7.set (by show Z < Z + 1; omega) _⟩
          · rw [hb] at hue
            have HE : Hid (R = .ok (.node f) r) := Lib.hid (by have h := HQ2.out; rw [if_pos (show G.isE xs = true from hb)] at h; exact h.symm)
            have hp := hc4.put (.slice va f.length vc)
            have q0 := hp.2
            have f0 := frozen_of_row _ w.heap.size 0 _ _ hc4.r
            have g0 := cell_of_row _ w.heap.size 0 _ _ _ hc4.r
            have HG := Lib.hid hp.1
            clear hp hc4 HQ2 CN HPR
            go_wp2_with fail
            refine bodyPost_ret (v := .tuple #[.agg #[.slice va f.length vc], .int .i64 0, .int .i64 0]) (by simp [results, Tryz.results50, go_sem, q0]) rfl ⟨HG.out, ?_⟩
            rw [HE.out]
            obtain ⟨hc4, hx4, hr4, hf4, hj2, hd2⟩ := HC4.out
            have hS : Stays (fun k => Z + 1 ≤ k ∧ k < w4.heap.size) w4 (w4.setCell ⟨w.heap.size, 0, none⟩ (.slice va f.length vc)) := stays_set (Stays.refl _ _) (fun h => by have := h.1; simp only at this; omega)
            exact ⟨_, rfl, hf4.ca.move hS (fun k h _ => by omega), j2, hj2, (Below.heap_setCell w4 ⟨w.heap.size, 0, none⟩ _ b (by show b ≠ w.heap.size; omega)).trans hr4, hd2⟩
end Go.Proofs.YtjgfbicllgalkaaGreatDoor.Vc

namespace Go.Proofs.YtjgfbicllgalkaaGreatDoor.Vc
set_option maxRecDepth 100000
open Go.RowKit Pp Sq

/-- What the document's Parse hands back. -/
def RefAns (w : World) (a : Vm.Ans G) (e : Ending) (w' : World) : Prop :=
  ∃ cv, e = .returned (.tuple #[.agg #[cv], .int .i64 (a.1 : Int), .int .i64 a.2.1]) ∧ CAt w' w'.heap.size 3 a.2.2 cv ∧ Below w.heap.size w w'
theorem nil_at (w : World) (B k : Nat) : CAt w B (k + 1) (.node []) (.slice none 0 0) := ⟨none, 0, rfl, fun h => absurd rfl h, fun _ _ e => by cases e⟩

set_option maxHeartbeats 2000000 in
theorem refParse_long (s : ByteArray) (w : World) (hs : 4000 < s.size) :
    Calls Tryz.prog 19 #[.string s] w (RefAns w (Vm.fail 0 8)) := by
  have hsz : (4000 : Int) < (s.size : Int) := by omega
  have b1 : Below w.heap.size w (w.alloc (.cells #[.slice none 0 0] 24)) := (Below.refl _ _).alloc (Nat.le_refl _) _
  have q0 := cell_of_row _ w.heap.size 0 _ _ _ (heap_alloc_new w (.cells #[.slice none 0 0] 24))
  go_enter Tryz.func19, Tryz.ntmps19
  go_wp2_with fail
  exact bodyPost_ret (v := .tuple #[.agg #[.slice none 0 0], .int .i64 0, .int .i64 8]) (by simp [results, Tryz.results19, go_sem, q0]) rfl ⟨_, rfl, nil_at _ _ _, b1⟩

/-- What is answered behind the outermost card. -/
def endR : Vm.Res Crd → Vm.Ans G
  | .end_ => Vm.fail 0 1
  | .bad k e => Vm.fail k e
  | .ok c r => match Vm.next G r with
    | none => (0, 0, c)
    | some (x, _) => Vm.fail x.1 6
theorem parse_end (N : Nat) (l : List (Nat × ByteArray)) : Vm.parseR G N l = endR (Vm.cardR G N 3 l) := by
  unfold Vm.parseR endR
  cases Vm.cardR G N 3 l <;> rfl
/-- The result's cell. -/
theorem put_res {w W : World} {v v' : Value} (h : W.heap[w.heap.size]? = some (.cells #[v] 24 (0, 0))) (hb : Below w.heap.size w W) : (W.setCell ⟨w.heap.size, 0, none⟩ v').cell? ⟨w.heap.size, 0, none⟩ = some v' ∧ Below w.heap.size w (W.setCell ⟨w.heap.size, 0, none⟩ v') :=
  ⟨cell_of_row _ w.heap.size 0 _ _ _ (heap_set h v'), hb.setCell (Nat.le_refl _) _⟩
theorem after_card {w w4 w5 : World} {b : Nat} (h0 : w4.heap[w.heap.size]? = some (.cells #[.slice none 0 0] 24 (0, 0))) (hb : Below w.heap.size w w4) (hlt : w.heap.size < b) (hg : w4.grownBy w5 (some b)) :
    w5.heap[w.heap.size]? = some (.cells #[.slice none 0 0] 24 (0, 0)) ∧ Below w.heap.size w w5 := by
  have hl := (Array.getElem?_eq_some_iff.1 h0).1
  exact ⟨(hg.block _ hl (fun e => by injection e with e; omega)).trans h0, hb.grown hg (by omega) (fun k e => by injection e with e; omega)⟩
theorem box_card {w w5 : World} {sv : Value} (h0 : w5.heap[w.heap.size]? = some (.cells #[.slice none 0 0] 24 (0, 0))) (hb : Below w.heap.size w w5) :
    (w5.alloc (.cells #[sv] 24)).heap[w.heap.size]? = some (.cells #[.slice none 0 0] 24 (0, 0)) ∧ Below w.heap.size w (w5.alloc (.cells #[sv] 24)) ∧ (w5.alloc (.cells #[sv] 24)).heap[w5.heap.size]? = some (.cells #[sv] 24 (0, 0)) ∧ Below w5.heap.size w5 (w5.alloc (.cells #[sv] 24)) := by
  have hl := (Array.getElem?_eq_some_iff.1 h0).1
  have hba : Below w5.heap.size w5 (w5.alloc (.cells #[sv] 24)) := (Below.refl _ _).alloc (Nat.le_refl _) _
  exact ⟨(hba.block _ hl).trans h0, hb.trans (hba.mono hb.size), heap_alloc_new w5 _, hba⟩
theorem keep_card {w5 w6 w7 : World} {B b r : Nat} {c : Crd} {v u : Value} (hc : CAf w5 (fun j => B ≤ j) 3 c v) (h56 : Below w5.heap.size w5 w6) (h67 : w6.grownBy w7 (some b)) (hb : b < B) (hr : r < B) : CAt (w7.setCell ⟨r, 0, none⟩ u) (w7.setCell ⟨r, 0, none⟩ u).heap.size 3 c v := by
  have hS : Stays (fun k => B ≤ k ∧ k < w5.heap.size) w5 (w7.setCell ⟨r, 0, none⟩ u) :=
    ⟨h67.os.trans h56.os, h67.tape.trans h56.tape, h67.output.trans h56.output, by rw [World.size_setCell]; exact Nat.le_trans h56.size h67.size, fun k hk => (Below.heap_setCell w7 ⟨r, 0, none⟩ u k (by show k ≠ r; omega)).trans ((h67.block k (Nat.lt_of_lt_of_le hk.2 h56.size) (fun e => by injection e with e; omega)).trans (h56.block k hk.2))⟩
  exact (hc.move hS (fun _ h _ => h)).ca
set_option maxHeartbeats 4000000 in
theorem refParse_in (N : Nat) (s : ByteArray) (w : World) (hs : s.size ≤ 4000) (hN : ((Ln.eachL s).map lnB).length < N) (hN2 : N ≤ 1048576) (ht : tot ((Ln.eachL s).map lnB) ≤ 1048576) (HC : CardOk N 3) :
    Calls Tryz.prog 19 #[.string s] w (RefAns w (Vm.parseR G N ((Ln.eachL s).map lnB))) := by
  have hsz : ¬ (4000 : Int) < (s.size : Int) := by omega
  have h1 := Ln.split_length s.data.toList
  have h2 := Ln.split_bytes s.data.toList
  have hls : s.data.toList.length = s.size := by rw [Array.length_toList]; rfl
  rw [hls] at h1 h2
  have C1 := Lib.hid (fun W => Ln.refSplit_any s (by omega) W)
  have C2 : Hid (∀ W v, Strs.Reads W v (Ln.split s.data.toList) → Calls Tryz.prog 48 #[v] W (Ln.NumRows W (Ln.eachL s))) := Lib.hid (fun W v h => Ln.refNum_any v _ (by omega) (by omega) W h)
  clear h1 h2
  have hLS : ∀ (W W' : World) (v v' : Value) (base : Nat), Ln.Ints W base v ((Ln.eachL s).map (·.1)) → Strs.Strs W base v' ((Ln.eachL s).map (·.2)) → ∀ b, W.heap.size ≤ b → LsAt W b v v' ((Ln.eachL s).map lnB) := fun W W' v v' base h1 h2 b hb => ls_of_rows h1 h2 hb
  obtain ⟨R, hR⟩ : ∃ R, Vm.cardR G N 3 ((Ln.eachL s).map lnB) = R := ⟨_, rfl⟩
  rw [parse_end, hR]
  have hRe := Lib.hid hR
  have CR : Hid (∀ W b nv lv, Rdr W b nv lv 0 → LsAt W b nv lv ((Ln.eachL s).map lnB) → Calls Tryz.prog 50 #[.pointer (some ⟨b, 0, none⟩), .int .i64 1] W (CardAns W b nv lv ((Ln.eachL s).map lnB) 3 R)) := Lib.hid (fun W b nv lv h1 h2 => by
    have := HC W b 0 nv lv _ h1 h2 (Nat.zero_le _) hN hN2 ht
    rw [List.drop_zero, hR] at this
    exact this)
  have HLS := Lib.hid hLS
  have CN := Lib.hid (fun W b i nv lv h1 h2 h3 => refNext_any false ((Ln.eachL s).map lnB) b i nv lv W h1 h2 h3 (by omega) (fun x hx => by
    have := le_tot hx
    omega))
  clear hR HC hLS ht hN
  obtain ⟨L, hL⟩ : ∃ L, (Ln.eachL s).map lnB = L := ⟨_, rfl⟩
  rw [hL] at CR HLS CN hRe
  clear hL
  have b1 : Below w.heap.size w (w.alloc (.cells #[.slice none 0 0] 24)) := (Below.refl _ _).alloc (Nat.le_refl _) _
  have hq1 : (w.alloc (.cells #[.slice none 0 0] 24)).heap[w.heap.size]? = some (.cells #[.slice none 0 0] 24 (0, 0)) := heap_alloc_new w _
  have HB1 : Hid (∀ w2 w3, Below (w.alloc (.cells #[.slice none 0 0] 24)).heap.size (w.alloc (.cells #[.slice none 0 0] 24)) w2 → Below w2.heap.size w2 w3 → ∀ w4, Below w3.heap.size w3 w4 → w4.heap[w.heap.size]? = some (.cells #[.slice none 0 0] 24 (0, 0)) ∧ Below w.heap.size w w4 ∧ w.heap.size < w3.heap.size) := Lib.hid (fun w2 w3 h2 h3 w4 h4 => by
    have hz := h2.size
    have hz3 := h3.size
    have h24 := h2.trans ((h3.trans (h4.mono hz3)).mono hz)
    rw [World.size_alloc] at hz h24
    exact ⟨(h24.block _ (by omega)).trans hq1, b1.trans (h24.mono (by omega)), by omega⟩)
  clear b1 hq1
  cases R with
  | end_ =>
    go_enter Tryz.func19, Tryz.ntmps19
    go_wp2_with fail
    refine (C1.out _).mono ?_
    rintro e w2 ⟨v, rfl, hS, b2⟩
    go_wp2_with fail
    refine (C2.out _ _ hS.reads).mono ?_
    rintro e w3 ⟨v1, v2, rfl, hI, hS2, b3⟩
    obtain ⟨na, nc, la, lc, rfl, rfl, hcs⟩ := HLS.out w3 w3 v1 v2 _ hI hS2 w3.heap.size (Nat.le_refl _)
    have hr4 : Rdr (w3.alloc (.cells #[.slice na L.length nc, .slice la L.length lc, .int .i64 0] 77)) w3.heap.size (.slice na L.length nc) (.slice la L.length lc) 0 := heap_alloc_new w3 _
    have ba : Below w3.heap.size w3 (w3.alloc (.cells #[.slice na L.length nc, .slice la L.length lc, .int .i64 0] 77)) := (Below.refl _ _).alloc (Nat.le_refl _) _
    have hl4 : LsAt (w3.alloc (.cells #[.slice na L.length nc, .slice la L.length lc, .int .i64 0] 77)) w3.heap.size (.slice na L.length nc) (.slice la L.length lc) L := LsAt.below ⟨na, nc, la, lc, rfl, rfl, hcs⟩ ba
    have b34 := HB1.out _ _ b2 b3 _ ba
    have C4 := Lib.hid (CR.out _ _ _ _ hr4 hl4)
    have HL4 := Lib.hid hl4
    have HR4 := Lib.hid hr4.lt
    clear CR C1 C2 HLS hS hI hS2 hcs b2 b3 ba hr4 hl4
    go_wp2_with fail
    refine C4.out.mono ?_
    rintro e w5 ⟨hg5, rfl⟩
    obtain ⟨h5, b5⟩ := after_card b34.1 b34.2.1 b34.2.2 hg5
    obtain ⟨h6, b6, -, -⟩ := box_card (sv := .slice none 0 0) h5 b5
    have p7 := put_res (v' := .slice none 0 0) h6 b6
    have q0 := p7.1
    have f0 := frozen_of_row _ w.heap.size 0 _ _ h6
    have g0 := cell_of_row _ w.heap.size 0 _ _ _ h6
    have HB := Lib.hid p7.2
    clear p7 h5 b5 h6 b6 b34 hg5 HB1 HL4 HR4 C4 CN
    go_wp2_with fail
    exact bodyPost_ret (v := .tuple #[.agg #[.slice none 0 0], .int .i64 0, .int .i64 1]) (by simp [results, Tryz.results19, go_sem, q0]) rfl ⟨_, rfl, nil_at _ _ _, HB.out⟩
  | bad k er =>
    have hne : er ≠ 0 := Vm.card_bad 3 _ _ _ hRe.out
    have hneb : (er == 0) = false := by simpa using hne
    go_enter Tryz.func19, Tryz.ntmps19
    go_wp2_with fail
    refine (C1.out _).mono ?_
    rintro e w2 ⟨v, rfl, hS, b2⟩
    go_wp2_with fail
    refine (C2.out _ _ hS.reads).mono ?_
    rintro e w3 ⟨v1, v2, rfl, hI, hS2, b3⟩
    obtain ⟨na, nc, la, lc, rfl, rfl, hcs⟩ := HLS.out w3 w3 v1 v2 _ hI hS2 w3.heap.size (Nat.le_refl _)
    have hr4 : Rdr (w3.alloc (.cells #[.slice na L.length nc, .slice la L.length lc, .int .i64 0] 77)) w3.heap.size (.slice na L.length nc) (.slice la L.length lc) 0 := heap_alloc_new w3 _
    have ba : Below w3.heap.size w3 (w3.alloc (.cells #[.slice na L.length nc, .slice la L.length lc, .int .i64 0] 77)) := (Below.refl _ _).alloc (Nat.le_refl _) _
    have hl4 : LsAt (w3.alloc (.cells #[.slice na L.length nc, .slice la L.length lc, .int .i64 0] 77)) w3.heap.size (.slice na L.length nc) (.slice la L.length lc) L := LsAt.below ⟨na, nc, la, lc, rfl, rfl, hcs⟩ ba
    have b34 := HB1.out _ _ b2 b3 _ ba
    have C4 := Lib.hid (CR.out _ _ _ _ hr4 hl4)
    have HL4 := Lib.hid hl4
    have HR4 := Lib.hid hr4.lt
    clear CR C1 C2 HLS hS hI hS2 hcs b2 b3 ba hr4 hl4
    go_wp2_with fail
    refine C4.out.mono ?_
    rintro e w5 ⟨hg5, rfl⟩
    obtain ⟨h5, b5⟩ := after_card b34.1 b34.2.1 b34.2.2 hg5
    obtain ⟨h6, b6, -, -⟩ := box_card (sv := .slice none 0 0) h5 b5
    have p7 := put_res (v' := .slice none 0 0) h6 b6
    have q0 := p7.1
    have f0 := frozen_of_row _ w.heap.size 0 _ _ h6
    have g0 := cell_of_row _ w.heap.size 0 _ _ _ h6
    have HB := Lib.hid p7.2
    clear p7 h5 b5 h6 b6 b34 hg5 HB1 HL4 HR4 C4 CN
    go_wp2_with fail
    exact bodyPost_ret (v := .tuple #[.agg #[.slice none 0 0], .int .i64 (k : Int), .int .i64 er]) (by simp [results, Tryz.results19, go_sem, q0]) rfl ⟨_, rfl, nil_at _ _ _, HB.out⟩
  | ok c r =>
    cases hn : Vm.next G r with
    | none =>
      have hE : endR (.ok c r) = (0, 0, c) := by unfold endR; simp only [hn]
      rw [hE]
      go_enter Tryz.func19, Tryz.ntmps19
      go_wp2_with fail
      refine (C1.out _).mono ?_
      rintro e w2 ⟨v, rfl, hS, b2⟩
      go_wp2_with fail
      refine (C2.out _ _ hS.reads).mono ?_
      rintro e w3 ⟨v1, v2, rfl, hI, hS2, b3⟩
      obtain ⟨na, nc, la, lc, rfl, rfl, hcs⟩ := HLS.out w3 w3 v1 v2 _ hI hS2 w3.heap.size (Nat.le_refl _)
      have hr4 : Rdr (w3.alloc (.cells #[.slice na L.length nc, .slice la L.length lc, .int .i64 0] 77)) w3.heap.size (.slice na L.length nc) (.slice la L.length lc) 0 := heap_alloc_new w3 _
      have ba : Below w3.heap.size w3 (w3.alloc (.cells #[.slice na L.length nc, .slice la L.length lc, .int .i64 0] 77)) := (Below.refl _ _).alloc (Nat.le_refl _) _
      have hl4 : LsAt (w3.alloc (.cells #[.slice na L.length nc, .slice la L.length lc, .int .i64 0] 77)) w3.heap.size (.slice na L.length nc) (.slice la L.length lc) L := LsAt.below ⟨na, nc, la, lc, rfl, rfl, hcs⟩ ba
      have b34 := HB1.out _ _ b2 b3 _ ba
      have C4 := Lib.hid (CR.out _ _ _ _ hr4 hl4)
      have HL4 := Lib.hid hl4
      have HR4 := Lib.hid hr4.lt
      clear CR C1 C2 HLS hS hI hS2 hcs b2 b3 ba hr4 hl4
      go_wp2_with fail
      refine C4.out.mono ?_
      rintro e w5 ⟨hg5, sv, rfl, hc5, i, hi, hr5, hd⟩
      obtain ⟨sa, sn, sc, rfl⟩ := hc5.one
      obtain ⟨h5, b5⟩ := after_card b34.1 b34.2.1 b34.2.2 hg5
      obtain ⟨h6, b6, h6n, ba6⟩ := box_card (sv := .slice sa sn sc) h5 b5
      have hr6 : Rdr (w5.alloc (.cells #[.slice sa sn sc] 24)) w3.heap.size (.slice na L.length nc) (.slice la L.length lc) i := (ba6.block _ hr5.lt).trans hr5
      have hl6 : LsAt (w5.alloc (.cells #[.slice sa sn sc] 24)) w3.heap.size (.slice na L.length nc) (.slice la L.length lc) L := LsAt.below (LsAt.grown HL4.out hg5 (Nat.le_of_lt HR4.out)) (ba6.mono (Nat.le_of_lt hr5.lt))
      have C6 := Lib.hid (CN.out _ _ _ _ _ hr6 hl6 hi)
      rw [hd] at C6
      unfold nextAns at C6
      rw [nextL_next, hn] at C6
      go_wp2_with fail
      refine C6.out.mono ?_
      rintro e w7 ⟨rfl, -, hg7⟩
      have hlt3 : w3.heap.size < w5.heap.size := hr5.lt
      have hl6n := (Array.getElem?_eq_some_iff.1 h6n).1
      obtain ⟨h7, b7⟩ := after_card h6 b6 b34.2.2 hg7
      have n7 := (hg7.block _ hl6n (fun e => by injection e with e; omega)).trans h6n
      have m0 := cell_of_row _ w5.heap.size 0 _ _ _ n7
      have p8 := put_res (v' := .slice sa sn sc) h7 b7
      have q0 := p8.1
      have f0 := frozen_of_row _ w.heap.size 0 _ _ h7
      have g0 := cell_of_row _ w.heap.size 0 _ _ _ h7
      have HB := Lib.hid p8.2
      have HK := Lib.hid (keep_card (r := w.heap.size) (u := .slice sa sn sc) hc5 ba6 hg7 HR4.out (by have := HR4.out; omega))
      clear p8 h5 b5 h6 b6 h7 b7 n7 h6n ba6 hr6 hl6 hc5 hr5 b34 hg5 hg7 HB1 HL4 HR4 C4 C6 CN hl6n
      go_wp2_with fail
      exact bodyPost_ret (v := .tuple #[.agg #[.slice sa sn sc], .int .i64 0, .int .i64 0]) (by simp [results, Tryz.results19, go_sem, q0]) rfl ⟨_, rfl, HK.out, HB.out⟩
    | some x =>
      have hE : endR (.ok c r) = Vm.fail x.1.1 6 := by unfold endR; simp only [hn]
      rw [hE]
      go_enter Tryz.func19, Tryz.ntmps19
      go_wp2_with fail
      refine (C1.out _).mono ?_
      rintro e w2 ⟨v, rfl, hS, b2⟩
      go_wp2_with fail
      refine (C2.out _ _ hS.reads).mono ?_
      rintro e w3 ⟨v1, v2, rfl, hI, hS2, b3⟩
      obtain ⟨na, nc, la, lc, rfl, rfl, hcs⟩ := HLS.out w3 w3 v1 v2 _ hI hS2 w3.heap.size (Nat.le_refl _)
      have hr4 : Rdr (w3.alloc (.cells #[.slice na L.length nc, .slice la L.length lc, .int .i64 0] 77)) w3.heap.size (.slice na L.length nc) (.slice la L.length lc) 0 := heap_alloc_new w3 _
      have ba : Below w3.heap.size w3 (w3.alloc (.cells #[.slice na L.length nc, .slice la L.length lc, .int .i64 0] 77)) := (Below.refl _ _).alloc (Nat.le_refl _) _
      have hl4 : LsAt (w3.alloc (.cells #[.slice na L.length nc, .slice la L.length lc, .int .i64 0] 77)) w3.heap.size (.slice na L.length nc) (.slice la L.length lc) L := LsAt.below ⟨na, nc, la, lc, rfl, rfl, hcs⟩ ba
      have b34 := HB1.out _ _ b2 b3 _ ba
      have C4 := Lib.hid (CR.out _ _ _ _ hr4 hl4)
      have HL4 := Lib.hid hl4
      have HR4 := Lib.hid hr4.lt
      clear CR C1 C2 HLS hS hI hS2 hcs b2 b3 ba hr4 hl4
      go_wp2_with fail
      refine C4.out.mono ?_
      rintro e w5 ⟨hg5, sv, rfl, hc5, i, hi, hr5, hd⟩
      obtain ⟨sa, sn, sc, rfl⟩ := hc5.one
      obtain ⟨h5, b5⟩ := after_card b34.1 b34.2.1 b34.2.2 hg5
      obtain ⟨h6, b6, h6n, ba6⟩ := box_card (sv := .slice sa sn sc) h5 b5
      have hr6 : Rdr (w5.alloc (.cells #[.slice sa sn sc] 24)) w3.heap.size (.slice na L.length nc) (.slice la L.length lc) i := (ba6.block _ hr5.lt).trans hr5
      have hl6 : LsAt (w5.alloc (.cells #[.slice sa sn sc] 24)) w3.heap.size (.slice na L.length nc) (.slice la L.length lc) L := LsAt.below (LsAt.grown HL4.out hg5 (Nat.le_of_lt HR4.out)) (ba6.mono (Nat.le_of_lt hr5.lt))
      have C6 := Lib.hid (CN.out _ _ _ _ _ hr6 hl6 hi)
      rw [hd] at C6
      unfold nextAns at C6
      rw [nextL_next, hn] at C6
      go_wp2_with fail
      refine C6.out.mono ?_
      rintro e w7 ⟨rfl, -, hg7⟩
      have hlt3 : w3.heap.size < w5.heap.size := hr5.lt
      have hl6n := (Array.getElem?_eq_some_iff.1 h6n).1
      obtain ⟨h7, b7⟩ := after_card h6 b6 b34.2.2 hg7
      have n7 := (hg7.block _ hl6n (fun e => by injection e with e; omega)).trans h6n
      have m0 := cell_of_row _ w5.heap.size 0 _ _ _ n7
      have p8 := put_res (v' := .slice none 0 0) h7 b7
      have q0 := p8.1
      have f0 := frozen_of_row _ w.heap.size 0 _ _ h7
      have g0 := cell_of_row _ w.heap.size 0 _ _ _ h7
      have HB := Lib.hid p8.2
      clear p8 h5 b5 h6 b6 h7 b7 n7 h6n ba6 hr6 hl6 hc5 hr5 b34 hg5 hg7 HB1 HL4 HR4 C4 C6 CN hl6n
      go_wp2_with fail
      exact bodyPost_ret (v := .tuple #[.agg #[.slice none 0 0], .int .i64 (x.1.1 : Int), .int .i64 6]) (by simp [results, Tryz.results19, go_sem, q0]) rfl ⟨_, rfl, nil_at _ _ _, HB.out⟩
end Go.Proofs.YtjgfbicllgalkaaGreatDoor.Vc

namespace Go.Proofs.YtjgfbicllgalkaaGreatDoor.Vc
set_option maxRecDepth 100000
open Go.RowKit Pp Sq

/-- What a step hands back. -/
def Took (w : World) (rb base : Nat) (M : Nat → Prop) (o : Vm.Out G) (e : Ending) (w' : World) : Prop :=
  match o with
  | .go s => e = .returned (.int .i64 0) ∧ RdAt w' rb base (fun k => M k ∨ w.heap.size ≤ k) s ∧ Fin M w w'
  | .bad k er => e = .returned (.int .i64 er) ∧ w'.cell? ⟨rb, 1, none⟩ = some (.int .i64 (k : Int)) ∧ Fin M w w'

theorem grown_cell9 {w w' : World} {r : Option Nat} {b o : Nat} (h : w.grownBy w' r) (hb : b < w.heap.size) (hr : r ≠ some b) : w'.cell? ⟨b, o, none⟩ = w.cell? ⟨b, o, none⟩ := World.cell?_of_block (a := ⟨b, o, none⟩) (h.block b hb (fun e => hr e.symm))
theorem cell_al {w : World} {o : Obj} {a : Addr} {v : Value} (h : w.cell? a = some v) : (w.alloc o).cell? a = some v := (World.cell?_of_block (((Below.refl _ w).alloc (Nat.le_refl _) o).block a.block (World.block_lt_of_cell? w a h))).trans h
theorem prat_grown {w w' : World} {r : Option Nat} {b : Nat} {g n v : ByteArray} {pv av : Value} (h : PrAt w b g n pv v av) (hg : w.grownBy w' r) (hb : b < w.heap.size) (hr : some b ≠ r) : PrAt w' b g n pv v av := (hg.block b hb hr).trans h
theorem six_grown {w w' : World} {r : Option Nat} {b : Nat} {v4 v5 v6 v7 v8 v9 : Value} (h : w.cell? ⟨b, 4, none⟩ = some v4 ∧ w.cell? ⟨b, 5, none⟩ = some v5 ∧ w.cell? ⟨b, 6, none⟩ = some v6 ∧ w.cell? ⟨b, 7, none⟩ = some v7 ∧ w.cell? ⟨b, 8, none⟩ = some v8 ∧ w.cell? ⟨b, 9, none⟩ = some v9) (hg : w.grownBy w' r) (hb : b < w.heap.size) (hr : r ≠ some b) :
    w'.cell? ⟨b, 4, none⟩ = some v4 ∧ w'.cell? ⟨b, 5, none⟩ = some v5 ∧ w'.cell? ⟨b, 6, none⟩ = some v6 ∧ w'.cell? ⟨b, 7, none⟩ = some v7 ∧ w'.cell? ⟨b, 8, none⟩ = some v8 ∧ w'.cell? ⟨b, 9, none⟩ = some v9 :=
  ⟨(grown_cell9 hg hb hr).trans h.1, (grown_cell9 hg hb hr).trans h.2.1, (grown_cell9 hg hb hr).trans h.2.2.1, (grown_cell9 hg hb hr).trans h.2.2.2.1, (grown_cell9 hg hb hr).trans h.2.2.2.2.1, (grown_cell9 hg hb hr).trans h.2.2.2.2.2⟩
theorem six_set {w : World} {b z o : Nat} {u v4 v5 v6 v7 v8 v9 : Value} (h : w.cell? ⟨b, 4, none⟩ = some v4 ∧ w.cell? ⟨b, 5, none⟩ = some v5 ∧ w.cell? ⟨b, 6, none⟩ = some v6 ∧ w.cell? ⟨b, 7, none⟩ = some v7 ∧ w.cell? ⟨b, 8, none⟩ = some v8 ∧ w.cell? ⟨b, 9, none⟩ = some v9) (hb : b ≠ z) :
    (w.setCell ⟨z, o, none⟩ u).cell? ⟨b, 4, none⟩ = some v4 ∧ (w.setCell ⟨z, o, none⟩ u).cell? ⟨b, 5, none⟩ = some v5 ∧ (w.setCell ⟨z, o, none⟩ u).cell? ⟨b, 6, none⟩ = some v6 ∧ (w.setCell ⟨z, o, none⟩ u).cell? ⟨b, 7, none⟩ = some v7 ∧ (w.setCell ⟨z, o, none⟩ u).cell? ⟨b, 8, none⟩ = some v8 ∧ (w.setCell ⟨z, o, none⟩ u).cell? ⟨b, 9, none⟩ = some v9 := by
  have E : ∀ i, (w.setCell ⟨z, o, none⟩ u).cell? ⟨b, i, none⟩ = w.cell? ⟨b, i, none⟩ := fun i => World.cell?_of_block (a := ⟨b, i, none⟩) (Below.heap_setCell w ⟨z, o, none⟩ u b hb)
  exact ⟨(E 4).trans h.1, (E 5).trans h.2.1, (E 6).trans h.2.2.1, (E 7).trans h.2.2.2.1, (E 8).trans h.2.2.2.2.1, (E 9).trans h.2.2.2.2.2⟩
theorem gr_al {w w1 : World} {r : Option Nat} {o : Obj} (h : w.drew.grownBy w1 r) : w.grownBy (w1.alloc o) r :=
  grown_below (w := w) (W := w1) ⟨h.os, h.tape, h.output, h.size, h.block⟩ h.size ((Below.refl w.heap.size w1).alloc h.size o)
theorem gr_be {w w1 : World} {r : Option Nat} {o : Obj} (hb : Below w.heap.size w (w.alloc o)) (h : (w.alloc o).drew.grownBy w1 r) : w.grownBy w1 r :=
  ⟨h.os.trans hb.os, h.tape.trans hb.tape, h.output.trans hb.output, Nat.le_trans hb.size h.size, fun k hk hne => (h.block k (Nat.lt_of_lt_of_le hk hb.size) hne).trans (hb.block k hk)⟩
theorem six_al {w : World} {o : Obj} {b : Nat} {v4 v5 v6 v7 v8 v9 : Value} (h : w.cell? ⟨b, 4, none⟩ = some v4 ∧ w.cell? ⟨b, 5, none⟩ = some v5 ∧ w.cell? ⟨b, 6, none⟩ = some v6 ∧ w.cell? ⟨b, 7, none⟩ = some v7 ∧ w.cell? ⟨b, 8, none⟩ = some v8 ∧ w.cell? ⟨b, 9, none⟩ = some v9) :
    (w.alloc o).cell? ⟨b, 4, none⟩ = some v4 ∧ (w.alloc o).cell? ⟨b, 5, none⟩ = some v5 ∧ (w.alloc o).cell? ⟨b, 6, none⟩ = some v6 ∧ (w.alloc o).cell? ⟨b, 7, none⟩ = some v7 ∧ (w.alloc o).cell? ⟨b, 8, none⟩ = some v8 ∧ (w.alloc o).cell? ⟨b, 9, none⟩ = some v9 :=
  ⟨cell_al h.1, cell_al h.2.1, cell_al h.2.2.1, cell_al h.2.2.2.1, cell_al h.2.2.2.2.1, cell_al h.2.2.2.2.2⟩
theorem OpAt.notX {w : World} {rb base og oc n : Nat} {M X : Nat → Prop} {os : List Fr} (h : OpAt w rb base M X os (.slice (some ⟨og, 0, none⟩) n oc)) (hx : X og) : False := by
  obtain ⟨F, vs, _, _, _, h4, _⟩ := h
  obtain ⟨_, e⟩ := row_shape ‹_›
  simp only [Value.slice.injEq] at e
  obtain ⟨_, rfl, _⟩ := e
  exact (h4 og rfl).2.2 hx
theorem OpAt.top_lt {w : World} {rb base og oc : Nat} {M X : Nat → Prop} {f : Fr} {os : List Fr} {v : Value} (h : OpAt w rb base M X (f :: os) (.slice (some ⟨og, 0, none⟩) (os.length + 1) oc)) (t : w.cell? ⟨og, os.length, none⟩ = some v) (g : Nat) (hg : v.ownBlock = some g) : g < w.heap.size := by
  obtain ⟨F, vs, h1, h2, h3, h4, h5⟩ := h
  match vs, h2, h1, h5 with
  | [], h2, _, _ => exact h2.elim
  | v0 :: vs, h2, h1, h5 =>
    have hvl := h2.2.2.len
    have c1 := row_cell h1 (j := os.length) (u := v0) (by rw [List.reverse_cons, List.getElem?_append_right (by simp [hvl])]; simp [hvl])
    rw [t] at c1
    cases c1
    exact (h2.lt v (List.mem_cons_self ..) g hg).2
/-- What lies there behind asMeant: its property in a box, its error. -/
def MeantAt (w wc : World) (r : Option Nat) (p : Pd) (er : Int) (xv yv : Value) : Prop :=
  ∃ (Z : Nat) (xa : Option Addr) (xc : Nat), xv = .pointer (some ⟨Z, 0, none⟩) ∧ yv = .int .i64 er ∧ PrAt wc Z p.g p.n (.slice xa p.ps.length xc) p.v (.slice none 0 0) ∧ Ps wc wc.heap.size (.slice xa p.ps.length xc) p.ps ∧ (∀ k, (Value.slice xa p.ps.length xc).ownBlock = some k → r = some k) ∧ w.grownBy wc r ∧ w.heap.size ≤ Z
theorem relA {w w1 : World} {r : Option Nat} {p : Pd} {er : Int} {xa : Option Addr} {xc : Nat} (hps : Ps w1 w1.heap.size (.slice xa p.ps.length xc) p.ps) (hob : ∀ k, (Value.slice xa p.ps.length xc).ownBlock = some k → r = some k) (hg : w.drew.grownBy w1 r) :
    MeantAt w (w1.alloc (.cells #[.string p.g, .string p.n, .slice xa p.ps.length xc, .string p.v, .slice none 0 0] 56)) r p er (.pointer (some ⟨w1.heap.size, 0, none⟩)) (.int .i64 er) :=
  ⟨w1.heap.size, xa, xc, rfl, rfl, heap_alloc_new w1 _, (hps.below ((Below.refl _ _).alloc (Nat.le_refl _) _)).up (by rw [World.size_alloc]; omega), hob, gr_al hg, hg.size⟩
theorem relB {w w1 : World} {o : Obj} {r : Option Nat} {p : Pd} {er : Int} {xa : Option Addr} {xc : Nat} {g n v : ByteArray} {pv av : Value} (hps : Ps w1 w1.heap.size (.slice xa p.ps.length xc) p.ps) (hob : ∀ k, (Value.slice xa p.ps.length xc).ownBlock = some k → r = some k) (hb : Below w.heap.size w (w.alloc o)) (hg : (w.alloc o).drew.grownBy w1 r) (hz : PrAt w1 w.heap.size g n pv v av) (hr : ∀ k, r = some k → k < w.heap.size) :
    MeantAt w (((((w1.setCell ⟨w.heap.size, 0, none⟩ (.string p.g)).setCell ⟨w.heap.size, 1, none⟩ (.string p.n)).setCell ⟨w.heap.size, 2, none⟩ (.slice xa p.ps.length xc)).setCell ⟨w.heap.size, 3, none⟩ (.string p.v)).setCell ⟨w.heap.size, 4, none⟩ (.slice none 0 0)) r p er (.pointer (some ⟨w.heap.size, 0, none⟩)) (.int .i64 er) :=
  ⟨w.heap.size, xa, xc, rfl, rfl, ((((hz.set0 _).set1 _).set2 _).set3 _).set4 _, ps5 hps (fun k e => by have := hr k (hob k e); omega) _ _ _ _ _, hob, set5 (gr_be hb hg) (Nat.le_refl _) _ _ _ _ _, Nat.le_refl _⟩
set_option maxHeartbeats 1600000 in
theorem value_tail (rb base : Nat) (M : Nat → Prop) (k : Nat) (f : Fr) (os : List Fr) (c : Crd) (q : Par) (ov cv pv : Value) (w : World)
    (hR : RdC w rb 2 k ov cv q.g q.n pv q.v (.slice none 0 0) (wayV q.ps) false) (hM : M rb) (hown : Pp.Own w base pv q.ps) (hpvM : ∀ g, pv.ownBlock = some g → M g ∧ g ≠ rb) (hO : OpAt w rb base M (fun k => pv.ownBlock = some k) (f :: os) ov)
    (hlen : os.length ≤ 2) (hf : f.length < 24) (hv : q.v.size ≤ 1048576) (hl : q.ps.length ≤ 100) (hps : ∀ x ∈ q.ps, x.2.size ≤ 1048576) (hbs : base ≤ w.heap.size) (T : Qu.Tabs w) (hd1 : (decW (wayV q.ps) q.v).1.size ≤ 1048576) (hqp : ¬ (wayV q.ps).toList = [81, 85, 79, 84, 69, 68, 45, 80, 82, 73, 78, 84, 65, 66, 76, 69]) :
    Calls Tryz.prog 79 #[.pointer (some ⟨rb, 0, none⟩)] w (Took w rb base M (Vm.takeD (G := G) k (f :: os) c q)) := by
  have hshape := hown.ps.shape
  obtain ⟨pa, pc, rfl⟩ := hshape
  have bd : Below w.heap.size w w.drew := (Below.refl _ _).drew
  have CA := Lib.hid (fun W (hb : Below w.heap.size w W) => asMeant_any (wayV q.ps) q.g q.n (.slice pa q.ps.length pc) q.v q.ps base W (hown.below hb) hl hv hps (T.below hb) hd1)
  unfold prV at CA
  unfold Vm.takeD
  obtain ⟨⟨er, p⟩, hmean⟩ : ∃ x, meanW (wayV q.ps) q.g q.n q.ps q.v = x := ⟨_, rfl⟩
  have hmean' : G.mean q = (er, p) := hmean
  rw [hmean']
  rw [hmean] at CA
  simp only at CA ⊢
  unfold Meant prV at CA
  simp only at CA
  generalize hOut : (if er ≠ 0 then Vm.Out.bad k er else if G.agent p = false then Vm.Out.go (Vm.St.at_ 2 (Vm.addP (f :: os) (p, [])) c) else if G.hasV p = true then Vm.Out.bad k 5 else if (f :: os).length = 3 then Vm.Out.bad k 9 else Vm.Out.go (Vm.St.at_ 0 (Vm.addP (f :: os) (p, [])) c) : Vm.Out G) = OUT
  have HOUT := Lib.hid hOut
  clear hOut
  have hb9 : ((wayV q.ps).toList == [81, 85, 79, 84, 69, 68, 45, 80, 82, 73, 78, 84, 65, 66, 76, 69]) = false := by simpa using hqp
  have c9 := hR.c9
  have c4 := hR.c4
  have c5 := hR.c5
  have c6 := hR.c6
  have c7 := hR.c7
  have c8 := hR.c8
  have hrb := hR.lt
  have hrbd : rb < w.drew.heap.size := hrb
  have ba : Below w.heap.size w (w.alloc (.cells #[.string ⟨#[]⟩, .string ⟨#[]⟩, .slice none 0 0, .string ⟨#[]⟩, .slice none 0 0] 56)) := (Below.refl _ _).alloc (Nat.le_refl _) _
  have bda : Below w.heap.size w (w.alloc (.cells #[.string ⟨#[]⟩, .string ⟨#[]⟩, .slice none 0 0, .string ⟨#[]⟩, .slice none 0 0] 56)).drew := ba.drew
  have hA := hR.kept (ba.block rb hrb)
  have sc : w.cell? ⟨rb, 4, none⟩ = some (.string q.g) ∧ w.cell? ⟨rb, 5, none⟩ = some (.string q.n) ∧ w.cell? ⟨rb, 6, none⟩ = some (.slice pa q.ps.length pc) ∧ w.cell? ⟨rb, 7, none⟩ = some (.string q.v) ∧ w.cell? ⟨rb, 8, none⟩ = some (.slice none 0 0) ∧ w.cell? ⟨rb, 9, none⟩ = some (.string (wayV q.ps)) := ⟨hR.c4, hR.c5, hR.c6, hR.c7, hR.c8, hR.c9⟩
  have scd : w.drew.cell? ⟨rb, 4, none⟩ = some (.string q.g) ∧ w.drew.cell? ⟨rb, 5, none⟩ = some (.string q.n) ∧ w.drew.cell? ⟨rb, 6, none⟩ = some (.slice pa q.ps.length pc) ∧ w.drew.cell? ⟨rb, 7, none⟩ = some (.string q.v) ∧ w.drew.cell? ⟨rb, 8, none⟩ = some (.slice none 0 0) ∧ w.drew.cell? ⟨rb, 9, none⟩ = some (.string (wayV q.ps)) := sc
  have sa : (w.alloc (.cells #[.string ⟨#[]⟩, .string ⟨#[]⟩, .slice none 0 0, .string ⟨#[]⟩, .slice none 0 0] 56)).cell? ⟨rb, 4, none⟩ = some (.string q.g) ∧ (w.alloc (.cells #[.string ⟨#[]⟩, .string ⟨#[]⟩, .slice none 0 0, .string ⟨#[]⟩, .slice none 0 0] 56)).cell? ⟨rb, 5, none⟩ = some (.string q.n) ∧ (w.alloc (.cells #[.string ⟨#[]⟩, .string ⟨#[]⟩, .slice none 0 0, .string ⟨#[]⟩, .slice none 0 0] 56)).cell? ⟨rb, 6, none⟩ = some (.slice pa q.ps.length pc) ∧ (w.alloc (.cells #[.string ⟨#[]⟩, .string ⟨#[]⟩, .slice none 0 0, .string ⟨#[]⟩, .slice none 0 0] 56)).cell? ⟨rb, 7, none⟩ = some (.string q.v) ∧ (w.alloc (.cells #[.string ⟨#[]⟩, .string ⟨#[]⟩, .slice none 0 0, .string ⟨#[]⟩, .slice none 0 0] 56)).cell? ⟨rb, 8, none⟩ = some (.slice none 0 0) ∧ (w.alloc (.cells #[.string ⟨#[]⟩, .string ⟨#[]⟩, .slice none 0 0, .string ⟨#[]⟩, .slice none 0 0] 56)).cell? ⟨rb, 9, none⟩ = some (.string (wayV q.ps)) := ⟨hA.c4, hA.c5, hA.c6, hA.c7, hA.c8, hA.c9⟩
  have sad : (w.alloc (.cells #[.string ⟨#[]⟩, .string ⟨#[]⟩, .slice none 0 0, .string ⟨#[]⟩, .slice none 0 0] 56)).drew.cell? ⟨rb, 4, none⟩ = some (.string q.g) ∧ (w.alloc (.cells #[.string ⟨#[]⟩, .string ⟨#[]⟩, .slice none 0 0, .string ⟨#[]⟩, .slice none 0 0] 56)).drew.cell? ⟨rb, 5, none⟩ = some (.string q.n) ∧ (w.alloc (.cells #[.string ⟨#[]⟩, .string ⟨#[]⟩, .slice none 0 0, .string ⟨#[]⟩, .slice none 0 0] 56)).drew.cell? ⟨rb, 6, none⟩ = some (.slice pa q.ps.length pc) ∧ (w.alloc (.cells #[.string ⟨#[]⟩, .string ⟨#[]⟩, .slice none 0 0, .string ⟨#[]⟩, .slice none 0 0] 56)).drew.cell? ⟨rb, 7, none⟩ = some (.string q.v) ∧ (w.alloc (.cells #[.string ⟨#[]⟩, .string ⟨#[]⟩, .slice none 0 0, .string ⟨#[]⟩, .slice none 0 0] 56)).drew.cell? ⟨rb, 8, none⟩ = some (.slice none 0 0) ∧ (w.alloc (.cells #[.string ⟨#[]⟩, .string ⟨#[]⟩, .slice none 0 0, .string ⟨#[]⟩, .slice none 0 0] 56)).drew.cell? ⟨rb, 9, none⟩ = some (.string (wayV q.ps)) := sa
  have hrba : rb < (w.alloc (.cells #[.string ⟨#[]⟩, .string ⟨#[]⟩, .slice none 0 0, .string ⟨#[]⟩, .slice none 0 0] 56)).drew.heap.size := hA.lt
  have hz0 : PrAt (w.alloc (.cells #[.string ⟨#[]⟩, .string ⟨#[]⟩, .slice none 0 0, .string ⟨#[]⟩, .slice none 0 0] 56)).drew w.heap.size ⟨#[]⟩ ⟨#[]⟩ (.slice none 0 0) ⟨#[]⟩ (.slice none 0 0) := heap_alloc_new w _
  have hzl : w.heap.size < (w.alloc (.cells #[.string ⟨#[]⟩, .string ⟨#[]⟩, .slice none 0 0, .string ⟨#[]⟩, .slice none 0 0] 56)).drew.heap.size := by show w.heap.size < (w.alloc (.cells #[.string ⟨#[]⟩, .string ⟨#[]⟩, .slice none 0 0, .string ⟨#[]⟩, .slice none 0 0] 56)).heap.size; rw [World.size_alloc]; omega
  have hzo : some w.heap.size ≠ (Value.slice pa q.ps.length pc).ownBlock := fun e => by have := (own_blk hown _ e.symm).2; omega
  have hrz : rb ≠ w.heap.size := by omega
  have hrbo : (Value.slice pa q.ps.length pc).ownBlock ≠ some rb := fun e => (hpvM rb e).2 rfl
  have HBS := Lib.hid hbs
  have HOB := Lib.hid (fun k e => (own_blk hown k e).2)
  have HR := Lib.hid hR
  have HO := Lib.hid hO
  have HW := Lib.hid hown
  have HT := Lib.hid T
  clear hbs hA hR hO hown T hd1 hps hv hl hqp
  generalize wayV q.ps = en at *
  go_enter Tryz.func79, Tryz.ntmps79
  go_upto_region 5 with fail
  go_cut [3, 4] from 6 to 73 (fun xv yv wc => MeantAt w wc (Value.slice pa q.ps.length pc).ownBlock p er xv yv)
  case first =>
    go_region_held3 (fun w' => w'.cell? ⟨rb, 4, none⟩ = some (.string q.g) ∧ w'.cell? ⟨rb, 5, none⟩ = some (.string q.n) ∧ w'.cell? ⟨rb, 6, none⟩ = some (.slice pa q.ps.length pc) ∧ w'.cell? ⟨rb, 7, none⟩ = some (.string q.v) ∧ w'.cell? ⟨rb, 8, none⟩ = some (.slice none 0 0) ∧ w'.cell? ⟨rb, 9, none⟩ = some (.string en)) (first | with_reducible exact scd | with_reducible exact sad | with_reducible exact sd | with_reducible exact six_al sd | with_reducible exact sc | with_reducible exact sa | exact six_set (six_set (six_set (six_set (six_set sd hrz) hrz) hrz) hrz) hrz | go_keep) ((go_at_call 133; refine (CA.out _ (by first | with_reducible exact bd | with_reducible exact bda)).mono ?_; rintro e w1 ⟨pv', rfl, hps1, hob, hg1⟩; obtain ⟨xa, xc, rfl⟩ := hps1.shape; first | (have sd := six_grown scd hg1 hrbd hrbo) | (have sd := six_grown sad hg1 hrba hrbo; have hbz := prat_grown hz0 hg1 hzl hzo; have z0 := hbz.c0; have y0 := hbz.f 0; have z1 := hbz.c1; have y1 := hbz.f 1; have z2 := hbz.c2; have y2 := hbz.f 2; have z3 := hbz.c3; have y3 := hbz.f 3; have z4 := hbz.c4; have y4 := hbz.f 4)))
    all_goals
      go_wp2_with fail
      go_meet
    case rel => exact relA hps1 hob hg1
    case rel => exact relB hps1 hob ba hg1 hbz (fun k e => HOB.out k e)
  case rest =>
    obtain ⟨Z, xa, xc, rfl, rfl, hZ, hps1, hob, hg1, hzZ⟩ := hcut
    generalize hVc : wc = V at *
    clear hVc
    have hrV : V.heap[rb]? = w.heap[rb]? := hg1.block rb hrb (fun e => hrbo e.symm)
    have R1 := HR.out.kept hrV
    have hSV : Stays (fun k => k < w.heap.size ∧ (Value.slice pa q.ps.length pc).ownBlock ≠ some k) w V := ⟨hg1.os, hg1.tape, hg1.output, hg1.size, fun k hk => hg1.block k hk.1 (fun e => hk.2 e.symm)⟩
    have O1 := HO.out.move (M' := fun k => M k ∨ w.heap.size ≤ k) (X' := fun k => (Value.slice pa q.ps.length pc).ownBlock = some k) (hSV.mono fun k hk => ⟨hk.2.2.2, hk.2.2.1⟩) (fun k h _ => .inl h) (fun k h => .inl h)
    have hFin : Fin M w V := hSV.mono fun k hk => ⟨hk.1, fun e => hk.2 (hpvM k e).1⟩
    have p0 := hZ.c0
    have p1 := hZ.c1
    have p2 := hZ.c2
    have p3 := hZ.c3
    have p4 := hZ.c4
    by_cases her : er = 0
    rotate_left
    · have heb : (er == 0) = false := by simpa using her
      have HE : Hid (OUT = .bad k er) := Lib.hid (by rw [← HOUT.out, if_pos her])
      have r1 := R1.c1
      clear HOUT
      go_wp2_with fail
      go_ret
      rw [HE.out]
      exact ⟨rfl, r1, hFin⟩
    · subst her
      have HOUT1 : Hid ((if G.agent p = false then Vm.Out.go (Vm.St.at_ 2 (Vm.addP (f :: os) (p, [])) c) else if G.hasV p = true then Vm.Out.bad k 5 else if (f :: os).length = 3 then Vm.Out.bad k 9 else Vm.Out.go (Vm.St.at_ 0 (Vm.addP (f :: os) (p, [])) c) : Vm.Out G) = OUT) := Lib.hid (by have h := HOUT.out; rw [if_neg (fun h => h rfl)] at h; exact h)
      obtain ⟨og, oc, fa, fc, rfl, t1, tf, hogV, hogr, hoc, hoc2⟩ := O1.top
      have CI := Lib.hid (inner_any rb og os.length oc V R1.c2 (by omega))
      have HF := Lib.hid (And.intro R1 (And.intro O1 (And.intro hSV (And.intro hFin (And.intro hZ (And.intro hps1 (And.intro hob hzZ)))))))
      clear HOUT R1 O1 hSV hFin hZ hps1 hob hzZ hrV p0 p1 p2 p3 p4 hg1 hoc2
      go_wp2_with fail
      refine CI.out.mono ?_
      rintro e w2 ⟨rfl, qq, rfl⟩
      obtain ⟨U, hUe⟩ : ∃ U, V.drewN qq = U := ⟨_, rfl⟩
      have hSU : Stays (fun _ => True) V U := by rw [← hUe]; exact drew_all V qq
      have hfU : ∀ a, U.frozen? a = V.frozen? a := fun a => by rw [← hUe]; rfl
      rw [hUe]
      obtain ⟨R1, O1, hSV, hFin, hZ, hps1, hob, hzZ⟩ := HF.out
      have R2 := R1.kept (hSU.block rb trivial)
      have O2 := O1.move (M' := fun k => M k ∨ w.heap.size ≤ k) (X' := fun k => (Value.slice pa q.ps.length pc).ownBlock = some k) (hSU.mono fun _ _ => trivial) (fun k h _ => h) (fun k h => .inl h)
      have hZ2 : PrAt U Z p.g p.n (.slice xa p.ps.length xc) p.v (.slice none 0 0) := (hSU.block Z trivial).trans hZ
      have hsU : U.heap.size = V.heap.size := by rw [← hUe]; rfl
      have hps2 : Ps U U.heap.size (.slice xa p.ps.length xc) p.ps := by rw [← hUe]; exact hps1
      have t2 : U.cell? ⟨og, os.length, none⟩ = some (.slice fa f.length fc) := (World.cell?_of_block (a := ⟨og, os.length, none⟩) (hSU.block og trivial)).trans t1
      have tf2 : U.frozen? ⟨og, os.length, none⟩ = false := (hfU _).trans tf
      have hogU : og < U.heap.size := by omega
      have p0 := hZ2.c0
      have p1 := hZ2.c1
      have p2 := hZ2.c2
      have p3 := hZ2.c3
      have p4 := hZ2.c4
      have HF2 := Lib.hid (And.intro R2 (And.intro O2 (And.intro hSU (And.intro hZ2 hps2))))
      have HSU := Lib.hid hSU
      have HZU := Lib.hid (fun (h : PrAt V Z p.g p.n (.slice xa p.ps.length xc) p.v (.slice none 0 0)) => show PrAt U Z p.g p.n (.slice xa p.ps.length xc) p.v (.slice none 0 0) from (hSU.block Z trivial).trans h)
      have hsU' : V.heap.size ≤ U.heap.size := hSU.size
      have t1' := t1
      clear R1 O1 hSV hFin hZ hps1 hob hzZ R2 O2 hSU hZ2 hps2 t1 tf hfU hUe
      obtain ⟨R2, O2, hSU, hZ2, hps2⟩ := HF2.out
      obtain ⟨R1, O1, hSV, hFin, hZ, hps1, hob, hzZ⟩ := HF.out
      have hUw : w.heap.size ≤ U.heap.size := Nat.le_trans hSV.size hSU.size
      obtain ⟨v', W3, hrun, hO3, hS3, ⟨va, vc, rfl⟩, hMog, _, _, hvog, hvrb, hvM, hf3⟩ := O2.grow (X := fun k => (Value.slice pa q.ps.length pc).ownBlock = some k) t2 hf hps2 rfl hob (Nat.lt_of_lt_of_le hrb hUw) (fun k hk => ⟨.inl (hpvM k hk).1, (hpvM k hk).2, by have := HOB.out k hk; omega⟩) (Nat.le_trans HBS.out hUw)
      have hrW : RdC W3 rb 2 k (.slice (some ⟨og, 0, none⟩) (os.length + 1) oc) cv q.g q.n (.slice pa q.ps.length pc) q.v (.slice none 0 0) en false := R2.kept (hS3.block rb ⟨Nat.lt_of_lt_of_le hrb hUw, hvrb⟩)
      have hog3 : W3.cell? ⟨og, os.length, none⟩ = some (.slice fa f.length fc) := (World.cell?_of_block (a := ⟨og, os.length, none⟩) (hS3.block og ⟨hogU, hvog⟩)).trans t2
      have HF3 := Lib.hid (And.intro hrW (And.intro hO3 (And.intro hS3 (And.intro hMog (And.intro hvM hUw)))))
      clear R1 O1 hSV hFin hZ hps1 hob hzZ R2 O2 hSU hZ2 hps2 hrW hO3 hS3 hMog hvM hvog hvrb HF2 hsU
      go_upto_region 9 with fail
      go_cut [5] from 6 to 73 (fun xv wc => xv = .pointer (some ⟨og, os.length, none⟩) ∧ wc = W3.setCell ⟨og, os.length, none⟩ (.slice va (f.length + 1) vc))
      case first =>
        go_region_law (refine step_run rfl _ _ _ rfl _ _ _ rfl rfl hrun ?_)
        all_goals
          go_wp2_with fail
          go_meet
        all_goals exact ⟨rfl, rfl⟩
      case rest =>
        obtain ⟨rfl, rfl⟩ := hcut
        clear hrun
        obtain ⟨hrW, hO3, hS3, hMog, hvM, hUw⟩ := HF3.out
        obtain ⟨R1, O1, hSV, hFin, hZ, hps1, hob, hzZ⟩ := HF.out
        have hogw : og < w.heap.size := HO.out.low
        have hownog : (Value.slice pa q.ps.length pc).ownBlock ≠ some og := fun e => HO.out.notX e
        have hvw : ∀ g, (Value.slice fa f.length fc).ownBlock = some g → g < w.heap.size := HO.out.top_lt ((World.cell?_of_block (a := ⟨og, os.length, none⟩) (hSV.block og ⟨hogw, hownog⟩)).symm.trans t1')
        have hvZ : (Value.slice fa f.length fc).ownBlock ≠ some Z := fun e => by have := hvw Z e; omega
        have hZU : Z < U.heap.size := Nat.lt_of_lt_of_le hZ.lt hsU'
        have hZ3 : PrAt W3 Z p.g p.n (.slice xa p.ps.length xc) p.v (.slice none 0 0) := (hS3.block Z ⟨hZU, hvZ⟩).trans (HZU.out hZ)
        have hZ4 := hZ3.other (a := ⟨og, os.length, none⟩) (by show Z ≠ og; omega) (.slice va (f.length + 1) vc)
        have hR4 : RdC (W3.setCell ⟨og, os.length, none⟩ (.slice va (f.length + 1) vc)) rb 2 k (.slice (some ⟨og, 0, none⟩) (os.length + 1) oc) cv q.g q.n (.slice pa q.ps.length pc) q.v (.slice none 0 0) en false := hrW.kept (Below.heap_setCell W3 ⟨og, os.length, none⟩ _ rb (fun e => hogr e.symm))
        have hO4 := hO3.move (M' := fun k => M k ∨ w.heap.size ≤ k) (X' := fun _ => False) (Stays.refl _ _) (fun k h _ => h.elim id (fun h => .inr (Nat.le_trans hUw h))) (fun k h => .inl h)
        have hF4 : Fin M w (W3.setCell ⟨og, os.length, none⟩ (.slice va (f.length + 1) vc)) :=
          ((hFin.trans (HSU.out.mono fun _ _ => trivial)).trans (hS3.mono fun k hk => ⟨Nat.lt_of_lt_of_le hk.1 hUw, fun e => (hvM k e).elim hk.2 (fun h => by have := hk.1; omega)⟩)).trans (stays_set (Stays.refl _ W3) (fun h => hMog.elim h.2 (fun h => by omega)))
        have m1 := hZ4.c1
        have m3 := hZ4.c3
        have r0 := hR4.c0
        have r1 := hR4.c1
        have r2 := hR4.c2
        have rf := hR4.f 0
        have HY := Lib.hid (And.intro hR4 (And.intro hO4 hF4))
        obtain ⟨Y, hY⟩ : ∃ Y, W3.setCell ⟨og, os.length, none⟩ (.slice va (f.length + 1) vc) = Y := ⟨_, rfl⟩
        rw [hY] at m1 m3 r0 r1 r2 rf HY ⊢
        clear hrW hO3 hS3 hMog hvM hUw R1 O1 hSV hFin hZ hps1 hob hzZ hogw hownog hvw hvZ hZU hZ3 hZ4 hR4 hO4 hF4 hY HF HF3 HSU HZU t1' hsU' t2 tf2 hf3 hog3 hogU p0 p1 p2 p3 p4
        by_cases ha : p.n.toList = [65, 71, 69, 78, 84]
        rotate_left
        · have hab : (p.n.toList == [65, 71, 69, 78, 84]) = false := by simpa using ha
          have HE : Hid (OUT = .go (.at_ 2 (Vm.addP (f :: os) (p, [])) c)) := Lib.hid (by rw [← HOUT1.out, if_pos (by show decide _ = false; simp [ha])])
          go_wp2_with fail
          go_ret
          rw [HE.out]
          exact ⟨rfl, ⟨_, _, _, _, _, _, _, _, _, HY.out.1, .inl hM, HY.out.2.1, fun h => by simp at h⟩, HY.out.2.2⟩
        · have hab : (p.n.toList == [65, 71, 69, 78, 84]) = true := by simp [ha]
          by_cases hz : p.v.size = 0
          rotate_left
          · have hs0 := str_some hz
            have HE : Hid (OUT = .bad k 5) := Lib.hid (by rw [← HOUT1.out, if_neg (by show ¬ decide _ = false; simp [ha]), if_pos (by show (!decide _) = true; simp [hz])])
            go_wp2_with fail
            go_ret
            rw [HE.out]
            exact ⟨rfl, r1, HY.out.2.2⟩
          · have hs0 := str_none hz
            by_cases h3 : os.length + 1 = 3
            · have hlb : ((os.length : Int) + 1 == 3) = true := by simp; omega
              have HE : Hid (OUT = .bad k 9) := Lib.hid (by rw [← HOUT1.out, if_neg (by show ¬ decide _ = false; simp [ha]), if_neg (by show ¬ (!decide _) = true; simp [hz]), if_pos (show (f :: os).length = 3 from h3)])
              go_wp2_with fail
              go_ret
              rw [HE.out]
              exact ⟨rfl, r1, HY.out.2.2⟩
            · have hlb : ((os.length : Int) + 1 == 3) = false := by simp; omega
              have HE : Hid (OUT = .go (.at_ 0 (Vm.addP (f :: os) (p, [])) c)) := Lib.hid (by rw [← HOUT1.out, if_neg (by show ¬ decide _ = false; simp [ha]), if_neg (by show ¬ (!decide _) = true; simp [hz]), if_neg (show ¬ (f :: os).length = 3 from h3)])
              go_wp2_with fail
              go_ret
              rw [HE.out]
              have hS5 : Stays (fun k => k ≠ rb) Y (Y.setCell ⟨rb, 0, none⟩ (.int .i64 0)) := stays_set (Stays.refl _ Y) (fun h => h rfl)
              exact ⟨rfl, ⟨_, _, _, _, _, _, _, _, _, HY.out.1.set0 0, .inl hM, HY.out.2.1.move (hS5.mono fun k hk => hk.2.1) (fun k h _ => h) (fun k h => .inl h), fun h => by simp at h⟩, HY.out.2.2.trans (hS5.mono fun k hk e => hk.2 (e ▸ hM))⟩
end Go.Proofs.YtjgfbicllgalkaaGreatDoor.Vc

namespace Go.Proofs.YtjgfbicllgalkaaGreatDoor.Vc
set_option maxRecDepth 100000
open Go.RowKit Pp Sq

set_option maxHeartbeats 800000 in
/-- The value goes on in the next line. -/
theorem value_on (rb base : Nat) (M : Nat → Prop) (k : Nat) (os : List Fr) (c : Crd) (q : Par) (on0 : Bool) (ov cv pv : Value) (w : World)
    (hR : RdC w rb 2 k ov cv q.g q.n pv q.v (.slice none 0 0) (wayV q.ps) on0) (hM : M rb) (hown : Pp.Own w base pv q.ps) (hpvM : ∀ g, pv.ownBlock = some g → M g ∧ g ≠ rb) (hO : OpAt w rb base M (fun k => pv.ownBlock = some k) os ov)
    (hv : q.v.size ≤ 1048576) (hqp : (wayV q.ps).toList = [81, 85, 79, 84, 69, 68, 45, 80, 82, 73, 78, 84, 65, 66, 76, 69]) (hmk : markB q.v = true) :
    Calls Tryz.prog 79 #[.pointer (some ⟨rb, 0, none⟩)] w (Took w rb base M (.go (.on k os c { q with v := cutM q.v }))) := by
  have hb9 : ((wayV q.ps).toList == [81, 85, 79, 84, 69, 68, 45, 80, 82, 73, 78, 84, 65, 66, 76, 69]) = true := by simp [hqp]
  have CM : Hid (Calls Tryz.prog 132 #[.string q.v, .string ⟨#[61]⟩] w fun e w' => e = .returned (.tuple #[.string (cutM q.v), .bool true]) ∧ w = w') := Lib.hid (by have h := cutMark_any q.v w (by omega); rw [hmk] at h; exact h)
  have c9 := hR.c9
  have c7 := hR.c7
  have c10 := hR.c10
  have f7 := hR.f 7
  have f10 := hR.f 10
  have hR2 := (hR.set7 (cutM q.v)).set10 true
  have k10 := hR2.c10
  have hS : Stays (fun k => k ≠ rb) w ((w.setCell ⟨rb, 7, none⟩ (.string (cutM q.v))).setCell ⟨rb, 10, none⟩ (.bool true)) := stays_set (stays_set (Stays.refl _ w) (fun h => h rfl)) (fun h => h rfl)
  have hown2 : Pp.Own ((w.setCell ⟨rb, 7, none⟩ (.string (cutM q.v))).setCell ⟨rb, 10, none⟩ (.bool true)) base pv q.ps := row_stays hown (fun g e => hS.block g (hpvM g e).2)
  have hO2 := hO.move (M' := fun k => M k ∨ w.heap.size ≤ k) (X' := fun k => pv.ownBlock = some k) (hS.mono fun k hk => hk.2.1) (fun k h _ => .inl h) (fun k h => .inl h)
  have HY := Lib.hid (And.intro hR2 (And.intro hown2 (And.intro hO2 hS)))
  clear hR hown hO hR2 hS hown2 hO2 hqp hmk hv
  go_enter Tryz.func79, Tryz.ntmps79
  go_wp2_with (go_at_call 132; refine CM.out.mono ?_; rintro e w' ⟨rfl, rfl⟩)
  go_ret
  obtain ⟨hR2, hown2, hO2, hS⟩ := HY.out
  exact ⟨rfl, ⟨_, _, _, hR2, .inl hM, hown2, fun g e => ⟨.inl (hpvM g e).1, (hpvM g e).2⟩, hO2⟩, hS.mono fun k hk e => hk.2 (e ▸ hM)⟩

set_option maxHeartbeats 1600000 in
theorem value_qp (rb base : Nat) (M : Nat → Prop) (k : Nat) (f : Fr) (os : List Fr) (c : Crd) (q : Par) (ov cv pv u10 : Value) (w0 w : World) (hw : (w0.setCell ⟨rb, 7, none⟩ (.string q.v)).setCell ⟨rb, 10, none⟩ (.bool false) = w) (e9 : w0.cell? ⟨rb, 9, none⟩ = some (.string (wayV q.ps))) (e7 : w0.cell? ⟨rb, 7, none⟩ = some (.string q.v)) (e10 : w0.cell? ⟨rb, 10, none⟩ = some u10) (g7 : w0.frozen? ⟨rb, 7, none⟩ = false) (g10 : w0.frozen? ⟨rb, 10, none⟩ = false)
    (hR : RdC w rb 2 k ov cv q.g q.n pv q.v (.slice none 0 0) (wayV q.ps) false) (hM : M rb) (hown : Pp.Own w base pv q.ps) (hpvM : ∀ g, pv.ownBlock = some g → M g ∧ g ≠ rb) (hO : OpAt w rb base M (fun k => pv.ownBlock = some k) (f :: os) ov)
    (hlen : os.length ≤ 2) (hf : f.length < 24) (hv : q.v.size ≤ 1048576) (hl : q.ps.length ≤ 100) (hps : ∀ x ∈ q.ps, x.2.size ≤ 1048576) (hbs : base ≤ w.heap.size) (T : Qu.Tabs w) (hd1 : (decW (wayV q.ps) q.v).1.size ≤ 1048576) (hqp : (wayV q.ps).toList = [81, 85, 79, 84, 69, 68, 45, 80, 82, 73, 78, 84, 65, 66, 76, 69]) (hmk : markB q.v = false) :
    Calls Tryz.prog 79 #[.pointer (some ⟨rb, 0, none⟩)] w0 (Took w rb base M (Vm.takeD (G := G) k (f :: os) c q)) := by
  have hshape := hown.ps.shape
  obtain ⟨pa, pc, rfl⟩ := hshape
  have bd : Below w.heap.size w w.drew := (Below.refl _ _).drew
  have CA := Lib.hid (fun W (hb : Below w.heap.size w W) => asMeant_any (wayV q.ps) q.g q.n (.slice pa q.ps.length pc) q.v q.ps base W (hown.below hb) hl hv hps (T.below hb) hd1)
  unfold prV at CA
  unfold Vm.takeD
  obtain ⟨⟨er, p⟩, hmean⟩ : ∃ x, meanW (wayV q.ps) q.g q.n q.ps q.v = x := ⟨_, rfl⟩
  have hmean' : G.mean q = (er, p) := hmean
  rw [hmean']
  rw [hmean] at CA
  simp only at CA ⊢
  unfold Meant prV at CA
  simp only at CA
  generalize hOut : (if er ≠ 0 then Vm.Out.bad k er else if G.agent p = false then Vm.Out.go (Vm.St.at_ 2 (Vm.addP (f :: os) (p, [])) c) else if G.hasV p = true then Vm.Out.bad k 5 else if (f :: os).length = 3 then Vm.Out.bad k 9 else Vm.Out.go (Vm.St.at_ 0 (Vm.addP (f :: os) (p, [])) c) : Vm.Out G) = OUT
  have HOUT := Lib.hid hOut
  clear hOut
  have hb9 : ((wayV q.ps).toList == [81, 85, 79, 84, 69, 68, 45, 80, 82, 73, 78, 84, 65, 66, 76, 69]) = true := by simp [hqp]
  have CM : Hid (Calls Tryz.prog 132 #[.string q.v, .string ⟨#[61]⟩] w0 fun e w' => e = .returned (.tuple #[.string q.v, .bool false]) ∧ w0 = w') := Lib.hid (by have h := cutMark_any q.v w0 (by omega); rw [hmk] at h; exact h)
  have k10 := hR.c10
  have c9 := hR.c9
  have c4 := hR.c4
  have c5 := hR.c5
  have c6 := hR.c6
  have c7 := hR.c7
  have c8 := hR.c8
  have hrb := hR.lt
  have hrbd : rb < w.drew.heap.size := hrb
  have ba : Below w.heap.size w (w.alloc (.cells #[.string ⟨#[]⟩, .string ⟨#[]⟩, .slice none 0 0, .string ⟨#[]⟩, .slice none 0 0] 56)) := (Below.refl _ _).alloc (Nat.le_refl _) _
  have bda : Below w.heap.size w (w.alloc (.cells #[.string ⟨#[]⟩, .string ⟨#[]⟩, .slice none 0 0, .string ⟨#[]⟩, .slice none 0 0] 56)).drew := ba.drew
  have hA := hR.kept (ba.block rb hrb)
  have sc : w.cell? ⟨rb, 4, none⟩ = some (.string q.g) ∧ w.cell? ⟨rb, 5, none⟩ = some (.string q.n) ∧ w.cell? ⟨rb, 6, none⟩ = some (.slice pa q.ps.length pc) ∧ w.cell? ⟨rb, 7, none⟩ = some (.string q.v) ∧ w.cell? ⟨rb, 8, none⟩ = some (.slice none 0 0) ∧ w.cell? ⟨rb, 9, none⟩ = some (.string (wayV q.ps)) := ⟨hR.c4, hR.c5, hR.c6, hR.c7, hR.c8, hR.c9⟩
  have scd : w.drew.cell? ⟨rb, 4, none⟩ = some (.string q.g) ∧ w.drew.cell? ⟨rb, 5, none⟩ = some (.string q.n) ∧ w.drew.cell? ⟨rb, 6, none⟩ = some (.slice pa q.ps.length pc) ∧ w.drew.cell? ⟨rb, 7, none⟩ = some (.string q.v) ∧ w.drew.cell? ⟨rb, 8, none⟩ = some (.slice none 0 0) ∧ w.drew.cell? ⟨rb, 9, none⟩ = some (.string (wayV q.ps)) := sc
  have sa : (w.alloc (.cells #[.string ⟨#[]⟩, .string ⟨#[]⟩, .slice none 0 0, .string ⟨#[]⟩, .slice none 0 0] 56)).cell? ⟨rb, 4, none⟩ = some (.string q.g) ∧ (w.alloc (.cells #[.string ⟨#[]⟩, .string ⟨#[]⟩, .slice none 0 0, .string ⟨#[]⟩, .slice none 0 0] 56)).cell? ⟨rb, 5, none⟩ = some (.string q.n) ∧ (w.alloc (.cells #[.string ⟨#[]⟩, .string ⟨#[]⟩, .slice none 0 0, .string ⟨#[]⟩, .slice none 0 0] 56)).cell? ⟨rb, 6, none⟩ = some (.slice pa q.ps.length pc) ∧ (w.alloc (.cells #[.string ⟨#[]⟩, .string ⟨#[]⟩, .slice none 0 0, .string ⟨#[]⟩, .slice none 0 0] 56)).cell? ⟨rb, 7, none⟩ = some (.string q.v) ∧ (w.alloc (.cells #[.string ⟨#[]⟩, .string ⟨#[]⟩, .slice none 0 0, .string ⟨#[]⟩, .slice none 0 0] 56)).cell? ⟨rb, 8, none⟩ = some (.slice none 0 0) ∧ (w.alloc (.cells #[.string ⟨#[]⟩, .string ⟨#[]⟩, .slice none 0 0, .string ⟨#[]⟩, .slice none 0 0] 56)).cell? ⟨rb, 9, none⟩ = some (.string (wayV q.ps)) := ⟨hA.c4, hA.c5, hA.c6, hA.c7, hA.c8, hA.c9⟩
  have sad : (w.alloc (.cells #[.string ⟨#[]⟩, .string ⟨#[]⟩, .slice none 0 0, .string ⟨#[]⟩, .slice none 0 0] 56)).drew.cell? ⟨rb, 4, none⟩ = some (.string q.g) ∧ (w.alloc (.cells #[.string ⟨#[]⟩, .string ⟨#[]⟩, .slice none 0 0, .string ⟨#[]⟩, .slice none 0 0] 56)).drew.cell? ⟨rb, 5, none⟩ = some (.string q.n) ∧ (w.alloc (.cells #[.string ⟨#[]⟩, .string ⟨#[]⟩, .slice none 0 0, .string ⟨#[]⟩, .slice none 0 0] 56)).drew.cell? ⟨rb, 6, none⟩ = some (.slice pa q.ps.length pc) ∧ (w.alloc (.cells #[.string ⟨#[]⟩, .string ⟨#[]⟩, .slice none 0 0, .string ⟨#[]⟩, .slice none 0 0] 56)).drew.cell? ⟨rb, 7, none⟩ = some (.string q.v) ∧ (w.alloc (.cells #[.string ⟨#[]⟩, .string ⟨#[]⟩, .slice none 0 0, .string ⟨#[]⟩, .slice none 0 0] 56)).drew.cell? ⟨rb, 8, none⟩ = some (.slice none 0 0) ∧ (w.alloc (.cells #[.string ⟨#[]⟩, .string ⟨#[]⟩, .slice none 0 0, .string ⟨#[]⟩, .slice none 0 0] 56)).drew.cell? ⟨rb, 9, none⟩ = some (.string (wayV q.ps)) := sa
  have hrba : rb < (w.alloc (.cells #[.string ⟨#[]⟩, .string ⟨#[]⟩, .slice none 0 0, .string ⟨#[]⟩, .slice none 0 0] 56)).drew.heap.size := hA.lt
  have hz0 : PrAt (w.alloc (.cells #[.string ⟨#[]⟩, .string ⟨#[]⟩, .slice none 0 0, .string ⟨#[]⟩, .slice none 0 0] 56)).drew w.heap.size ⟨#[]⟩ ⟨#[]⟩ (.slice none 0 0) ⟨#[]⟩ (.slice none 0 0) := heap_alloc_new w _
  have hzl : w.heap.size < (w.alloc (.cells #[.string ⟨#[]⟩, .string ⟨#[]⟩, .slice none 0 0, .string ⟨#[]⟩, .slice none 0 0] 56)).drew.heap.size := by show w.heap.size < (w.alloc (.cells #[.string ⟨#[]⟩, .string ⟨#[]⟩, .slice none 0 0, .string ⟨#[]⟩, .slice none 0 0] 56)).heap.size; rw [World.size_alloc]; omega
  have hzo : some w.heap.size ≠ (Value.slice pa q.ps.length pc).ownBlock := fun e => by have := (own_blk hown _ e.symm).2; omega
  have hrz : rb ≠ w.heap.size := by omega
  have hrbo : (Value.slice pa q.ps.length pc).ownBlock ≠ some rb := fun e => (hpvM rb e).2 rfl
  have HBS := Lib.hid hbs
  have HOB := Lib.hid (fun k e => (own_blk hown k e).2)
  have HR := Lib.hid hR
  have HO := Lib.hid hO
  have HW := Lib.hid hown
  have HT := Lib.hid T
  clear hbs hA hR hO hown T hd1 hps hv hl hqp hmk
  have f7 := g7
  have f10 := g10
  generalize wayV q.ps = en at *
  go_enter Tryz.func79, Tryz.ntmps79
  go_upto_region 5 with (go_at_call 132; refine CM.out.mono ?_; rintro e w' ⟨rfl, rfl⟩)
  clear k10 CM e9 e7 e10 g7 g10 f7 f10 hw
  go_cut [3, 4] from 6 to 73 (fun xv yv wc => MeantAt w wc (Value.slice pa q.ps.length pc).ownBlock p er xv yv)
  case first =>
    go_region_held3 (fun w' => w'.cell? ⟨rb, 4, none⟩ = some (.string q.g) ∧ w'.cell? ⟨rb, 5, none⟩ = some (.string q.n) ∧ w'.cell? ⟨rb, 6, none⟩ = some (.slice pa q.ps.length pc) ∧ w'.cell? ⟨rb, 7, none⟩ = some (.string q.v) ∧ w'.cell? ⟨rb, 8, none⟩ = some (.slice none 0 0) ∧ w'.cell? ⟨rb, 9, none⟩ = some (.string en)) (first | with_reducible exact scd | with_reducible exact sad | with_reducible exact sd | with_reducible exact six_al sd | with_reducible exact sc | with_reducible exact sa | exact six_set (six_set (six_set (six_set (six_set sd hrz) hrz) hrz) hrz) hrz | go_keep) ((go_at_call 133; refine (CA.out _ (by first | with_reducible exact bd | with_reducible exact bda)).mono ?_; rintro e w1 ⟨pv', rfl, hps1, hob, hg1⟩; obtain ⟨xa, xc, rfl⟩ := hps1.shape; first | (have sd := six_grown scd hg1 hrbd hrbo) | (have sd := six_grown sad hg1 hrba hrbo; have hbz := prat_grown hz0 hg1 hzl hzo; have z0 := hbz.c0; have y0 := hbz.f 0; have z1 := hbz.c1; have y1 := hbz.f 1; have z2 := hbz.c2; have y2 := hbz.f 2; have z3 := hbz.c3; have y3 := hbz.f 3; have z4 := hbz.c4; have y4 := hbz.f 4)))
    all_goals
      go_wp2_with fail
      go_meet
    case rel => exact relA hps1 hob hg1
    case rel => exact relB hps1 hob ba hg1 hbz (fun k e => HOB.out k e)
  case rest =>
    obtain ⟨Z, xa, xc, rfl, rfl, hZ, hps1, hob, hg1, hzZ⟩ := hcut
    generalize hVc : wc = V at *
    clear hVc
    have hrV : V.heap[rb]? = w.heap[rb]? := hg1.block rb hrb (fun e => hrbo e.symm)
    have R1 := HR.out.kept hrV
    have hSV : Stays (fun k => k < w.heap.size ∧ (Value.slice pa q.ps.length pc).ownBlock ≠ some k) w V := ⟨hg1.os, hg1.tape, hg1.output, hg1.size, fun k hk => hg1.block k hk.1 (fun e => hk.2 e.symm)⟩
    have O1 := HO.out.move (M' := fun k => M k ∨ w.heap.size ≤ k) (X' := fun k => (Value.slice pa q.ps.length pc).ownBlock = some k) (hSV.mono fun k hk => ⟨hk.2.2.2, hk.2.2.1⟩) (fun k h _ => .inl h) (fun k h => .inl h)
    have hFin : Fin M w V := hSV.mono fun k hk => ⟨hk.1, fun e => hk.2 (hpvM k e).1⟩
    have p0 := hZ.c0
    have p1 := hZ.c1
    have p2 := hZ.c2
    have p3 := hZ.c3
    have p4 := hZ.c4
    by_cases her : er = 0
    rotate_left
    · have heb : (er == 0) = false := by simpa using her
      have HE : Hid (OUT = .bad k er) := Lib.hid (by rw [← HOUT.out, if_pos her])
      have r1 := R1.c1
      clear HOUT
      go_wp2_with fail
      go_ret
      rw [HE.out]
      exact ⟨rfl, r1, hFin⟩
    · subst her
      have HOUT1 : Hid ((if G.agent p = false then Vm.Out.go (Vm.St.at_ 2 (Vm.addP (f :: os) (p, [])) c) else if G.hasV p = true then Vm.Out.bad k 5 else if (f :: os).length = 3 then Vm.Out.bad k 9 else Vm.Out.go (Vm.St.at_ 0 (Vm.addP (f :: os) (p, [])) c) : Vm.Out G) = OUT) := Lib.hid (by have h := HOUT.out; rw [if_neg (fun h => h rfl)] at h; exact h)
      obtain ⟨og, oc, fa, fc, rfl, t1, tf, hogV, hogr, hoc, hoc2⟩ := O1.top
      have CI := Lib.hid (inner_any rb og os.length oc V R1.c2 (by omega))
      have HF := Lib.hid (And.intro R1 (And.intro O1 (And.intro hSV (And.intro hFin (And.intro hZ (And.intro hps1 (And.intro hob hzZ)))))))
      clear HOUT R1 O1 hSV hFin hZ hps1 hob hzZ hrV p0 p1 p2 p3 p4 hg1 hoc2
      go_wp2_with fail
      refine CI.out.mono ?_
      rintro e w2 ⟨rfl, qq, rfl⟩
      obtain ⟨U, hUe⟩ : ∃ U, V.drewN qq = U := ⟨_, rfl⟩
      have hSU : Stays (fun _ => True) V U := by rw [← hUe]; exact drew_all V qq
      have hfU : ∀ a, U.frozen? a = V.frozen? a := fun a => by rw [← hUe]; rfl
      rw [hUe]
      obtain ⟨R1, O1, hSV, hFin, hZ, hps1, hob, hzZ⟩ := HF.out
      have R2 := R1.kept (hSU.block rb trivial)
      have O2 := O1.move (M' := fun k => M k ∨ w.heap.size ≤ k) (X' := fun k => (Value.slice pa q.ps.length pc).ownBlock = some k) (hSU.mono fun _ _ => trivial) (fun k h _ => h) (fun k h => .inl h)
      have hZ2 : PrAt U Z p.g p.n (.slice xa p.ps.length xc) p.v (.slice none 0 0) := (hSU.block Z trivial).trans hZ
      have hsU : U.heap.size = V.heap.size := by rw [← hUe]; rfl
      have hps2 : Ps U U.heap.size (.slice xa p.ps.length xc) p.ps := by rw [← hUe]; exact hps1
      have t2 : U.cell? ⟨og, os.length, none⟩ = some (.slice fa f.length fc) := (World.cell?_of_block (a := ⟨og, os.length, none⟩) (hSU.block og trivial)).trans t1
      have tf2 : U.frozen? ⟨og, os.length, none⟩ = false := (hfU _).trans tf
      have hogU : og < U.heap.size := by omega
      have p0 := hZ2.c0
      have p1 := hZ2.c1
      have p2 := hZ2.c2
      have p3 := hZ2.c3
      have p4 := hZ2.c4
      have HF2 := Lib.hid (And.intro R2 (And.intro O2 (And.intro hSU (And.intro hZ2 hps2))))
      have HSU := Lib.hid hSU
      have HZU := Lib.hid (fun (h : PrAt V Z p.g p.n (.slice xa p.ps.length xc) p.v (.slice none 0 0)) => show PrAt U Z p.g p.n (.slice xa p.ps.length xc) p.v (.slice none 0 0) from (hSU.block Z trivial).trans h)
      have hsU' : V.heap.size ≤ U.heap.size := hSU.size
      have t1' := t1
      clear R1 O1 hSV hFin hZ hps1 hob hzZ R2 O2 hSU hZ2 hps2 t1 tf hfU hUe
      obtain ⟨R2, O2, hSU, hZ2, hps2⟩ := HF2.out
      obtain ⟨R1, O1, hSV, hFin, hZ, hps1, hob, hzZ⟩ := HF.out
      have hUw : w.heap.size ≤ U.heap.size := Nat.le_trans hSV.size hSU.size
      obtain ⟨v', W3, hrun, hO3, hS3, ⟨va, vc, rfl⟩, hMog, _, _, hvog, hvrb, hvM, hf3⟩ := O2.grow (X := fun k => (Value.slice pa q.ps.length pc).ownBlock = some k) t2 hf hps2 rfl hob (Nat.lt_of_lt_of_le hrb hUw) (fun k hk => ⟨.inl (hpvM k hk).1, (hpvM k hk).2, by have := HOB.out k hk; omega⟩) (Nat.le_trans HBS.out hUw)
      have hrW : RdC W3 rb 2 k (.slice (some ⟨og, 0, none⟩) (os.length + 1) oc) cv q.g q.n (.slice pa q.ps.length pc) q.v (.slice none 0 0) en false := R2.kept (hS3.block rb ⟨Nat.lt_of_lt_of_le hrb hUw, hvrb⟩)
      have hog3 : W3.cell? ⟨og, os.length, none⟩ = some (.slice fa f.length fc) := (World.cell?_of_block (a := ⟨og, os.length, none⟩) (hS3.block og ⟨hogU, hvog⟩)).trans t2
      have HF3 := Lib.hid (And.intro hrW (And.intro hO3 (And.intro hS3 (And.intro hMog (And.intro hvM hUw)))))
      clear R1 O1 hSV hFin hZ hps1 hob hzZ R2 O2 hSU hZ2 hps2 hrW hO3 hS3 hMog hvM hvog hvrb HF2 hsU
      go_upto_region 9 with fail
      go_cut [5] from 6 to 73 (fun xv wc => xv = .pointer (some ⟨og, os.length, none⟩) ∧ wc = W3.setCell ⟨og, os.length, none⟩ (.slice va (f.length + 1) vc))
      case first =>
        go_region_law (refine step_run rfl _ _ _ rfl _ _ _ rfl rfl hrun ?_)
        all_goals
          go_wp2_with fail
          go_meet
        all_goals exact ⟨rfl, rfl⟩
      case rest =>
        obtain ⟨rfl, rfl⟩ := hcut
        clear hrun
        obtain ⟨hrW, hO3, hS3, hMog, hvM, hUw⟩ := HF3.out
        obtain ⟨R1, O1, hSV, hFin, hZ, hps1, hob, hzZ⟩ := HF.out
        have hogw : og < w.heap.size := HO.out.low
        have hownog : (Value.slice pa q.ps.length pc).ownBlock ≠ some og := fun e => HO.out.notX e
        have hvw : ∀ g, (Value.slice fa f.length fc).ownBlock = some g → g < w.heap.size := HO.out.top_lt ((World.cell?_of_block (a := ⟨og, os.length, none⟩) (hSV.block og ⟨hogw, hownog⟩)).symm.trans t1')
        have hvZ : (Value.slice fa f.length fc).ownBlock ≠ some Z := fun e => by have := hvw Z e; omega
        have hZU : Z < U.heap.size := Nat.lt_of_lt_of_le hZ.lt hsU'
        have hZ3 : PrAt W3 Z p.g p.n (.slice xa p.ps.length xc) p.v (.slice none 0 0) := (hS3.block Z ⟨hZU, hvZ⟩).trans (HZU.out hZ)
        have hZ4 := hZ3.other (a := ⟨og, os.length, none⟩) (by show Z ≠ og; omega) (.slice va (f.length + 1) vc)
        have hR4 : RdC (W3.setCell ⟨og, os.length, none⟩ (.slice va (f.length + 1) vc)) rb 2 k (.slice (some ⟨og, 0, none⟩) (os.length + 1) oc) cv q.g q.n (.slice pa q.ps.length pc) q.v (.slice none 0 0) en false := hrW.kept (Below.heap_setCell W3 ⟨og, os.length, none⟩ _ rb (fun e => hogr e.symm))
        have hO4 := hO3.move (M' := fun k => M k ∨ w.heap.size ≤ k) (X' := fun _ => False) (Stays.refl _ _) (fun k h _ => h.elim id (fun h => .inr (Nat.le_trans hUw h))) (fun k h => .inl h)
        have hF4 : Fin M w (W3.setCell ⟨og, os.length, none⟩ (.slice va (f.length + 1) vc)) :=
          ((hFin.trans (HSU.out.mono fun _ _ => trivial)).trans (hS3.mono fun k hk => ⟨Nat.lt_of_lt_of_le hk.1 hUw, fun e => (hvM k e).elim hk.2 (fun h => by have := hk.1; omega)⟩)).trans (stays_set (Stays.refl _ W3) (fun h => hMog.elim h.2 (fun h => by omega)))
        have m1 := hZ4.c1
        have m3 := hZ4.c3
        have r0 := hR4.c0
        have r1 := hR4.c1
        have r2 := hR4.c2
        have rf := hR4.f 0
        have HY := Lib.hid (And.intro hR4 (And.intro hO4 hF4))
        obtain ⟨Y, hY⟩ : ∃ Y, W3.setCell ⟨og, os.length, none⟩ (.slice va (f.length + 1) vc) = Y := ⟨_, rfl⟩
        rw [hY] at m1 m3 r0 r1 r2 rf HY ⊢
        clear hrW hO3 hS3 hMog hvM hUw R1 O1 hSV hFin hZ hps1 hob hzZ hogw hownog hvw hvZ hZU hZ3 hZ4 hR4 hO4 hF4 hY HF HF3 HSU HZU t1' hsU' t2 tf2 hf3 hog3 hogU p0 p1 p2 p3 p4
        by_cases ha : p.n.toList = [65, 71, 69, 78, 84]
        rotate_left
        · have hab : (p.n.toList == [65, 71, 69, 78, 84]) = false := by simpa using ha
          have HE : Hid (OUT = .go (.at_ 2 (Vm.addP (f :: os) (p, [])) c)) := Lib.hid (by rw [← HOUT1.out, if_pos (by show decide _ = false; simp [ha])])
          go_wp2_with fail
          go_ret
          rw [HE.out]
          exact ⟨rfl, ⟨_, _, _, _, _, _, _, _, _, HY.out.1, .inl hM, HY.out.2.1, fun h => by simp at h⟩, HY.out.2.2⟩
        · have hab : (p.n.toList == [65, 71, 69, 78, 84]) = true := by simp [ha]
          by_cases hz : p.v.size = 0
          rotate_left
          · have hs0 := str_some hz
            have HE : Hid (OUT = .bad k 5) := Lib.hid (by rw [← HOUT1.out, if_neg (by show ¬ decide _ = false; simp [ha]), if_pos (by show (!decide _) = true; simp [hz])])
            go_wp2_with fail
            go_ret
            rw [HE.out]
            exact ⟨rfl, r1, HY.out.2.2⟩
          · have hs0 := str_none hz
            by_cases h3 : os.length + 1 = 3
            · have hlb : ((os.length : Int) + 1 == 3) = true := by simp; omega
              have HE : Hid (OUT = .bad k 9) := Lib.hid (by rw [← HOUT1.out, if_neg (by show ¬ decide _ = false; simp [ha]), if_neg (by show ¬ (!decide _) = true; simp [hz]), if_pos (show (f :: os).length = 3 from h3)])
              go_wp2_with fail
              go_ret
              rw [HE.out]
              exact ⟨rfl, r1, HY.out.2.2⟩
            · have hlb : ((os.length : Int) + 1 == 3) = false := by simp; omega
              have HE : Hid (OUT = .go (.at_ 0 (Vm.addP (f :: os) (p, [])) c)) := Lib.hid (by rw [← HOUT1.out, if_neg (by show ¬ decide _ = false; simp [ha]), if_neg (by show ¬ (!decide _) = true; simp [hz]), if_neg (show ¬ (f :: os).length = 3 from h3)])
              go_wp2_with fail
              go_ret
              rw [HE.out]
              have hS5 : Stays (fun k => k ≠ rb) Y (Y.setCell ⟨rb, 0, none⟩ (.int .i64 0)) := stays_set (Stays.refl _ Y) (fun h => h rfl)
              exact ⟨rfl, ⟨_, _, _, _, _, _, _, _, _, HY.out.1.set0 0, .inl hM, HY.out.2.1.move (hS5.mono fun k hk => hk.2.1) (fun k h _ => h) (fun k h => .inl h), fun h => by simp at h⟩, HY.out.2.2.trans (hS5.mono fun k hk e => hk.2 (e ▸ hM))⟩

/-- Whatever the value. -/
theorem takeValue_any (rb base : Nat) (M : Nat → Prop) (k : Nat) (f : Fr) (os : List Fr) (c : Crd) (q : Par) (on0 : Bool) (ov cv pv : Value) (w : World)
    (hR : RdC w rb 2 k ov cv q.g q.n pv q.v (.slice none 0 0) (wayV q.ps) on0) (hon : on0 = true → (wayV q.ps).toList = [81, 85, 79, 84, 69, 68, 45, 80, 82, 73, 78, 84, 65, 66, 76, 69]) (hM : M rb) (hown : Pp.Own w base pv q.ps) (hpvM : ∀ g, pv.ownBlock = some g → M g ∧ g ≠ rb) (hO : OpAt w rb base M (fun k => pv.ownBlock = some k) (f :: os) ov)
    (hlen : os.length ≤ 2) (hf : f.length < 24) (hv : q.v.size ≤ 1048576) (hl : q.ps.length ≤ 100) (hps : ∀ x ∈ q.ps, x.2.size ≤ 1048576) (hbs : base ≤ w.heap.size) (T : Qu.Tabs w) (hTr : Qu.Tabs ((w.setCell ⟨rb, 7, none⟩ (.string q.v)).setCell ⟨rb, 10, none⟩ (.bool false))) (hd1 : (decW (wayV q.ps) q.v).1.size ≤ 1048576) :
    Calls Tryz.prog 79 #[.pointer (some ⟨rb, 0, none⟩)] w (Took w rb base M (Vm.takeV (G := G) k (f :: os) c q)) := by
  unfold Vm.takeV
  by_cases hqp : (wayV q.ps).toList = [81, 85, 79, 84, 69, 68, 45, 80, 82, 73, 78, 84, 65, 66, 76, 69]
  · cases hmk : markB q.v
    · have e : G.on q = none := by show (if _ ∧ _ then _ else _) = _; rw [if_neg (by rw [hmk]; simp)]
      rw [e]
      have hS : Stays (fun k => k ≠ rb) w ((w.setCell ⟨rb, 7, none⟩ (.string q.v)).setCell ⟨rb, 10, none⟩ (.bool false)) := stays_set (stays_set (Stays.refl _ w) (fun h => h rfl)) (fun h => h rfl)
      have hz : ((w.setCell ⟨rb, 7, none⟩ (.string q.v)).setCell ⟨rb, 10, none⟩ (.bool false)).heap.size = w.heap.size := by rw [World.size_setCell, World.size_setCell]
      have h := value_qp rb base M k f os c q ov cv pv _ w _ rfl hR.c9 hR.c7 hR.c10 (hR.f 7) (hR.f 10) ((hR.set7 q.v).set10 false) hM (row_stays hown (fun g e => hS.block g (hpvM g e).2)) hpvM (hO.move (hS.mono fun k hk => hk.2.1) (fun k h _ => h) (fun k h => .inl h)) hlen hf hv hl hps (by rw [hz]; exact hbs) hTr hd1 hqp hmk
      refine h.mono fun e w' ht => ?_
      have hF : Fin M w ((w.setCell ⟨rb, 7, none⟩ (.string q.v)).setCell ⟨rb, 10, none⟩ (.bool false)) := hS.mono fun k hk e => hk.2 (e ▸ hM)
      unfold Took at ht ⊢
      rw [hz] at ht
      cases hO2 : Vm.takeD (G := G) k (f :: os) c q with
      | go s => rw [hO2] at ht; exact ⟨ht.1, ht.2.1, hF.trans (ht.2.2.mono fun k hk => ⟨by rw [hz]; exact hk.1, hk.2⟩)⟩
      | bad k' er => rw [hO2] at ht; exact ⟨ht.1, ht.2.1, hF.trans (ht.2.2.mono fun k hk => ⟨by rw [hz]; exact hk.1, hk.2⟩)⟩
    · have e : G.on q = some { q with v := cutM q.v } := by show (if _ ∧ _ then _ else _) = _; rw [if_pos ⟨hqp, hmk⟩]
      rw [e]
      exact value_on rb base M k (f :: os) c q on0 ov cv pv w hR hM hown hpvM hO hv hqp hmk
  · have e : G.on q = none := by show (if _ ∧ _ then _ else _) = _; rw [if_neg (fun h => hqp h.1)]
    rw [e]
    have h0 : on0 = false := by cases on0; rfl; exact absurd (hon rfl) hqp
    subst h0
    exact value_tail rb base M k f os c q ov cv pv w hR hM hown hpvM hO hlen hf hv hl hps hbs T hd1 hqp
end Go.Proofs.YtjgfbicllgalkaaGreatDoor.Vc

namespace Go.Proofs.YtjgfbicllgalkaaGreatDoor.Vc
set_option maxRecDepth 100000
open Go.RowKit Pp Sq

theorem qdec_len : ∀ (n : Nat) (l : List UInt8), l.length ≤ n → (Qu.dec l).1.length ≤ l.length := by
  intro n
  induction n with
  | zero => intro l h; have : l = [] := List.eq_nil_of_length_eq_zero (by omega); subst this; simp [Qu.dec]
  | succ n ih =>
    have hp : ∀ (b : List UInt8) (p : List UInt8 × Nat) (m : Nat), b.length + p.1.length ≤ m → (Qu.pre b p).1.length ≤ m := fun b p m h => by
      unfold Qu.pre; split
      · simp; omega
      · simp
    intro l h
    match l with
    | [] => simp [Qu.dec]
    | [c] => unfold Qu.dec; split; simp; split <;> simp
    | [c, x] =>
      unfold Qu.dec
      split
      · exact hp _ _ _ (by have := ih [x] (by simp at h ⊢; omega); simp at this ⊢; omega)
      · split <;> simp
    | c :: x :: y :: r =>
      unfold Qu.dec
      split
      · exact hp _ _ _ (by have := ih (x :: y :: r) (by simp at h ⊢; omega); simp at this ⊢; omega)
      · split
        · split
          · exact hp _ _ _ (by have := ih r (by simp at h; omega); have := Qu.behind_length (x :: y :: r); simp at *; omega)
          · simp
        · simp
theorem cut4_len : ∀ (n : Nat) (l : List UInt8), l.length ≤ n → (((Sx.cut 4 l).map Sx.good).flatten).length ≤ l.length := by
  intro n
  induction n with
  | zero => intro l h; have : l = [] := List.eq_nil_of_length_eq_zero (by omega); subst this; rw [Sx.cut_nil]; simp
  | succ n ih =>
    intro l h
    by_cases h0 : 0 < l.length
    · rw [Sx.cut_step (by decide) h0, List.map_cons, List.flatten_cons, List.length_append]
      have h1 := ih (l.drop 4) (by rw [List.length_drop]; omega)
      have h2 : (Sx.good (l.take 4)).length ≤ (l.take 4).length := by
        unfold Sx.good
        rw [List.length_take]
        have : (Sx.said (l.take 4)).length ≤ (l.take 4).length := by
          unfold Sx.said Lib.trimRightS
          rw [List.length_reverse]
          have h3 := congrArg List.length (List.takeWhile_append_dropWhile (p := fun c => List.contains [61, 61] c) (l := (l.take 4).reverse))
          rw [List.length_append, List.length_reverse] at h3
          omega
        omega
      rw [List.length_drop] at h1
      rw [List.length_take] at h2
      omega
    · have : l = [] := List.eq_nil_of_length_eq_zero (by omega)
      subst this; rw [Sx.cut_nil]; simp
theorem mk_size (l : List UInt8) : (⟨l.toArray⟩ : ByteArray).size = l.length := by simp [ByteArray.size]
theorem decW_size (m v : ByteArray) : (decW m v).1.size ≤ v.size := by
  have hl : v.data.toList.length = v.size := by rw [Array.length_toList]; rfl
  unfold decW
  split
  · show (⟨_⟩ : ByteArray).size ≤ _; rw [mk_size, ← hl]; exact qdec_len _ _ (Nat.le_refl _)
  · split
    · show (⟨_⟩ : ByteArray).size ≤ _
      rw [mk_size, ← hl]
      unfold Sx.dec
      split
      · split
        · simp
        · exact Nat.le_trans (cut4_len _ _ (Nat.le_refl _)) (Sx.strip_length _)
      · simp
    · split
      · exact Nat.le_refl _
      · exact Nat.zero_le _

/-- A property that was read has few parameters, and they are short. -/
theorem parse_few {s : ByteArray} (he : (parse s).err = 0) : (parse s).ps.length ≤ 6 ∧ (parse s).v.size ≤ 2400 ∧ ∀ x ∈ (parse s).ps, x.2.size ≤ 1048576 := by
  obtain ⟨_, h2, h3, _, h5, _⟩ := chk_ok (parse_ok he)
  refine ⟨h2, h5, fun x hx => ?_⟩
  have h := List.all_eq_true.1 h3 x hx
  have := valB_le (param_parts h).2
  omega

theorem RdAt.mono {w : World} {rb base : Nat} {M M' : Nat → Prop} (hM : ∀ k, M k → M' k) : ∀ {s : Vm.St G}, RdAt w rb base M s → RdAt w rb base M' s
  | .at_ _ _ _, ⟨nu, ov, cv, g, n, pv, v, av, en, h1, h2, h3, h4⟩ => ⟨nu, ov, cv, g, n, pv, v, av, en, h1, hM _ h2, h3.move (Stays.refl _ _) (fun k h _ => hM k h) (fun _ h => .inl h), fun e => (h4 e).move (Stays.refl _ _) (fun k h _ => ⟨hM k h.1, h.2⟩)⟩
  | .on _ _ _ _, ⟨ov, cv, pv, h1, h2, h3, h4, h5⟩ => ⟨ov, cv, pv, h1, hM _ h2, h3, fun g e => ⟨hM _ (h4 g e).1, (h4 g e).2⟩, h5.move (Stays.refl _ _) (fun k h _ => hM k h) (fun _ h => .inl h)⟩
theorem took_from {w wc w' : World} {rb base : Nat} {M : Nat → Prop} {O : Vm.Out G} {e : Ending} (hF : Fin M w wc) (h : Took wc rb base (fun k => M k ∨ w.heap.size ≤ k) O e w') : Took w rb base M O e w' := by
  have hz := hF.size
  have hF2 : Fin (fun k => M k ∨ w.heap.size ≤ k) wc w' → Fin M w w' := fun h => Stays.trans hF (h.mono fun k hk => ⟨Nat.lt_of_lt_of_le hk.1 hz, fun e => e.elim hk.2 (fun e => by have := hk.1; omega)⟩)
  cases O with
  | go s => exact ⟨h.1, h.2.1.mono (fun k hk => hk.elim id (fun e => .inr (Nat.le_trans hz e))), hF2 h.2.2⟩
  | bad k er => exact ⟨h.1, h.2.1, hF2 h.2.2⟩

theorem five_below {w w' : World} {z : Nat} {v0 v1 v2 v3 v4 : Value} (h : w.drew.cell? ⟨z, 0, none⟩ = some v0 ∧ w.drew.cell? ⟨z, 1, none⟩ = some v1 ∧ w.drew.cell? ⟨z, 2, none⟩ = some v2 ∧ w.drew.cell? ⟨z, 3, none⟩ = some v3 ∧ w.drew.cell? ⟨z, 4, none⟩ = some v4) (hb : Below w.drew.heap.size w.drew w') (hz : z < w.heap.size) :
    w'.cell? ⟨z, 0, none⟩ = some v0 ∧ w'.cell? ⟨z, 1, none⟩ = some v1 ∧ w'.cell? ⟨z, 2, none⟩ = some v2 ∧ w'.cell? ⟨z, 3, none⟩ = some v3 ∧ w'.cell? ⟨z, 4, none⟩ = some v4 :=
  ⟨(hb.cell (p := ⟨z, 0, none⟩) hz).trans h.1, (hb.cell (p := ⟨z, 1, none⟩) hz).trans h.2.1, (hb.cell (p := ⟨z, 2, none⟩) hz).trans h.2.2.1, (hb.cell (p := ⟨z, 3, none⟩) hz).trans h.2.2.2.1, (hb.cell (p := ⟨z, 4, none⟩) hz).trans h.2.2.2.2⟩
theorem five_set {w : World} {z r o : Nat} {u v0 v1 v2 v3 v4 : Value} (h : w.cell? ⟨z, 0, none⟩ = some v0 ∧ w.cell? ⟨z, 1, none⟩ = some v1 ∧ w.cell? ⟨z, 2, none⟩ = some v2 ∧ w.cell? ⟨z, 3, none⟩ = some v3 ∧ w.cell? ⟨z, 4, none⟩ = some v4) (hb : z ≠ r) :
    (w.setCell ⟨r, o, none⟩ u).cell? ⟨z, 0, none⟩ = some v0 ∧ (w.setCell ⟨r, o, none⟩ u).cell? ⟨z, 1, none⟩ = some v1 ∧ (w.setCell ⟨r, o, none⟩ u).cell? ⟨z, 2, none⟩ = some v2 ∧ (w.setCell ⟨r, o, none⟩ u).cell? ⟨z, 3, none⟩ = some v3 ∧ (w.setCell ⟨r, o, none⟩ u).cell? ⟨z, 4, none⟩ = some v4 := by
  have E : ∀ i, (w.setCell ⟨r, o, none⟩ u).cell? ⟨z, i, none⟩ = w.cell? ⟨z, i, none⟩ := fun i => World.cell?_of_block (a := ⟨z, i, none⟩) (Below.heap_setCell w ⟨r, o, none⟩ u z hb)
  exact ⟨(E 0).trans h.1, (E 1).trans h.2.1, (E 2).trans h.2.2.1, (E 3).trans h.2.2.2.1, (E 4).trans h.2.2.2.2⟩
/-- What lies there behind a property has been laid into the reader. -/
def SetAt (U wc : World) (rb k : Nat) (ov cv : Value) (q : Par) (pv : Value) : Prop :=
  RdC wc rb 2 k ov cv q.g q.n pv q.v (.slice none 0 0) (wayV q.ps) false ∧ Stays (fun k => k < U.heap.size ∧ k ≠ rb) U wc
theorem setAt_of {U w5 : World} {rb k : Nat} {ov cv : Value} {q : Par} {pv pv0 av0 : Value} {g0 n0 v0 en0 : ByteArray} (h : RdC U rb 2 k ov cv g0 n0 pv0 v0 av0 en0 false) (hb : Below U.drew.heap.size U.drew w5) :
    SetAt U ((((((w5.setCell ⟨rb, 4, none⟩ (.string q.g)).setCell ⟨rb, 5, none⟩ (.string q.n)).setCell ⟨rb, 6, none⟩ pv).setCell ⟨rb, 7, none⟩ (.string q.v)).setCell ⟨rb, 8, none⟩ (.slice none 0 0)).setCell ⟨rb, 9, none⟩ (.string (wayV q.ps))) rb k ov cv q pv :=
  ⟨((((((h.kept (hb.block rb h.lt)).set4 _).set5 _).set6 _).set7 _).set8 _).set9 _,
    Stays.trans ⟨hb.os, hb.tape, hb.output, hb.size, fun k hk => hb.block k hk.1⟩ (stays_set (stays_set (stays_set (stays_set (stays_set (stays_set (Stays.refl _ w5) (fun h => h.2 rfl)) (fun h => h.2 rfl)) (fun h => h.2 rfl)) (fun h => h.2 rfl)) (fun h => h.2 rfl)) (fun h => h.2 rfl))⟩
set_option maxHeartbeats 1600000 in
/-- A property's line. -/
theorem takeProp_any (rb base : Nat) (M : Nat → Prop) (k : Nat) (f : Fr) (os : List Fr) (c : Crd) (s : ByteArray) (ov cv pv0 av0 : Value) (g0 n0 v0 en0 : ByteArray) (w : World)
    (hR : RdC w rb 2 k ov cv g0 n0 pv0 v0 av0 en0 false) (hM : M rb) (hO : OpAt w rb base M (fun _ => False) (f :: os) ov)
    (hlen : os.length ≤ 2) (hf : f.length ≤ 24) (hs : s.size ≤ 10000) (hbs : base ≤ w.heap.size) (HTab : ∀ W, Fin M w W → Qu.Tabs W) :
    Calls Tryz.prog 83 #[.pointer (some ⟨rb, 0, none⟩), .string s] w (Took w rb base M (Vm.takeP (G := G) k (f :: os) c s)) := by
  obtain ⟨og, oc, a, cp, rfl, htop, _, hog, hogr, hoc, hoc2⟩ := hO.top
  have CI := Lib.hid (inner_any rb og os.length oc w hR.c2 (by omega))
  have CP := Lib.hid (fun W => pParse_any s W hs)
  rw [prs_eq] at CP
  have hrb := hR.lt
  have HR := Lib.hid hR
  have HO := Lib.hid hO
  have HBS := Lib.hid hbs
  have HT := Lib.hid HTab
  have HP6 := Lib.hid (parse_few (s := s))
  have hrd : G.rd s = ((parse s).err, parse s) := rfl
  obtain ⟨OUT, hOut⟩ : ∃ O, Vm.takeP (G := G) k (f :: os) c s = O := ⟨_, rfl⟩
  rw [hOut]
  unfold Vm.takeP at hOut
  rw [hrd] at hOut
  generalize parse s = q at CP hOut HP6
  have HOUT : Hid ((if f.length = 24 then Vm.Out.bad k 4 else if q.err ≠ 0 then Vm.Out.bad k q.err else Vm.takeV (G := G) k (f :: os) c q) = OUT) := Lib.hid hOut
  have r1 := hR.c1
  have hfz : (f.length : Int) ≤ 24 := by omega
  clear hOut hrd hR hO hbs HTab hs hoc2
  by_cases h24 : f.length = 24
  · have hb : ((f.length : Int) == 24) = true := by simp; omega
    have HE : Hid (OUT = .bad k 4) := Lib.hid (by rw [← HOUT.out, if_pos h24])
    clear HOUT
    go_enter Tryz.func83, Tryz.ntmps83
    go_wp2_with fail
    refine CI.out.mono ?_
    rintro e w1 ⟨rfl, qq, rfl⟩
    have t1 : (w.drewN qq).cell? ⟨og, os.length, none⟩ = some (.slice a f.length cp) := htop
    have hF : Fin M w (w.drewN qq) := (drew_all w qq).mono fun _ _ => trivial
    have s1 : (w.drewN qq).cell? ⟨rb, 1, none⟩ = some (.int .i64 (k : Int)) := r1
    generalize w.drewN qq = W at t1 hF s1 ⊢
    go_wp2_with fail
    go_ret
    rw [HE.out]
    exact ⟨rfl, s1, hF⟩
  · have hb : ((f.length : Int) == 24) = false := by simp; omega
    have HOUT1 : Hid ((if q.err ≠ 0 then Vm.Out.bad k q.err else Vm.takeV (G := G) k (f :: os) c q) = OUT) := Lib.hid (by have h := HOUT.out; rw [if_neg h24] at h; exact h)
    have hf24 : f.length < 24 := by omega
    clear HOUT h24
    go_enter Tryz.func83, Tryz.ntmps83
    go_wp2_with fail
    refine CI.out.mono ?_
    rintro e w1 ⟨rfl, qq, rfl⟩
    have t1 : (w.drewN qq).cell? ⟨og, os.length, none⟩ = some (.slice a f.length cp) := htop
    obtain ⟨W, hWe⟩ : ∃ W, w.drewN qq = W := ⟨_, rfl⟩
    have hSW : Stays (fun _ => True) w W := by rw [← hWe]; exact drew_all w qq
    have hzW : W.heap.size = w.heap.size := by rw [← hWe]; rfl
    rw [hWe] at t1 ⊢
    clear hWe htop
    go_wp2_with fail
    refine (CP.out _).mono ?_
    rintro e w2 ⟨pv, rfl, hown, b2⟩
    obtain ⟨pa, pc, rfl⟩ := shapeP hown
    unfold prV
    have R2 := (HR.out.kept (hSW.block rb trivial)).kept (b2.block rb (by rw [hzW]; exact hrb))
    have hS2 : Stays (fun k => k < w.heap.size) w w2 := (hSW.mono fun _ _ => trivial).trans ⟨b2.os, b2.tape, b2.output, b2.size, fun k hk => b2.block k (by rw [hzW]; exact hk)⟩
    have hF2 : Fin M w w2 := hS2.mono fun k hk => hk.1
    have r1' := R2.c1
    have hz2 : w.heap.size ≤ w2.heap.size := hS2.size
    by_cases her : q.err = 0
    rotate_left
    · have heb : (q.err == 0) = false := by simpa using her
      have HE : Hid (OUT = .bad k q.err) := Lib.hid (by rw [← HOUT1.out, if_pos her])
      have hl1 := cell_al (o := .cells #[.string q.g, .string q.n, .slice pa q.ps.length pc, .string q.v, .slice none 0 0] 56) r1'
      have hF3 : Fin M w (w2.alloc (.cells #[.string q.g, .string q.n, .slice pa q.ps.length pc, .string q.v, .slice none 0 0] 56)) := Stays.alloc hF2 _ (fun k hk => Nat.lt_of_lt_of_le hk.1 hz2)
      clear HOUT1
      go_wp2_with fail
      go_ret
      rw [HE.out]
      exact ⟨rfl, hl1, hF3⟩
    · have heb : (q.err == 0) = true := by simp [her]
      have HE : Hid (Vm.takeV (G := G) k (f :: os) c q = OUT) := Lib.hid (by rw [← HOUT1.out, if_neg (fun h => h her)])
      have hq6 := HP6.out her
      obtain ⟨U, hU⟩ : ∃ U, w2.alloc (.cells #[.string q.g, .string q.n, .slice pa q.ps.length pc, .string q.v, .slice none 0 0] 56) = U := ⟨_, rfl⟩
      have bU : Below w2.heap.size w2 U := by rw [← hU]; exact (Below.refl _ _).alloc (Nat.le_refl _) _
      have hzU : U.heap.size = w2.heap.size + 1 := by rw [← hU, World.size_alloc]
      have hZ : PrAt U w2.heap.size q.g q.n (.slice pa q.ps.length pc) q.v (.slice none 0 0) := by rw [← hU]; exact heap_alloc_new w2 _
      have R3 := R2.kept (bU.block rb (by omega))
      have hSU : Stays (fun k => k < w.heap.size) w U := hS2.trans ⟨bU.os, bU.tape, bU.output, bU.size, fun k hk => bU.block k (Nat.lt_of_lt_of_le hk hz2)⟩
      have hownU : Pp.Own U W.heap.size (.slice pa q.ps.length pc) q.ps := hown.below bU
      have hownlt := own_blk hown
      have CE := Lib.hid (fun V (b : Below U.heap.size U V) => encodingOf_any q.g q.n (.slice pa q.ps.length pc) q.v (.slice none 0 0) q.ps V ((hownU.ps.below b).up b.size) (by omega) (fun x hx => by have := hq6.2.2 x hx; omega))
      unfold prV at CE
      have HF := Lib.hid (And.intro R3 (And.intro hSU (And.intro hownU (And.intro hownlt (And.intro hq6 hF2)))))
      have z0 := hZ.c0
      have z1 := hZ.c1
      have z2 := hZ.c2
      have z3 := hZ.c3
      have z4 := hZ.c4
      have k4 := R3.c4
      have k5 := R3.c5
      have k6 := R3.c6
      have k7 := R3.c7
      have k8 := R3.c8
      have k9 := R3.c9
      have f4 := R3.f 4
      have f5 := R3.f 5
      have f6 := R3.f 6
      have f7 := R3.f 7
      have f8 := R3.f 8
      have f9 := R3.f 9
      have hrU := R3.lt
      have hzz : w2.heap.size < U.heap.size := by omega
      have HU := Lib.hid hU
      clear R3 R2 hSU hS2 hF2 hown hownU hownlt hq6 hZ r1' bU HOUT1 t1 hSW b2 r1 hU
      have b0 : Below U.heap.size U U.drew := (Below.refl _ _).drew
      have dz : U.drew.cell? ⟨w2.heap.size, 0, none⟩ = some (.string q.g) ∧ U.drew.cell? ⟨w2.heap.size, 1, none⟩ = some (.string q.n) ∧ U.drew.cell? ⟨w2.heap.size, 2, none⟩ = some (.slice pa q.ps.length pc) ∧ U.drew.cell? ⟨w2.heap.size, 3, none⟩ = some (.string q.v) ∧ U.drew.cell? ⟨w2.heap.size, 4, none⟩ = some (.slice none 0 0) := ⟨z0, z1, z2, z3, z4⟩
      have sz : U.cell? ⟨w2.heap.size, 0, none⟩ = some (.string q.g) ∧ U.cell? ⟨w2.heap.size, 1, none⟩ = some (.string q.n) ∧ U.cell? ⟨w2.heap.size, 2, none⟩ = some (.slice pa q.ps.length pc) ∧ U.cell? ⟨w2.heap.size, 3, none⟩ = some (.string q.v) ∧ U.cell? ⟨w2.heap.size, 4, none⟩ = some (.slice none 0 0) := ⟨z0, z1, z2, z3, z4⟩
      clear z0 z1 z2 z3 z4
      have hne : w2.heap.size ≠ rb := by omega
      go_upto_region 6 with fail
      rw [HU.out]
      go_cut [5] from 8 to 35 (fun xv wc => xv = .pointer (some ⟨w2.heap.size, 0, none⟩) ∧ SetAt U wc rb k (.slice (some ⟨og, 0, none⟩) (os.length + 1) oc) cv q (.slice pa q.ps.length pc))
      case first =>
        go_region_held3 (fun w' => w'.cell? ⟨w2.heap.size, 0, none⟩ = some (.string q.g) ∧ w'.cell? ⟨w2.heap.size, 1, none⟩ = some (.string q.n) ∧ w'.cell? ⟨w2.heap.size, 2, none⟩ = some (.slice pa q.ps.length pc) ∧ w'.cell? ⟨w2.heap.size, 3, none⟩ = some (.string q.v) ∧ w'.cell? ⟨w2.heap.size, 4, none⟩ = some (.slice none 0 0)) (first | with_reducible exact dz | with_reducible exact sz | with_reducible exact ez | exact five_set (five_set (five_set (five_set (five_set ez hne) hne) hne) hne) hne | exact five_set (five_set (five_set (five_set (five_set (five_set ez hne) hne) hne) hne) hne) hne | go_keep) ((go_at_call 143; refine (CE.out _ b0).mono ?_; rintro e w5 ⟨rfl, b5⟩; have ez := five_below dz b5 hzz; have e4 := (b5.cell (p := ⟨rb, 4, none⟩) hrU).trans k4; have e5 := (b5.cell (p := ⟨rb, 5, none⟩) hrU).trans k5; have e6 := (b5.cell (p := ⟨rb, 6, none⟩) hrU).trans k6; have e7 := (b5.cell (p := ⟨rb, 7, none⟩) hrU).trans k7; have e8 := (b5.cell (p := ⟨rb, 8, none⟩) hrU).trans k8; have e9 := (b5.cell (p := ⟨rb, 9, none⟩) hrU).trans k9; have g4 := (World.frozen?_of_block (a := ⟨rb, 4, none⟩) (b5.block rb hrU)).trans f4; have g5 := (World.frozen?_of_block (a := ⟨rb, 5, none⟩) (b5.block rb hrU)).trans f5; have g6 := (World.frozen?_of_block (a := ⟨rb, 6, none⟩) (b5.block rb hrU)).trans f6; have g7 := (World.frozen?_of_block (a := ⟨rb, 7, none⟩) (b5.block rb hrU)).trans f7; have g8 := (World.frozen?_of_block (a := ⟨rb, 8, none⟩) (b5.block rb hrU)).trans f8; have g9 := (World.frozen?_of_block (a := ⟨rb, 9, none⟩) (b5.block rb hrU)).trans f9))
        go_wp2_with fail
        go_meet
        case rel => exact ⟨rfl, setAt_of HF.out.1 b5⟩
      case rest =>
        obtain ⟨rfl, hRc, hSc⟩ := hcut
        generalize hVc : wc = V at *
        clear hVc
        obtain ⟨R3, hSU, hownU, hownlt, hq6, hF2⟩ := HF.out
        have hSV : Stays (fun k => k < w.heap.size ∧ k ≠ rb) w V := (hSU.mono fun k hk => hk.1).trans (hSc.mono fun k hk => ⟨Nat.lt_of_lt_of_le hk.1 (by omega), hk.2⟩)
        have hFV : Fin M w V := hSV.mono fun k hk => ⟨hk.1, fun e => hk.2 (e ▸ hM)⟩
        have hS2 : Stays (fun k => k ≠ rb) V ((V.setCell ⟨rb, 7, none⟩ (.string q.v)).setCell ⟨rb, 10, none⟩ (.bool false)) := stays_set (stays_set (Stays.refl _ V) (fun h => h rfl)) (fun h => h rfl)
        have hFV2 : Fin M w ((V.setCell ⟨rb, 7, none⟩ (.string q.v)).setCell ⟨rb, 10, none⟩ (.bool false)) := hFV.trans (hS2.mono fun k hk e => hk.2 (e ▸ hM))
        have hdz := decW_size (wayV q.ps) q.v
        have hWb := HBS.out
        have CT := Lib.hid (takeValue_any rb base (fun k => M k ∨ w.heap.size ≤ k) k f os c q false _ cv (.slice pa q.ps.length pc) V hRc (fun h => by cases h) (.inl hM)
          (own_low (by omega) (row_stays hownU (fun g e => hSc.block g ⟨by have := (hownlt g e).2; omega, by have := (hownlt g e).1; omega⟩)))
          (fun g e => ⟨.inr (by have := (hownlt g e).1; omega), by have := (hownlt g e).1; omega⟩)
          (HO.out.move (hSV.mono fun k hk => ⟨hk.2.2.2, hk.2.1⟩) (fun k h _ => .inl h) (fun k e => .inr (by have := (hownlt k e).1; omega)))
          hlen hf24 (by omega) (by omega) hq6.2.2 (by have := hSV.size; omega) (HT.out V hFV) (HT.out _ hFV2) (by omega))
        rw [HE.out] at CT
        have HFV := Lib.hid hFV
        clear R3 hSU hownU hownlt hq6 hF2 hSV hFV hS2 hFV2 hdz hRc hSc HF
        go_wp2_with fail
        refine CT.out.mono ?_
        rintro e w' ht
        obtain ⟨x, rfl⟩ : ∃ x, e = .returned (.int .i64 x) := by
          cases OUT with
          | go s => exact ⟨_, ht.1⟩
          | bad k' er => exact ⟨_, ht.1⟩
        go_wp2_with fail
        go_ret
        exact took_from HFV.out ht
end Go.Proofs.YtjgfbicllgalkaaGreatDoor.Vc

namespace Go.Proofs.YtjgfbicllgalkaaGreatDoor.Vc
set_option maxRecDepth 100000
open Go.RowKit Pp Sq

theorem upB_list (s : ByteArray) : (upB s).toList = upS s := by
  unfold upB upS
  rw [ByteArray.toList_eq]
theorem trim_empty (s : ByteArray) : (⟨(Lib.trimS s.data.toList [32, 9]).toArray⟩ : ByteArray).toList.isEmpty = blank s.data.toList := by
  rw [← trimS_nil, ByteArray.toList_eq]
/-- append of a card to the open ones. -/
theorem OpAt.open_ {U : World} {rb base : Nat} {M : Nat → Prop} {os : List Fr} {ov : Value}
    (h : OpAt U rb base M (fun _ => False) os ov) (hlen : os.length ≤ 2) (hrb : rb < U.heap.size) (hbase : base ≤ U.heap.size) :
    ∃ v' w', (∀ ty, (Builtin.append_ #[54, 54] ty #[ov, .slice (some ⟨U.heap.size, 0, none⟩) 1 1]).run Tryz.prog (U.alloc (.cells #[.slice none 0 0] 24)) = .ok v' w') ∧
      OpAt w' rb base (fun k => M k ∨ U.heap.size ≤ k) (fun _ => False) ([] :: os) v' ∧ Stays (fun k => k < U.heap.size ∧ (k = rb ∨ ¬ M k)) U w' ∧ (∃ a c, v' = .slice a (os.length + 1) c) := by
  have hS : Stays (fun k => k < U.heap.size) U (U.alloc (.cells #[.slice none 0 0] 24)) := (Stays.refl _ U).alloc _ (fun k hk => hk)
  obtain ⟨F, vs, h1, h2, h3, h4, h5⟩ := h
  have hlz := h2.lt
  have hnX := h2.notX
  have h1' := row_stays h1 (w' := U.alloc (.cells #[.slice none 0 0] 24)) (fun k hk => hS.block k (own_lt h1 k hk).2)
  have h2' := FrsAt.move (F' := fun k => F k ∧ k < U.heap.size) (X' := fun k => k = rb ∨ ov.ownBlock = some k ∨ False) h2 (hS.mono fun k hk => hk.2) (fun b hb hlt => ⟨hb, hlt⟩) (fun w hw k hk => hS.block k (hlz w hw k hk).2) (fun w hw k hk => ⟨fun e => (hnX w hw k hk).1 e.1, (hnX w hw k hk).2⟩)
  obtain ⟨i0, hi, hz0, hz1, hz2⟩ := info_parts infoCd
  have hb : (U.alloc (.cells #[.slice none 0 0] 24)).heap[U.heap.size]? = some (.cells #[.slice none 0 0] 24 (0, 0)) := heap_alloc_new U _
  have hzs : (U.alloc (.cells #[.slice none 0 0] 24)).heap.size = U.heap.size + 1 := World.size_alloc _ _
  obtain ⟨v', w', hrun, hown, hgr, hpl⟩ := App.run_append_where (P := Tryz.prog) _ base 54 0 24 i0 _ 1 24 Tryz.underlying54 hi hz0 hz1 hz2 rfl (by decide) ov os.length vs.reverse h1' ⟨U.heap.size, 0, none⟩ 1 1 [.slice none 0 0] rfl
    (fun j u hj => by
      have hj5 : j = 0 := by have := (List.getElem?_eq_some_iff.1 hj).1; simp at this; exact this
      subst hj5
      have := cell_of_row _ U.heap.size 0 _ _ _ hb
      rw [Addr.add_block0, this]
      exact hj)
    (fun u hu => by simp only [List.mem_cons, List.not_mem_nil, or_false] at hu; subst hu; rfl) (by unfold maxLen; omega) (by omega) (by rw [hzs]; omega) (by decide)
  have hO := OpAt.push (M := M) (X := fun _ => False) h2' (fun k hk => h3 k hk.1) h4 h5 (by rw [hzs]; omega) (fun k hk => hk.elim) hown hgr (fun g e => by
    rcases hpl with h | h
    · exact .inl (h ▸ e)
    · rw [e] at h; cases h; exact .inr (Nat.le_refl _))
  refine ⟨v', w', fun ty => hrun, hO.move (Stays.refl _ _) (fun k h _ => h.imp id (fun e => by rw [hzs] at e; omega)) (fun k h => .inl h), ⟨hgr.os.trans hS.os, hgr.tape.trans hS.tape, hgr.output.trans hS.output, Nat.le_trans hS.size hgr.size, fun k hk => (hgr.block k (by rw [hzs]; have := hk.1; omega) (fun e => ?_)).trans (hS.block k hk.1)⟩, row_shape hown⟩
  rcases hk.2 with h | h
  · exact (h4 k e.symm).2.1 h
  · exact h (h4 k e.symm).1


set_option maxHeartbeats 800000 in
theorem take_blank (rb base : Nat) (M : Nat → Prop) (wa : Nat) (os : List Fr) (c : Crd) (k : Nat) (s : ByteArray) (w : World) (h : RdAt w rb base M (.at_ wa os c)) (hs : s.size ≤ 10000) (hbs : base ≤ w.heap.size) (hb : blank s.data.toList = true) :
    Calls Tryz.prog 47 #[.pointer (some ⟨rb, 0, none⟩), .int .i64 (k : Int), .string s] w (Took w rb base M (.go (.at_ wa os c))) := by
  obtain ⟨nu, ov, cv, g, n, pv, v, av, en, hR, hM, hO, hC⟩ := h
  have CT := Lib.hid (trim_any s w (by omega))
  have hbt := trim_empty s
  have CU := Lib.hid (fun W => pCaps_any s W (by omega))
  have hul := upB_list s
  have hrb := hR.lt
  have c10 := hR.c10
  have HR := Lib.hid hR
  have HO := Lib.hid hO
  have HC := Lib.hid hC
  have HBS := Lib.hid hbs
  clear hR hO hC hbs
  rw [hb] at hbt
  generalize (⟨(Lib.trimS s.data.toList [32, 9]).toArray⟩ : ByteArray) = T at CT hbt
  clear CU hul hb
  go_enter Tryz.func47, Tryz.ntmps47
  go_wp2_with fail
  refine CT.out.mono ?_
  rintro e w1 ⟨rfl, b1⟩
  have R1 := HR.out.kept (b1.block rb hrb)
  have hS : Stays (fun k => k < w.heap.size) w w1 := ⟨b1.os, b1.tape, b1.output, b1.size, fun k hk => b1.block k hk⟩
  go_wp2_with fail
  go_ret
  exact ⟨rfl, ⟨nu, ov, cv, g, n, pv, v, av, en, R1, .inl hM, HO.out.move (hS.mono fun k hk => hk.2.2.2) (fun k h _ => .inl h) (fun k h => .inl h), fun e => (HC.out e).move (hS.mono fun k hk => hk.2) (fun k h _ => ⟨.inl h.1, h.2⟩)⟩, hS.mono fun k hk => hk.1⟩

set_option maxHeartbeats 1600000 in
theorem take_begin (rb base : Nat) (M : Nat → Prop) (os : List Fr) (c : Crd) (k : Nat) (s : ByteArray) (w : World) (h : RdAt w rb base M (.at_ 0 os c)) (hs : s.size ≤ 10000) (hbs : base ≤ w.heap.size) (hb : blank s.data.toList = false) (hx : upS s = [66, 69, 71, 73, 78, 58, 86, 67, 65, 82, 68]) (hlen : os.length ≤ 2) :
    Calls Tryz.prog 47 #[.pointer (some ⟨rb, 0, none⟩), .int .i64 (k : Int), .string s] w (Took w rb base M (.go (.at_ 1 ([] :: os) c))) := by
  obtain ⟨nu, ov, cv, g, n, pv, v, av, en, hR, hM, hO, hC⟩ := h
  have CT := Lib.hid (trim_any s w (by omega))
  have hbt := trim_empty s
  have CU := Lib.hid (fun W => pCaps_any s W (by omega))
  have hul := upB_list s
  have hrb := hR.lt
  have c10 := hR.c10
  have HR := Lib.hid hR
  have HO := Lib.hid hO
  have HC := Lib.hid hC
  have HBS := Lib.hid hbs
  clear hR hO hC hbs
  obtain ⟨oa, oc, rfl⟩ := HO.out.shape
  rw [hb] at hbt
  generalize (⟨(Lib.trimS s.data.toList [32, 9]).toArray⟩ : ByteArray) = T at CT hbt
  have q1 : ((upB s).toList == [66, 69, 71, 73, 78, 58, 86, 67, 65, 82, 68]) = true := by rw [hul]; simpa using hx
  generalize upB s = X at CU hul q1
  clear hb hul
  go_enter Tryz.func47, Tryz.ntmps47
  go_wp2_with fail
  refine CT.out.mono ?_
  rintro e w1 ⟨rfl, b1⟩
  have R1 := HR.out.kept (b1.block rb hrb)
  have m1 := R1.c1
  have mf := R1.f 1
  have R2 := R1.set1 (k : Int)
  have hS1 : Stays (fun j => j < w.heap.size ∧ j ≠ rb) w (w1.setCell ⟨rb, 1, none⟩ (.int .i64 (k : Int))) := stays_set ⟨b1.os, b1.tape, b1.output, b1.size, fun j hj => b1.block j hj.1⟩ (fun h => h.2 rfl)
  go_wp2_with fail
  refine (CU.out _).mono ?_
  rintro e w2 ⟨rfl, b2⟩
  have hzz : w.heap.size ≤ (w1.setCell ⟨rb, 1, none⟩ (.int .i64 (k : Int))).heap.size := hS1.size
  have R3 := R2.kept (b2.block rb (by omega))
  have hS : Stays (fun j => j < w.heap.size ∧ j ≠ rb) w w2 := hS1.trans ⟨b2.os, b2.tape, b2.output, b2.size, fun j hj => b2.block j (by omega)⟩
  have hFV : Fin M w w2 := hS.mono fun j hj => ⟨hj.1, fun e => hj.2 (e ▸ hM)⟩
  have O3 := HO.out.move (M' := fun k => M k ∨ w.heap.size ≤ k) (X' := fun _ => False) (hS.mono fun j hj => ⟨hj.2.2.2, hj.2.1⟩) (fun k h _ => .inl h) (fun k h => .inl h)
  have r0 := R3.c0
  have r1 := R3.c1
  have r2 := R3.c2
  have f0 := R3.f 0
  have f2 := R3.f 2
  have hr3 := R3.lt
  have HF := Lib.hid (And.intro R3 (And.intro O3 (And.intro hS hFV)))
  have hz2 := hS.size
  clear R1 R2 R3 O3 hS hFV hS1 m1 mf c10
  obtain ⟨v', W3, hrun, hO3, hS3, ⟨va, vc, rfl⟩⟩ := HF.out.2.1.open_ hlen hr3 (by have := HBS.out; omega)
  have hrW := HF.out.1.kept (hS3.block rb ⟨hr3, .inl rfl⟩)
  have n0 := hrW.c0
  have n2 := hrW.c2
  have g0 := hrW.f 0
  have g2 := hrW.f 2
  have HW := Lib.hid (And.intro hrW (And.intro hO3 hS3))
  clear hrW hO3 hS3
  go_wp2_with (refine list_run rfl _ _ _ rfl _ _ _ rfl rfl hrun ?_)
  go_ret
  obtain ⟨hrW, hO3, hS3⟩ := HW.out
  have hS5 : Stays (fun j => j ≠ rb) W3 ((W3.setCell ⟨rb, 2, none⟩ (.slice va (os.length + 1) vc)).setCell ⟨rb, 0, none⟩ (.int .i64 1)) := stays_set (stays_set (Stays.refl _ W3) (fun h => h rfl)) (fun h => h rfl)
  refine ⟨rfl, ⟨_, _, _, _, _, _, _, _, _, (hrW.set2 _).set0 1, .inl hM, hO3.move (hS5.mono fun j hj => hj.2.1) (fun j h _ => h.elim id (fun e => .inr (Nat.le_trans hz2 e))) (fun j h => .inl h), fun e => by cases e⟩, (HF.out.2.2.2.trans (hS3.mono fun j hj => ⟨Nat.lt_of_lt_of_le hj.1 hz2, .inr (fun e => e.elim hj.2 (fun e => by have := hj.1; omega))⟩)).trans (hS5.mono fun j hj e => hj.2 (e ▸ hM))⟩

set_option maxHeartbeats 1600000 in
theorem take_noBegin (rb base : Nat) (M : Nat → Prop) (os : List Fr) (c : Crd) (k : Nat) (s : ByteArray) (w : World) (h : RdAt w rb base M (.at_ 0 os c)) (hs : s.size ≤ 10000) (hbs : base ≤ w.heap.size) (hb : blank s.data.toList = false) (hx : ¬ upS s = [66, 69, 71, 73, 78, 58, 86, 67, 65, 82, 68]) :
    Calls Tryz.prog 47 #[.pointer (some ⟨rb, 0, none⟩), .int .i64 (k : Int), .string s] w (Took w rb base M (.bad k 3)) := by
  obtain ⟨nu, ov, cv, g, n, pv, v, av, en, hR, hM, hO, hC⟩ := h
  have CT := Lib.hid (trim_any s w (by omega))
  have hbt := trim_empty s
  have CU := Lib.hid (fun W => pCaps_any s W (by omega))
  have hul := upB_list s
  have hrb := hR.lt
  have c10 := hR.c10
  have HR := Lib.hid hR
  have HO := Lib.hid hO
  have HC := Lib.hid hC
  have HBS := Lib.hid hbs
  clear hR hO hC hbs
  rw [hb] at hbt
  generalize (⟨(Lib.trimS s.data.toList [32, 9]).toArray⟩ : ByteArray) = T at CT hbt
  have q1 : ((upB s).toList == [66, 69, 71, 73, 78, 58, 86, 67, 65, 82, 68]) = false := by rw [hul]; simpa using hx
  generalize upB s = X at CU hul q1
  clear hb hul
  go_enter Tryz.func47, Tryz.ntmps47
  go_wp2_with fail
  refine CT.out.mono ?_
  rintro e w1 ⟨rfl, b1⟩
  have R1 := HR.out.kept (b1.block rb hrb)
  have m1 := R1.c1
  have mf := R1.f 1
  have R2 := R1.set1 (k : Int)
  have hS1 : Stays (fun j => j < w.heap.size ∧ j ≠ rb) w (w1.setCell ⟨rb, 1, none⟩ (.int .i64 (k : Int))) := stays_set ⟨b1.os, b1.tape, b1.output, b1.size, fun j hj => b1.block j hj.1⟩ (fun h => h.2 rfl)
  go_wp2_with fail
  refine (CU.out _).mono ?_
  rintro e w2 ⟨rfl, b2⟩
  have hzz : w.heap.size ≤ (w1.setCell ⟨rb, 1, none⟩ (.int .i64 (k : Int))).heap.size := hS1.size
  have R3 := R2.kept (b2.block rb (by omega))
  have hS : Stays (fun j => j < w.heap.size ∧ j ≠ rb) w w2 := hS1.trans ⟨b2.os, b2.tape, b2.output, b2.size, fun j hj => b2.block j (by omega)⟩
  have hFV : Fin M w w2 := hS.mono fun j hj => ⟨hj.1, fun e => hj.2 (e ▸ hM)⟩
  have O3 := HO.out.move (M' := fun k => M k ∨ w.heap.size ≤ k) (X' := fun _ => False) (hS.mono fun j hj => ⟨hj.2.2.2, hj.2.1⟩) (fun k h _ => .inl h) (fun k h => .inl h)
  have r0 := R3.c0
  have r1 := R3.c1
  have r2 := R3.c2
  have f0 := R3.f 0
  have f2 := R3.f 2
  have hr3 := R3.lt
  have HF := Lib.hid (And.intro R3 (And.intro O3 (And.intro hS hFV)))
  have hz2 := hS.size
  clear R1 R2 R3 O3 hS hFV hS1 m1 mf c10
  go_wp2_with fail
  go_ret
  exact ⟨rfl, r1, HF.out.2.2.2⟩

set_option maxHeartbeats 1600000 in
theorem take_version (rb base : Nat) (M : Nat → Prop) (os : List Fr) (c : Crd) (k : Nat) (s : ByteArray) (w : World) (h : RdAt w rb base M (.at_ 1 os c)) (hs : s.size ≤ 10000) (hbs : base ≤ w.heap.size) (hb : blank s.data.toList = false) (hx : upS s = [86, 69, 82, 83, 73, 79, 78, 58, 50, 46, 49]) :
    Calls Tryz.prog 47 #[.pointer (some ⟨rb, 0, none⟩), .int .i64 (k : Int), .string s] w (Took w rb base M (.go (.at_ 2 os c))) := by
  obtain ⟨nu, ov, cv, g, n, pv, v, av, en, hR, hM, hO, hC⟩ := h
  have CT := Lib.hid (trim_any s w (by omega))
  have hbt := trim_empty s
  have CU := Lib.hid (fun W => pCaps_any s W (by omega))
  have hul := upB_list s
  have hrb := hR.lt
  have c10 := hR.c10
  have HR := Lib.hid hR
  have HO := Lib.hid hO
  have HC := Lib.hid hC
  have HBS := Lib.hid hbs
  clear hR hO hC hbs
  rw [hb] at hbt
  generalize (⟨(Lib.trimS s.data.toList [32, 9]).toArray⟩ : ByteArray) = T at CT hbt
  have q1 : ((upB s).toList == [86, 69, 82, 83, 73, 79, 78, 58, 50, 46, 49]) = true := by rw [hul]; simpa using hx
  generalize upB s = X at CU hul q1
  clear hb hul
  go_enter Tryz.func47, Tryz.ntmps47
  go_wp2_with fail
  refine CT.out.mono ?_
  rintro e w1 ⟨rfl, b1⟩
  have R1 := HR.out.kept (b1.block rb hrb)
  have m1 := R1.c1
  have mf := R1.f 1
  have R2 := R1.set1 (k : Int)
  have hS1 : Stays (fun j => j < w.heap.size ∧ j ≠ rb) w (w1.setCell ⟨rb, 1, none⟩ (.int .i64 (k : Int))) := stays_set ⟨b1.os, b1.tape, b1.output, b1.size, fun j hj => b1.block j hj.1⟩ (fun h => h.2 rfl)
  go_wp2_with fail
  refine (CU.out _).mono ?_
  rintro e w2 ⟨rfl, b2⟩
  have hzz : w.heap.size ≤ (w1.setCell ⟨rb, 1, none⟩ (.int .i64 (k : Int))).heap.size := hS1.size
  have R3 := R2.kept (b2.block rb (by omega))
  have hS : Stays (fun j => j < w.heap.size ∧ j ≠ rb) w w2 := hS1.trans ⟨b2.os, b2.tape, b2.output, b2.size, fun j hj => b2.block j (by omega)⟩
  have hFV : Fin M w w2 := hS.mono fun j hj => ⟨hj.1, fun e => hj.2 (e ▸ hM)⟩
  have O3 := HO.out.move (M' := fun k => M k ∨ w.heap.size ≤ k) (X' := fun _ => False) (hS.mono fun j hj => ⟨hj.2.2.2, hj.2.1⟩) (fun k h _ => .inl h) (fun k h => .inl h)
  have r0 := R3.c0
  have r1 := R3.c1
  have r2 := R3.c2
  have f0 := R3.f 0
  have f2 := R3.f 2
  have hr3 := R3.lt
  have HF := Lib.hid (And.intro R3 (And.intro O3 (And.intro hS hFV)))
  have hz2 := hS.size
  clear R1 R2 R3 O3 hS hFV hS1 m1 mf c10
  go_wp2_with fail
  go_ret
  obtain ⟨R3, O3, hS, hFV⟩ := HF.out
  have hS5 : Stays (fun j => j ≠ rb) w2 (w2.setCell ⟨rb, 0, none⟩ (.int .i64 2)) := stays_set (Stays.refl _ w2) (fun h => h rfl)
  exact ⟨rfl, ⟨_, _, _, _, _, _, _, _, _, R3.set0 2, .inl hM, O3.move (hS5.mono fun j hj => hj.2.1) (fun j h _ => h) (fun j h => .inl h), fun e => by cases e⟩, hFV.trans (hS5.mono fun j hj e => hj.2 (e ▸ hM))⟩

set_option maxHeartbeats 1600000 in
theorem take_noVersion (rb base : Nat) (M : Nat → Prop) (os : List Fr) (c : Crd) (k : Nat) (s : ByteArray) (w : World) (h : RdAt w rb base M (.at_ 1 os c)) (hs : s.size ≤ 10000) (hbs : base ≤ w.heap.size) (hb : blank s.data.toList = false) (hx : ¬ upS s = [86, 69, 82, 83, 73, 79, 78, 58, 50, 46, 49]) :
    Calls Tryz.prog 47 #[.pointer (some ⟨rb, 0, none⟩), .int .i64 (k : Int), .string s] w (Took w rb base M (.bad k 3)) := by
  obtain ⟨nu, ov, cv, g, n, pv, v, av, en, hR, hM, hO, hC⟩ := h
  have CT := Lib.hid (trim_any s w (by omega))
  have hbt := trim_empty s
  have CU := Lib.hid (fun W => pCaps_any s W (by omega))
  have hul := upB_list s
  have hrb := hR.lt
  have c10 := hR.c10
  have HR := Lib.hid hR
  have HO := Lib.hid hO
  have HC := Lib.hid hC
  have HBS := Lib.hid hbs
  clear hR hO hC hbs
  rw [hb] at hbt
  generalize (⟨(Lib.trimS s.data.toList [32, 9]).toArray⟩ : ByteArray) = T at CT hbt
  have q1 : ((upB s).toList == [86, 69, 82, 83, 73, 79, 78, 58, 50, 46, 49]) = false := by rw [hul]; simpa using hx
  generalize upB s = X at CU hul q1
  clear hb hul
  go_enter Tryz.func47, Tryz.ntmps47
  go_wp2_with fail
  refine CT.out.mono ?_
  rintro e w1 ⟨rfl, b1⟩
  have R1 := HR.out.kept (b1.block rb hrb)
  have m1 := R1.c1
  have mf := R1.f 1
  have R2 := R1.set1 (k : Int)
  have hS1 : Stays (fun j => j < w.heap.size ∧ j ≠ rb) w (w1.setCell ⟨rb, 1, none⟩ (.int .i64 (k : Int))) := stays_set ⟨b1.os, b1.tape, b1.output, b1.size, fun j hj => b1.block j hj.1⟩ (fun h => h.2 rfl)
  go_wp2_with fail
  refine (CU.out _).mono ?_
  rintro e w2 ⟨rfl, b2⟩
  have hzz : w.heap.size ≤ (w1.setCell ⟨rb, 1, none⟩ (.int .i64 (k : Int))).heap.size := hS1.size
  have R3 := R2.kept (b2.block rb (by omega))
  have hS : Stays (fun j => j < w.heap.size ∧ j ≠ rb) w w2 := hS1.trans ⟨b2.os, b2.tape, b2.output, b2.size, fun j hj => b2.block j (by omega)⟩
  have hFV : Fin M w w2 := hS.mono fun j hj => ⟨hj.1, fun e => hj.2 (e ▸ hM)⟩
  have O3 := HO.out.move (M' := fun k => M k ∨ w.heap.size ≤ k) (X' := fun _ => False) (hS.mono fun j hj => ⟨hj.2.2.2, hj.2.1⟩) (fun k h _ => .inl h) (fun k h => .inl h)
  have r0 := R3.c0
  have r1 := R3.c1
  have r2 := R3.c2
  have f0 := R3.f 0
  have f2 := R3.f 2
  have hr3 := R3.lt
  have HF := Lib.hid (And.intro R3 (And.intro O3 (And.intro hS hFV)))
  have hz2 := hS.size
  clear R1 R2 R3 O3 hS hFV hS1 m1 mf c10
  go_wp2_with fail
  go_ret
  exact ⟨rfl, r1, HF.out.2.2.2⟩

set_option maxHeartbeats 1600000 in
theorem take_more (rb base : Nat) (M : Nat → Prop) (os : List Fr) (c : Crd) (k : Nat) (s : ByteArray) (w : World) (h : RdAt w rb base M (.at_ 3 os c)) (hs : s.size ≤ 10000) (hbs : base ≤ w.heap.size) (hb : blank s.data.toList = false) :
    Calls Tryz.prog 47 #[.pointer (some ⟨rb, 0, none⟩), .int .i64 (k : Int), .string s] w (Took w rb base M (.bad k 6)) := by
  obtain ⟨nu, ov, cv, g, n, pv, v, av, en, hR, hM, hO, hC⟩ := h
  have CT := Lib.hid (trim_any s w (by omega))
  have hbt := trim_empty s
  have CU := Lib.hid (fun W => pCaps_any s W (by omega))
  have hul := upB_list s
  have hrb := hR.lt
  have c10 := hR.c10
  have HR := Lib.hid hR
  have HO := Lib.hid hO
  have HC := Lib.hid hC
  have HBS := Lib.hid hbs
  clear hR hO hC hbs
  rw [hb] at hbt
  generalize (⟨(Lib.trimS s.data.toList [32, 9]).toArray⟩ : ByteArray) = T at CT hbt
  generalize upB s = X at CU hul
  clear hb hul
  go_enter Tryz.func47, Tryz.ntmps47
  go_wp2_with fail
  refine CT.out.mono ?_
  rintro e w1 ⟨rfl, b1⟩
  have R1 := HR.out.kept (b1.block rb hrb)
  have m1 := R1.c1
  have mf := R1.f 1
  have R2 := R1.set1 (k : Int)
  have hS1 : Stays (fun j => j < w.heap.size ∧ j ≠ rb) w (w1.setCell ⟨rb, 1, none⟩ (.int .i64 (k : Int))) := stays_set ⟨b1.os, b1.tape, b1.output, b1.size, fun j hj => b1.block j hj.1⟩ (fun h => h.2 rfl)
  go_wp2_with fail
  refine (CU.out _).mono ?_
  rintro e w2 ⟨rfl, b2⟩
  have hzz : w.heap.size ≤ (w1.setCell ⟨rb, 1, none⟩ (.int .i64 (k : Int))).heap.size := hS1.size
  have R3 := R2.kept (b2.block rb (by omega))
  have hS : Stays (fun j => j < w.heap.size ∧ j ≠ rb) w w2 := hS1.trans ⟨b2.os, b2.tape, b2.output, b2.size, fun j hj => b2.block j (by omega)⟩
  have hFV : Fin M w w2 := hS.mono fun j hj => ⟨hj.1, fun e => hj.2 (e ▸ hM)⟩
  have O3 := HO.out.move (M' := fun k => M k ∨ w.heap.size ≤ k) (X' := fun _ => False) (hS.mono fun j hj => ⟨hj.2.2.2, hj.2.1⟩) (fun k h _ => .inl h) (fun k h => .inl h)
  have r0 := R3.c0
  have r1 := R3.c1
  have r2 := R3.c2
  have f0 := R3.f 0
  have f2 := R3.f 2
  have hr3 := R3.lt
  have HF := Lib.hid (And.intro R3 (And.intro O3 (And.intro hS hFV)))
  have hz2 := hS.size
  clear R1 R2 R3 O3 hS hFV hS1 m1 mf c10
  go_wp2_with fail
  go_ret
  exact ⟨rfl, r1, HF.out.2.2.2⟩

set_option maxHeartbeats 1600000 in
theorem take_end (rb base : Nat) (M : Nat → Prop) (f : Fr) (os : List Fr) (c : Crd) (k : Nat) (s : ByteArray) (w : World) (h : RdAt w rb base M (.at_ 2 (f :: os) c)) (hs : s.size ≤ 10000) (hbs : base ≤ w.heap.size) (hb : blank s.data.toList = false) (hx : upS s = [69, 78, 68, 58, 86, 67, 65, 82, 68]) (hos : os.length ≤ 2) (hne : ∀ g ∈ os, g ≠ [] ∧ g.length ≤ 24) :
    Calls Tryz.prog 47 #[.pointer (some ⟨rb, 0, none⟩), .int .i64 (k : Int), .string s] w (Took w rb base M (.go (Vm.ended (G := G) (f :: os) c))) := by
  obtain ⟨nu, ov, cv, g, n, pv, v, av, en, hR, hM, hO, hC⟩ := h
  have CT := Lib.hid (trim_any s w (by omega))
  have hbt := trim_empty s
  have CU := Lib.hid (fun W => pCaps_any s W (by omega))
  have hul := upB_list s
  have hrb := hR.lt
  have c10 := hR.c10
  have HR := Lib.hid hR
  have HO := Lib.hid hO
  have HC := Lib.hid hC
  have HBS := Lib.hid hbs
  clear hR hO hC hbs
  rw [hb] at hbt
  generalize (⟨(Lib.trimS s.data.toList [32, 9]).toArray⟩ : ByteArray) = T at CT hbt
  have q1 : ((upB s).toList == [69, 78, 68, 58, 86, 67, 65, 82, 68]) = true := by rw [hul]; simpa using hx
  generalize upB s = X at CU hul q1
  clear hb hul
  go_enter Tryz.func47, Tryz.ntmps47
  go_wp2_with fail
  refine CT.out.mono ?_
  rintro e w1 ⟨rfl, b1⟩
  have R1 := HR.out.kept (b1.block rb hrb)
  have m1 := R1.c1
  have mf := R1.f 1
  have R2 := R1.set1 (k : Int)
  have hS1 : Stays (fun j => j < w.heap.size ∧ j ≠ rb) w (w1.setCell ⟨rb, 1, none⟩ (.int .i64 (k : Int))) := stays_set ⟨b1.os, b1.tape, b1.output, b1.size, fun j hj => b1.block j hj.1⟩ (fun h => h.2 rfl)
  go_wp2_with fail
  refine (CU.out _).mono ?_
  rintro e w2 ⟨rfl, b2⟩
  have hzz : w.heap.size ≤ (w1.setCell ⟨rb, 1, none⟩ (.int .i64 (k : Int))).heap.size := hS1.size
  have R3 := R2.kept (b2.block rb (by omega))
  have hS : Stays (fun j => j < w.heap.size ∧ j ≠ rb) w w2 := hS1.trans ⟨b2.os, b2.tape, b2.output, b2.size, fun j hj => b2.block j (by omega)⟩
  have hFV : Fin M w w2 := hS.mono fun j hj => ⟨hj.1, fun e => hj.2 (e ▸ hM)⟩
  have O3 := HO.out.move (M' := fun k => M k ∨ w.heap.size ≤ k) (X' := fun _ => False) (hS.mono fun j hj => ⟨hj.2.2.2, hj.2.1⟩) (fun k h _ => .inl h) (fun k h => .inl h)
  have r0 := R3.c0
  have r1 := R3.c1
  have r2 := R3.c2
  have f0 := R3.f 0
  have f2 := R3.f 2
  have hr3 := R3.lt
  have HF := Lib.hid (And.intro R3 (And.intro O3 (And.intro hS hFV)))
  have hz2 := hS.size
  clear R1 R2 R3 O3 hS hFV hS1 m1 mf c10
  have CE : Hid (Calls Tryz.prog 82 #[.pointer (some ⟨rb, 0, none⟩)] w2 fun e w' => (∃ v, e = .returned v) ∧ RdAt w' rb base (fun k => (M k ∨ w.heap.size ≤ k) ∨ w2.heap.size ≤ k) (Vm.ended (G := G) (f :: os) c) ∧ Fin (fun k => M k ∨ w.heap.size ≤ k) w2 w') := Lib.hid (by
    have hat : RdAt w2 rb base (fun k => M k ∨ w.heap.size ≤ k) (.at_ 2 (f :: os) c) := ⟨_, _, _, _, _, _, _, _, _, HF.out.1, .inl hM, HF.out.2.1, fun e => by cases e⟩
    cases os with
    | nil => exact end_one rb base _ f c w2 hat
    | cons g os => exact end_two rb base _ f g os c w2 hat (by simp at hos; omega) (hne g (List.mem_cons_self ..)).1 (hne g (List.mem_cons_self ..)).2)
  go_wp2_with fail
  refine CE.out.mono ?_
  rintro e w' ⟨⟨x, rfl⟩, hat, hfin⟩
  go_wp2_with fail
  go_ret
  exact took_from (O := .go _) HF.out.2.2.2 ⟨rfl, hat, hfin⟩

set_option maxHeartbeats 1600000 in
theorem take_prop (rb base : Nat) (M : Nat → Prop) (f : Fr) (os : List Fr) (c : Crd) (k : Nat) (s : ByteArray) (w : World) (h : RdAt w rb base M (.at_ 2 (f :: os) c)) (hs : s.size ≤ 10000) (hbs : base ≤ w.heap.size) (hb : blank s.data.toList = false) (hx : ¬ upS s = [69, 78, 68, 58, 86, 67, 65, 82, 68]) (hos : os.length ≤ 2) (hf : f.length ≤ 24) (HTab : ∀ W, Fin M w W → Qu.Tabs W) :
    Calls Tryz.prog 47 #[.pointer (some ⟨rb, 0, none⟩), .int .i64 (k : Int), .string s] w (Took w rb base M (Vm.takeP (G := G) k (f :: os) c s)) := by
  obtain ⟨nu, ov, cv, g, n, pv, v, av, en, hR, hM, hO, hC⟩ := h
  have CT := Lib.hid (trim_any s w (by omega))
  have hbt := trim_empty s
  have CU := Lib.hid (fun W => pCaps_any s W (by omega))
  have hul := upB_list s
  have hrb := hR.lt
  have c10 := hR.c10
  have HR := Lib.hid hR
  have HO := Lib.hid hO
  have HC := Lib.hid hC
  have HBS := Lib.hid hbs
  clear hR hO hC hbs
  obtain ⟨OUT, hOUT⟩ : ∃ O, Vm.takeP (G := G) k (f :: os) c s = O := ⟨_, rfl⟩
  rw [hOUT]
  rw [hb] at hbt
  generalize (⟨(Lib.trimS s.data.toList [32, 9]).toArray⟩ : ByteArray) = T at CT hbt
  have q1 : ((upB s).toList == [69, 78, 68, 58, 86, 67, 65, 82, 68]) = false := by rw [hul]; simpa using hx
  generalize upB s = X at CU hul q1
  clear hb hul
  go_enter Tryz.func47, Tryz.ntmps47
  go_wp2_with fail
  refine CT.out.mono ?_
  rintro e w1 ⟨rfl, b1⟩
  have R1 := HR.out.kept (b1.block rb hrb)
  have m1 := R1.c1
  have mf := R1.f 1
  have R2 := R1.set1 (k : Int)
  have hS1 : Stays (fun j => j < w.heap.size ∧ j ≠ rb) w (w1.setCell ⟨rb, 1, none⟩ (.int .i64 (k : Int))) := stays_set ⟨b1.os, b1.tape, b1.output, b1.size, fun j hj => b1.block j hj.1⟩ (fun h => h.2 rfl)
  go_wp2_with fail
  refine (CU.out _).mono ?_
  rintro e w2 ⟨rfl, b2⟩
  have hzz : w.heap.size ≤ (w1.setCell ⟨rb, 1, none⟩ (.int .i64 (k : Int))).heap.size := hS1.size
  have R3 := R2.kept (b2.block rb (by omega))
  have hS : Stays (fun j => j < w.heap.size ∧ j ≠ rb) w w2 := hS1.trans ⟨b2.os, b2.tape, b2.output, b2.size, fun j hj => b2.block j (by omega)⟩
  have hFV : Fin M w w2 := hS.mono fun j hj => ⟨hj.1, fun e => hj.2 (e ▸ hM)⟩
  have O3 := HO.out.move (M' := fun k => M k ∨ w.heap.size ≤ k) (X' := fun _ => False) (hS.mono fun j hj => ⟨hj.2.2.2, hj.2.1⟩) (fun k h _ => .inl h) (fun k h => .inl h)
  have r0 := R3.c0
  have r1 := R3.c1
  have r2 := R3.c2
  have f0 := R3.f 0
  have f2 := R3.f 2
  have hr3 := R3.lt
  have HF := Lib.hid (And.intro R3 (And.intro O3 (And.intro hS hFV)))
  have hz2 := hS.size
  clear R1 R2 R3 O3 hS hFV hS1 m1 mf c10
  have CE := Lib.hid (takeProp_any rb base (fun k => M k ∨ w.heap.size ≤ k) k f os c s _ _ _ _ _ _ _ _ w2 HF.out.1 (.inl hM) HF.out.2.1 hos hf hs (by have := HBS.out; omega) (fun W hW => HTab W (HF.out.2.2.2.trans (hW.mono fun j hj => ⟨Nat.lt_of_lt_of_le hj.1 hz2, fun e => e.elim hj.2 (fun e => by have := hj.1; omega)⟩))))
  rw [hOUT] at CE
  clear HTab
  go_wp2_with fail
  refine CE.out.mono ?_
  rintro e w' ht
  obtain ⟨x, rfl⟩ : ∃ x, e = .returned (.int .i64 x) := by
    cases OUT with
    | go s => exact ⟨_, ht.1⟩
    | bad k' er => exact ⟨_, ht.1⟩
  go_wp2_with fail
  go_ret
  exact took_from HF.out.2.2.2 ht

end Go.Proofs.YtjgfbicllgalkaaGreatDoor.Vc
