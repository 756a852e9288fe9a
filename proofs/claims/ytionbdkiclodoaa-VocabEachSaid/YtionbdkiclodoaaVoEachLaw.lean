/-
For every page and number the law VocabEach returns true and changes nothing that was there. Conditions: the number is an int.
-/
import Derived.Test.YtionbdkiclodoaaVoNam
import Derived.Test.YtionbdkiclodoaaVoRefs
import Derived.Test.YtionbdkiclodoaaLaws
namespace Go.Proofs.Ytionbdkiclodoaa.Vo
set_option maxRecDepth 100000
open Go.RowKit Strs Sq
attribute [local go_sem] Oper.semAt_some

/-- How many tokens below t have a name. -/
def cnt (p : Int) : Nat → Nat
  | 0 => 0
  | t + 1 => cnt p t + (if nam p t = [] then 0 else 1)
theorem cnt_no {p : Int} {t : Nat} (h : nam p t = []) : cnt p (t + 1) = cnt p t := by rw [cnt, if_pos h]; rfl
theorem cnt_yes {p : Int} {t : Nat} (h : ¬ nam p t = []) : cnt p (t + 1) = cnt p t + 1 := by rw [cnt, if_neg h]
theorem cnt_le (p : Int) : ∀ t, cnt p t ≤ t
  | 0 => Nat.le_refl _
  | t + 1 => by have := cnt_le p t; rw [cnt]; split <;> omega
theorem cnt_out {p : Int} (h : ∀ t, nam p t = []) : ∀ t, cnt p t = 0
  | 0 => rfl
  | t + 1 => by rw [cnt_no (h t), cnt_out h t]
theorem cnt0 : cnt 0 256 = (toks 0).length := by decide +kernel
theorem cnt1 : cnt 1 256 = (toks 1).length := by decide +kernel
theorem cnt2 : cnt 2 256 = (toks 2).length := by decide +kernel
theorem cnt_all (p : Int) : cnt p 256 = (toks p).length := by
  by_cases h : 0 ≤ p ∧ p ≤ 2
  · have : p = 0 ∨ p = 1 ∨ p = 2 := by omega
    rcases this with rfl | rfl | rfl
    · exact cnt0
    · exact cnt1
    · exact cnt2
  · have ht : toks p = [] := by unfold toks; rw [wds_none h]; rfl
    rw [ht, cnt_out (fun t => nam_none fun x hx => by rw [ht] at hx; simp at hx)]; rfl
theorem nam_anchor' : nam 1 5 = [65, 110, 99, 104, 111, 114] := by decide +kernel

/-- The last token that was told. -/
def lst (pre : List (Nat × List UInt8)) : Int := match pre.getLast? with
  | none => -1
  | some x => (x.1 : Int)
theorem lst_snoc (pre : List (Nat × List UInt8)) (x : Nat × List UInt8) : lst (pre ++ [x]) = (x.1 : Int) := by unfold lst; rw [List.getLast?_concat]
theorem lst_lt {L pre : List (Nat × List UInt8)} {x : Nat × List UInt8} (hL : L.Pairwise (fun x y => x.1 < y.1)) (h : pre ++ [x] <+: L) : lst pre < (x.1 : Int) := by
  unfold lst
  cases e : pre.getLast? with
  | none => show (-1 : Int) < _; omega
  | some y =>
    have hp := List.pairwise_append.1 (hL.sublist h.sublist)
    have := hp.2.2 y (List.mem_of_getLast? e) x (by simp)
    show (y.1 : Int) < _; omega

set_option maxHeartbeats 4000000 in
theorem each_in (p most : Int) (w : World) :
    CallsIn Fence.wide 5 Try.prog 4 #[.int .i64 p, .int .i64 most] w fun e W' => e = .returned (.bool true) ∧ Below w.heap.size w W' := by
  obtain ⟨u, hu⟩ : ∃ u : Nat, IntKind.u64.wrap most = (u : Int) := ⟨(IntKind.u64.wrap most).toNat, by rw [IntKind.wrap_u64]; omega⟩
  obtain ⟨m, hm⟩ : ∃ m : Nat, m = u % 300 := ⟨_, rfl⟩
  have hm2 : (u : Int) % 300 = (m : Int) := by omega
  have hm3 : m ≤ 300 := by omega
  clear hm
  have CE := Lib.hid (fun W => each_any p W)
  have CR := Lib.hid (fun (k : Nat) (hk : k < 256) W => refName_any p k hk W)
  have CN0 := fun W => name_any 1 5 W
  rw [nam_anchor'] at CN0
  have CN := Lib.hid (fun (W : World) => show Calls Try.prog 8 #[.int .i64 1, .int .u8 5] W fun e W' => e = .returned (.string { data := #[65, 110, 99, 104, 111, 114] }) ∧ Below W.heap.size W W' from CN0 W)
  clear CN0
  have HCA := Lib.hid (cnt_all p)
  have HCL := Lib.hid (fun t => cnt_le p t)
  have HRI := Lib.hid (show (toks p).Pairwise (fun x y => x.1 < y.1) from numb_rise 5 _)
  have HM := Lib.hid (fun (x : Nat × List UInt8) (h : x ∈ toks p) => And.intro (nam_of p h) (And.intro (toks_full p h) (toks_lt p h).2.1))
  have hnf := fun (W : World) (B : Nat) => Laws.run_eql_func_nil W 27 _ _ _ (.func 16) #[] #[.pointer (some ⟨B, 0, none⟩)] Try.underlying27
  refine callsIn_of_wp_marks Try.func4 rfl trivial ?_ rfl
  simp only [Try.ntmps4, List.size_toArray, List.length_cons, List.length_nil, Nat.reduceAdd, Nat.reduceSub, Array.replicate_succ, Array.replicate_zero, List.push_toArray, List.append_toArray, List.nil_append, List.cons_append]
  have bq := ((Boxed.new w 3 (.int .i64 p)).alloc (.cells #[.int .i64 most] 3)).alloc (.cells #[.bool false] 4)
  have hcq := bq.cell
  gi_wp2_with (refine ⟨trivial, ?_⟩; gi_at_call 14; refine (callsIn_wide.2 (CE.out _)).mono ?_; rintro e w' ⟨rfl, rfl⟩; have bm := (((Boxed.new (w.alloc (.cells #[.int .i64 p] 3)) 3 (.int .i64 most)).alloc (.cells #[.bool false] 4)).alloc (.cells #[.int .i64 p] 3)); have hcm := bm.cell; have hfm := bm.frozen; simp only [World.size_alloc] at hcm hfm)
  clear bq hcq bm hcm hfm hnf
  have b0 := (((((Boxed.new w 3 (.int .i64 p)).alloc (.cells #[.int .i64 (m : Int)] 3)).alloc (.cells #[.bool false] 4)).alloc (.cells #[.int .i64 p] 3)).alloc (.cells #[.int .i64 0] 3)).alloc (.cells #[.int .i64 (-1)] 3)
  have b1 := ((((Boxed.new (w.alloc (.cells #[.int .i64 p] 3)) 3 (.int .i64 (m : Int))).alloc (.cells #[.bool false] 4)).alloc (.cells #[.int .i64 p] 3)).alloc (.cells #[.int .i64 0] 3)).alloc (.cells #[.int .i64 (-1)] 3)
  have b2 := (((Boxed.new ((w.alloc (.cells #[.int .i64 p] 3)).alloc (.cells #[.int .i64 (m : Int)] 3)) 4 (.bool false)).alloc (.cells #[.int .i64 p] 3)).alloc (.cells #[.int .i64 0] 3)).alloc (.cells #[.int .i64 (-1)] 3)
  have b3 := ((Boxed.new (((w.alloc (.cells #[.int .i64 p] 3)).alloc (.cells #[.int .i64 (m : Int)] 3)).alloc (.cells #[.bool false] 4)) 3 (.int .i64 p)).alloc (.cells #[.int .i64 0] 3)).alloc (.cells #[.int .i64 (-1)] 3)
  have b4 := (Boxed.new ((((w.alloc (.cells #[.int .i64 p] 3)).alloc (.cells #[.int .i64 (m : Int)] 3)).alloc (.cells #[.bool false] 4)).alloc (.cells #[.int .i64 p] 3)) 3 (.int .i64 0)).alloc (.cells #[.int .i64 (-1)] 3)
  have b5 := Boxed.new (((((w.alloc (.cells #[.int .i64 p] 3)).alloc (.cells #[.int .i64 (m : Int)] 3)).alloc (.cells #[.bool false] 4)).alloc (.cells #[.int .i64 p] 3)).alloc (.cells #[.int .i64 0] 3)) 3 (.int .i64 (-1))
  simp only [World.size_alloc] at b1 b2 b3 b4 b5
  have hV : Below w.heap.size w ((((((w.alloc (.cells #[.int .i64 p] 3)).alloc (.cells #[.int .i64 (m : Int)] 3)).alloc (.cells #[.bool false] 4)).alloc (.cells #[.int .i64 p] 3)).alloc (.cells #[.int .i64 0] 3)).alloc (.cells #[.int .i64 (-1)] 3)) := ((((((Below.refl _ w).alloc (Nat.le_refl _) _).alloc (by simp) _).alloc (by simp; omega) _).alloc (by simp; omega) _).alloc (by simp; omega) _).alloc (by simp; omega) _
  have hz : (((((((w.alloc (.cells #[.int .i64 p] 3)).alloc (.cells #[.int .i64 (m : Int)] 3)).alloc (.cells #[.bool false] 4)).alloc (.cells #[.int .i64 p] 3)).alloc (.cells #[.int .i64 0] 3)).alloc (.cells #[.int .i64 (-1)] 3))).heap.size = w.heap.size + 6 := by simp
  generalize ((((((w.alloc (.cells #[.int .i64 p] 3)).alloc (.cells #[.int .i64 (m : Int)] 3)).alloc (.cells #[.bool false] 4)).alloc (.cells #[.int .i64 p] 3)).alloc (.cells #[.int .i64 0] 3)).alloc (.cells #[.int .i64 (-1)] 3)) = V0 at *
  have HB0 := Lib.hid b0
  have HB1 := Lib.hid b1
  have HB2 := Lib.hid b2
  have HB3 := Lib.hid b3
  have HB4 := Lib.hid b4
  have HB5 := Lib.hid b5
  have HV := Lib.hid hV
  clear b0 b1 b2 b3 b4 b5 hV hu hm2 CE
  obtain ⟨H, hH⟩ : ∃ H, w.heap.size = H := ⟨_, rfl⟩
  rw [hH] at HB0 HB1 HB2 HB3 HB4 HB5 hz ⊢
  gi_loopw [8, 9] (fun av tv wr => ∃ t : Nat, av = .int .i64 (cnt p t : Int) ∧ tv = .int .i64 (t : Int) ∧ t ≤ 256 ∧ Below V0.heap.size V0 wr) (fun _ tv _ => 256 - (intOf tv).toNat)
  case atStart => exact ⟨0, rfl, rfl, by omega, Below.refl _ _⟩
  case round =>
    obtain ⟨t, rfl, rfl, ht, hB⟩ := hrel
    by_cases hlt : t < 256
    · have hlt' : (t : Int) < 256 := by omega
      have hk : (t : Int) % 256 = (t : Int) := by omega
      have bp : Boxed wr H 3 (.int .i64 p) := (hB.block _ (by omega)).trans HB0.out
      have hcp := bp.cell
      have C := Lib.hid (CR.out t hlt wr)
      have hcl := HCL.out t
      by_cases h0 : nam p t = []
      · have HP := Lib.hid (cnt_no h0)
        rw [h0] at C
        gi_wp2_with (refine ⟨trivial, ?_⟩; gi_at_call 9; refine (callsIn_wide.2 C.out).mono ?_; rintro e w1 ⟨rfl, c1⟩)
        go_roundw
        case rel => exact ⟨t + 1, by rw [HP.out], by go_num, by omega, hB.trans (c1.mono hB.size)⟩
        case measure => first | (simp [intOf]; done) | (simp [intOf]; omega)
      · have HP := Lib.hid (cnt_yes h0)
        have hsne := str_full (t := ⟨(nam p t).toArray⟩) (by rw [mk_list]; exact h0)
        generalize (⟨(nam p t).toArray⟩ : ByteArray) = s at C hsne
        gi_wp2_with (refine ⟨trivial, ?_⟩; gi_at_call 9; refine (callsIn_wide.2 C.out).mono ?_; rintro e w1 ⟨rfl, c1⟩)
        go_roundw
        case rel => exact ⟨t + 1, by rw [HP.out]; go_num, by go_num, by omega, hB.trans (c1.mono hB.size)⟩
        case measure => first | (simp [intOf]; done) | (simp [intOf]; omega)
    · have hlt' : ¬ (t : Int) < 256 := by omega
      obtain rfl : t = 256 := by omega
      rw [HCA.out]
      gi_wp2_with fail
      have hzw := hB.size
      have b3 : Boxed wr (H + 1 + 1 + 1) 3 (.int .i64 p) := (hB.block _ (by omega)).trans HB3.out
      have b4 : Boxed wr (H + 1 + 1 + 1 + 1) 3 (.int .i64 0) := (hB.block _ (by omega)).trans HB4.out
      have b5 : Boxed wr (H + 1 + 1 + 1 + 1 + 1) 3 (.int .i64 (-1)) := (hB.block _ (by omega)).trans HB5.out
      have HBW := Lib.hid hB
      have hseq := each_sq p (H + 1 + 1 + 1) wr b3
      obtain ⟨L, hL⟩ : ∃ L, toks p = L := ⟨_, rfl⟩
      rw [hL] at hseq HRI HM ⊢
      clear hL ht hlt hlt' hB HCL HCA
      refine range_sq1 (gf := 16) (lb := #[.pointer (some ⟨H + 1 + 1 + 1, 0, none⟩)]) rfl eg_each hseq (Stays.refl _ _) (fun k hk => by omega) (fun _ => rfl)
        (fun pre _ V => ((Boxed V (H + 1 + 1 + 1 + 1) 3 (.int .i64 (pre.length : Int)) ∧ Boxed V (H + 1 + 1 + 1 + 1 + 1) 3 (.int .i64 (lst pre))) ∧ pre.length ≤ m) ∧ Below (H + 1 + 1 + 1 + 1) wr V)
        (fun c pre _ V => (c = .exit 2 ∧ pre.length = m + 1) ∧ Boxed V (H + 1 + 1 + 1 + 1) 3 (.int .i64 (m : Int)) ∧ Below (H + 1 + 1 + 1 + 1) wr V)
        (Foot.and (Foot.and (Foot.and (Foot.boxed (H := wr.heap.size) (H + 1 + 1 + 1 + 1) 3 (fun (pre : List (Nat × List UInt8)) => .int .i64 (List.length pre : Int)) (by omega)) (Foot.boxed (H := wr.heap.size) (H + 1 + 1 + 1 + 1 + 1) 3 (fun (pre : List (Nat × List UInt8)) => .int .i64 (lst pre)) (by omega))) (Foot.pure (fun pre => List.length pre ≤ m))) (Foot.below (by omega) (by omega)))
        (fun c => Foot.and (Foot.pure (fun pre => c = .exit 2 ∧ List.length pre = m + 1)) (Foot.and (Foot.boxed (H := wr.heap.size) (H + 1 + 1 + 1 + 1) 3 (fun _ => .int .i64 (m : Int)) (by omega)) (Foot.below (by omega) (by omega))))
        ⟨⟨⟨b4, b5⟩, Nat.zero_le _⟩, Below.refl _ _⟩ ?round ?done ?stop
      case round =>
        rintro l pre ⟨k, x⟩ O W1 hO hp
        unfold encT
        gi_wp2
        refine ⟨trivial, ?_⟩
        rintro V ⟨⟨⟨c4, c5⟩, hpm⟩, hBV⟩ hRW hOl hrec hOW
        obtain ⟨m1, m2, m3⟩ := HM.out (k, x) (hp.subset (by simp))
        have hlt := lst_lt HRI.out hp
        dsimp only at m1 m2 m3 hlt
        have c0 : Boxed V H 3 (.int .i64 p) := (hBV.block _ (by omega)).trans ((HBW.out.block _ (by omega)).trans HB0.out)
        have c1 : Boxed V (H + 1) 3 (.int .i64 (m : Int)) := (hBV.block _ (by omega)).trans ((HBW.out.block _ (by omega)).trans HB1.out)
        have x0 := c0.cell
        have x1 := c1.cell
        have x4 := c4.cell
        have x5 := c5.cell
        by_cases hb : pre.length = m
        · have hbb : ((pre.length : Int) == (m : Int)) = true := by simp; omega
          rw [hb] at c4
          clear x0 x5
          gi_wp2_with fail
          exact ⟨Stays.refl _ _, ⟨rfl, by rw [List.length_append, hb]; rfl⟩, c4, hBV⟩
        · have hbb : ((pre.length : Int) == (m : Int)) = false := by simp; omega
          have hle : ¬ (k : Int) ≤ lst pre := by omega
          have C := Lib.hid (CR.out k (by omega) V)
          rw [m1] at C
          have hsne := str_full (t := ⟨x.toArray⟩) (by rw [mk_list]; exact m2)
          have hse : (⟨x.toArray⟩ : ByteArray).toList.isEmpty = false := by simpa using hsne
          have hsq : ((⟨x.toArray⟩ : ByteArray).toList == (⟨x.toArray⟩ : ByteArray).toList) = true := by simp
          have HL := Lib.hid (lst_snoc pre (k, x))
          generalize (⟨x.toArray⟩ : ByteArray) = X at C hsne hse hsq ⊢
          clear hlt m1 m2
          have hR1 := CallsIn.inRound l ((callsIn_wide (n := 4)).2 C.out)
          gi_wp2_with fail
          refine ⟨trivial, CallsIn.mono hR1 ?_⟩
          rintro e w1 ⟨rfl, d1⟩
          have g4 : Boxed w1 (H + 1 + 1 + 1 + 1) 3 (.int .i64 (pre.length : Int)) := (d1.block _ c4.lt).trans c4
          have g5 : Boxed w1 (H + 1 + 1 + 1 + 1 + 1) 3 (.int .i64 (lst pre)) := (d1.block _ c5.lt).trans c5
          have y4 := g4.cell
          have z4 := g4.frozen
          have y5 := g5.cell
          have z5 := g5.frozen
          clear hR1
          gi_wp2_with fail
          have hzV := hRW.size
          have hOn : ∀ k, O k → k ≠ H + 1 + 1 + 1 + 1 ∧ k ≠ H + 1 + 1 + 1 + 1 + 1 := fun k hk => by have := hO k hk; omega
          refine ⟨((Stays.of_below d1 (fun k hk => by rcases hk with hk | hk; exact (hOW k hk).2; omega)).setCell (H + 1 + 1 + 1 + 1 + 1) _ (fun h => by rcases h with h | h; exact (hOn _ h).2 rfl; omega)).setCell (H + 1 + 1 + 1 + 1) _ (fun h => by rcases h with h | h; exact (hOn _ h).1 rfl; omega), ⟨⟨?_, ?_⟩, by rw [List.length_append, List.length_singleton]; omega⟩, ?_⟩
          · rw [show ((pre ++ [(k, x)]).length : Int) = (pre.length : Int) + 1 by simp]
            exact (Boxed.other g4 (by omega) _).set _
          · rw [HL.out]
            exact Boxed.other (g5.set _) (by omega) _
          · exact ((hBV.trans (d1.mono (by omega))).setCell (p := ⟨H + 1 + 1 + 1 + 1 + 1, 0, none⟩) (by show H + 1 + 1 + 1 + 1 ≤ H + 1 + 1 + 1 + 1 + 1; omega) _).setCell (p := ⟨H + 1 + 1 + 1 + 1, 0, none⟩) (Nat.le_refl _) _
      case stop =>
        rintro D c pre O V hD hOD hO hRW hpre ⟨⟨rfl, hpm⟩, c4, hBV⟩ hK
        have hpl := hpre.length_le
        have hmn : min (m : Int) (L.length : Int) = (m : Int) := by omega
        have hzV := hRW.size
        have c1 : Boxed V (H + 1) 3 (.int .i64 (m : Int)) := (hBV.block _ (by omega)).trans ((HBW.out.block _ (by omega)).trans HB1.out)
        have c2 : Boxed V (H + 1 + 1) 4 (.bool false) := (hBV.block _ (by omega)).trans ((HBW.out.block _ (by omega)).trans HB2.out)
        have x1 := c1.cell
        have x4 := c4.cell
        have HBV := Lib.hid (HV.out.trans ((HBW.out.mono (by omega)).trans (hBV.mono (by omega : w.heap.size ≤ H + 1 + 1 + 1 + 1))))
        have hDl : D < V.heap.size := (Array.getElem?_eq_some_iff.1 hK).1
        have C := Lib.hid (CN.out V)
        gi_wp2_with (refine ⟨trivial, ?_⟩; gi_at_call 8; refine (callsIn_wide.2 C.out).mono ?_; rintro e V1 ⟨rfl, bw⟩; have e2 : Boxed V1 (H + 1 + 1) 4 (.bool false) := (bw.block _ c2.lt).trans c2; have hcR := e2.cell; have hfR := e2.frozen)
        have hne : D ≠ H + 1 + 1 := by omega
        have hK1 : V1.heap[D]? = some (.deferred (some [])) := (bw.block D hDl).trans hK
        have hK' := (KeepsOthers.setCell V1 ⟨H + 1 + 1, 0, none⟩ (.bool true)).same D _ hK1 rfl
        have hc5 := ((e2.set (.bool true)).kept (grownBy_putObj' _ D (.deferred Option.none)) (by rintro ⟨⟩; exact hne rfl)).cell
        refine ⟨by simp, .inl ⟨_, _, rfl, run_takeDeferred hK', ?_⟩⟩
        refine ⟨.bool true, ?_, rfl, below_put_p ((HBV.out.trans (bw.mono HBV.out.size)).setCell (p := ⟨H + 1 + 1, 0, none⟩) (by show w.heap.size ≤ H + 1 + 1; omega) _) (by omega) hK' _⟩
        simp [results, Try.f4, go_sem, hc5]
      case done =>
        rintro D O V hD hOD hO hRW ⟨⟨⟨c4, c5⟩, hLm⟩, hBV⟩ hK
        rcases Nat.lt_or_eq_of_le hLm with hlm | hlm
        · have hlm2 : (L.length : Int) < (m : Int) := by omega
          have hmn : min (m : Int) (L.length : Int) = (L.length : Int) := by omega
          have hzV := hRW.size
          have c1 : Boxed V (H + 1) 3 (.int .i64 (m : Int)) := (hBV.block _ (by omega)).trans ((HBW.out.block _ (by omega)).trans HB1.out)
          have c2 : Boxed V (H + 1 + 1) 4 (.bool false) := (hBV.block _ (by omega)).trans ((HBW.out.block _ (by omega)).trans HB2.out)
          have x1 := c1.cell
          have x4 := c4.cell
          have HBV := Lib.hid (HV.out.trans ((HBW.out.mono (by omega)).trans (hBV.mono (by omega : w.heap.size ≤ H + 1 + 1 + 1 + 1))))
          have hDl : D < V.heap.size := (Array.getElem?_eq_some_iff.1 hK).1
          have C := Lib.hid (CN.out V)
          gi_wp2_with (refine ⟨trivial, ?_⟩; gi_at_call 8; refine (callsIn_wide.2 C.out).mono ?_; rintro e V1 ⟨rfl, bw⟩; have e2 : Boxed V1 (H + 1 + 1) 4 (.bool false) := (bw.block _ c2.lt).trans c2; have hcR := e2.cell; have hfR := e2.frozen)
          have hne : D ≠ H + 1 + 1 := by omega
          have hK1 : V1.heap[D]? = some (.deferred (some [])) := (bw.block D hDl).trans hK
          have hK' := (KeepsOthers.setCell V1 ⟨H + 1 + 1, 0, none⟩ (.bool true)).same D _ hK1 rfl
          have hc5 := ((e2.set (.bool true)).kept (grownBy_putObj' _ D (.deferred Option.none)) (by rintro ⟨⟩; exact hne rfl)).cell
          refine ⟨by simp, .inl ⟨_, _, rfl, run_takeDeferred hK', ?_⟩⟩
          refine ⟨.bool true, ?_, rfl, below_put_p ((HBV.out.trans (bw.mono HBV.out.size)).setCell (p := ⟨H + 1 + 1, 0, none⟩) (by show w.heap.size ≤ H + 1 + 1; omega) _) (by omega) hK' _⟩
          simp [results, Try.f4, go_sem, hc5]
        · subst hlm
          have hmn : min (L.length : Int) (L.length : Int) = (L.length : Int) := by omega
          have hzV := hRW.size
          have c1 : Boxed V (H + 1) 3 (.int .i64 (L.length : Int)) := (hBV.block _ (by omega)).trans ((HBW.out.block _ (by omega)).trans HB1.out)
          have c2 : Boxed V (H + 1 + 1) 4 (.bool false) := (hBV.block _ (by omega)).trans ((HBW.out.block _ (by omega)).trans HB2.out)
          have x1 := c1.cell
          have x4 := c4.cell
          have HBV := Lib.hid (HV.out.trans ((HBW.out.mono (by omega)).trans (hBV.mono (by omega : w.heap.size ≤ H + 1 + 1 + 1 + 1))))
          have hDl : D < V.heap.size := (Array.getElem?_eq_some_iff.1 hK).1
          have C := Lib.hid (CN.out V)
          gi_wp2_with (refine ⟨trivial, ?_⟩; gi_at_call 8; refine (callsIn_wide.2 C.out).mono ?_; rintro e V1 ⟨rfl, bw⟩; have e2 : Boxed V1 (H + 1 + 1) 4 (.bool false) := (bw.block _ c2.lt).trans c2; have hcR := e2.cell; have hfR := e2.frozen)
          have hne : D ≠ H + 1 + 1 := by omega
          have hK1 : V1.heap[D]? = some (.deferred (some [])) := (bw.block D hDl).trans hK
          have hK' := (KeepsOthers.setCell V1 ⟨H + 1 + 1, 0, none⟩ (.bool true)).same D _ hK1 rfl
          have hc5 := ((e2.set (.bool true)).kept (grownBy_putObj' _ D (.deferred Option.none)) (by rintro ⟨⟩; exact hne rfl)).cell
          refine ⟨by simp, .inl ⟨_, _, rfl, run_takeDeferred hK', ?_⟩⟩
          refine ⟨.bool true, ?_, rfl, below_put_p ((HBV.out.trans (bw.mono HBV.out.size)).setCell (p := ⟨H + 1 + 1, 0, none⟩) (by show w.heap.size ≤ H + 1 + 1; omega) _) (by omega) hK' _⟩
          simp [results, Try.f4, go_sem, hc5]

theorem each_law (p most : Int) (w : World) :
    Calls Try.prog 4 #[.int .i64 p, .int .i64 most] w fun e W' => e = .returned (.bool true) ∧ Below w.heap.size w W' := callsIn_wide.1 (each_in p most w)
end Go.Proofs.Ytionbdkiclodoaa.Vo
