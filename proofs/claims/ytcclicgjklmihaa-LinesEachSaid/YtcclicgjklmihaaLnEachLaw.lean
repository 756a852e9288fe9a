/-
For every text and every number the law LinesEach returns true and changes nothing that was there. Conditions: the number is an int.
-/
import Derived.Test.YtcclicgjklmihaaLnWorks
namespace Go.Proofs.Ytcclicgjklmihaa.Ln
open Go.RowKit Strs Sq
attribute [local go_sem] Oper.semAt_some

set_option maxRecDepth 100000 in
set_option maxHeartbeats 4000000 in
theorem each_in (s : ByteArray) (most : Int) (hs : ¬ 2000 < s.size) (w : World) :
    CallsIn Fence.wide 5 Try.prog 5 #[.string s, .int .i64 most] w fun e W' => e = .returned (.bool true) ∧ Below w.heap.size w W' := by
  obtain ⟨u, hu⟩ : ∃ u : Nat, IntKind.u64.wrap most = (u : Int) := ⟨(IntKind.u64.wrap most).toNat, by rw [IntKind.wrap_u64]; omega⟩
  obtain ⟨m, hm⟩ : ∃ m : Nat, m = u % 2001 := ⟨_, rfl⟩
  have hm2 : (u : Int) % 2001 = (m : Int) := by omega
  have hm3 : m ≤ 2000 := by omega
  clear hm
  have CE := Lib.hid (fun W => each_any s W)
  have CS := Lib.hid (fun W => refSplit_any s (by omega) W)
  have hsl := split_length s.data.toList
  have hsb := split_bytes s.data.toList
  rw [list_size] at hsl hsb
  have CN := Lib.hid (fun v W h => refNum_any v (split s.data.toList) (by omega) (by omega) W h)
  have hnf := fun (W : World) (B : Nat) => Laws.run_eql_func_nil W 31 _ _ _ (.func 29) #[] #[.pointer (some ⟨B, 0, none⟩)] Try.underlying31
  refine callsIn_of_wp_marks Try.func5 rfl trivial ?_ rfl
  simp only [Try.ntmps5, List.size_toArray, List.length_cons, List.length_nil, Nat.reduceAdd, Nat.reduceSub, Array.replicate_succ, Array.replicate_zero, List.push_toArray, List.append_toArray, List.nil_append, List.cons_append]
  have hs3 : ¬ (2000 : Int) < (s.size : Int) := by omega
  clear hs hsl hsb
  gi_wp2_with (refine ⟨trivial, ?_⟩; gi_at_call 16; refine (callsIn_wide.2 (CE.out _)).mono ?_; rintro e w' ⟨rfl, rfl⟩)
  have b3 := ((Boxed.new w 3 (.int .i64 most)).alloc (.cells #[.bool false] 4)).alloc (.cells #[.string s] 9) |>.alloc (.cells #[.func (.func 25) #[] #[.pointer (some ⟨w.heap.size + 1 + 1, 0, none⟩)]] 39)
  have b4 := Boxed.new (w.alloc (.cells #[.int .i64 most] 3)) 4 (.bool false)
  have bs := Boxed.new ((w.alloc (.cells #[.int .i64 most] 3)).alloc (.cells #[.bool false] 4)) 9 (.string s)
  have bf := Boxed.new (((w.alloc (.cells #[.int .i64 most] 3)).alloc (.cells #[.bool false] 4)).alloc (.cells #[.string s] 9)) 39 (.func (.func 25) #[] #[.pointer (some ⟨w.heap.size + 1 + 1, 0, none⟩)])
  simp only [World.size_alloc] at b4 bs bf
  have b4' := (b4.alloc (.cells #[.string s] 9)).alloc (.cells #[.func (.func 25) #[] #[.pointer (some ⟨w.heap.size + 1 + 1, 0, none⟩)]] 39)
  have bs' := bs.alloc (.cells #[.func (.func 25) #[] #[.pointer (some ⟨w.heap.size + 1 + 1, 0, none⟩)]] 39)
  have hV : Below w.heap.size w ((((w.alloc (.cells #[.int .i64 most] 3)).alloc (.cells #[.bool false] 4)).alloc (.cells #[.string s] 9)).alloc (.cells #[.func (.func 25) #[] #[.pointer (some ⟨w.heap.size + 1 + 1, 0, none⟩)]] 39)) := ((((Below.refl _ w).alloc (Nat.le_refl _) _).alloc (by simp) _).alloc (by simp; omega) _).alloc (by simp; omega) _
  have hz : ((((w.alloc (.cells #[.int .i64 most] 3)).alloc (.cells #[.bool false] 4)).alloc (.cells #[.string s] 9)).alloc (.cells #[.func (.func 25) #[] #[.pointer (some ⟨w.heap.size + 1 + 1, 0, none⟩)]] 39)).heap.size = w.heap.size + 4 := by simp
  clear b4 bs
  generalize ((((w.alloc (.cells #[.int .i64 most] 3)).alloc (.cells #[.bool false] 4)).alloc (.cells #[.string s] 9)).alloc (.cells #[.func (.func 25) #[] #[.pointer (some ⟨w.heap.size + 1 + 1, 0, none⟩)]] 39)) = Wa at *
  refine ⟨trivial, (callsIn_wide.2 (CS.out _)).mono ?_⟩
  rintro e w1 ⟨v1, rfl, hS1, c1⟩
  gi_wp2_with fail
  refine ⟨trivial, (callsIn_wide.2 (CN.out v1 w1 hS1.reads)).mono ?_⟩
  rintro e w2 ⟨nv, mv, rfl, hI2, hS2, c2⟩
  have C2 : Below Wa.heap.size Wa w2 := c1.trans (c2.mono c1.size)
  have HL := Lib.hid (rfl : eachL s = eachL s)
  have hsq0 := each_sq s (by omega) (w.heap.size + 1 + 1) w2 ((C2.block _ (by omega)).trans bs') ((C2.block _ (by omega)).trans bf)
  have hLn := eachL_length s
  change Ints w2 w1.heap.size nv ((eachL s).map (·.1)) at hI2
  change Strs w2 w1.heap.size mv ((eachL s).map (·.2)) at hS2
  generalize eachL s = L at hsq0 hLn hI2 hS2
  have hB2 : Below w.heap.size w w2 := hV.trans (C2.mono hV.size)
  have d3 : Boxed w2 w.heap.size 3 (.int .i64 most) := (C2.block _ (by omega)).trans b3
  have d4 : Boxed w2 (w.heap.size + 1) 4 (.bool false) := (C2.block _ (by omega)).trans b4'
  have hz2 : w.heap.size + 4 ≤ w2.heap.size := by have := C2.size; omega
  obtain ⟨aN, cN, rfl, hatN⟩ := hI2.at_
  obtain ⟨aM, cM, rfl, hatM⟩ := strs_at hS2
  simp only [List.length_map] at hatN hatM
  have hgN : ∀ g, aN = some ⟨g, 0, none⟩ → w.heap.size < g := fun g e => by have := (own_lt hI2 g (by rw [e]; rfl)).1; have := c1.size; omega
  have hgM : ∀ g, aM = some ⟨g, 0, none⟩ → w.heap.size < g := fun g e => by have := (own_lt hS2 g (by rw [e]; rfl)).1; have := c1.size; omega
  have HATN := Lib.hid hatN
  have HATM := Lib.hid hatM
  clear b3 b4' bs' bf hV hz C2 c1 c2 hS1 hatN hatM hI2 hS2 CE CS CN HL
  have e3 := (d3.alloc (.cells #[.slice aN L.length cN] 33)).alloc (.cells #[.slice aM L.length cM] 22)
  have hcM := e3.cell
  have hfM := e3.frozen
  gi_wp2_with fail
  have hz3 : (((w2.alloc (.cells #[.slice aN L.length cN] 33)).alloc (.cells #[.slice aM L.length cM] 22)).setCell ⟨w.heap.size, 0, none⟩ (.int .i64 (m : Int))).heap.size = w2.heap.size + 2 := by rw [World.size_setCell]; simp
  have f3 := (e3.set (.int .i64 (m : Int))).alloc (.cells #[.int .i64 0] 3)
  have f4 := (Boxed.other ((d4.alloc (.cells #[.slice aN L.length cN] 33)).alloc (.cells #[.slice aM L.length cM] 22)) (by omega : w.heap.size + 1 ≠ w.heap.size) (.int .i64 (m : Int))).alloc (.cells #[.int .i64 0] 3)
  have f6 := (Boxed.other ((Boxed.new w2 33 (.slice aN L.length cN)).alloc (.cells #[.slice aM L.length cM] 22)) (by omega : w2.heap.size ≠ w.heap.size) (.int .i64 (m : Int))).alloc (.cells #[.int .i64 0] 3)
  have f7 := (Boxed.other (Boxed.new (w2.alloc (.cells #[.slice aN L.length cN] 33)) 22 (.slice aM L.length cM)) (by rw [World.size_alloc]; omega : (w2.alloc (.cells #[.slice aN L.length cN] 33)).heap.size ≠ w.heap.size) (.int .i64 (m : Int))).alloc (.cells #[.int .i64 0] 3)
  have f8 := Boxed.new (((w2.alloc (.cells #[.slice aN L.length cN] 33)).alloc (.cells #[.slice aM L.length cM] 22)).setCell ⟨w.heap.size, 0, none⟩ (.int .i64 (m : Int))) 3 (.int .i64 0)
  rw [World.size_alloc] at f7
  rw [hz3] at f8
  have hS25 : Stays (fun k => k < w2.heap.size ∧ k ≠ w.heap.size) w2 ((((w2.alloc (.cells #[.slice aN L.length cN] 33)).alloc (.cells #[.slice aM L.length cM] 22)).setCell ⟨w.heap.size, 0, none⟩ (.int .i64 (m : Int))).alloc (.cells #[.int .i64 0] 3)) := ((((Stays.refl _ w2).alloc _ (fun k hk => hk.1)).alloc _ (fun k hk => by have := hk.1; simp; omega)).setCell _ _ (fun h => h.2 rfl)).alloc _ (fun k hk => by have := hk.1; rw [hz3]; omega)
  have hz5 : ((((w2.alloc (.cells #[.slice aN L.length cN] 33)).alloc (.cells #[.slice aM L.length cM] 22)).setCell ⟨w.heap.size, 0, none⟩ (.int .i64 (m : Int))).alloc (.cells #[.int .i64 0] 3)).heap.size = w2.heap.size + 3 := by rw [World.size_alloc, hz3]
  generalize ((((w2.alloc (.cells #[.slice aN L.length cN] 33)).alloc (.cells #[.slice aM L.length cM] 22)).setCell ⟨w.heap.size, 0, none⟩ (.int .i64 (m : Int))).alloc (.cells #[.int .i64 0] 3)) = V0 at *
  have HGN := Lib.hid hgN
  have HGM := Lib.hid hgM
  have hw2 : ∀ k, k = w.heap.size + 1 + 1 + 1 ∨ k = w.heap.size + 1 + 1 → k < w2.heap.size ∧ k ≠ w.heap.size := fun k hk => by omega
  have hsR : Stays (fun k => k = w.heap.size + 1 + 1 + 1 ∨ k = w.heap.size + 1 + 1) w2 V0 := hS25.mono hw2
  have hB0 : Below w.heap.size w V0 := hB2.trans (hS25.below fun k hk => by omega)
  have HE3 := Lib.hid f3
  have HE4 := Lib.hid f4
  have HE6 := Lib.hid f6
  have HE7 := Lib.hid f7
  have HS25 := Lib.hid hS25
  have HB0 := Lib.hid hB0
  clear e3 hcM hfM hz3 f3 f4 f6 f7 hS25 d3 d4 hgN hgM hB2 hw2 hu hm2 hB0
  refine range_sq1 (gf := 29) (lb := #[.pointer (some ⟨w.heap.size + 1 + 1 + 1, 0, none⟩)]) rfl eg_unfolded hsq0 hsR (fun k hk => by omega) (fun _ => rfl)
    (fun pre _ V => (Boxed V (w2.heap.size + 2) 3 (.int .i64 (pre.length : Int)) ∧ pre.length ≤ m) ∧ Below (w2.heap.size + 2) V0 V)
    (fun c pre _ V => (c = .exit 0 ∧ pre.length = m + 1) ∧ Boxed V (w2.heap.size + 2) 3 (.int .i64 (m : Int)) ∧ Below (w2.heap.size + 2) V0 V)
    (Foot.and (Foot.and (Foot.boxed (H := V0.heap.size) (w2.heap.size + 2) 3 (fun pre => .int .i64 (List.length pre : Int)) (by omega)) (Foot.pure (fun pre => List.length pre ≤ m))) (Foot.below (by omega) (by omega)))
    (fun c => Foot.and (Foot.pure (fun pre => c = .exit 0 ∧ List.length pre = m + 1)) (Foot.and (Foot.boxed (H := V0.heap.size) (w2.heap.size + 2) 3 (fun _ => .int .i64 (m : Int)) (by omega)) (Foot.below (by omega) (by omega))))
    ⟨⟨f8, Nat.zero_le _⟩, Below.refl _ _⟩ ?round ?done ?stop
  case round =>
    rintro l pre ⟨n, x⟩ O W1 hO hp
    unfold encL
    gi_wp2
    refine ⟨trivial, ?_⟩
    rintro V ⟨⟨hb8, hpm⟩, hB⟩ hRW hOl hrec hOW
    have hk := hp.length_le
    simp only [List.length_append, List.length_cons, List.length_nil] at hk
    have hLk : L[pre.length]'(by omega) = (n, x) := by obtain ⟨r, rfl⟩ := hp; simp
    have hc3 := Boxed.cell (show Boxed V w.heap.size 3 _ from (hB.block _ (by omega)).trans HE3.out)
    have hc6 := Boxed.cell (show Boxed V w2.heap.size 33 _ from (hB.block _ (by omega)).trans HE6.out)
    have hc7 := Boxed.cell (show Boxed V (w2.heap.size + 1) 22 _ from (hB.block _ (by omega)).trans HE7.out)
    have hc8 := hb8.cell
    have hf8 := hb8.frozen
    by_cases hb : pre.length = m
    · have hbb : ((pre.length : Int) == (m : Int)) = true := by simp; omega
      rw [hb] at hb8
      gi_wp2_with fail
      exact ⟨Stays.refl _ _, ⟨rfl, by rw [List.length_append, hb]; rfl⟩, hb8, hB⟩
    · have hbb : ((pre.length : Int) == (m : Int)) = false := by simp; omega
      obtain ⟨gN, rfl, hgN, hcN⟩ := HATN.out pre.length (by omega)
      obtain ⟨gM, rfl, hgM, hcM⟩ := HATM.out pre.length (by omega)
      have hNw := HGN.out gN rfl
      have hMw := HGM.out gM rfl
      have hdN : V.cell? ⟨gN, pre.length, none⟩ = some (.int .i64 (n : Int)) := (hB.cell (p := ⟨gN, pre.length, none⟩) (by show gN < _; omega)).trans ((World.cell?_of_block (a := ⟨gN, pre.length, none⟩) (HS25.out.block gN ⟨hgN, by omega⟩)).trans (by rw [hcN, List.getElem_map, hLk]))
      have hdM : V.cell? ⟨gM, pre.length, none⟩ = some (.string ⟨x.toArray⟩) := (hB.cell (p := ⟨gM, pre.length, none⟩) (by show gM < _; omega)).trans ((World.cell?_of_block (a := ⟨gM, pre.length, none⟩) (HS25.out.block gM ⟨hgM, by omega⟩)).trans (by rw [hcM, List.getElem_map, hLk]))
      have hx : ((⟨x.toArray⟩ : ByteArray).toList == (⟨x.toArray⟩ : ByteArray).toList) = true := by simp
      generalize (⟨x.toArray⟩ : ByteArray) = X at hdM hx ⊢
      have hkl : (pre.length : Int) < (L.length : Int) := by omega
      clear hcN hcM hLk
      gi_wp2_with fail
      have hOn : ∀ k, O k → k ≠ w2.heap.size + 2 := fun k hk => by have := hO k hk; omega
      exact ⟨(Stays.refl _ _).setCell (w2.heap.size + 2) _ (fun h => by rcases h with h | h; exact hOn _ h rfl; omega), ⟨by rw [show ((pre ++ [(n, x)]).length : Int) = (pre.length : Int) + 1 by simp]; exact hb8.set _, by simp; omega⟩, hB.setCell (p := ⟨w2.heap.size + 2, 0, none⟩) (Nat.le_refl _) _⟩
  case stop =>
    rintro D c pre O V hD hOD hO hRW hpre ⟨⟨rfl, hpm⟩, hb8, hB⟩ hK
    have hpl := hpre.length_le
    have hmn : min (m : Int) (L.length : Int) = (m : Int) := by omega
    have hB8 := hb8
    have e4 : Boxed V (w.heap.size + 1) 4 (.bool false) := (hB.block _ (by omega)).trans HE4.out
    have hc3 := Boxed.cell (show Boxed V w.heap.size 3 _ from (hB.block _ (by omega)).trans HE3.out)
    have hc7 := Boxed.cell (show Boxed V (w2.heap.size + 1) 22 _ from (hB.block _ (by omega)).trans HE7.out)
    have hc8 := hb8.cell
    have CW := Lib.hid (works_any V)
    have hDl : D < V.heap.size := (Array.getElem?_eq_some_iff.1 hK).1
    have HBV := Lib.hid (HB0.out.trans (hB.mono (by omega)))
    gi_wp2_with (refine ⟨trivial, ?_⟩; gi_at_call 18; refine (callsIn_wide.2 CW.out).mono ?_; rintro e V1 ⟨rfl, bw⟩; have e5 : Boxed V1 (w.heap.size + 1) 4 (.bool false) := (bw.block _ e4.lt).trans e4; have hcR := e5.cell; have hfR := e5.frozen)
    have hne : D ≠ w.heap.size + 1 := by omega
    have hK1 : V1.heap[D]? = some (.deferred (some [])) := (bw.block D hDl).trans hK
    have hK' := (KeepsOthers.setCell V1 ⟨w.heap.size + 1, 0, none⟩ (.bool true)).same D _ hK1 rfl
    have hc5 := ((e5.set (.bool true)).kept (grownBy_putObj' _ D (.deferred Option.none)) (by rintro ⟨⟩; exact hne rfl)).cell
    refine ⟨by simp, .inl ⟨_, _, rfl, run_takeDeferred hK', ?_⟩⟩
    refine ⟨.bool true, ?_, rfl, below_put_p ((HBV.out.trans (bw.mono HBV.out.size)).setCell (p := ⟨w.heap.size + 1, 0, none⟩) (by simp) _) (by omega) hK' _⟩
    simp [results, Try.f5, go_sem, hc5]
  case done =>
    rintro D O V hD hOD hO hRW ⟨⟨hb8, hLm⟩, hB⟩ hK
    have hmn : min (m : Int) (L.length : Int) = (L.length : Int) := by omega
    have hB8 := hb8
    have e4 : Boxed V (w.heap.size + 1) 4 (.bool false) := (hB.block _ (by omega)).trans HE4.out
    have hc3 := Boxed.cell (show Boxed V w.heap.size 3 _ from (hB.block _ (by omega)).trans HE3.out)
    have hc7 := Boxed.cell (show Boxed V (w2.heap.size + 1) 22 _ from (hB.block _ (by omega)).trans HE7.out)
    have hc8 := hb8.cell
    have CW := Lib.hid (works_any V)
    have hDl : D < V.heap.size := (Array.getElem?_eq_some_iff.1 hK).1
    have HBV := Lib.hid (HB0.out.trans (hB.mono (by omega)))
    gi_wp2_with (refine ⟨trivial, ?_⟩; gi_at_call 18; refine (callsIn_wide.2 CW.out).mono ?_; rintro e V1 ⟨rfl, bw⟩; have e5 : Boxed V1 (w.heap.size + 1) 4 (.bool false) := (bw.block _ e4.lt).trans e4; have hcR := e5.cell; have hfR := e5.frozen)
    have hne : D ≠ w.heap.size + 1 := by omega
    have hK1 : V1.heap[D]? = some (.deferred (some [])) := (bw.block D hDl).trans hK
    have hK' := (KeepsOthers.setCell V1 ⟨w.heap.size + 1, 0, none⟩ (.bool true)).same D _ hK1 rfl
    have hc5 := ((e5.set (.bool true)).kept (grownBy_putObj' _ D (.deferred Option.none)) (by rintro ⟨⟩; exact hne rfl)).cell
    refine ⟨by simp, .inl ⟨_, _, rfl, run_takeDeferred hK', ?_⟩⟩
    refine ⟨.bool true, ?_, rfl, below_put_p ((HBV.out.trans (bw.mono HBV.out.size)).setCell (p := ⟨w.heap.size + 1, 0, none⟩) (by simp) _) (by omega) hK' _⟩
    simp [results, Try.f5, go_sem, hc5]
theorem each_law (s : ByteArray) (most : Int) (w : World) :
    Calls Try.prog 5 #[.string s, .int .i64 most] w fun e W' => e = .returned (.bool true) ∧ Below w.heap.size w W' := by
  by_cases hs : 2000 < s.size
  · have hs' : (2000 : Int) < (s.size : Int) := by omega
    go_enter Try.func5, Try.ntmps5
    go_wp2_with fail
    have hc := (Boxed.new (w.alloc (.cells #[.int .i64 most] 3)) 4 (.bool true)).cell
    rw [World.size_alloc] at hc
    refine bodyPost_ret (v := .bool true) ?_ rfl ⟨rfl, ((Below.refl _ w).alloc (Nat.le_refl _) _).alloc (by simp) _⟩
    simp [results, Try.f5, go_sem, hc]
  · exact callsIn_wide.1 (each_in s most hs w)
end Go.Proofs.Ytcclicgjklmihaa.Ln
