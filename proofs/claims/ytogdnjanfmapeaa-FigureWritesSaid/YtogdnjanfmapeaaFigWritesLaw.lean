/-
For every int n and every int stop the law FigureWrites returns true and changes nothing that was there. Conditions: both are ints.
-/
import Derived.Test.YtogdnjanfmapeaaBytes
import Derived.Test.YtogdnjanfmapeaaFigText
import Derived.Test.YtogdnjanfmapeaaFigRefText
import Derived.Test.YtogdnjanfmapeaaLaws
import Derived.Deep.RegionHeld3
namespace Go.Proofs.Ytogdnjanfmapeaa.FigLaw
open Go.RowKit Go.Shelf Fig
attribute [local go_sem] Oper.semAt_some

theorem below_put {B : Nat} {a w : World} (h : Below B a w) {D : Nat} {o : Obj} (hD : B ≤ D) (hk : w.heap[D]? = some o) (o' : Obj) : Below B a (w.putObj D o') :=
  h.grown (grownBy_putObj' w D o') (by have := (Array.getElem?_eq_some_iff.1 hk).1; omega) (fun k e => by cases e; exact hD)
theorem extract_is {t R : List UInt8} {want sR : ByteArray} {k : Nat} (hw : Hid ((⟨t.toArray⟩ : ByteArray) = want)) (hr : Hid ((⟨R.toArray⟩ : ByteArray) = sR)) (h : R = t.take k) : want.extract 0 k = sR := by
  apply Go.WideShapes.bytes_inj
  rw [Lib.extract_data, ← hw.out, ← hr.out, h]
  simp
theorem prefix_take {l t : List UInt8} {k : Nat} (h : l <+: t) (hl : l.dropLast.length = k) : l.dropLast = t.take k := by
  obtain ⟨r, rfl⟩ := h
  rw [← hl, List.take_append_of_le_length (by rw [List.length_dropLast]; omega), List.dropLast_eq_take, List.length_take]
  congr 1; omega

set_option maxRecDepth 100000 in
set_option maxHeartbeats 4000000 in
theorem writes_in (n stop : Int) (h0 : -9223372036854775808 ≤ n) (h1 : n ≤ 9223372036854775807) (w : World) :
    CallsIn Fence.wide 7 Try.prog 3 #[.int .i64 n, .int .i64 stop] w fun e W' => e = .returned (.bool true) ∧ Below w.heap.size w W' := by
  have hT : (txt n).length ≤ 21 := txt_length n (by omega)
  obtain ⟨i0, hi, hz0, hz1, hz2⟩ := info_parts Bytes.infoByte
  obtain ⟨want, hwant⟩ : ∃ s : ByteArray, (⟨(txt n).toArray⟩ : ByteArray) = s := ⟨_, rfl⟩
  have CR := Lib.hid (fun W => FigR.refText_any n W h0 h1)
  have CT := Lib.hid (fun W => text_any n W h0 h1)
  rw [hwant] at CR CT
  have HW := Lib.hid hwant
  clear hwant
  have hnf := fun (W : World) (B : Nat) => Laws.run_eql_func_nil W 24 _ _ _ (.func 20) #[] #[.pointer (some ⟨B, 0, none⟩)] Try.underlying24
  refine callsIn_of_wp_marks Try.func3 rfl trivial ?_ rfl
  simp only [Try.ntmps3, List.size_toArray, List.length_cons, List.length_nil, Nat.reduceAdd, Nat.reduceSub, Array.replicate_succ, Array.replicate_zero, List.push_toArray, List.append_toArray, List.nil_append, List.cons_append]
  gi_wp2_with (first | (refine ⟨trivial, ?_⟩; gi_at_call 8; refine (callsIn_wide.2 (CR.out _)).mono ?_; rintro e w1 ⟨rfl, hb1⟩) | (refine ⟨trivial, ?_⟩; gi_at_call 9; refine (callsIn_wide.2 (digits_any n _)).mono ?_; rintro e w' ⟨rfl, rfl⟩))
  have bS0 := Boxed.new w 3 (.int .i64 stop)
  have bS : Boxed w1 w.heap.size 3 (.int .i64 stop) := (hb1.block _ bS0.lt).trans bS0
  have hsz1 : w.heap.size < w1.heap.size := bS.lt
  have hbw : Below w.heap.size w w1 := ((Below.refl _ w).alloc (Nat.le_refl _) (.cells #[.int .i64 stop] 3)).trans (hb1.mono (by simp))
  have bO := Boxed.new w1 23 (.slice none 0 0)
  have bN := Boxed.new (w1.alloc (.cells #[.slice none 0 0] 23)) 3 (.int .i64 n)
  rw [World.size_alloc] at bN
  have hB0 : Below w1.heap.size w1 ((w1.alloc (.cells #[.slice none 0 0] 23)).alloc (.cells #[.int .i64 n] 3)) := ((Below.refl _ w1).alloc (Nat.le_refl _) _).alloc (by simp) _
  clear hb1 bS0
  refine wpIn_rangeFunc_ownG rfl (by omega) (gf := 20) (lb := #[.pointer (some ⟨w1.heap.size + 1, 0, none⟩)]) rfl trivial (enters_of Try.func20 (by kernel_rfl) rfl)
    (digits_stops (7 - 1) (by omega) (w1.heap.size + 1) n h0 h1 _ bN) KeepsBox.t (fun W l o o' _ hl hc _ => KeepsBox.b W l o o' hl hc) (Below.refl _ _) (fun _ => rfl)
    (fun pre W => ((∃ v, Boxed W w1.heap.size 23 v ∧ W.ownsRow w1.heap.size 5 1 v pre.length (Bytes.cells pre) ∧ True) ∧ Boxed W (w1.heap.size + 1) 3 (.int .i64 n)) ∧ Below w1.heap.size w1 W)
    (fun _ _ _ => False)
    (OwnFrom.and (OwnFrom.and (Own.from (holdsRow_own w1.heap.size w1.heap.size 23 5 1 (fun pre => List.length pre) (fun pre => Bytes.cells pre) (fun _ _ => True)) _) (Own.from (boxed_own _ _ _) _)) (ownFrom_below (Nat.le_refl _) (by simp; omega)))
    (fun _ _ _ _ _ hs _ _ => hs)
    ⟨⟨⟨_, bO.alloc _, World.ownsRow_nil _ _ _ _, trivial⟩, bN⟩, hB0⟩
    (fun x => { tmps := #[.int .i64 n, .int .i64 stop, undef, .pointer (some ⟨w.heap.size, 0, none⟩), .bool false, .string want, .pointer (some ⟨w1.heap.size, 0, none⟩), .func (.func 20) #[] #[.pointer (some ⟨w1.heap.size + 1, 0, none⟩)], .int .u8 (x.toNat : Int), undef, undef, undef, .int .i64 n, .string want, .int .i64 n, .func (.func 20) #[] #[.pointer (some ⟨w1.heap.size + 1, 0, none⟩)], .func (.func 20) #[] #[.pointer (some ⟨w1.heap.size + 1, 0, none⟩)], .bool false, .func (.func 20) #[] #[.pointer (some ⟨w1.heap.size + 1, 0, none⟩)], .int .u8 (x.toNat : Int), undef, undef, undef, undef, undef, undef, undef, undef, undef, undef, undef, undef, undef, undef, undef, undef, undef, undef, undef, undef, undef, undef, undef, undef, undef, undef, undef, undef, undef, undef, undef, undef, undef, undef, undef, undef, undef, undef, undef, undef, undef, undef], defers := [] }) ?assign ?body ?done ?stop
  case assign =>
    intro l x W K hK
    gi_wp2
    exact hK
  case body =>
    rintro l pre x W ⟨⟨⟨v, hv, hrow, _⟩, hbn⟩, hB⟩ hlt
    have hc := hv.cell
    gi_wp2_with (gi_at_builtin; refine wpListIn_append_own _ rfl _ _ 23 rfl w1.heap.size 5 i0 (.int .u8 0) 1 1 Try.underlying23 hi hz0 hz1 hz2 rfl (by decide) _ _ _ rfl (hrow.alloc _) ⟨W.heap.size, 0, none⟩ 1 1 [.int .u8 (x.toNat : Int)] rfl rfl (cell_one_new _ _ _) (by simp [Value.oneCell']) (by unfold maxLen; omega) (by omega) (by have := hB.size; simp; omega) ?_; intro v' w2 hown' hgrow _; obtain ⟨g', cap', rfl⟩ := ownsRow_succ hown'; obtain ⟨hv1, hv2, hr2, hk2, hb2⟩ := hv.appended (by decide) hrow hB.size (Nat.le_refl _) hown' hgrow; have hc1 := hv1.cell; have hf1 := hv1.frozen)
    have hb3 : KeepsBox n (w1.heap.size + 1) W (w2.setCell ⟨w1.heap.size, 0, none⟩ (.slice (some ⟨g', 0, none⟩) (pre.length + 1) cap')) := fun h => boxed_past h (by decide) (by omega) hrow hgrow
    exact ⟨hk2.from _, hb3, ⟨⟨_, hv2, Bytes.Has.laid1 hr2, trivial⟩, hb3 hbn⟩, hB.trans hb2⟩
  case stop =>
    rintro D c pre W _ _ h _
    exact h.elim
  case done =>
    rintro D ys W hD rfl ⟨⟨⟨v, hv, hrow, _⟩, hbn⟩, hB⟩ hK
    have hDl : D < W.heap.size := (Array.getElem?_eq_some_iff.1 hK).1
    simp at hD
    gi_wp2
    have bS3 : Boxed W w.heap.size 3 (.int .i64 stop) := (hB.block _ hsz1).trans bS
    have bM := Boxed.new W 23 (.slice none 0 0)
    have hBM : Below W.heap.size W (W.alloc (.cells #[.slice none 0 0] 23)) := (Below.refl _ W).alloc (Nat.le_refl _) _
    have hwW := hB.size
    obtain ⟨u, hu0, hu1⟩ : ∃ u : Nat, IntKind.u64.wrap stop = (u : Int) ∧ u % 8 ≤ 7 := ⟨(IntKind.u64.wrap stop).toNat, by rw [IntKind.wrap_u64]; omega, by omega⟩
    have HU := Lib.hid hu0
    clear hu0
    refine wpIn_rangeFunc_ownG rfl (by omega) (gf := 20) (lb := #[.pointer (some ⟨w1.heap.size + 1, 0, none⟩)]) rfl trivial (enters_of Try.func20 (by kernel_rfl) rfl)
      (digits_stops (7 - 1) (by omega) (w1.heap.size + 1) n h0 h1 _ (hbn.alloc _)) KeepsBox.t (fun W l o o' _ hl hc _ => KeepsBox.b W l o o' hl hc) (Below.refl _ _) (fun _ => rfl)
      (fun pre V => (((∃ v, Boxed V W.heap.size 23 v ∧ V.ownsRow W.heap.size 5 1 v pre.length (Bytes.cells pre) ∧ True) ∧ Boxed V (w1.heap.size + 1) 3 (.int .i64 n)) ∧ pre.length ≤ u % 8) ∧ Below W.heap.size W V)
      (fun c l V => (c = .exit 2 ∧ l.dropLast.length = u % 8) ∧ (∃ v, Boxed V W.heap.size 23 v ∧ V.ownsRow W.heap.size 5 1 v l.dropLast.length (Bytes.cells l.dropLast) ∧ True) ∧ Below W.heap.size W V)
      (OwnFrom.and (OwnFrom.and (OwnFrom.and (Own.from (holdsRow_own W.heap.size W.heap.size 23 5 1 (fun pre => List.length pre) (fun pre => Bytes.cells pre) (fun _ _ => True)) _) (Own.from (boxed_own _ _ _) _)) (ownFrom_pure _ (fun pre => List.length pre ≤ u % 8))) (ownFrom_below (Nat.le_refl _) (by simp)))
      (fun c => OwnFrom.and (ownFrom_pure _ (fun l => c = .exit 2 ∧ (List.dropLast l).length = u % 8)) (OwnFrom.and (Own.from (holdsRow_own W.heap.size W.heap.size 23 5 1 (fun l => (List.dropLast l).length) (fun l => Bytes.cells (List.dropLast l)) (fun _ _ => True)) _) (ownFrom_below (Nat.le_refl _) (by simp))))
      ⟨⟨⟨⟨_, bM, World.ownsRow_nil _ _ _ _, trivial⟩, hbn.alloc _⟩, Nat.zero_le _⟩, hBM⟩
      (fun x => { tmps := #[.int .i64 n, .int .i64 stop, undef, .pointer (some ⟨w.heap.size, 0, none⟩), .bool false, .string want, .pointer (some ⟨w1.heap.size, 0, none⟩), .func (.func 20) #[] #[.pointer (some ⟨w1.heap.size + 1, 0, none⟩)], undef, .pointer (some ⟨W.heap.size, 0, none⟩), .int .u8 (x.toNat : Int), undef, .int .i64 n, .string want, .int .i64 n, .func (.func 20) #[] #[.pointer (some ⟨w1.heap.size + 1, 0, none⟩)], .func (.func 20) #[] #[.pointer (some ⟨w1.heap.size + 1, 0, none⟩)], .bool false, .func (.func 20) #[] #[.pointer (some ⟨w1.heap.size + 1, 0, none⟩)], undef, undef, undef, undef, undef, .func (.func 20) #[] #[.pointer (some ⟨w1.heap.size + 1, 0, none⟩)], .int .u8 (x.toNat : Int), undef, undef, undef, undef, undef, undef, undef, undef, undef, undef, undef, undef, undef, undef, undef, undef, undef, undef, undef, undef, undef, undef, undef, undef, undef, undef, undef, undef, undef, undef, undef, undef, undef, undef, undef, undef], defers := [] }) ?assign2 ?body2 ?done2 ?stop2
    case assign2 =>
      intro l x V K hK
      gi_wp2
      exact hK
    case body2 =>
      rintro l pre x V ⟨⟨⟨⟨v, hv, hrow, _⟩, hbnV⟩, hpl⟩, hB⟩ hlt
      obtain ⟨sa, sc, rfl⟩ := Bytes.Has.shape hrow
      have hc := hv.cell
      have bSV : Boxed V w.heap.size 3 (.int .i64 stop) := (hB.block _ bS3.lt).trans bS3
      have hcS := bSV.cell
      by_cases hb : pre.length = u % 8
      · have hbb : ((pre.length : Int) == (u : Int) % 8) = true := by simp; omega
        have hu0' := HU.out
        gi_wp2_with fail
        exact ⟨KeepsFrom.refl _ _, ⟨rfl, by rw [List.dropLast_concat]; exact hb⟩, ⟨_, hv, by rw [List.dropLast_concat]; exact hrow, trivial⟩, hB⟩
      · have hbb : ((pre.length : Int) == (u : Int) % 8) = false := by simp; omega
        have hu0' := HU.out
        gi_wp2_with (gi_at_builtin; refine wpListIn_append_own _ rfl _ _ 23 rfl W.heap.size 5 i0 (.int .u8 0) 1 1 Try.underlying23 hi hz0 hz1 hz2 rfl (by decide) _ _ _ rfl (hrow.alloc _) ⟨V.heap.size, 0, none⟩ 1 1 [.int .u8 (x.toNat : Int)] rfl rfl (cell_one_new _ _ _) (by simp [Value.oneCell']) (by unfold maxLen; omega) (by omega) (by have := hB.size; simp; omega) ?_; intro v' w2 hown' hgrow _; obtain ⟨g', cap', rfl⟩ := ownsRow_succ hown'; obtain ⟨hv1, hv2, hr2, hk2, hb2⟩ := hv.appended (by decide) hrow hB.size (Nat.le_refl _) hown' hgrow; have hc1 := hv1.cell; have hf1 := hv1.frozen)
        have hb3 : KeepsBox n (w1.heap.size + 1) V (w2.setCell ⟨W.heap.size, 0, none⟩ (.slice (some ⟨g', 0, none⟩) (pre.length + 1) cap')) := fun h => boxed_past h (by decide) (by omega) hrow hgrow
        exact ⟨hk2.from _, hb3, ⟨⟨⟨_, hv2, Bytes.Has.laid1 hr2, trivial⟩, hb3 hbnV⟩, by rw [List.length_append]; simp; omega⟩, hB.trans hb2⟩
    case done2 =>
      rintro D2 ys V hD2 rfl ⟨⟨⟨⟨vm, hvm, hrowm, _⟩, _⟩, hpl⟩, hB2⟩ hK2
      obtain ⟨R, hR, hrowR⟩ : ∃ R, R = (txt n).take (u % 8) ∧ V.ownsRow W.heap.size 5 1 vm R.length (Bytes.cells R) := ⟨txt n, (List.take_of_length_le hpl).symm, hrowm⟩
      have bSV : Boxed V w.heap.size 3 (.int .i64 stop) := (hB2.block _ bS3.lt).trans bS3
      have hcS := bSV.cell
      have bBV : Boxed V w1.heap.size 23 v := (hB2.block _ hv.lt).trans hv
      have hrowV := Bytes.row_below hrow hB2
      have hKV : V.heap[D]? = some (.deferred (some [])) := (hB2.block D hDl).trans hK
      have hws : want.size = (txt n).length := by rw [← HW.out]; simp [ByteArray.size]
      have HWS := Lib.hid hws
      clear hws
      have hu0' := HU.out
      obtain ⟨sR, hsR⟩ : ∃ s : ByteArray, (⟨R.toArray⟩ : ByteArray) = s := ⟨_, rfl⟩
      have HR := Lib.hid hR
      have HSR := Lib.hid hsR
      clear hR hsR
      have tV1 := Bytes.Has.text (w := V.drew) hrowV
      have tV2 := Bytes.Has.text (w := V.drew) hrowR
      rw [HW.out] at tV1
      rw [HSR.out] at tV2
      by_cases hle : want.size ≤ u % 8
      · have hmn : min (want.size : Int) ((u : Int) % 8) = (want.size : Int) := by omega
        have hex : want.extract 0 want.size = sR := extract_is HW HSR (by rw [HR.out]; have := HWS.out; rw [List.take_of_length_le (by omega), List.take_of_length_le (by omega)])
        gi_wp2_with fail
        refine wpIn_wide.2 ?_
        go_region_held3 (fun w' => w'.cell? ⟨w1.heap.size, 0, none⟩ = some v ∧ w'.cell? ⟨W.heap.size, 0, none⟩ = some vm ∧ (convert 23 9 v).run Try.prog w' = .ok (.string want) w' ∧ (convert 23 9 vm).run Try.prog w' = .ok (.string sR) w') (first | exact ⟨c1, c2, t1, t2⟩ | exact ⟨bBV.cell, hvm.cell, tV1, tV2⟩) ((go_at_call 10; refine (CT.out _).mono ?_; rintro e V5 ⟨rfl, b5⟩; have c1 := (b5.cell (p := ⟨w1.heap.size, 0, none⟩) bBV.lt).trans bBV.cell; have c2 := (b5.cell (p := ⟨W.heap.size, 0, none⟩) hvm.lt).trans hvm.cell; have t1 := Bytes.Has.text (Bytes.row_below (w := V.drew) hrowV b5); have t2 := Bytes.Has.text (Bytes.row_below (w := V.drew) hrowR b5); rw [HW.out] at t1; rw [HSR.out] at t2))
        all_goals
          gi_wp2
          have l2 : D2 < V.heap.size := (Array.getElem?_eq_some_iff.1 hK2).1
          have l1 : D < V.heap.size := (Array.getElem?_eq_some_iff.1 hKV).1
          have e2 : V5.heap[D2]? = some (.deferred (some [])) := (b5.block D2 l2).trans hK2
          have e1 : V5.heap[D]? = some (.deferred (some [])) := (b5.block D l1).trans hKV
          have hne : D ≠ D2 := by have := hD2; simp at this; omega
          have e1' : (V5.putObj D2 (.deferred none)).heap[D]? = some (.deferred (some [])) := (World.putObj_heap_other hne).trans e1
          have hbV : Below w.heap.size w V := (hbw.trans (hB.mono (by omega))).trans (hB2.mono (by omega))
          have hbV5 : Below w.heap.size w V5 := hbV.drew.trans (b5.mono hbV.size)
          refine ⟨by simp, .inl ⟨_, _, rfl, run_takeDeferred e2, ?_⟩⟩
          refine ⟨by simp, .inl ⟨_, _, rfl, run_takeDeferred e1', ?_⟩⟩
          exact ⟨_, results_tmp rfl _ _ _, rfl, below_put (below_put hbV5 (by have := hD2; simp at this; omega) e2 _) (by omega) e1' _⟩
      · have hmn : min (want.size : Int) ((u : Int) % 8) = ((u : Int) % 8) := by omega
        have hex : want.extract 0 (u % 8) = sR := extract_is HW HSR HR.out
        have hex2 : want.extract 0 ((u : Int) % 8).toNat = sR := by rw [show ((u : Int) % 8).toNat = u % 8 by omega]; exact hex
        have hb1 : (0 : Int) ≤ (u : Int) % 8 := by omega
        have hb2 : (u : Int) % 8 ≤ (want.size : Int) := by omega
        gi_wp2_with fail
        refine wpIn_wide.2 ?_
        go_region_held3 (fun w' => w'.cell? ⟨w1.heap.size, 0, none⟩ = some v ∧ w'.cell? ⟨W.heap.size, 0, none⟩ = some vm ∧ (convert 23 9 v).run Try.prog w' = .ok (.string want) w' ∧ (convert 23 9 vm).run Try.prog w' = .ok (.string sR) w') (first | exact ⟨c1, c2, t1, t2⟩ | exact ⟨bBV.cell, hvm.cell, tV1, tV2⟩) ((go_at_call 10; refine (CT.out _).mono ?_; rintro e V5 ⟨rfl, b5⟩; have c1 := (b5.cell (p := ⟨w1.heap.size, 0, none⟩) bBV.lt).trans bBV.cell; have c2 := (b5.cell (p := ⟨W.heap.size, 0, none⟩) hvm.lt).trans hvm.cell; have t1 := Bytes.Has.text (Bytes.row_below (w := V.drew) hrowV b5); have t2 := Bytes.Has.text (Bytes.row_below (w := V.drew) hrowR b5); rw [HW.out] at t1; rw [HSR.out] at t2))
        all_goals
          gi_wp2
          have l2 : D2 < V.heap.size := (Array.getElem?_eq_some_iff.1 hK2).1
          have l1 : D < V.heap.size := (Array.getElem?_eq_some_iff.1 hKV).1
          have e2 : V5.heap[D2]? = some (.deferred (some [])) := (b5.block D2 l2).trans hK2
          have e1 : V5.heap[D]? = some (.deferred (some [])) := (b5.block D l1).trans hKV
          have hne : D ≠ D2 := by have := hD2; simp at this; omega
          have e1' : (V5.putObj D2 (.deferred none)).heap[D]? = some (.deferred (some [])) := (World.putObj_heap_other hne).trans e1
          have hbV : Below w.heap.size w V := (hbw.trans (hB.mono (by omega))).trans (hB2.mono (by omega))
          have hbV5 : Below w.heap.size w V5 := hbV.drew.trans (b5.mono hbV.size)
          refine ⟨by simp, .inl ⟨_, _, rfl, run_takeDeferred e2, ?_⟩⟩
          refine ⟨by simp, .inl ⟨_, _, rfl, run_takeDeferred e1', ?_⟩⟩
          exact ⟨_, results_tmp rfl _ _ _, rfl, below_put (below_put hbV5 (by have := hD2; simp at this; omega) e2 _) (by omega) e1' _⟩
    case stop2 =>
      rintro D2 c l V hD2 hSp ⟨⟨rfl, hll⟩, ⟨vm, hvm, hrowm, _⟩, hB2⟩ hK2
      obtain ⟨R, hR, hrowR⟩ : ∃ R, R = (txt n).take (u % 8) ∧ V.ownsRow W.heap.size 5 1 vm R.length (Bytes.cells R) := ⟨l.dropLast, prefix_take hSp hll, hrowm⟩
      have bSV : Boxed V w.heap.size 3 (.int .i64 stop) := (hB2.block _ bS3.lt).trans bS3
      have hcS := bSV.cell
      have bBV : Boxed V w1.heap.size 23 v := (hB2.block _ hv.lt).trans hv
      have hrowV := Bytes.row_below hrow hB2
      have hKV : V.heap[D]? = some (.deferred (some [])) := (hB2.block D hDl).trans hK
      have hws : want.size = (txt n).length := by rw [← HW.out]; simp [ByteArray.size]
      have HWS := Lib.hid hws
      clear hws
      have hu0' := HU.out
      obtain ⟨sR, hsR⟩ : ∃ s : ByteArray, (⟨R.toArray⟩ : ByteArray) = s := ⟨_, rfl⟩
      have HR := Lib.hid hR
      have HSR := Lib.hid hsR
      clear hR hsR
      have tV1 := Bytes.Has.text (w := V.drew) hrowV
      have tV2 := Bytes.Has.text (w := V.drew) hrowR
      rw [HW.out] at tV1
      rw [HSR.out] at tV2
      by_cases hle : want.size ≤ u % 8
      · have hmn : min (want.size : Int) ((u : Int) % 8) = (want.size : Int) := by omega
        have hex : want.extract 0 want.size = sR := extract_is HW HSR (by rw [HR.out]; have := HWS.out; rw [List.take_of_length_le (by omega), List.take_of_length_le (by omega)])
        gi_wp2_with fail
        refine wpIn_wide.2 ?_
        go_region_held3 (fun w' => w'.cell? ⟨w1.heap.size, 0, none⟩ = some v ∧ w'.cell? ⟨W.heap.size, 0, none⟩ = some vm ∧ (convert 23 9 v).run Try.prog w' = .ok (.string want) w' ∧ (convert 23 9 vm).run Try.prog w' = .ok (.string sR) w') (first | exact ⟨c1, c2, t1, t2⟩ | exact ⟨bBV.cell, hvm.cell, tV1, tV2⟩) ((go_at_call 10; refine (CT.out _).mono ?_; rintro e V5 ⟨rfl, b5⟩; have c1 := (b5.cell (p := ⟨w1.heap.size, 0, none⟩) bBV.lt).trans bBV.cell; have c2 := (b5.cell (p := ⟨W.heap.size, 0, none⟩) hvm.lt).trans hvm.cell; have t1 := Bytes.Has.text (Bytes.row_below (w := V.drew) hrowV b5); have t2 := Bytes.Has.text (Bytes.row_below (w := V.drew) hrowR b5); rw [HW.out] at t1; rw [HSR.out] at t2))
        all_goals
          gi_wp2
          have l2 : D2 < V.heap.size := (Array.getElem?_eq_some_iff.1 hK2).1
          have l1 : D < V.heap.size := (Array.getElem?_eq_some_iff.1 hKV).1
          have e2 : V5.heap[D2]? = some (.deferred (some [])) := (b5.block D2 l2).trans hK2
          have e1 : V5.heap[D]? = some (.deferred (some [])) := (b5.block D l1).trans hKV
          have hne : D ≠ D2 := by have := hD2; simp at this; omega
          have e1' : (V5.putObj D2 (.deferred none)).heap[D]? = some (.deferred (some [])) := (World.putObj_heap_other hne).trans e1
          have hbV : Below w.heap.size w V := (hbw.trans (hB.mono (by omega))).trans (hB2.mono (by omega))
          have hbV5 : Below w.heap.size w V5 := hbV.drew.trans (b5.mono hbV.size)
          refine ⟨by simp, .inl ⟨_, _, rfl, run_takeDeferred e2, ?_⟩⟩
          refine ⟨by simp, .inl ⟨_, _, rfl, run_takeDeferred e1', ?_⟩⟩
          exact ⟨_, results_tmp rfl _ _ _, rfl, below_put (below_put hbV5 (by have := hD2; simp at this; omega) e2 _) (by omega) e1' _⟩
      · have hmn : min (want.size : Int) ((u : Int) % 8) = ((u : Int) % 8) := by omega
        have hex : want.extract 0 (u % 8) = sR := extract_is HW HSR HR.out
        have hex2 : want.extract 0 ((u : Int) % 8).toNat = sR := by rw [show ((u : Int) % 8).toNat = u % 8 by omega]; exact hex
        have hb1 : (0 : Int) ≤ (u : Int) % 8 := by omega
        have hb2 : (u : Int) % 8 ≤ (want.size : Int) := by omega
        gi_wp2_with fail
        refine wpIn_wide.2 ?_
        go_region_held3 (fun w' => w'.cell? ⟨w1.heap.size, 0, none⟩ = some v ∧ w'.cell? ⟨W.heap.size, 0, none⟩ = some vm ∧ (convert 23 9 v).run Try.prog w' = .ok (.string want) w' ∧ (convert 23 9 vm).run Try.prog w' = .ok (.string sR) w') (first | exact ⟨c1, c2, t1, t2⟩ | exact ⟨bBV.cell, hvm.cell, tV1, tV2⟩) ((go_at_call 10; refine (CT.out _).mono ?_; rintro e V5 ⟨rfl, b5⟩; have c1 := (b5.cell (p := ⟨w1.heap.size, 0, none⟩) bBV.lt).trans bBV.cell; have c2 := (b5.cell (p := ⟨W.heap.size, 0, none⟩) hvm.lt).trans hvm.cell; have t1 := Bytes.Has.text (Bytes.row_below (w := V.drew) hrowV b5); have t2 := Bytes.Has.text (Bytes.row_below (w := V.drew) hrowR b5); rw [HW.out] at t1; rw [HSR.out] at t2))
        all_goals
          gi_wp2
          have l2 : D2 < V.heap.size := (Array.getElem?_eq_some_iff.1 hK2).1
          have l1 : D < V.heap.size := (Array.getElem?_eq_some_iff.1 hKV).1
          have e2 : V5.heap[D2]? = some (.deferred (some [])) := (b5.block D2 l2).trans hK2
          have e1 : V5.heap[D]? = some (.deferred (some [])) := (b5.block D l1).trans hKV
          have hne : D ≠ D2 := by have := hD2; simp at this; omega
          have e1' : (V5.putObj D2 (.deferred none)).heap[D]? = some (.deferred (some [])) := (World.putObj_heap_other hne).trans e1
          have hbV : Below w.heap.size w V := (hbw.trans (hB.mono (by omega))).trans (hB2.mono (by omega))
          have hbV5 : Below w.heap.size w V5 := hbV.drew.trans (b5.mono hbV.size)
          refine ⟨by simp, .inl ⟨_, _, rfl, run_takeDeferred e2, ?_⟩⟩
          refine ⟨by simp, .inl ⟨_, _, rfl, run_takeDeferred e1', ?_⟩⟩
          exact ⟨_, results_tmp rfl _ _ _, rfl, below_put (below_put hbV5 (by have := hD2; simp at this; omega) e2 _) (by omega) e1' _⟩
end Go.Proofs.Ytogdnjanfmapeaa.FigLaw
