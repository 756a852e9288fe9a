/-
Letters as bytes: the program's Decode answers what the plain function 'dec' says. Conditions: the text has at most 2^36 bytes.
-/
import Derived.Test.YtijgpelgdepbaaaDoorSxDecErr
namespace Go.Proofs.YtijgpelgdepbaaaDoor.Sx
open Go.RowKit Go.Shelf
attribute [local go_sem] Oper.semAt_some

set_option maxRecDepth 100000 in
set_option maxHeartbeats 2000000 in
theorem decode_in (s : ByteArray) (hs : s.size ≤ 68719476736) (w : World) :
    CallsIn Fence.wide 5 Tryd.prog 5 #[.string s] w fun e W' => e = .returned (.tuple #[.string ⟨(dec s.data.toList).1.toArray⟩, .int .i64 ((dec s.data.toList).2 : Int)]) ∧ Below w.heap.size w W' := by
  obtain ⟨t, ht⟩ : ∃ t, strip s.data.toList = t := ⟨_, rfl⟩
  obtain ⟨f, hf⟩ : ∃ f, flt 0 false t = f := ⟨_, rfl⟩
  have htl : t.length ≤ 68719476736 := by rw [← ht]; have := strip_length s.data.toList; rw [list_size] at this; omega
  have CW := Lib.hid (fun W => without_any s W hs)
  have CF := Lib.hid (fun W => fault_any ⟨t.toArray⟩ (by rw [ulen rfl]; exact htl) W)
  rw [ht] at CW
  rw [udata, hf] at CF
  by_cases h0 : f = 0
  case neg => exact decode_err s hs w ht hf htl h0
  have HD := Lib.hid (show dec s.data.toList = if (cut 4 t).any bad then ([], 3) else (((cut 4 t).map good).flatten, 0) by unfold dec; rw [ht, hf, if_pos h0])
  have HOK := Lib.hid (pieces_ok t (by rw [hf]; exact h0))
  subst h0
  clear hf ht
  have hsz := ulen (u := t) rfl
  have hdt := udata t
  generalize (⟨t.toArray⟩ : ByteArray) = T at *
  have HSZ := Lib.hid hsz
  have HDT := Lib.hid hdt
  clear hsz hdt
  refine callsIn_of_wp_marks Tryd.func5 rfl trivial ?_ rfl
  simp only [Tryd.ntmps5, List.size_toArray, List.length_cons, List.length_nil, Nat.reduceAdd, Nat.reduceSub, Array.replicate_succ, Array.replicate_zero, List.push_toArray, List.append_toArray, List.nil_append, List.cons_append]
  gi_wp2_with (first | (refine ⟨trivial, ?_⟩; gi_at_call 9; refine (callsIn_wide.2 (CW.out _)).mono ?_; rintro e w1 ⟨rfl, b1⟩; obtain ⟨r0, r1, b0⟩ := res_boxes b1; have c0 := r0.cell; have f0 := r0.frozen; have c1 := r1.cell; have f1 := r1.frozen) | (refine ⟨trivial, ?_⟩; gi_at_call 10; refine (callsIn_wide.2 (CF.out _)).mono ?_; rintro e w' ⟨rfl, rfl⟩) | (refine ⟨trivial, ?_⟩; gi_at_call 11; refine (callsIn_wide.2 (lines_any T 4 _)).mono ?_; rintro e w' ⟨rfl, rfl⟩))
  have bO := Boxed.new w1 32 (.slice none 0 0)
  have hT := lines_two T 4 (w1.alloc (.cells #[.slice none 0 0] 32))
  simp only [World.size_alloc] at hT
  have bO0 := (bO.alloc (.cells #[.string T] 9)).alloc (.cells #[.int .i64 4] 3)
  have hB0 : Below w1.heap.size w1 (((w1.alloc (.cells #[.slice none 0 0] 32)).alloc (.cells #[.string T] 9)).alloc (.cells #[.int .i64 4] 3)) := (((Below.refl _ w1).alloc (Nat.le_refl _) _).alloc (by simp) _).alloc (by simp; omega) _
  have hsz : (((w1.alloc (.cells #[.slice none 0 0] 32)).alloc (.cells #[.string T] 9)).alloc (.cells #[.int .i64 4] 3)).heap.size = w1.heap.size + 1 + 1 + 1 := by simp
  clear bO
  generalize hW0 : (((w1.alloc (.cells #[.slice none 0 0] 32)).alloc (.cells #[.string T] 9)).alloc (.cells #[.int .i64 4] 3)) = W0 at *
  clear hW0
  have HZ := Lib.hid (show W0.heap.size = w1.heap.size + 3 by omega)
  clear hsz
  have hH1 : w.heap.size + 1 < w1.heap.size := r1.lt
  have hcl := cut_length (k := 4) (by decide) t
  have hw4 : wid 4 = 4 := by decide
  have hstops := lines_stops_mem (5 - 1) (by omega) (w1.heap.size + 1) T 4 (by rw [HSZ.out]; omega) (KeepsTwo (w1.heap.size + 1) T 4) (fun W W' h => h) W0 hT
  rw [hw4, HDT.out] at hstops
  have HCL := Lib.hid hcl
  have R0 := Lib.hid ((hB0.block w.heap.size r0.lt).trans r0 : Boxed W0 w.heap.size 9 (.string ⟨#[]⟩))
  have R1 := Lib.hid ((hB0.block (w.heap.size + 1) r1.lt).trans r1 : Boxed W0 (w.heap.size + 1) 22 (.int .i64 0))
  clear hcl hw4 r0 r1 c0 c1 f0 f1
  refine wpIn_rangeFunc_ownG rfl (by omega) (gf := 19) (lb := #[.pointer (some ⟨w1.heap.size + 1, 0, none⟩), .pointer (some ⟨w1.heap.size + 1 + 1, 0, none⟩)]) rfl trivial (enters_of Tryd.func19 (by kernel_rfl) rfl)
    hstops KeepsTwo.t (fun W l o o' _ hl hc _ => KeepsTwo.b W l o o' hl hc) (Below.refl _ _) (fun _ => rfl)
    (fun pre V => DI w1.heap.size T W0 pre V) (fun c l V => DX w.heap.size W0 c l V) (DI.own (by rw [HZ.out]; omega) (by rw [HZ.out]; omega)) (DX.own (by rw [HZ.out]; omega) (by rw [HZ.out]; omega))
    ⟨⟨_, bO0, World.ownsRow_nil _ _ _ _, trivial⟩, hT, (fun _ h => by cases h), Below.refl _ _⟩
    (fun x => { tmps := #[.string s, undef, .pointer (some ⟨w.heap.size, 0, none⟩), .pointer (some ⟨w.heap.size + 1, 0, none⟩), .string T, .int .i64 0, .pointer (some ⟨w1.heap.size, 0, none⟩), .string ⟨x.1.toArray⟩, undef, undef, undef, .string s, .string T, .string T, .int .i64 0, .int .i64 0, .bool false, undef, .string T, .func (.func 19) #[] #[.pointer (some ⟨w1.heap.size + 1, 0, none⟩), .pointer (some ⟨w1.heap.size + 1 + 1, 0, none⟩)], .string ⟨x.1.toArray⟩, undef, undef, undef, undef, undef, undef, undef, undef, undef, undef, undef, undef, undef, undef, undef, undef, undef, undef, undef], defers := [] }) ?assign ?body ?done ?stop
  case assign =>
    intro l x V K hK
    gi_wp2
    exact hK
  case stop =>
    rintro D c l V hD hSp ⟨⟨rfl, y, hy, hb⟩, q0, q1, hB⟩ hK
    have HE := Lib.hid (show dec s.data.toList = ([], 3) by rw [HD.out, if_pos]; rw [List.any_eq_true]; exact ⟨y.1, hSp.subset (List.mem_map.2 ⟨y, hy, rfl⟩), hb⟩)
    have h3 := HZ.out
    clear hb hSp
    gi_wp2
    refine ⟨by simp, .inl ⟨_, _, rfl, run_takeDeferred hK, ?_⟩⟩
    exact ⟨_, results_dec rfl rfl (boxed_put q0 hK rfl _) (boxed_put q1 hK rfl _), by rw [HE.out]; rfl, below_put (b0.trans ((hB0.mono (by omega)).trans hB)) (by omega) hK _⟩
  case done =>
    rintro D ys V hD hys ⟨⟨v, hv, hrow, _⟩, hT2, hbad, hB⟩ hK
    have hc := hv.cell
    have tV := Bytes.Has.text (w := V) hrow
    have h3 := HZ.out
    have q0 : Boxed V w.heap.size 9 (.string ⟨#[]⟩) := (hB.block _ (by omega)).trans R0.out
    have q1 : Boxed V (w.heap.size + 1) 22 (.int .i64 0) := (hB.block _ (by omega)).trans R1.out
    have HE := Lib.hid (show dec s.data.toList = (letters ys good, 0) by
      rw [HD.out, if_neg]
      · have h := congrArg (fun l => (l.map good).flatten) hys
        simp only [List.map_map] at h
        rw [← h]; rfl
      · rw [← hys]; intro hh; rw [List.any_eq_true] at hh
        obtain ⟨z, hz, hzb⟩ := hh
        obtain ⟨y, hy, rfl⟩ := List.mem_map.1 hz
        rw [hbad y hy] at hzb; cases hzb)
    have c0 := q0.cell
    have f0 := q0.frozen
    have c1 := q1.cell
    have f1 := q1.frozen
    have Q0 := Lib.hid q0
    have Q1 := Lib.hid q1
    clear hrow hys hbad h3
    gi_wp2
    have h3 := HZ.out
    have hDV : D < V.heap.size := (Array.getElem?_eq_some_iff.1 hK).1
    have hK' : ∀ x y : Value, ((V.setCell ⟨w.heap.size, 0, none⟩ x).setCell ⟨w.heap.size + 1, 0, none⟩ y).heap[D]? = some (.deferred (some [])) := fun x y => ((KeepsOthers.setCell _ _ _).trans (KeepsOthers.setCell _ _ _)).same D _ hK rfl
    refine ⟨by simp, .inl ⟨_, _, rfl, run_takeDeferred (hK' _ _), ?_⟩⟩
    exact ⟨_, results_dec rfl rfl (boxed_put (boxed_other (Q0.out.set _) (by omega)) (hK' _ _) rfl _) (boxed_put ((boxed_other Q1.out (by omega)).set _) (hK' _ _) rfl _), by rw [HE.out]; rfl, below_put (below_set (below_set (b0.trans ((hB0.mono (by omega)).trans (hB.mono (by omega)))) (Nat.le_refl _) _) (by omega) _) (by omega) (hK' _ _) _⟩
  case body =>
    rintro l pre ⟨x, hx⟩ V ⟨⟨v, hv, hrow, _⟩, hT2, hbad, hB⟩ hlt
    obtain ⟨hLs, hlen⟩ := said_ok (HOK.out x hx)
    obtain ⟨sa, sc, rfl⟩ := Bytes.Has.shape hrow
    have hc := hv.cell
    have hz := hB.size
    have hsx : x.length ≤ 4 := by obtain ⟨a, b, c, d, rfl, _⟩ := HOK.out x hx; simp
    have CT := Lib.hid (fun W => trim_any ⟨x.toArray⟩ W (by rw [ulen rfl]; omega))
    rw [udata] at CT
    obtain ⟨y, hy⟩ : ∃ y, said x = y := ⟨_, rfl⟩
    rw [hy] at hLs hlen CT
    have C3 := Lib.hid (fun W => three_of ⟨y.toArray⟩ (by rw [ulen rfl]; omega) (by rw [udata]; exact hLs) W)
    rw [udata] at C3
    have hn := ulen (u := y) rfl
    have hgn := fun p q r (h : tri y = [p, q, r]) => good_n (x := x) (p := p) (q := q) (r := r) (by rw [hy]; exact h)
    rw [hy] at hgn
    have HG := Lib.hid hgn
    have HLL := Lib.hid (show (letters pre good).length ≤ 274877906944 by
      have h1 : (letters pre good).length ≤ 3 * pre.length := goods_length pre
      have h2 := HCL.out
      omega)
    clear hLs hgn hsx hy
    have hmx : Tryd.prog.follows .mixedOrders = true := by kernel_rfl
    rcases hlen with h1 | h1 | h1
    · rw [h1] at hn
      have H1 := Lib.hid h1
      clear h1
      dsimp only
      gi_wp2_with (first
        | (refine ⟨trivial, ?_⟩; gi_at_call 12; refine (CallsIn.inRound l (callsIn_wide.2 (CT.out _))).mono ?_; rintro e w2 ⟨rfl, b2⟩)
        | (refine ⟨trivial, ?_⟩; gi_at_call 13; refine (CallsIn.inRound l (callsIn_wide.2 (C3.out _))).mono ?_; rintro e w3 ⟨p, q, r, hq, rfl, b3⟩))
      obtain ⟨hgd, hbd⟩ := (HG.out p q r hq.out).1 H1.out
      have hqx := Lib.hid (show letters (pre ++ [⟨x, hx⟩]) good = letters pre good ++ [p] by unfold letters; rw [List.map_append, List.flatten_append]; show _ ++ (good x ++ []) = _; rw [List.append_nil, hgd])
      have hg4 := heap_alloc_new w3 (.cells #[.int .u8 (p.toNat : Int), .int .u8 (q.toNat : Int), .int .u8 (r.toNat : Int)] 36 (0, 0))
      have b4 : Below V.heap.size V (w3.alloc (.cells #[.int .u8 (p.toNat : Int), .int .u8 (q.toNat : Int), .int .u8 (r.toNat : Int)] 36 (0, 0))) := ((b2.trans (b3.mono b2.size))).alloc (by have := b2.size; have := b3.size; omega) _
      have hgl : w3.heap.size < (w3.alloc (.cells #[.int .u8 (p.toNat : Int), .int .u8 (q.toNat : Int), .int .u8 (r.toNat : Int)] 36 (0, 0))).heap.size := by simp
      generalize w3.alloc (.cells #[.int .u8 (p.toNat : Int), .int .u8 (q.toNat : Int), .int .u8 (r.toNat : Int)] 36 (0, 0)) = W4 at *
      generalize w3.heap.size = g at *
      clear hgd b2 b3 hc
      obtain ⟨d0, d1, d2⟩ := cells3 hg4
      have hcv : (convert 32 9 (.slice (some ⟨g, 0, none⟩) 1 3)).run Tryd.prog W4.drew = .ok (.string ⟨#[p]⟩) W4.drew := conv3 W4.drew g p q r [p] rfl hg4
      obtain ⟨bb, hbb⟩ : ∃ b, bad x = b := ⟨_, rfl⟩
      rw [hbb] at hbd
      have hne := fun W => neq3 p.toNat q.toNat r.toNat p.toNat 0 0 W
      rw [show (((p.toNat : Int) == (p.toNat : Int)) && (((q.toNat : Int) == (0 : Int)) && ((r.toNat : Int) == (0 : Int)))) = (!bb) by rw [hbd, Bool.not_not] <;> simp only [int_beq, int_beq0]] at hne
      simp only [Bool.not_not] at hne
      clear hbd
      refine Code.wpIn_mono (Q := fun e a' w' => e = .normal ∧ a' = { tmps := #[.string s, undef, .pointer (some ⟨w.heap.size, 0, none⟩), .pointer (some ⟨w.heap.size + 1, 0, none⟩), .string T, .int .i64 0, .pointer (some ⟨w1.heap.size, 0, none⟩), .string ⟨x.toArray⟩, .string ⟨y.toArray⟩, .pointer (some ⟨g, 0, none⟩), .int .i64 1, .string s, .string T, .string T, .int .i64 0, .int .i64 0, .bool false, undef, .string T, .func (.func 19) #[] #[.pointer (some ⟨w1.heap.size + 1, 0, none⟩), .pointer (some ⟨w1.heap.size + 1 + 1, 0, none⟩)], .string ⟨x.toArray⟩, .string ⟨x.toArray⟩, .string ⟨y.toArray⟩, .string ⟨y.toArray⟩, .agg #[.int .u8 (p.toNat : Int), .int .u8 (q.toNat : Int), .int .u8 (r.toNat : Int)], .string ⟨y.toArray⟩, .int .i64 2, .int .i64 1, .agg #[.int .u8 (p.toNat : Int), .int .u8 (q.toNat : Int), .int .u8 (r.toNat : Int)], .int .i64 1, .slice (some ⟨g, 0, none⟩) 1 3, .string ⟨#[p]⟩, .agg #[.int .u8 (p.toNat : Int), .int .u8 0, .int .u8 0], .bool bb, undef, undef, undef, undef, undef, undef], defers := [] } ∧ Below W4.heap.size W4 w') ?_ ?_
      case refine_2 =>
        gi_region_with_o (refine ⟨trivial, ?_⟩; gi_at_call 14; refine (CallsIn.inRound l (callsIn_wide.2 (three_1 p _))).mono ?_; rintro e w5 ⟨rfl, b5⟩; obtain ⟨e0, e1, e2⟩ := cells3 ((b5.block g hgl).trans hg4))
        all_goals exact ⟨rfl, rfl, (Below.refl _ W4).drew.trans ‹_›⟩
      rintro e a' w5 ⟨rfl, rfl, b5⟩
      have b6 := b4.trans (b5.mono b4.size)
      have hg5 := (b5.block g hgl).trans hg4
      clear d0 d1 d2 hcv hne hg4
      have hv5 : Boxed w5 w1.heap.size 32 _ := (b6.block w1.heap.size hv.lt).trans hv
      have hc5 := hv5.cell
      cases bb
      · obtain ⟨g', cap, w7, hrun, hc7, hf7, hA⟩ := app3 p q r [p] rfl (by simp) (by simp) hg5 hv5 (Bytes.row_below hrow b6) (by have := HZ.out; have := b6.size; omega) (Nat.le_refl _) HLL.out
        change (Builtin.append_ #[32, 32] 32 #[_, .slice (some ⟨g, 0, none⟩) 1 3]).run Tryd.prog w5.drew = .ok (.slice (some ⟨g', 0, none⟩) ((letters pre good).length + 1) cap) w7 at hrun
        dsimp only [List.length_cons, List.length_nil, Nat.zero_add, Nat.reduceAdd] at hA
        gi_wp2_with fail
        refine wpIn_region_any hmx ?_
        change wpAnyIn _ _ _ _ _ _ _ _ _ (World.drew _)
        refine wpAnyIn_ready (rs := [0, 1]) (by kernel_rfl) (by simp) ?_
        refine AllReadyIn.cons rfl (fun K hK => ?_) (AllReadyIn.cons rfl (fun K hK => ?_) AllReadyIn.nil)
        · go_simp
          refine hK _ _ ?_
          clear hK K
          refine wpAnyIn_ready (rs := [1]) (by kernel_rfl) (by simp) ?_
          refine AllReadyIn.cons rfl (fun K hK => ?_) AllReadyIn.nil
          go_simp
          refine hK _ _ ?_
          clear hK K
          refine wpAnyIn_ready (rs := [2]) (by kernel_rfl) (by simp) ?_
          refine AllReadyIn.cons rfl (fun K hK => ?_) AllReadyIn.nil
          go_simp
          refine hK _ _ ?_
          clear hK K
          refine wpAnyIn_ready (rs := [3]) (by kernel_rfl) (by simp) ?_
          refine AllReadyIn.cons rfl (fun K hK => ?_) AllReadyIn.nil
          refine stepIn_append rfl _ _ _ rfl rfl rfl hrun (hK _ _ ?_)
          clear hK K
          refine wpAnyIn_ready (rs := [4]) (by kernel_rfl) (by simp) ?_
          refine AllReadyIn.cons rfl (fun K hK => ?_) AllReadyIn.nil
          go_simp
          refine hK _ _ ?_
          clear hK K
          refine wpAnyIn_done (by kernel_rfl) ?_ _
          clear hrun hc5 hc7 hf7
          gi_wp2_with fail
          exact ended3 hB hT2 hbad b6 hqx hbb hA (by have := HZ.out; omega)
        · go_simp
          refine hK _ _ ?_
          clear hK K
          refine wpAnyIn_ready (rs := [0, 2]) (by kernel_rfl) (by simp) ?_
          refine AllReadyIn.cons rfl (fun K hK => ?_) (AllReadyIn.cons rfl (fun K hK => ?_) AllReadyIn.nil)
          · go_simp
            refine hK _ _ ?_
            clear hK K
            refine wpAnyIn_ready (rs := [2]) (by kernel_rfl) (by simp) ?_
            refine AllReadyIn.cons rfl (fun K hK => ?_) AllReadyIn.nil
            go_simp
            refine hK _ _ ?_
            clear hK K
            refine wpAnyIn_ready (rs := [3]) (by kernel_rfl) (by simp) ?_
            refine AllReadyIn.cons rfl (fun K hK => ?_) AllReadyIn.nil
            refine stepIn_append rfl _ _ _ rfl rfl rfl hrun (hK _ _ ?_)
            clear hK K
            refine wpAnyIn_ready (rs := [4]) (by kernel_rfl) (by simp) ?_
            refine AllReadyIn.cons rfl (fun K hK => ?_) AllReadyIn.nil
            go_simp
            refine hK _ _ ?_
            clear hK K
            refine wpAnyIn_done (by kernel_rfl) ?_ _
            clear hrun hc5 hc7 hf7
            gi_wp2_with fail
            exact ended3 hB hT2 hbad b6 hqx hbb hA (by have := HZ.out; omega)
          · go_simp
            refine hK _ _ ?_
            clear hK K
            refine wpAnyIn_ready (rs := [0]) (by kernel_rfl) (by simp) ?_
            refine AllReadyIn.cons rfl (fun K hK => ?_) AllReadyIn.nil
            go_simp
            refine hK _ _ ?_
            clear hK K
            refine wpAnyIn_ready (rs := [3]) (by kernel_rfl) (by simp) ?_
            refine AllReadyIn.cons rfl (fun K hK => ?_) AllReadyIn.nil
            refine stepIn_append rfl _ _ _ rfl rfl rfl hrun (hK _ _ ?_)
            clear hK K
            refine wpAnyIn_ready (rs := [4]) (by kernel_rfl) (by simp) ?_
            refine AllReadyIn.cons rfl (fun K hK => ?_) AllReadyIn.nil
            go_simp
            refine hK _ _ ?_
            clear hK K
            refine wpAnyIn_done (by kernel_rfl) ?_ _
            clear hrun hc5 hc7 hf7
            gi_wp2_with fail
            exact ended3 hB hT2 hbad b6 hqx hbb hA (by have := HZ.out; omega)
      · have q0 : Boxed w5 w.heap.size 9 (.string ⟨#[]⟩) := (b6.block _ (by have := HZ.out; omega)).trans ((hB.block _ (by have := HZ.out; omega)).trans R0.out)
        have q1 : Boxed w5 (w.heap.size + 1) 22 (.int .i64 0) := (b6.block _ (by have := HZ.out; omega)).trans ((hB.block _ (by have := HZ.out; omega)).trans R1.out)
        have c0 := q0.cell
        have f0 := q0.frozen
        have c1 := q1.cell
        have f1 := q1.frozen
        clear hc5
        have Q0 := Lib.hid q0
        have Q1 := Lib.hid q1
        clear q0 q1
        gi_wp2_with fail
        exact stopped3 hB b6 hbb Q0.out Q1.out (by omega) (by have := HZ.out; omega) (by have := HZ.out; omega)
    · rw [h1] at hn
      have H1 := Lib.hid h1
      clear h1
      dsimp only
      gi_wp2_with (first
        | (refine ⟨trivial, ?_⟩; gi_at_call 12; refine (CallsIn.inRound l (callsIn_wide.2 (CT.out _))).mono ?_; rintro e w2 ⟨rfl, b2⟩)
        | (refine ⟨trivial, ?_⟩; gi_at_call 13; refine (CallsIn.inRound l (callsIn_wide.2 (C3.out _))).mono ?_; rintro e w3 ⟨p, q, r, hq, rfl, b3⟩))
      obtain ⟨hgd, hbd⟩ := (HG.out p q r hq.out).2.1 H1.out
      have hqx := Lib.hid (show letters (pre ++ [⟨x, hx⟩]) good = letters pre good ++ [p, q] by unfold letters; rw [List.map_append, List.flatten_append]; show _ ++ (good x ++ []) = _; rw [List.append_nil, hgd])
      have hg4 := heap_alloc_new w3 (.cells #[.int .u8 (p.toNat : Int), .int .u8 (q.toNat : Int), .int .u8 (r.toNat : Int)] 36 (0, 0))
      have b4 : Below V.heap.size V (w3.alloc (.cells #[.int .u8 (p.toNat : Int), .int .u8 (q.toNat : Int), .int .u8 (r.toNat : Int)] 36 (0, 0))) := ((b2.trans (b3.mono b2.size))).alloc (by have := b2.size; have := b3.size; omega) _
      have hgl : w3.heap.size < (w3.alloc (.cells #[.int .u8 (p.toNat : Int), .int .u8 (q.toNat : Int), .int .u8 (r.toNat : Int)] 36 (0, 0))).heap.size := by simp
      generalize w3.alloc (.cells #[.int .u8 (p.toNat : Int), .int .u8 (q.toNat : Int), .int .u8 (r.toNat : Int)] 36 (0, 0)) = W4 at *
      generalize w3.heap.size = g at *
      clear hgd b2 b3 hc
      obtain ⟨d0, d1, d2⟩ := cells3 hg4
      have hcv : (convert 32 9 (.slice (some ⟨g, 0, none⟩) 2 3)).run Tryd.prog W4.drew = .ok (.string ⟨#[p, q]⟩) W4.drew := conv3 W4.drew g p q r [p, q] rfl hg4
      obtain ⟨bb, hbb⟩ : ∃ b, bad x = b := ⟨_, rfl⟩
      rw [hbb] at hbd
      have hne := fun W => neq3 p.toNat q.toNat r.toNat p.toNat q.toNat 0 W
      rw [show (((p.toNat : Int) == (p.toNat : Int)) && (((q.toNat : Int) == (q.toNat : Int)) && ((r.toNat : Int) == (0 : Int)))) = (!bb) by rw [hbd, Bool.not_not] <;> simp only [int_beq, int_beq0]] at hne
      simp only [Bool.not_not] at hne
      clear hbd
      refine Code.wpIn_mono (Q := fun e a' w' => e = .normal ∧ a' = { tmps := #[.string s, undef, .pointer (some ⟨w.heap.size, 0, none⟩), .pointer (some ⟨w.heap.size + 1, 0, none⟩), .string T, .int .i64 0, .pointer (some ⟨w1.heap.size, 0, none⟩), .string ⟨x.toArray⟩, .string ⟨y.toArray⟩, .pointer (some ⟨g, 0, none⟩), .int .i64 2, .string s, .string T, .string T, .int .i64 0, .int .i64 0, .bool false, undef, .string T, .func (.func 19) #[] #[.pointer (some ⟨w1.heap.size + 1, 0, none⟩), .pointer (some ⟨w1.heap.size + 1 + 1, 0, none⟩)], .string ⟨x.toArray⟩, .string ⟨x.toArray⟩, .string ⟨y.toArray⟩, .string ⟨y.toArray⟩, .agg #[.int .u8 (p.toNat : Int), .int .u8 (q.toNat : Int), .int .u8 (r.toNat : Int)], .string ⟨y.toArray⟩, .int .i64 3, .int .i64 2, .agg #[.int .u8 (p.toNat : Int), .int .u8 (q.toNat : Int), .int .u8 (r.toNat : Int)], .int .i64 2, .slice (some ⟨g, 0, none⟩) 2 3, .string ⟨#[p, q]⟩, .agg #[.int .u8 (p.toNat : Int), .int .u8 (q.toNat : Int), .int .u8 0], .bool bb, undef, undef, undef, undef, undef, undef], defers := [] } ∧ Below W4.heap.size W4 w') ?_ ?_
      case refine_2 =>
        gi_region_with_o (refine ⟨trivial, ?_⟩; gi_at_call 14; refine (CallsIn.inRound l (callsIn_wide.2 (three_2 p q _))).mono ?_; rintro e w5 ⟨rfl, b5⟩; obtain ⟨e0, e1, e2⟩ := cells3 ((b5.block g hgl).trans hg4))
        all_goals exact ⟨rfl, rfl, (Below.refl _ W4).drew.trans ‹_›⟩
      rintro e a' w5 ⟨rfl, rfl, b5⟩
      have b6 := b4.trans (b5.mono b4.size)
      have hg5 := (b5.block g hgl).trans hg4
      clear d0 d1 d2 hcv hne hg4
      have hv5 : Boxed w5 w1.heap.size 32 _ := (b6.block w1.heap.size hv.lt).trans hv
      have hc5 := hv5.cell
      cases bb
      · obtain ⟨g', cap, w7, hrun, hc7, hf7, hA⟩ := app3 p q r [p, q] rfl (by simp) (by simp) hg5 hv5 (Bytes.row_below hrow b6) (by have := HZ.out; have := b6.size; omega) (Nat.le_refl _) HLL.out
        change (Builtin.append_ #[32, 32] 32 #[_, .slice (some ⟨g, 0, none⟩) 2 3]).run Tryd.prog w5.drew = .ok (.slice (some ⟨g', 0, none⟩) ((letters pre good).length + 2) cap) w7 at hrun
        dsimp only [List.length_cons, List.length_nil, Nat.zero_add, Nat.reduceAdd] at hA
        gi_wp2_with fail
        refine wpIn_region_any hmx ?_
        change wpAnyIn _ _ _ _ _ _ _ _ _ (World.drew _)
        refine wpAnyIn_ready (rs := [0, 1]) (by kernel_rfl) (by simp) ?_
        refine AllReadyIn.cons rfl (fun K hK => ?_) (AllReadyIn.cons rfl (fun K hK => ?_) AllReadyIn.nil)
        · go_simp
          refine hK _ _ ?_
          clear hK K
          refine wpAnyIn_ready (rs := [1]) (by kernel_rfl) (by simp) ?_
          refine AllReadyIn.cons rfl (fun K hK => ?_) AllReadyIn.nil
          go_simp
          refine hK _ _ ?_
          clear hK K
          refine wpAnyIn_ready (rs := [2]) (by kernel_rfl) (by simp) ?_
          refine AllReadyIn.cons rfl (fun K hK => ?_) AllReadyIn.nil
          go_simp
          refine hK _ _ ?_
          clear hK K
          refine wpAnyIn_ready (rs := [3]) (by kernel_rfl) (by simp) ?_
          refine AllReadyIn.cons rfl (fun K hK => ?_) AllReadyIn.nil
          refine stepIn_append rfl _ _ _ rfl rfl rfl hrun (hK _ _ ?_)
          clear hK K
          refine wpAnyIn_ready (rs := [4]) (by kernel_rfl) (by simp) ?_
          refine AllReadyIn.cons rfl (fun K hK => ?_) AllReadyIn.nil
          go_simp
          refine hK _ _ ?_
          clear hK K
          refine wpAnyIn_done (by kernel_rfl) ?_ _
          clear hrun hc5 hc7 hf7
          gi_wp2_with fail
          exact ended3 hB hT2 hbad b6 hqx hbb hA (by have := HZ.out; omega)
        · go_simp
          refine hK _ _ ?_
          clear hK K
          refine wpAnyIn_ready (rs := [0, 2]) (by kernel_rfl) (by simp) ?_
          refine AllReadyIn.cons rfl (fun K hK => ?_) (AllReadyIn.cons rfl (fun K hK => ?_) AllReadyIn.nil)
          · go_simp
            refine hK _ _ ?_
            clear hK K
            refine wpAnyIn_ready (rs := [2]) (by kernel_rfl) (by simp) ?_
            refine AllReadyIn.cons rfl (fun K hK => ?_) AllReadyIn.nil
            go_simp
            refine hK _ _ ?_
            clear hK K
            refine wpAnyIn_ready (rs := [3]) (by kernel_rfl) (by simp) ?_
            refine AllReadyIn.cons rfl (fun K hK => ?_) AllReadyIn.nil
            refine stepIn_append rfl _ _ _ rfl rfl rfl hrun (hK _ _ ?_)
            clear hK K
            refine wpAnyIn_ready (rs := [4]) (by kernel_rfl) (by simp) ?_
            refine AllReadyIn.cons rfl (fun K hK => ?_) AllReadyIn.nil
            go_simp
            refine hK _ _ ?_
            clear hK K
            refine wpAnyIn_done (by kernel_rfl) ?_ _
            clear hrun hc5 hc7 hf7
            gi_wp2_with fail
            exact ended3 hB hT2 hbad b6 hqx hbb hA (by have := HZ.out; omega)
          · go_simp
            refine hK _ _ ?_
            clear hK K
            refine wpAnyIn_ready (rs := [0]) (by kernel_rfl) (by simp) ?_
            refine AllReadyIn.cons rfl (fun K hK => ?_) AllReadyIn.nil
            go_simp
            refine hK _ _ ?_
            clear hK K
            refine wpAnyIn_ready (rs := [3]) (by kernel_rfl) (by simp) ?_
            refine AllReadyIn.cons rfl (fun K hK => ?_) AllReadyIn.nil
            refine stepIn_append rfl _ _ _ rfl rfl rfl hrun (hK _ _ ?_)
            clear hK K
            refine wpAnyIn_ready (rs := [4]) (by kernel_rfl) (by simp) ?_
            refine AllReadyIn.cons rfl (fun K hK => ?_) AllReadyIn.nil
            go_simp
            refine hK _ _ ?_
            clear hK K
            refine wpAnyIn_done (by kernel_rfl) ?_ _
            clear hrun hc5 hc7 hf7
            gi_wp2_with fail
            exact ended3 hB hT2 hbad b6 hqx hbb hA (by have := HZ.out; omega)
      · have q0 : Boxed w5 w.heap.size 9 (.string ⟨#[]⟩) := (b6.block _ (by have := HZ.out; omega)).trans ((hB.block _ (by have := HZ.out; omega)).trans R0.out)
        have q1 : Boxed w5 (w.heap.size + 1) 22 (.int .i64 0) := (b6.block _ (by have := HZ.out; omega)).trans ((hB.block _ (by have := HZ.out; omega)).trans R1.out)
        have c0 := q0.cell
        have f0 := q0.frozen
        have c1 := q1.cell
        have f1 := q1.frozen
        clear hc5
        have Q0 := Lib.hid q0
        have Q1 := Lib.hid q1
        clear q0 q1
        gi_wp2_with fail
        exact stopped3 hB b6 hbb Q0.out Q1.out (by omega) (by have := HZ.out; omega) (by have := HZ.out; omega)
    · rw [h1] at hn
      have H1 := Lib.hid h1
      clear h1
      dsimp only
      gi_wp2_with (first
        | (refine ⟨trivial, ?_⟩; gi_at_call 12; refine (CallsIn.inRound l (callsIn_wide.2 (CT.out _))).mono ?_; rintro e w2 ⟨rfl, b2⟩)
        | (refine ⟨trivial, ?_⟩; gi_at_call 13; refine (CallsIn.inRound l (callsIn_wide.2 (C3.out _))).mono ?_; rintro e w3 ⟨p, q, r, hq, rfl, b3⟩))
      obtain ⟨hgd, hbd⟩ := (HG.out p q r hq.out).2.2 H1.out
      have hqx := Lib.hid (show letters (pre ++ [⟨x, hx⟩]) good = letters pre good ++ [p, q, r] by unfold letters; rw [List.map_append, List.flatten_append]; show _ ++ (good x ++ []) = _; rw [List.append_nil, hgd])
      have hg4 := heap_alloc_new w3 (.cells #[.int .u8 (p.toNat : Int), .int .u8 (q.toNat : Int), .int .u8 (r.toNat : Int)] 36 (0, 0))
      have b4 : Below V.heap.size V (w3.alloc (.cells #[.int .u8 (p.toNat : Int), .int .u8 (q.toNat : Int), .int .u8 (r.toNat : Int)] 36 (0, 0))) := ((b2.trans (b3.mono b2.size))).alloc (by have := b2.size; have := b3.size; omega) _
      have hgl : w3.heap.size < (w3.alloc (.cells #[.int .u8 (p.toNat : Int), .int .u8 (q.toNat : Int), .int .u8 (r.toNat : Int)] 36 (0, 0))).heap.size := by simp
      generalize w3.alloc (.cells #[.int .u8 (p.toNat : Int), .int .u8 (q.toNat : Int), .int .u8 (r.toNat : Int)] 36 (0, 0)) = W4 at *
      generalize w3.heap.size = g at *
      clear hgd b2 b3 hc
      obtain ⟨d0, d1, d2⟩ := cells3 hg4
      have hcv : (convert 32 9 (.slice (some ⟨g, 0, none⟩) 3 3)).run Tryd.prog W4.drew = .ok (.string ⟨#[p, q, r]⟩) W4.drew := conv3 W4.drew g p q r [p, q, r] rfl hg4
      obtain ⟨bb, hbb⟩ : ∃ b, bad x = b := ⟨_, rfl⟩
      have hne := fun W => neq3 p.toNat q.toNat r.toNat p.toNat q.toNat r.toNat W
      rw [hbd] at hbb
      subst hbb
      simp only [beq_self_eq_true, Bool.and_self, Bool.not_true] at hne
      refine Code.wpIn_mono (Q := fun e a' w' => e = .normal ∧ a' = { tmps := #[.string s, undef, .pointer (some ⟨w.heap.size, 0, none⟩), .pointer (some ⟨w.heap.size + 1, 0, none⟩), .string T, .int .i64 0, .pointer (some ⟨w1.heap.size, 0, none⟩), .string ⟨x.toArray⟩, .string ⟨y.toArray⟩, .pointer (some ⟨g, 0, none⟩), .int .i64 3, .string s, .string T, .string T, .int .i64 0, .int .i64 0, .bool false, undef, .string T, .func (.func 19) #[] #[.pointer (some ⟨w1.heap.size + 1, 0, none⟩), .pointer (some ⟨w1.heap.size + 1 + 1, 0, none⟩)], .string ⟨x.toArray⟩, .string ⟨x.toArray⟩, .string ⟨y.toArray⟩, .string ⟨y.toArray⟩, .agg #[.int .u8 (p.toNat : Int), .int .u8 (q.toNat : Int), .int .u8 (r.toNat : Int)], .string ⟨y.toArray⟩, .int .i64 4, .int .i64 3, .agg #[.int .u8 (p.toNat : Int), .int .u8 (q.toNat : Int), .int .u8 (r.toNat : Int)], .int .i64 3, .slice (some ⟨g, 0, none⟩) 3 3, .string ⟨#[p, q, r]⟩, .agg #[.int .u8 (p.toNat : Int), .int .u8 (q.toNat : Int), .int .u8 (r.toNat : Int)], .bool false, undef, undef, undef, undef, undef, undef], defers := [] } ∧ Below W4.heap.size W4 w') ?_ ?_
      case refine_2 =>
        gi_region_with_o (refine ⟨trivial, ?_⟩; gi_at_call 14; refine (CallsIn.inRound l (callsIn_wide.2 (three_3 p q r _))).mono ?_; rintro e w5 ⟨rfl, b5⟩; obtain ⟨e0, e1, e2⟩ := cells3 ((b5.block g hgl).trans hg4))
        all_goals exact ⟨rfl, rfl, (Below.refl _ W4).drew.trans ‹_›⟩
      rintro e a' w5 ⟨rfl, rfl, b5⟩
      have b6 := b4.trans (b5.mono b4.size)
      have hg5 := (b5.block g hgl).trans hg4
      clear d0 d1 d2 hcv hne hg4
      have hv5 : Boxed w5 w1.heap.size 32 _ := (b6.block w1.heap.size hv.lt).trans hv
      have hc5 := hv5.cell
      obtain ⟨g', cap, w7, hrun, hc7, hf7, hA⟩ := app3 p q r [p, q, r] rfl (by simp) (by simp) hg5 hv5 (Bytes.row_below hrow b6) (by have := HZ.out; have := b6.size; omega) (Nat.le_refl _) HLL.out
      change (Builtin.append_ #[32, 32] 32 #[_, .slice (some ⟨g, 0, none⟩) 3 3]).run Tryd.prog w5.drew = .ok (.slice (some ⟨g', 0, none⟩) ((letters pre good).length + 3) cap) w7 at hrun
      dsimp only [List.length_cons, List.length_nil, Nat.zero_add, Nat.reduceAdd] at hA
      gi_wp2_with fail
      refine wpIn_region_any hmx ?_
      change wpAnyIn _ _ _ _ _ _ _ _ _ (World.drew _)
      refine wpAnyIn_ready (rs := [0, 1]) (by kernel_rfl) (by simp) ?_
      refine AllReadyIn.cons rfl (fun K hK => ?_) (AllReadyIn.cons rfl (fun K hK => ?_) AllReadyIn.nil)
      · go_simp
        refine hK _ _ ?_
        clear hK K
        refine wpAnyIn_ready (rs := [1]) (by kernel_rfl) (by simp) ?_
        refine AllReadyIn.cons rfl (fun K hK => ?_) AllReadyIn.nil
        go_simp
        refine hK _ _ ?_
        clear hK K
        refine wpAnyIn_ready (rs := [2]) (by kernel_rfl) (by simp) ?_
        refine AllReadyIn.cons rfl (fun K hK => ?_) AllReadyIn.nil
        go_simp
        refine hK _ _ ?_
        clear hK K
        refine wpAnyIn_ready (rs := [3]) (by kernel_rfl) (by simp) ?_
        refine AllReadyIn.cons rfl (fun K hK => ?_) AllReadyIn.nil
        refine stepIn_append rfl _ _ _ rfl rfl rfl hrun (hK _ _ ?_)
        clear hK K
        refine wpAnyIn_ready (rs := [4]) (by kernel_rfl) (by simp) ?_
        refine AllReadyIn.cons rfl (fun K hK => ?_) AllReadyIn.nil
        go_simp
        refine hK _ _ ?_
        clear hK K
        refine wpAnyIn_done (by kernel_rfl) ?_ _
        clear hrun hc5 hc7 hf7
        gi_wp2_with fail
        exact ended3 hB hT2 hbad b6 hqx hbd hA (by have := HZ.out; omega)
      · go_simp
        refine hK _ _ ?_
        clear hK K
        refine wpAnyIn_ready (rs := [0, 2]) (by kernel_rfl) (by simp) ?_
        refine AllReadyIn.cons rfl (fun K hK => ?_) (AllReadyIn.cons rfl (fun K hK => ?_) AllReadyIn.nil)
        · go_simp
          refine hK _ _ ?_
          clear hK K
          refine wpAnyIn_ready (rs := [2]) (by kernel_rfl) (by simp) ?_
          refine AllReadyIn.cons rfl (fun K hK => ?_) AllReadyIn.nil
          go_simp
          refine hK _ _ ?_
          clear hK K
          refine wpAnyIn_ready (rs := [3]) (by kernel_rfl) (by simp) ?_
          refine AllReadyIn.cons rfl (fun K hK => ?_) AllReadyIn.nil
          refine stepIn_append rfl _ _ _ rfl rfl rfl hrun (hK _ _ ?_)
          clear hK K
          refine wpAnyIn_ready (rs := [4]) (by kernel_rfl) (by simp) ?_
          refine AllReadyIn.cons rfl (fun K hK => ?_) AllReadyIn.nil
          go_simp
          refine hK _ _ ?_
          clear hK K
          refine wpAnyIn_done (by kernel_rfl) ?_ _
          clear hrun hc5 hc7 hf7
          gi_wp2_with fail
          exact ended3 hB hT2 hbad b6 hqx hbd hA (by have := HZ.out; omega)
        · go_simp
          refine hK _ _ ?_
          clear hK K
          refine wpAnyIn_ready (rs := [0]) (by kernel_rfl) (by simp) ?_
          refine AllReadyIn.cons rfl (fun K hK => ?_) AllReadyIn.nil
          go_simp
          refine hK _ _ ?_
          clear hK K
          refine wpAnyIn_ready (rs := [3]) (by kernel_rfl) (by simp) ?_
          refine AllReadyIn.cons rfl (fun K hK => ?_) AllReadyIn.nil
          refine stepIn_append rfl _ _ _ rfl rfl rfl hrun (hK _ _ ?_)
          clear hK K
          refine wpAnyIn_ready (rs := [4]) (by kernel_rfl) (by simp) ?_
          refine AllReadyIn.cons rfl (fun K hK => ?_) AllReadyIn.nil
          go_simp
          refine hK _ _ ?_
          clear hK K
          refine wpAnyIn_done (by kernel_rfl) ?_ _
          clear hrun hc5 hc7 hf7
          gi_wp2_with fail
          exact ended3 hB hT2 hbad b6 hqx hbd hA (by have := HZ.out; omega)
theorem decode_any (s : ByteArray) (hs : s.size ≤ 68719476736) (w : World) :
    Calls Tryd.prog 5 #[.string s] w fun e W' => e = .returned (.tuple #[.string ⟨(dec s.data.toList).1.toArray⟩, .int .i64 ((dec s.data.toList).2 : Int)]) ∧ Below w.heap.size w W' :=
  callsIn_wide.1 (decode_in s hs w)
end Go.Proofs.YtijgpelgdepbaaaDoor.Sx
