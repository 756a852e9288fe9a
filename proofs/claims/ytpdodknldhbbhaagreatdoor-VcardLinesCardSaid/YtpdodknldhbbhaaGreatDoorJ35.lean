/-
A card that came in, with its cards to any depth. Conditions: none but the row's own.
-/
import Derived.Test.YtpdodknldhbbhaaGreatDoorJ07
import Derived.Test.YtpdodknldhbbhaaGreatDoorJ33
import Derived.Test.YtpdodknldhbbhaaGreatDoorJ06
namespace Go.Proofs.YtpdodknldhbbhaaGreatDoor.Dp
set_option maxRecDepth 100000
open Go.ChangeShapes Go.WideShapes Go.ChangeAt Go.RowKit Go.Deep Pp Vc

theorem cellsCard : Tryz.prog.cellsOf 24 = 1 := by kernel_rfl
theorem cellsRs : Tryz.prog.cellsOf 22 = 1 := by kernel_rfl
section
variable {H : Type} {enc : TypeId × Value → H} {W : World}
/-- A slice that came in: its elements, where they lie, and that they are not frozen. -/
theorem open_sl {P : Program} {t e : TypeId} {fuel : Nat} {u : Value} {x : DataW H × List MemPlace} (ht : P.underlying t = some (.slice e)) (h : DataW.trod enc P W 0 (fun _ => true) true fuel t [u] = some x) (hz : W.noneFrozen x.2) :
    u = .slice none 0 0 ∨ ∃ a len cap n, ∃ ys : List (DataW H × List MemPlace), u = .slice (some a) len cap ∧ fuel = n + 1 ∧ ys.length = len ∧ len ≤ maxLen ∧
      (∀ j, j < len * P.cellsOf e → W.frozen? ⟨a.block, a.off + j, none⟩ = false) ∧
      ∀ i (hi : i < ys.length), W.noneFrozen ys[i].2 ∧ ∃ cs', W.cells? 0 (a.add (i * P.cellsOf e)) (P.cellsOf e) = some cs' ∧ DataW.trod enc P W 0 (fun _ => true) true n e cs' = some ys[i] := by
  rcases DataW.trod_slice ht h with ⟨hc, _⟩ | ⟨a, len, cap, elems, rest, n, hn, hc, hx, _, hl, hm, hlen, hel, _⟩
  · simp only [List.cons.injEq, and_true] at hc
    exact .inl hc
  · simp only [List.cons.injEq, and_true] at hc
    refine .inr ⟨a, len, cap, n, elems, hc, hn, hlen, Nat.le_trans hl hm, fun j hj => ?_, fun i hi => ⟨fun b off hb => ?_, ?_⟩⟩
    · refine hz a.block (a.off + j) ?_
      rw [hx]
      refine List.mem_append_left _ (List.mem_map.2 ⟨j, List.mem_range.2 ?_, rfl⟩)
      rw [Nat.add_mul, hlen]; omega
    · refine hz b off ?_
      rw [hx]
      exact List.mem_append_right _ (List.mem_flatMap.2 ⟨elems[i], List.mem_append_left _ (List.getElem_mem hi), hb⟩)
    · have h2 := hel i (by omega)
      rw [List.getElem?_eq_getElem hi] at h2
      obtain ⟨cs', h3, h4⟩ := Option.bind_eq_some_iff.1 h2
      exact ⟨cs', h3, h4⟩
theorem ka_of {b o : Nat} {v : Value} (h : W.cell? ⟨b, o, none⟩ = some v) (hf : W.frozen? ⟨b, o, none⟩ = false) : Ka W ⟨b, o, none⟩ := by
  refine ⟨?_, hf⟩
  unfold World.cell? at h
  split at h
  · rename_i c t f hc
    exact ⟨c, t, f, hc⟩
  · cases h

/-- A card, as the walks want it. -/
def CardW (W : World) (k : Nat) (t : Crd) (sv : Value) : Prop := CAt W W.heap.size k t sv ∧ NfC W k t sv ∧ FitsM k t
/-- A list of cards. -/
theorem open_list {fuel k : Nat} (IH : ∀ n, n < fuel → ∀ {sv : Value} {x : DataW H × List MemPlace}, DataW.trod enc Tryz.prog W 0 (fun _ => true) true n 24 [sv] = some x → W.noneFrozen x.2 → n + 1 = fuel → ∃ t, CardW W k t sv)
    {u : Value} {x : DataW H × List MemPlace} (h : DataW.trod enc Tryz.prog W 0 (fun _ => true) true fuel 49 [u] = some x) (hz : W.noneFrozen x.2) :
    ∃ T : List Crd, AgAt W W.heap.size (CAt W W.heap.size k) T u ∧ (∀ b2 o2 n2 c2, u = .slice (some ⟨b2, o2, none⟩) n2 c2 → ∀ i (hi : i < T.length), Ka W ⟨b2, o2 + i, none⟩ ∧ ∀ sv', W.cell? ⟨b2, o2 + i, none⟩ = some sv' → NfC W k T[i] sv') ∧ T.length ≤ 9223372036854775807 ∧ ∀ t ∈ T, FitsM k t := by
  rcases open_sl Tryz.underlying49 h hz with rfl | ⟨a, len, cap, n, ys, rfl, hf, hlen, hm, hfr, hel⟩
  · exact ⟨[], ⟨none, 0, rfl, fun h => absurd rfl h, fun _ _ e => by cases e⟩, fun _ _ _ _ e => (by cases e), Nat.zero_le _, fun t ht => (by cases ht)⟩
  rw [cellsCard] at hfr hel
  subst hlen
  rcases Nat.eq_zero_or_pos ys.length with h0 | hpos
  · rw [h0]
    exact ⟨[], ⟨some a, cap, rfl, fun h => absurd rfl h, fun _ _ _ i hi => by simp at hi⟩, fun _ _ _ _ _ i hi => by simp at hi, Nat.zero_le _, fun t ht => (by cases ht)⟩
  have hcell : ∀ i, i < ys.length → ∃ q : Value × Crd, W.cell? (a.add i) = some q.1 ∧ CardW W k q.2 q.1 := by
    intro i hi
    obtain ⟨hz2, cs, hc, hy⟩ := hel i hi
    rw [Nat.mul_one] at hc
    obtain ⟨_, hcl, _⟩ := World.cells?_some hc
    obtain ⟨sv, rfl⟩ : ∃ sv, cs = [sv] := by match cs, hcl with | [v], _ => exact ⟨v, rfl⟩
    obtain ⟨t, ht⟩ := IH n (by omega) hy hz2 (by omega)
    exact ⟨(sv, t), cell_of_cells?_one hc, ht⟩
  haveI : Inhabited (Value × Crd) := ⟨(undef, .node [])⟩
  obtain ⟨q, hq⟩ := choose_lt hcell
  obtain ⟨sb, so, spot⟩ := a
  have hspot : spot = none := by simpa [Addr.add] using World.cell?_spot (hq 0 hpos).1
  subst hspot
  have hq1 : ∀ i, i < ys.length → W.cell? ⟨sb, so + i, none⟩ = some (q i).1 := fun i hi => by have := (hq i hi).1; rwa [WideShapes.add_plain] at this
  have hlt : sb < W.heap.size := World.block_lt_of_cell? W _ (hq1 0 hpos)
  have hTl : ((List.range ys.length).map fun i => (q i).2).length = ys.length := by simp
  refine ⟨(List.range ys.length).map fun i => (q i).2, ⟨some ⟨sb, so, none⟩, cap, by rw [hTl], fun _ => ⟨sb, so, rfl, hlt⟩, fun b o e i hi => ?_⟩, fun b o n c e i hi => ?_, by rw [hTl]; exact hm, fun t ht => ?_⟩
  · cases e
    rw [hTl] at hi
    exact ⟨_, hq1 i hi, by simp only [List.getElem_map, List.getElem_range]; exact (hq i hi).2.1⟩
  · cases e
    rw [hTl] at hi
    refine ⟨ka_of (hq1 i hi) (hfr i (by omega)), fun sv' hs => ?_⟩
    rw [hq1 i hi] at hs
    cases hs
    simp only [List.getElem_map, List.getElem_range]
    exact (hq i hi).2.2.1
  · obtain ⟨i, hi, rfl⟩ := List.mem_map.1 ht
    exact (hq i (List.mem_range.1 hi)).2.2.2

set_option maxHeartbeats 1000000 in
/-- A card that came in, to any depth. -/
theorem open_card : ∀ (fuel : Nat) {sv : Value} {x : DataW H × List MemPlace}, DataW.trod enc Tryz.prog W 0 (fun _ => true) true fuel 24 [sv] = some x → W.noneFrozen x.2 → ∃ t, CardW W (fuel / 4 + 1) t sv := by
  intro fuel
  induction fuel using Nat.strongRecOn with
  | _ fuel ih =>
    intro sv x h hz
    obtain ⟨xs, n2, hf2, hyx, _, hxl, hf⟩ := DataW.trod_struct Tryz.underlying24 h
    have g0 := hf 0 _ rfl
    change DataW.trod enc Tryz.prog W 0 (fun _ => true) true n2 22 (List.take (Tryz.prog.cellsOf 22) [sv]) = xs[0]? at g0
    rw [cellsRs, List.getElem?_eq_getElem (by rw [hxl]; decide)] at g0
    have hz0 : W.noneFrozen (xs[0]'(by rw [hxl]; decide)).2 := fun b off hb => hz b off (by rw [hyx]; exact List.mem_flatMap.2 ⟨_, List.getElem_mem _, hb⟩)
    rcases open_sl Tryz.underlying22 g0 hz0 with rfl | ⟨a, len, cap, n3, zs, rfl, hf3, hlen, hm, hfr, hel⟩
    · exact ⟨.node [], ⟨none, 0, rfl, fun h => absurd rfl h, fun _ _ e => by cases e⟩, fun _ _ _ _ e => (by cases e), Nat.zero_le _, fun p hp => (by cases hp)⟩
    rw [cellsProp] at hfr hel
    subst hlen
    rcases Nat.eq_zero_or_pos zs.length with h0 | hpos
    · rw [h0]
      exact ⟨.node [], ⟨some a, cap, rfl, fun h => absurd rfl h, fun _ _ _ i hi => absurd hi (Nat.not_lt_zero i)⟩, fun _ _ _ _ _ i hi => absurd hi (Nat.not_lt_zero i), Nat.zero_le _, fun p hp => (by cases hp)⟩
    have hrow : ∀ j, j < zs.length → ∃ q : (Pd × List Crd) × Value × Value, W.cell? (a.add (j * 5)) = some (.string q.1.1.g) ∧ W.cell? (a.add (j * 5 + 1)) = some (.string q.1.1.n) ∧ W.cell? (a.add (j * 5 + 2)) = some q.2.1 ∧ W.cell? (a.add (j * 5 + 3)) = some (.string q.1.1.v) ∧ W.cell? (a.add (j * 5 + 4)) = some q.2.2 ∧
        Ps W W.heap.size q.2.1 q.1.1.ps ∧ q.1.1.ps.length ≤ 9223372036854775807 ∧ AgAt W W.heap.size (CAt W W.heap.size (fuel / 4)) q.1.2 q.2.2 ∧
        (∀ b2 o2 n2 c2, q.2.2 = .slice (some ⟨b2, o2, none⟩) n2 c2 → ∀ i (hi : i < q.1.2.length), Ka W ⟨b2, o2 + i, none⟩ ∧ ∀ sv', W.cell? ⟨b2, o2 + i, none⟩ = some sv' → NfC W (fuel / 4) q.1.2[i] sv') ∧ q.1.2.length ≤ 9223372036854775807 ∧ ∀ t ∈ q.1.2, FitsM (fuel / 4) t := by
      intro j hj
      obtain ⟨hz3, cs3, hc3, hzz⟩ := hel j hj
      obtain ⟨_, hcl3, hat⟩ := World.cells?_some hc3
      obtain ⟨qs, n4, hf4, hzx, _, hzl, hfz⟩ := DataW.trod_struct Tryz.underlying53 hzz
      match cs3, hcl3 with
      | [v0, v1, v2, v3, v4], _ =>
        have e0 := hat 0 (by omega)
        have e1 := hat 1 (by omega)
        have e2 := hat 2 (by omega)
        have e3 := hat 3 (by omega)
        have e4 := hat 4 (by omega)
        rw [add_add] at e0 e1 e2 e3 e4
        have h0 := hfz 0 _ rfl
        change DataW.trod enc Tryz.prog W 0 (fun _ => true) true n4 9 (List.take (Tryz.prog.cellsOf 9) [v0, v1, v2, v3, v4]) = qs[0]? at h0
        rw [cellsStr, List.getElem?_eq_getElem (by rw [hzl]; decide)] at h0
        have h1 := hfz 1 _ rfl
        change DataW.trod enc Tryz.prog W 0 (fun _ => true) true n4 9 (List.take (Tryz.prog.cellsOf 9) [v1, v2, v3, v4]) = qs[1]? at h1
        rw [cellsStr, List.getElem?_eq_getElem (by rw [hzl]; decide)] at h1
        have h2 := hfz 2 _ rfl
        change DataW.trod enc Tryz.prog W 0 (fun _ => true) true n4 51 (List.take (Tryz.prog.cellsOf 51) [v2, v3, v4]) = qs[2]? at h2
        rw [cellsPs, List.getElem?_eq_getElem (by rw [hzl]; decide)] at h2
        have h3 := hfz 3 _ rfl
        change DataW.trod enc Tryz.prog W 0 (fun _ => true) true n4 9 (List.take (Tryz.prog.cellsOf 9) [v3, v4]) = qs[3]? at h3
        rw [cellsStr, List.getElem?_eq_getElem (by rw [hzl]; decide)] at h3
        have h4 := hfz 4 _ rfl
        change DataW.trod enc Tryz.prog W 0 (fun _ => true) true n4 49 (List.take (Tryz.prog.cellsOf 49) [v4]) = qs[4]? at h4
        rw [cellsCs, List.getElem?_eq_getElem (by rw [hzl]; decide)] at h4
        have hz4 : W.noneFrozen (qs[4]'(by rw [hzl]; decide)).2 := fun b off hb => hz3 b off (by rw [hzx]; exact List.mem_flatMap.2 ⟨_, List.getElem_mem _, hb⟩)
        obtain ⟨s0, q0, -, _⟩ := DataW.trod_string Tryz.underlying9 h0
        obtain ⟨s1, q1, -, _⟩ := DataW.trod_string Tryz.underlying9 h1
        obtain ⟨s3, q3, -, _⟩ := DataW.trod_string Tryz.underlying9 h3
        obtain ⟨ps, hps, hpl⟩ := open_ps h2
        obtain ⟨T, hT1, hT2, hT3, hT4⟩ := open_list (k := fuel / 4) (fun n hn {sv} {x} hh hz5 hnn => by
          obtain ⟨t, ht⟩ := ih n (by omega) hh hz5
          have : n / 4 + 1 = fuel / 4 := by omega
          rw [this] at ht
          exact ⟨t, ht⟩) h4 hz4
        simp only [List.take_succ_cons, List.take_zero, List.cons.injEq, and_true] at q0 q1 q3
        subst q0 q1 q3
        exact ⟨((⟨s0, s1, ps, s3⟩, T), v2, v4), e0, e1, e2, e3, e4, hps, hpl, hT1, hT2, hT3, hT4⟩
    haveI : Inhabited ((Pd × List Crd) × Value × Value) := ⟨((⟨⟨#[]⟩, ⟨#[]⟩, [], ⟨#[]⟩⟩, []), undef, undef)⟩
    obtain ⟨q, hq⟩ := choose_lt hrow
    obtain ⟨sb, so, spot⟩ := a
    have hspot : spot = none := by simpa [Addr.add] using World.cell?_spot (hq 0 hpos).1
    subst hspot
    have hlt : sb < W.heap.size := by have := World.block_lt_of_cell? W _ (hq 0 hpos).1; rwa [WideShapes.add_plain] at this
    have hTl : ((List.range zs.length).map fun i => (q i).1).length = zs.length := by simp
    have hq' : ∀ j, j < zs.length → _ := fun j hj => by have := hq j hj; simp only [WideShapes.add_plain, ← Nat.add_assoc] at this; exact this
    refine ⟨.node ((List.range zs.length).map fun i => (q i).1), ⟨some ⟨sb, so, none⟩, cap, by rw [show (Vm.Tr.ps (.node ((List.range zs.length).map fun i => (q i).1) : Crd)) = (List.range zs.length).map fun i => (q i).1 from rfl, hTl], fun _ => ⟨sb, so, rfl, hlt⟩, fun b o e j hj => ?_⟩, fun b o n c e j hj => ?_, ?_, fun p hp => ?_⟩
    · cases e
      have hj' : j < zs.length := by rw [← hTl]; exact hj
      obtain ⟨c0, c1, c2, c3, c4, h5, _, h7, _⟩ := hq' j hj'
      refine ⟨(q j).2.1, (q j).2.2, ?_⟩
      simp only [Vm.Tr.ps, List.getElem_map, List.getElem_range]
      exact ⟨c0, c1, c2, c3, c4, h5, h7⟩
    · cases e
      have hj' : j < zs.length := by rw [← hTl]; exact hj
      obtain ⟨c0, c1, c2, c3, c4, h5, _, h7, h8, _⟩ := hq' j hj'
      refine ⟨ka_of c0 (hfr (j * 5) (by omega)), fun av hav => ?_⟩
      rw [c4] at hav
      cases hav
      simp only [Vm.Tr.ps, List.getElem_map, List.getElem_range]
      exact h8
    · show ((List.range zs.length).map fun i => (q i).1).length ≤ _
      rw [hTl]; exact hm
    · have hp' : p ∈ (List.range zs.length).map fun i => (q i).1 := hp
      obtain ⟨j, hj, rfl⟩ := List.mem_map.1 hp'
      obtain ⟨_, _, _, _, _, _, h6, _, _, h9, h10⟩ := hq' j (List.mem_range.1 hj)
      exact ⟨⟨h6, h9⟩, h10⟩
/-- The argument card. -/
theorem open_arg {base : Nat} {u : Value} {d : DataW H} {p : List MemPlace} (hval : Value.okWide Tryz.prog W .any base 24 u) (h : DataW.Trod enc Tryz.prog W 0 (fun _ => true) true 24 u d p) (hz : W.noneFrozen p) :
    ∃ (k : Nat) (t : Crd) (sv : Value), u = .agg #[sv] ∧ CardW W k t sv := by
  obtain ⟨cs, rfl, hsz⟩ := okWide_struct Tryz.underlying24 hval
  rw [cellsCard] at hsz
  obtain ⟨l⟩ := cs
  obtain ⟨fuel, t0⟩ := h
  match l, hsz with
  | [sv], _ =>
    obtain ⟨t, ht⟩ := open_card fuel t0 hz
    exact ⟨_, t, sv, rfl, ht⟩
end
end Go.Proofs.YtpdodknldhbbhaaGreatDoor.Dp
