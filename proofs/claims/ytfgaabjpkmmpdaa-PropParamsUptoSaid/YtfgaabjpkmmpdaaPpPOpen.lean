/-
A property that came in, with its cards to any depth: their weight is at most the argument's bulk. Conditions: none but the row's own.
-/
import Derived.Test.YtfgaabjpkmmpdaaPpArg
import Derived.Test.YtfgaabjpkmmpdaaPpPTree
namespace Go.Proofs.Ytfgaabjpkmmpdaa.Pp
open Go.ChangeShapes Go.WideShapes Go.ChangeAt Go.RowKit Go.Deep

theorem AgW.succ {w : World} {B : Nat} : ∀ {k t : Nat} {v : Value}, AgW w B k t v → AgW w B (k + 1) t v := by
  intro k
  induction k with
  | zero => intro t v h; exact h.elim
  | succ k ih =>
    intro t v h
    obtain ⟨aa, ac, ts, rfl, h1, h2, h3⟩ := h
    refine ⟨aa, ac, ts, rfl, h1, h2, fun ad ha => ?_⟩
    obtain ⟨h5, h6⟩ := h3 ad ha
    refine ⟨h5, fun i hi => ?_⟩
    obtain ⟨sv, c0, hs⟩ := h6 i hi
    exact ⟨sv, c0, hs.below (Below.refl _ _) (fun s v hv => ih hv)⟩

section bulk
variable {H : Type}
theorem bulk_pos (d : DataW H) : 1 ≤ Rows.uptoBulk d := by
  cases d with
  | lit l => cases l <;> simp [Rows.uptoBulk]
  | _ => simp [Rows.uptoBulk]
theorem bulkAll_sum (l : List (DataW H)) : Rows.uptoBulkAll l = (l.map Rows.uptoBulk).sum := by
  induction l with
  | nil => simp [Rows.uptoBulkAll]
  | cons x r ih => simp [Rows.uptoBulkAll, ih]
theorem bulk_mem {d : DataW H} {l : List (DataW H)} (h : d ∈ l) : Rows.uptoBulk d ≤ Rows.uptoBulkAll l := by
  induction l with
  | nil => cases h
  | cons x r ih =>
    simp only [Rows.uptoBulkAll]
    rcases List.mem_cons.1 h with e | e
    · subst e; omega
    · have := ih e; omega
end bulk

section
variable {H : Type} {enc : TypeId × Value → H} {W : World}

/-- A slice that came in: its elements, and their bulk. -/
theorem open_sl {P : Program} {t e : TypeId} {fuel : Nat} {u : Value} {x : DataW H × List MemPlace} (ht : P.underlying t = some (.slice e)) (h : DataW.trod enc P W 0 (fun _ => true) true fuel t [u] = some x) :
    u = .slice none 0 0 ∨ ∃ a len cap n, ∃ ys : List (DataW H × List MemPlace), u = .slice (some a) len cap ∧ fuel = n + 1 ∧ ys.length = len ∧ (ys.map fun y => Rows.uptoBulk y.1).sum + 1 ≤ Rows.uptoBulk x.1 ∧
      ∀ i (hi : i < ys.length), ∃ cs', W.cells? 0 (a.add (i * P.cellsOf e)) (P.cellsOf e) = some cs' ∧ DataW.trod enc P W 0 (fun _ => true) true n e cs' = some ys[i] := by
  rcases DataW.trod_slice ht h with ⟨hc, _⟩ | ⟨a, len, cap, elems, rest, n, hn, hc, hx, _, hl, hm, hlen, hel, _⟩
  · simp only [List.cons.injEq, and_true] at hc
    exact .inl hc
  · simp only [List.cons.injEq, and_true] at hc
    refine .inr ⟨a, len, cap, n, elems, hc, hn, hlen, ?_, fun i hi => ?_⟩
    · rw [hx]
      simp only [Rows.uptoBulk, bulkAll_sum, List.map_map]
      have : (Rows.uptoBulk ∘ fun x : DataW H × List MemPlace => x.1) = fun y => Rows.uptoBulk y.1 := rfl
      rw [this]; omega
    · have h2 := hel i (by omega)
      rw [List.getElem?_eq_getElem hi] at h2
      obtain ⟨cs', h3, h4⟩ := Option.bind_eq_some_iff.1 h2
      exact ⟨cs', h3, h4⟩

/-- Parameters that came in: no more than their bulk. -/
theorem ps_bulk {fuel : Nat} {u : Value} {x : DataW H × List MemPlace} {ps : List (ByteArray × ByteArray)} (h : DataW.trod enc Try.prog W 0 (fun _ => true) true fuel 22 [u] = some x) (hps : Ps W W.heap.size u ps) : ps.length + 1 ≤ Rows.uptoBulk x.1 := by
  obtain ⟨pa, pc, rfl⟩ := hps.shape
  rcases open_sl Try.underlying22 h with hc | ⟨a, len, cap, n, ys, hc, _, hy, hb, _⟩
  · simp only [Value.slice.injEq] at hc; have := bulk_pos x.1; omega
  · simp only [Value.slice.injEq] at hc
    have h1 := len_sum (l := ys.map fun y => Rows.uptoBulk y.1) (fun i hi => by rw [List.getElem_map]; exact bulk_pos _)
    rw [List.length_map] at h1
    omega

theorem cellsCard : Try.prog.cellsOf 56 = 1 := by kernel_rfl
theorem cellsRs : Try.prog.cellsOf 54 = 1 := by kernel_rfl
set_option maxHeartbeats 1000000 in
/-- A list of cards that came in, to any depth. -/
theorem open_ag : ∀ (fuel : Nat) {u : Value} {x : DataW H × List MemPlace}, DataW.trod enc Try.prog W 0 (fun _ => true) true fuel 23 [u] = some x → AgW W W.heap.size (fuel + 1) (Rows.uptoBulk x.1) u := by
  intro fuel
  induction fuel using Nat.strongRecOn with
  | _ fuel ih =>
    intro u x h
    rcases open_sl Try.underlying23 h with rfl | ⟨a, m, ac, n1, ys, rfl, hf1, hm1, hb1, hel⟩
    · exact ⟨none, 0, [], rfl, by simp, fun _ => rfl, fun ad ha => by cases ha⟩
    subst hm1
    rw [cellsCard] at hel
    have hcell : ∀ i (hi : i < ys.length), ∃ sv, W.cell? (a.add i) = some sv ∧ CaW W W.heap.size (AgW W W.heap.size fuel) (Rows.uptoBulk ys[i].1) sv := by
      intro i hi
      obtain ⟨cs, hc, hy⟩ := hel i hi
      rw [Nat.mul_one] at hc
      obtain ⟨_, hcl, _⟩ := World.cells?_some hc
      obtain ⟨sv, rfl⟩ : ∃ sv, cs = [sv] := by match cs, hcl with | [v], _ => exact ⟨v, rfl⟩
      refine ⟨sv, cell_of_cells?_one hc, ?_⟩
      obtain ⟨xs, n2, hf2, hyx, _, hxl, hf⟩ := DataW.trod_struct Try.underlying56 hy
      have g0 := hf 0 _ rfl
      change DataW.trod enc Try.prog W 0 (fun _ => true) true n2 54 (List.take (Try.prog.cellsOf 54) [sv]) = xs[0]? at g0
      rw [cellsRs, List.getElem?_eq_getElem (by rw [hxl]; decide)] at g0
      have hbx : Rows.uptoBulk (xs[0]'(by rw [hxl]; decide)).1 + 1 ≤ Rows.uptoBulk ys[i].1 := by
        rw [hyx]
        simp only [Rows.uptoBulk]
        have := bulk_mem (d := (xs[0]'(by rw [hxl]; decide)).1) (l := xs.map (·.1)) (List.mem_map.2 ⟨_, List.getElem_mem _, rfl⟩)
        omega
      rcases open_sl Try.underlying54 g0 with rfl | ⟨pd, pm, pc, n3, zs, rfl, hf3, hm3, hb3, hel3⟩
      · exact ⟨none, 0, [], rfl, by have := bulk_pos (xs[0]'(by rw [hxl]; decide)).1; simp; omega, fun _ => rfl, fun ad ha => by cases ha⟩
      subst hm3
      rw [cellsProp] at hel3
      have hrow : ∀ j (hj : j < zs.length), PrW W W.heap.size (AgW W W.heap.size fuel) (fun x => W.cell? (pd.add (j * 5 + x))) (Rows.uptoBulk zs[j].1) := by
        intro j hj
        obtain ⟨cs3, hc3, hz⟩ := hel3 j hj
        obtain ⟨_, hcl3, hat⟩ := World.cells?_some hc3
        obtain ⟨qs, n4, hf4, hzx, _, hzl, hfz⟩ := DataW.trod_struct Try.underlying25 hz
        match cs3, hcl3 with
        | [v0, v1, v2, v3, v4], _ =>
          have e0 := hat 0 (by omega)
          have e1 := hat 1 (by omega)
          have e2 := hat 2 (by omega)
          have e3 := hat 3 (by omega)
          have e4 := hat 4 (by omega)
          rw [add_add] at e0 e1 e2 e3 e4
          have h0 := hfz 0 _ rfl
          change DataW.trod enc Try.prog W 0 (fun _ => true) true n4 9 (List.take (Try.prog.cellsOf 9) [v0, v1, v2, v3, v4]) = qs[0]? at h0
          rw [cellsStr, List.getElem?_eq_getElem (by rw [hzl]; decide)] at h0
          have h1 := hfz 1 _ rfl
          change DataW.trod enc Try.prog W 0 (fun _ => true) true n4 9 (List.take (Try.prog.cellsOf 9) [v1, v2, v3, v4]) = qs[1]? at h1
          rw [cellsStr, List.getElem?_eq_getElem (by rw [hzl]; decide)] at h1
          have h2 := hfz 2 _ rfl
          change DataW.trod enc Try.prog W 0 (fun _ => true) true n4 22 (List.take (Try.prog.cellsOf 22) [v2, v3, v4]) = qs[2]? at h2
          rw [cellsPs, List.getElem?_eq_getElem (by rw [hzl]; decide)] at h2
          have h3 := hfz 3 _ rfl
          change DataW.trod enc Try.prog W 0 (fun _ => true) true n4 9 (List.take (Try.prog.cellsOf 9) [v3, v4]) = qs[3]? at h3
          rw [cellsStr, List.getElem?_eq_getElem (by rw [hzl]; decide)] at h3
          have h4 := hfz 4 _ rfl
          change DataW.trod enc Try.prog W 0 (fun _ => true) true n4 23 (List.take (Try.prog.cellsOf 23) [v4]) = qs[4]? at h4
          rw [cellsCs, List.getElem?_eq_getElem (by rw [hzl]; decide)] at h4
          obtain ⟨s0, q0, -, _⟩ := DataW.trod_string Try.underlying9 h0
          obtain ⟨s1, q1, -, _⟩ := DataW.trod_string Try.underlying9 h1
          obtain ⟨s3, q3, -, _⟩ := DataW.trod_string Try.underlying9 h3
          obtain ⟨ps, hps, hpl⟩ := open_ps h2
          have hpb := ps_bulk h2 hps
          have hag := ih n4 (by omega) h4
          have hag' : AgW W W.heap.size fuel (Rows.uptoBulk (qs[4]'(by rw [hzl]; decide)).1) v4 := by
            obtain rfl : fuel = n4 + 1 + 1 + 1 + 1 := by omega
            exact hag.succ.succ.succ
          have hbz : ps.length + Rows.uptoBulk (qs[4]'(by rw [hzl]; decide)).1 + 1 ≤ Rows.uptoBulk zs[j].1 := by
            rw [hzx]
            match qs, hzl with
            | [a0, a1, a2, a3, a4], _ =>
              simp only [List.getElem_cons_succ, List.getElem_cons_zero] at hpb ⊢
              simp only [List.map_cons, List.map_nil, Rows.uptoBulk, Rows.uptoBulkAll]
              omega
          simp only [List.take_succ_cons, List.take_zero, List.cons.injEq, and_true] at q0 q1 q3
          subst q0 q1 q3
          exact ⟨s0, s1, s3, v2, v4, ps, _, e0, e1, e2, e3, e4, hps, hbz, hag'⟩
      have hlen3 : (zs.map fun y => Rows.uptoBulk y.1).length = zs.length := List.length_map _
      refine ⟨some pd, pc, zs.map fun y => Rows.uptoBulk y.1, by rw [hlen3], by omega, (fun h => by cases h), fun ad ha => ?_⟩
      cases ha
      refine ⟨?_, fun j hj => by rw [List.getElem_map]; exact hrow j (by rw [hlen3] at hj; exact hj)⟩
      rcases Nat.eq_zero_or_pos zs.length with h | h
      · exact .inl (by rw [List.eq_nil_of_length_eq_zero h]; rfl)
      · obtain ⟨_, _, _, _, _, _, _, c0, _⟩ := hrow 0 h
        exact .inr (by have := World.block_lt_of_cell? W _ c0; rw [add_block] at this; exact this)
    have hlen : (ys.map fun y => Rows.uptoBulk y.1).length = ys.length := List.length_map _
    refine ⟨some a, ac, ys.map fun y => Rows.uptoBulk y.1, by rw [hlen], by omega, (fun h => by cases h), fun ad ha => ?_⟩
    cases ha
    refine ⟨?_, fun i hi => by rw [List.getElem_map]; exact hcell i (by rw [hlen] at hi; exact hi)⟩
    rcases Nat.eq_zero_or_pos ys.length with h | h
    · exact .inl (by rw [List.eq_nil_of_length_eq_zero h]; rfl)
    · obtain ⟨_, c0, _⟩ := hcell 0 h
      exact .inr (by have := World.block_lt_of_cell? W _ c0; rw [add_block] at this; exact this)

/-- The list of cards of a property that came in. -/
theorem prop_ag {g n v : ByteArray} {pv av : Value} {d : DataW H} {p : List MemPlace} {ds : List (DataW H)} (h : DataW.Trod enc Try.prog W 0 (fun _ => true) true 25 (prV g n pv v av) d p) (hk : Rows.uptoSmall H ds = true) (hd : d ∈ ds) : ∃ k, AgT W W.heap.size k av := by
  have hb : Rows.uptoBulkAll ds ≤ 1048576 := of_decide_eq_true hk
  have hd1 := bulk_mem hd
  obtain ⟨fuel, t0⟩ := h
  obtain ⟨xs, k, _, hx, _, hxl, hf⟩ := DataW.trod_struct Try.underlying25 t0
  have h4 := hf 4 _ rfl
  change DataW.trod enc Try.prog W 0 (fun _ => true) true k 23 (List.take (Try.prog.cellsOf 23) [av]) = xs[4]? at h4
  rw [cellsCs, List.getElem?_eq_getElem (by rw [hxl]; decide)] at h4
  refine ⟨_, Rows.uptoBulk (xs[4]'(by rw [hxl]; decide)).1, ?_, open_ag k h4⟩
  rw [show d = .agg (xs.map (·.1)) from congrArg Prod.fst hx] at hd1
  simp only [Rows.uptoBulk] at hd1
  have := bulk_mem (d := (xs[4]'(by rw [hxl]; decide)).1) (l := xs.map (·.1)) (List.mem_map.2 ⟨_, List.getElem_mem _, rfl⟩)
  omega
end
end Go.Proofs.Ytfgaabjpkmmpdaa.Pp
