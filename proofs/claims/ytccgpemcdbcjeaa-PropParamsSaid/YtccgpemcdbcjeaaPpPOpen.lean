/-
A property that came in, with its cards to any depth: the lengths are within the row's own reach. Conditions: none but the row's own.
-/
import Derived.Test.YtccgpemcdbcjeaaPpArg
import Derived.Test.YtccgpemcdbcjeaaPpPTree
import Derived.SizedLaws
namespace Go.Proofs.Ytccgpemcdbcjeaa.Pp
open Go.ChangeShapes Go.WideShapes Go.ChangeAt Go.RowKit Go.Deep

theorem AgT.succ {w : World} {B : Nat} : ∀ {k : Nat} {v : Value}, AgT w B k v → AgT w B (k + 1) v := by
  intro k
  induction k with
  | zero => intro v h; exact h.elim
  | succ k ih =>
    intro v h
    obtain ⟨aa, m, ac, rfl, h1, h2, h3, h4⟩ := h
    refine ⟨aa, m, ac, rfl, h1, h2, h3, fun ad ha => ?_⟩
    obtain ⟨h5, h6⟩ := h4 ad ha
    refine ⟨h5, fun i hi => ?_⟩
    obtain ⟨sv, c0, hs⟩ := h6 i hi
    exact ⟨sv, c0, hs.below (Below.refl _ _) (fun v hv => ih hv)⟩

theorem wAll_mem {H : Type} {P : Program} {e : TypeId} : ∀ {l : List (DataW H)} {d : DataW H}, d ∈ l → ∀ n ∈ d.weights P e, n ∈ DataW.weightsAll P e l
  | d' :: r, d, hd, n, hn => by
    simp only [DataW.weightsAll, List.mem_append]
    rcases List.mem_cons.1 hd with rfl | h
    · exact Or.inl hn
    · exact Or.inr (wAll_mem h n hn)

section
variable {H : Type} {enc : TypeId × Value → H} {W : World}

/-- A slice that came in: its elements, and that their sizes are within reach. -/
theorem open_sl {P : Program} {t e : TypeId} {fuel : Nat} {u : Value} {x : DataW H × List MemPlace} (ht : P.underlying t = some (.slice e)) (h : DataW.trod enc P W 0 (fun _ => true) true fuel t [u] = some x) (hw : ∀ n ∈ x.1.weights P t, n ≤ reachBytes) :
    u = .slice none 0 0 ∨ ∃ a len cap n, u = .slice (some a) len cap ∧ fuel = n + 1 ∧ len ≤ maxLen ∧ len * P.bytesOf e ≤ reachBytes ∧
      ∀ i, i < len → ∃ cs' y, W.cells? 0 (a.add (i * P.cellsOf e)) (P.cellsOf e) = some cs' ∧ DataW.trod enc P W 0 (fun _ => true) true n e cs' = some y ∧ ∀ n ∈ y.1.weights P e, n ≤ reachBytes := by
  rcases DataW.trod_slice ht h with ⟨hc, _⟩ | ⟨a, len, cap, elems, rest, n, hn, hc, hx, _, hl, hm, hlen, hel, _⟩
  · simp only [List.cons.injEq, and_true] at hc
    exact .inl hc
  · simp only [List.cons.injEq, and_true] at hc
    rw [hx] at hw
    simp only [DataW.weights, ht] at hw
    have h1 := hw _ (List.mem_cons_self ..)
    rw [List.length_map, List.length_map, hlen] at h1
    refine .inr ⟨a, len, cap, n, hc, hn, Nat.le_trans hl hm, Nat.le_trans (Nat.mul_le_mul_right _ (Nat.le_add_right _ _)) h1, fun i hi => ?_⟩
    have h2 := hel i hi
    rw [List.getElem?_eq_getElem (by omega)] at h2
    obtain ⟨cs', h3, h4⟩ := Option.bind_eq_some_iff.1 h2
    refine ⟨cs', _, h3, h4, fun n hn => ?_⟩
    exact hw _ (List.mem_cons_of_mem _ (List.mem_append.2 (.inl (wAll_mem (List.mem_map.2 ⟨_, List.getElem_mem _, rfl⟩) n hn))))

/-- Parameters that came in, within reach. -/
theorem ps_reach {fuel : Nat} {u : Value} {x : DataW H × List MemPlace} {ps : List (ByteArray × ByteArray)} (h : DataW.trod enc Try.prog W 0 (fun _ => true) true fuel 25 [u] = some x) (hw : ∀ n ∈ x.1.weights Try.prog 25, n ≤ reachBytes) (hps : Ps W W.heap.size u ps) : ps.length * 32 ≤ 140737488355328 := by
  obtain ⟨pa, pc, rfl⟩ := hps.shape
  have hr : reachBytes < 2 ^ 47 := reachBytes_lt
  rcases open_sl Try.underlying25 h hw with hc | ⟨a, len, cap, n, hc, _, _, hb, _⟩
  · simp only [Value.slice.injEq] at hc; omega
  · simp only [Value.slice.injEq] at hc
    rw [show Try.prog.bytesOf 43 = 32 by kernel_rfl] at hb
    omega

theorem cellsCard : Try.prog.cellsOf 57 = 1 := by kernel_rfl
theorem cellsRs : Try.prog.cellsOf 55 = 1 := by kernel_rfl
set_option maxHeartbeats 1000000 in
/-- A list of cards that came in, to any depth. -/
theorem open_ag : ∀ (fuel : Nat) {u : Value} {x : DataW H × List MemPlace}, DataW.trod enc Try.prog W 0 (fun _ => true) true fuel 26 [u] = some x → (∀ n ∈ x.1.weights Try.prog 26, n ≤ reachBytes) → AgT W W.heap.size (fuel + 1) u := by
  intro fuel
  induction fuel using Nat.strongRecOn with
  | _ fuel ih =>
    intro u x h hw
    have hr : reachBytes < 2 ^ 47 := reachBytes_lt
    rcases open_sl Try.underlying26 h hw with rfl | ⟨a, m, ac, n1, rfl, hf1, hm1, hb1, hel⟩
    · exact ⟨none, 0, 0, rfl, Nat.zero_le _, by omega, fun _ => rfl, fun ad ha => by cases ha⟩
    rw [show Try.prog.bytesOf 57 = 24 by kernel_rfl] at hb1
    rw [cellsCard] at hel
    have hcell : ∀ i, i < m → ∃ sv, W.cell? (a.add i) = some sv ∧ CaT W W.heap.size (AgT W W.heap.size fuel) sv := by
      intro i hi
      obtain ⟨cs, y, hc, hy, hyw⟩ := hel i hi
      rw [Nat.mul_one] at hc
      obtain ⟨_, hcl, _⟩ := World.cells?_some hc
      obtain ⟨sv, rfl⟩ : ∃ sv, cs = [sv] := by match cs, hcl with | [v], _ => exact ⟨v, rfl⟩
      refine ⟨sv, cell_of_cells?_one hc, ?_⟩
      obtain ⟨xs, n2, hf2, hyx, _, hxl, hf⟩ := DataW.trod_struct Try.underlying57 hy
      have g0 := hf 0 _ rfl
      change DataW.trod enc Try.prog W 0 (fun _ => true) true n2 55 (List.take (Try.prog.cellsOf 55) [sv]) = xs[0]? at g0
      rw [cellsRs, List.getElem?_eq_getElem (by rw [hxl]; decide)] at g0
      have hw2 : ∀ n ∈ (xs[0]'(by rw [hxl]; decide)).1.weights Try.prog 55, n ≤ reachBytes := fun n hn => hyw n (by
        rw [hyx]
        simp only [DataW.weights, Try.underlying57]
        exact DataW.weights_mem_each (j := 0) rfl (by rw [List.getElem?_map, List.getElem?_eq_getElem (by rw [hxl]; decide)]; rfl) n hn)
      rcases open_sl Try.underlying55 g0 hw2 with rfl | ⟨pd, pm, pc, n3, rfl, hf3, hm3, hb3, hel3⟩
      · exact ⟨none, 0, 0, rfl, Nat.zero_le _, by omega, fun _ => rfl, fun ad ha => by cases ha⟩
      rw [show Try.prog.bytesOf 28 = 96 by kernel_rfl] at hb3
      rw [cellsProp] at hel3
      have hrow : ∀ j, j < pm → ∃ (g n v : ByteArray) (pv bv : Value) (ps : List (ByteArray × ByteArray)), W.cell? (pd.add (j * 5)) = some (.string g) ∧ W.cell? (pd.add (j * 5 + 1)) = some (.string n) ∧ W.cell? (pd.add (j * 5 + 2)) = some pv ∧ W.cell? (pd.add (j * 5 + 3)) = some (.string v) ∧ W.cell? (pd.add (j * 5 + 4)) = some bv ∧
          Ps W W.heap.size pv ps ∧ ps.length ≤ maxLen ∧ ps.length * 32 ≤ 140737488355328 ∧ AgT W W.heap.size fuel bv := by
        intro j hj
        obtain ⟨cs3, z, hc3, hz, hzw⟩ := hel3 j hj
        obtain ⟨_, hcl3, hat⟩ := World.cells?_some hc3
        obtain ⟨zs, n4, hf4, hzx, _, hzl, hfz⟩ := DataW.trod_struct Try.underlying28 hz
        match cs3, hcl3 with
        | [v0, v1, v2, v3, v4], _ =>
          have e0 := hat 0 (by omega)
          have e1 := hat 1 (by omega)
          have e2 := hat 2 (by omega)
          have e3 := hat 3 (by omega)
          have e4 := hat 4 (by omega)
          rw [add_add] at e0 e1 e2 e3 e4
          have h0 := hfz 0 _ rfl
          change DataW.trod enc Try.prog W 0 (fun _ => true) true n4 9 (List.take (Try.prog.cellsOf 9) [v0, v1, v2, v3, v4]) = zs[0]? at h0
          rw [cellsStr, List.getElem?_eq_getElem (by rw [hzl]; decide)] at h0
          have h1 := hfz 1 _ rfl
          change DataW.trod enc Try.prog W 0 (fun _ => true) true n4 9 (List.take (Try.prog.cellsOf 9) [v1, v2, v3, v4]) = zs[1]? at h1
          rw [cellsStr, List.getElem?_eq_getElem (by rw [hzl]; decide)] at h1
          have h2 := hfz 2 _ rfl
          change DataW.trod enc Try.prog W 0 (fun _ => true) true n4 25 (List.take (Try.prog.cellsOf 25) [v2, v3, v4]) = zs[2]? at h2
          rw [cellsPs, List.getElem?_eq_getElem (by rw [hzl]; decide)] at h2
          have h3 := hfz 3 _ rfl
          change DataW.trod enc Try.prog W 0 (fun _ => true) true n4 9 (List.take (Try.prog.cellsOf 9) [v3, v4]) = zs[3]? at h3
          rw [cellsStr, List.getElem?_eq_getElem (by rw [hzl]; decide)] at h3
          have h4 := hfz 4 _ rfl
          change DataW.trod enc Try.prog W 0 (fun _ => true) true n4 26 (List.take (Try.prog.cellsOf 26) [v4]) = zs[4]? at h4
          rw [cellsCs, List.getElem?_eq_getElem (by rw [hzl]; decide)] at h4
          obtain ⟨s0, q0, -, _⟩ := DataW.trod_string Try.underlying9 h0
          obtain ⟨s1, q1, -, _⟩ := DataW.trod_string Try.underlying9 h1
          obtain ⟨s3, q3, -, _⟩ := DataW.trod_string Try.underlying9 h3
          obtain ⟨ps, hps, hpl⟩ := open_ps h2
          have hzw' : ∀ n ∈ DataW.weightsEach Try.prog [9, 9, 25, 9, 26] (zs.map (·.1)), n ≤ reachBytes := fun n hn => hzw n (by rw [hzx]; simp only [DataW.weights, Try.underlying28]; exact hn)
          have hp32 := ps_reach h2 (fun n hn => hzw' n (DataW.weights_mem_each (j := 2) rfl (by rw [List.getElem?_map, List.getElem?_eq_getElem (by rw [hzl]; decide)]; rfl) n hn)) hps
          have hag := ih n4 (by omega) h4 (fun n hn => hzw' n (DataW.weights_mem_each (j := 4) rfl (by rw [List.getElem?_map, List.getElem?_eq_getElem (by rw [hzl]; decide)]; rfl) n hn))
          have hag' : AgT W W.heap.size fuel v4 := by
            obtain rfl : fuel = n4 + 1 + 1 + 1 + 1 := by omega
            exact hag.succ.succ.succ
          simp only [List.take_succ_cons, List.take_zero, List.cons.injEq, and_true] at q0 q1 q3
          subst q0 q1 q3
          exact ⟨s0, s1, s3, v2, v4, ps, e0, e1, e2, e3, e4, hps, hpl, hp32, hag'⟩
      refine ⟨some pd, pm, pc, rfl, hm3, by omega, (fun h => by cases h), fun ad ha => ?_⟩
      cases ha
      refine ⟨?_, hrow⟩
      rcases Nat.eq_zero_or_pos pm with h | h
      · exact .inl h
      · obtain ⟨_, _, _, _, _, _, c0, _⟩ := hrow 0 h
        exact .inr (by have := World.block_lt_of_cell? W _ c0; rw [add_block] at this; exact this)
    refine ⟨some a, m, ac, rfl, hm1, by omega, (fun h => by cases h), fun ad ha => ?_⟩
    cases ha
    refine ⟨?_, hcell⟩
    rcases Nat.eq_zero_or_pos m with h | h
    · exact .inl h
    · obtain ⟨_, c0, _⟩ := hcell 0 h
      exact .inr (by have := World.block_lt_of_cell? W _ c0; rw [add_block] at this; exact this)

/-- The list of cards of a property that came in. -/
theorem prop_ag {g n v : ByteArray} {pv av : Value} {d : DataW H} {p : List MemPlace} {ts : List TypeId} {ds : List (DataW H)} {j : Nat} (h : DataW.Trod enc Try.prog W 0 (fun _ => true) true 28 (prV g n pv v av) d p) (hz : (DataW.weightsEach Try.prog ts ds).all (· ≤ reachBytes) = true) (ht : ts[j]? = some 28) (hd : ds[j]? = some d) : ∃ k, AgT W W.heap.size k av := by
  have hw : ∀ n ∈ d.weights Try.prog 28, n ≤ reachBytes := fun n hn => of_decide_eq_true (List.all_eq_true.1 hz _ (DataW.weights_mem_each ht hd n hn))
  obtain ⟨fuel, t0⟩ := h
  obtain ⟨xs, k, _, hx, _, hxl, hf⟩ := DataW.trod_struct Try.underlying28 t0
  have h4 := hf 4 _ rfl
  change DataW.trod enc Try.prog W 0 (fun _ => true) true k 26 (List.take (Try.prog.cellsOf 26) [av]) = xs[4]? at h4
  rw [cellsCs, List.getElem?_eq_getElem (by rw [hxl]; decide)] at h4
  refine ⟨_, open_ag k h4 (fun n hn => hw n ?_)⟩
  rw [show d = .agg (xs.map (·.1)) from congrArg Prod.fst hx]
  simp only [DataW.weights, Try.underlying28]
  exact DataW.weights_mem_each (j := 4) rfl (by rw [List.getElem?_map, List.getElem?_eq_getElem (by rw [hxl]; decide)]; rfl) n hn
end
end Go.Proofs.Ytccgpemcdbcjeaa.Pp
