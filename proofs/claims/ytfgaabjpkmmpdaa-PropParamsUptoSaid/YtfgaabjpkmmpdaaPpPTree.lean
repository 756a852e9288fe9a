/-
A property with cards in it, as it lies in memory to any depth, with its weight (cards, properties and parameters, counted wherever they are met); rows of cards and of properties that are a call's own. No conditions.
-/
import Derived.Test.YtfgaabjpkmmpdaaPpPClone
namespace Go.Proofs.Ytfgaabjpkmmpdaa.Pp
open Go.RowKit

/-- A property whose list of cards is as A says: its cells, and its weight. -/
def PrW (w : World) (B : Nat) (A : Nat → Value → Prop) (cell : Nat → Option Value) (u : Nat) : Prop :=
  ∃ (g n v : ByteArray) (pv bv : Value) (ps : List (ByteArray × ByteArray)) (s : Nat), cell 0 = some (.string g) ∧ cell 1 = some (.string n) ∧ cell 2 = some pv ∧ cell 3 = some (.string v) ∧ cell 4 = some bv ∧ Ps w B pv ps ∧ ps.length + s + 1 ≤ u ∧ A s bv
/-- A list of properties. -/
def CaW (w : World) (B : Nat) (A : Nat → Value → Prop) (t : Nat) (sv : Value) : Prop :=
  ∃ pa pc, ∃ us : List Nat, sv = .slice pa us.length pc ∧ us.sum + 1 ≤ t ∧ (pa = none → us = []) ∧
    ∀ pd, pa = some pd → (us = [] ∨ pd.block < B) ∧ ∀ j (hj : j < us.length), PrW w B A (fun x => w.cell? (pd.add (j * 5 + x))) us[j]
/-- A list of cards, at most so deep. -/
def AgW (w : World) (B : Nat) : Nat → Nat → Value → Prop
  | 0 => fun _ _ => False
  | k + 1 => fun t av => ∃ aa ac, ∃ ts : List Nat, av = .slice aa ts.length ac ∧ ts.sum ≤ t ∧ (aa = none → ts = []) ∧
      ∀ ad, aa = some ad → (ts = [] ∨ ad.block < B) ∧ ∀ i (hi : i < ts.length), ∃ sv, w.cell? (ad.add i) = some sv ∧ CaW w B (AgW w B k) ts[i] sv
/-- .. of a weight that is not too great. -/
def AgT (w : World) (B k : Nat) (av : Value) : Prop := ∃ t, t ≤ 1048576 ∧ AgW w B k t av

theorem add_block (a : Addr) (i : Nat) : (a.add i).block = a.block := by unfold Addr.add; split <;> rfl
theorem PrW.move {w w' : World} {B B' : Nat} {A A' : Nat → Value → Prop} {cell cell' : Nat → Option Value} {u : Nat} (h : PrW w B A cell u) (hc : ∀ x, cell' x = cell x) (hP : ∀ pv ps, Ps w B pv ps → Ps w' B' pv ps) (hA : ∀ s v, A s v → A' s v) : PrW w' B' A' cell' u := by
  obtain ⟨g, n, v, pv, bv, ps, s, c0, c1, c2, c3, c4, hps, hs, ha⟩ := h
  exact ⟨g, n, v, pv, bv, ps, s, (hc _).trans c0, (hc _).trans c1, (hc _).trans c2, (hc _).trans c3, (hc _).trans c4, hP _ _ hps, hs, hA _ _ ha⟩
theorem CaW.below {w w' : World} {B : Nat} {A A' : Nat → Value → Prop} {t : Nat} {sv : Value} (h : CaW w B A t sv) (hb : Below B w w') (hA : ∀ s v, A s v → A' s v) : CaW w' B A' t sv := by
  obtain ⟨pa, pc, us, rfl, h1, h2, h3⟩ := h
  refine ⟨pa, pc, us, rfl, h1, h2, fun pd hp => ?_⟩
  obtain ⟨h5, h6⟩ := h3 pd hp
  refine ⟨h5, fun j hj => (h6 j hj).move (fun x => ?_) (fun _ _ h => h.below hb) hA⟩
  rcases h5 with h5 | h5
  · subst h5; simp at hj
  · exact hb.cell (p := pd.add (j * 5 + x)) (by rw [add_block]; exact h5)
theorem CaW.up {w : World} {B B' : Nat} {A A' : Nat → Value → Prop} {t : Nat} {sv : Value} (h : CaW w B A t sv) (hb : B ≤ B') (hA : ∀ s v, A s v → A' s v) : CaW w B' A' t sv := by
  obtain ⟨pa, pc, us, rfl, h1, h2, h3⟩ := h
  refine ⟨pa, pc, us, rfl, h1, h2, fun pd hp => ?_⟩
  obtain ⟨h5, h6⟩ := h3 pd hp
  exact ⟨h5.imp id (fun h => by omega), fun j hj => (h6 j hj).move (fun _ => rfl) (fun _ _ h => h.up hb) hA⟩
theorem AgW.below {w w' : World} {B : Nat} (hb : Below B w w') : ∀ {k t : Nat} {v : Value}, AgW w B k t v → AgW w' B k t v := by
  intro k
  induction k with
  | zero => intro t v h; exact h.elim
  | succ k ih =>
    intro t v h
    obtain ⟨aa, ac, ts, rfl, h1, h2, h3⟩ := h
    refine ⟨aa, ac, ts, rfl, h1, h2, fun ad ha => ?_⟩
    obtain ⟨h5, h6⟩ := h3 ad ha
    refine ⟨h5, fun i hi => ?_⟩
    obtain ⟨sv, c0, hs⟩ := h6 i hi
    rcases h5 with h5 | h5
    · subst h5; simp at hi
    · exact ⟨sv, (hb.cell (p := ad.add i) (by rw [add_block]; exact h5)).trans c0, hs.below hb (fun s v hv => ih hv)⟩
theorem AgW.up {w : World} {B B' : Nat} (hb : B ≤ B') : ∀ {k t : Nat} {v : Value}, AgW w B k t v → AgW w B' k t v := by
  intro k
  induction k with
  | zero => intro t v h; exact h.elim
  | succ k ih =>
    intro t v h
    obtain ⟨aa, ac, ts, rfl, h1, h2, h3⟩ := h
    refine ⟨aa, ac, ts, rfl, h1, h2, fun ad ha => ?_⟩
    obtain ⟨h5, h6⟩ := h3 ad ha
    refine ⟨h5.imp id (fun h => by omega), fun i hi => ?_⟩
    obtain ⟨sv, c0, hs⟩ := h6 i hi
    exact ⟨sv, c0, hs.up hb (fun s v hv => ih hv)⟩
theorem AgW.more {w : World} {B k t t' : Nat} {v : Value} (h : AgW w B k t v) (ht : t ≤ t') : AgW w B k t' v := by
  cases k with
  | zero => exact h.elim
  | succ k => obtain ⟨aa, ac, ts, h0, h1, h2⟩ := h; exact ⟨aa, ac, ts, h0, Nat.le_trans h1 ht, h2⟩
theorem AgW.one {w : World} {B k t : Nat} {v : Value} (h : AgW w B k t v) : v.oneCell' = true ∧ ∃ aa m ac, v = .slice aa m ac := by
  cases k with
  | zero => exact h.elim
  | succ k => obtain ⟨aa, ac, ts, rfl, _⟩ := h; exact ⟨rfl, _, _, _, rfl⟩
theorem AgT.below {w w' : World} {B : Nat} (hb : Below B w w') {k : Nat} {v : Value} (h : AgT w B k v) : AgT w' B k v := h.imp fun _ h => ⟨h.1, h.2.below hb⟩
theorem AgT.up {w : World} {B B' : Nat} (hb : B ≤ B') {k : Nat} {v : Value} (h : AgT w B k v) : AgT w B' k v := h.imp fun _ h => ⟨h.1, h.2.up hb⟩
theorem AgT.one {w : World} {B k : Nat} {v : Value} (h : AgT w B k v) : v.oneCell' = true ∧ ∃ aa m ac, v = .slice aa m ac := by obtain ⟨_, _, h⟩ := h; exact h.one

/-- Cells that may be read, as a list. -/
def cellsAt (w : World) (ad : Addr) (n : Nat) : List Value := (List.range n).map fun t => (w.cell? (ad.add t)).getD (.bool false)
theorem cellsAt_len (w : World) (ad : Addr) (n : Nat) : (cellsAt w ad n).length = n := by unfold cellsAt; simp
theorem cellsAt_get {w : World} {ad : Addr} {n t : Nat} {u : Value} (ht : t < n) (h : w.cell? (ad.add t) = some u) : (cellsAt w ad n)[t]? = some u := by unfold cellsAt; simp [ht, h]
theorem cellsAt_cell {w : World} {ad : Addr} {n : Nat} (h : ∀ t, t < n → ∃ u, w.cell? (ad.add t) = some u) {t : Nat} {u : Value} (hu : (cellsAt w ad n)[t]? = some u) : w.cell? (ad.add t) = some u := by
  have ht : t < n := by have := (List.getElem?_eq_some_iff.1 hu).1; rw [cellsAt_len] at this; exact this
  obtain ⟨x, hx⟩ := h t ht
  rw [cellsAt_get ht hx] at hu
  rw [hx]; exact hu
theorem cellsAt_one {w : World} {ad : Addr} {n : Nat} (h : ∀ t, t < n → ∃ u, w.cell? (ad.add t) = some u ∧ u.oneCell' = true) : ∀ u ∈ cellsAt w ad n, u.oneCell' = true := by
  intro u hu
  obtain ⟨t, ht, rfl⟩ := List.mem_iff_getElem.1 hu
  rw [cellsAt_len] at ht
  obtain ⟨x, hx, h1⟩ := h t ht
  have := cellsAt_get ht hx
  rw [List.getElem?_eq_getElem (by rw [cellsAt_len]; exact ht)] at this
  rw [Option.some.inj this]; exact h1

/-- A row of cards of the call's own: those from place i on are still what they were. -/
def RowC (W : World) (ga : Nat) (ts : List Nat) (i : Nat) (P : Nat → Value → Prop) : Prop := ∃ cur : Array Value, W.heap[ga]? = some (.cells cur 56 (0, 0)) ∧ ts.length ≤ cur.size ∧ ∀ t (ht : t < ts.length), i ≤ t → ∃ sv, cur[t]? = some sv ∧ P ts[t] sv
/-- A row of properties of the call's own, as they were. -/
def RowR (W w : World) (B : Nat) (A : Nat → Value → Prop) (gp : Nat) (us : List Nat) : Prop := ∃ cur : Array Value, W.heap[gp]? = some (.cells cur 25 (0, 0)) ∧ ∀ j (hj : j < us.length), PrW w B A (fun x => cur[j * 5 + x]?) us[j]
theorem cellCur {W : World} {g t : Nat} {cur : Array Value} {u : Value} {ty : TypeId} (h : W.heap[g]? = some (.cells cur ty (0, 0))) (hu : cur[t]? = some u) : W.cell? ⟨g, t, none⟩ = some u := by simp [World.cell?, h, hu]
theorem frozenCur {W : World} {g t : Nat} {cur : Array Value} {ty : TypeId} (h : W.heap[g]? = some (.cells cur ty (0, 0))) : W.frozen? ⟨g, t, none⟩ = false := by simp [World.frozen?, h]
theorem heapSet {W : World} {b i : Nat} {cs : Array Value} {t : TypeId} {fr : Nat × Nat} (h : W.heap[b]? = some (.cells cs t fr)) (u : Value) : (W.setCell ⟨b, i, none⟩ u).heap[b]? = some (.cells (cs.setIfInBounds i u) t fr) := by
  simp [World.setCell, Array.getElem?_modify, h]
section
variable {W W' : World} {ga i : Nat} {ts : List Nat} {P : Nat → Value → Prop}
theorem RowC.below (h : RowC W ga ts i P) (hb : Below W.heap.size W W') : RowC W' ga ts i P := by
  obtain ⟨cur, h1, h2⟩ := h
  exact ⟨cur, (hb.block ga (Array.getElem?_eq_some_iff.1 h1).1).trans h1, h2⟩
theorem RowC.set (h : RowC W ga ts i P) (u : Value) : RowC (W.setCell ⟨ga, i, none⟩ u) ga ts (i + 1) P := by
  obtain ⟨cur, h1, h2, h3⟩ := h
  refine ⟨_, heapSet h1 u, by simpa using h2, fun t ht hit => ?_⟩
  obtain ⟨sv, e, hp⟩ := h3 t ht (by omega)
  exact ⟨sv, by rw [Array.getElem?_setIfInBounds, if_neg (by omega)]; exact e, hp⟩
theorem RowC.at_ (h : RowC W ga ts i P) (hi : i < ts.length) : ∃ sv, W.cell? ⟨ga, i, none⟩ = some sv ∧ W.frozen? ⟨ga, i, none⟩ = false ∧ P ts[i] sv := by
  obtain ⟨cur, h1, h2, h3⟩ := h
  obtain ⟨sv, e, hp⟩ := h3 i hi (Nat.le_refl _)
  exact ⟨sv, cellCur h1 e, frozenCur h1, hp⟩
end
theorem le_sum {l : List Nat} {i : Nat} (hi : i < l.length) : l[i] ≤ l.sum := by
  induction l generalizing i with
  | nil => simp at hi
  | cons a r ih =>
    cases i with
    | zero => simp
    | succ i => have := ih (i := i) (by simpa using hi); simp at this ⊢; omega
theorem drop_sum {l : List Nat} {i : Nat} (hi : i < l.length) : (l.drop i).sum = l[i] + (l.drop (i + 1)).sum := by
  rw [List.drop_eq_getElem_cons hi, List.sum_cons]
theorem len_sum {l : List Nat} (h : ∀ i (hi : i < l.length), 1 ≤ l[i]) : l.length ≤ l.sum := by
  induction l with
  | nil => simp
  | cons a r ih =>
    have h0 := h 0 (by simp)
    have := ih (fun i hi => h (i + 1) (by simpa using hi))
    simp at h0 this ⊢; omega
theorem CaW.len {w : World} {B : Nat} {A : Nat → Value → Prop} {t : Nat} {sv : Value} (h : CaW w B A t sv) : ∃ pa pm pc, sv = .slice pa pm pc ∧ pm + 1 ≤ t := by
  obtain ⟨pa, pc, us, rfl, h1, h2, h3⟩ := h
  refine ⟨pa, us.length, pc, rfl, ?_⟩
  cases pa with
  | none => rw [h2 rfl] at h1 ⊢; simpa using h1
  | some pd =>
    have := len_sum (l := us) (fun j hj => by obtain ⟨_, _, _, _, _, ps, s, _, _, _, _, _, _, hs, _⟩ := (h3 pd rfl).2 j hj; omega)
    omega

/-- The list of cards, cloned. -/
theorem cloneC_ag {k : Nat} {aa : Option Addr} {ac B : Nat} {ts : List Nat} {w : World} (h2 : aa = none → ts = []) (h3 : ∀ ad, aa = some ad → (ts = [] ∨ ad.block < B) ∧ ∀ i (hi : i < ts.length), ∃ sv, w.cell? (ad.add i) = some sv ∧ CaW w B (AgW w B k) ts[i] sv) (hts : ts.length ≤ 2097154) (w1 : World) (hb : Below B w w1) :
    Calls Try.prog 35 #[.slice aa ts.length ac] w1 fun e w' => ∃ a' c', e = .returned (.slice a' ts.length c') ∧ (ts ≠ [] → ∃ ga, a' = some ⟨ga, 0, none⟩ ∧ w1.heap.size ≤ ga ∧ RowC w' ga ts 0 (CaW w B (AgW w B k))) ∧ Below w1.heap.size w1 w' := by
  cases aa with
  | none =>
    have hm := h2 rfl
    subst hm
    exact (cloneC_nil 0 ac w1).mono fun e w' ⟨x, y⟩ => ⟨none, 0, x, fun h => absurd rfl h, y ▸ Below.refl _ _⟩
  | some ad =>
    obtain ⟨h5, h6⟩ := h3 ad rfl
    have hc : ∀ t (ht : t < ts.length), ∃ sv, w1.cell? (ad.add t) = some sv ∧ sv.oneCell' = true ∧ CaW w B (AgW w B k) ts[t] sv := fun t ht => by
      obtain ⟨sv, c0, hs⟩ := h6 t ht
      have hlt : ad.block < B := by rcases h5 with h | h; subst h; simp at ht; exact h
      refine ⟨sv, (hb.cell (p := ad.add t) (by rw [add_block]; exact hlt)).trans c0, ?_, hs⟩
      obtain ⟨pa, pm, pc, rfl, _⟩ := hs; rfl
    refine (cloneC_any ad ts.length ac (cellsAt w1 ad ts.length) w1 (by rw [cellsAt_len, Nat.mul_one]) (by unfold maxLen; omega) (by omega) (fun j u hu => cellsAt_cell (fun t ht => (hc t ht).imp fun _ h => h.1) hu) (cellsAt_one fun t ht => (hc t ht).imp fun _ h => ⟨h.1, h.2.1⟩)).mono fun e w' ⟨v', he, hown, hbel⟩ => ?_
    rcases hown.2 with ⟨rfl, hm⟩ | ⟨g, cap, cur, rfl, hg, hh, hn, _, hcs, ht⟩
    · have := List.eq_nil_of_length_eq_zero hm
      subst this; exact ⟨none, 0, he, fun h => absurd rfl h, hbel⟩
    · refine ⟨_, cap, he, fun _ => ⟨g, rfl, hg, cur, hh, by omega, fun t htm _ => ?_⟩, hbel⟩
      obtain ⟨sv, c0, _, hs⟩ := hc t htm
      refine ⟨sv, ?_, hs⟩
      rw [← cellsAt_get htm c0, ← ht, List.getElem?_take_of_lt (by omega)]; simp
/-- A list of properties, cloned. -/
theorem cloneR_ca {A : Nat → Value → Prop} {sv : Value} {t B : Nat} {w : World} (h : CaW w B A t sv) (ht20 : t ≤ 2097154) (hA : ∀ s v, A s v → v.oneCell' = true) (w1 : World) (hb : Below B w w1) :
    Calls Try.prog 36 #[sv] w1 fun e w' => ∃ a' c', ∃ us : List Nat, e = .returned (.slice a' us.length c') ∧ us.sum + 1 ≤ t ∧ us.length ≤ us.sum ∧ (us ≠ [] → ∃ gp, a' = some ⟨gp, 0, none⟩ ∧ w1.heap.size ≤ gp ∧ RowR w' w B A gp us) ∧ Below w1.heap.size w1 w' := by
  obtain ⟨pa, pc, us, rfl, h1, h2, h3⟩ := h
  cases pa with
  | none =>
    have hm := h2 rfl
    subst hm
    exact (cloneR_nil 0 pc w1).mono fun e w' ⟨x, y⟩ => ⟨none, 0, [], x, h1, by simp, fun h => absurd rfl h, y ▸ Below.refl _ _⟩
  | some ad =>
    obtain ⟨h5, h6⟩ := h3 ad rfl
    have hlen : us.length ≤ us.sum := len_sum (fun j hj => by obtain ⟨_, _, _, _, _, ps, s, _, _, _, _, _, _, hs, _⟩ := h6 j hj; omega)
    have hall : ∀ t, t < us.length * 5 → ∃ u, w1.cell? (ad.add t) = some u ∧ u.oneCell' = true := fun t ht => by
      have hlt : ad.block < B := by rcases h5 with h | h; subst h; simp at ht; exact h
      obtain ⟨g, n, v, pv, bv, ps, s, c0, c1, c2, c3, c4, hps, _, ha⟩ := h6 (t / 5) (by omega)
      have C : ∀ i, w1.cell? (ad.add i) = w.cell? (ad.add i) := fun i => hb.cell (p := ad.add i) (by rw [add_block]; exact hlt)
      obtain ⟨xa, xc, rfl⟩ := hps.shape
      rcases (by omega : t = t / 5 * 5 + 0 ∨ t = t / 5 * 5 + 1 ∨ t = t / 5 * 5 + 2 ∨ t = t / 5 * 5 + 3 ∨ t = t / 5 * 5 + 4) with e | e | e | e | e
      · exact ⟨_, by rw [C, e]; exact c0, rfl⟩
      · exact ⟨_, by rw [C, e]; exact c1, rfl⟩
      · exact ⟨_, by rw [C, e]; exact c2, rfl⟩
      · exact ⟨_, by rw [C, e]; exact c3, rfl⟩
      · exact ⟨_, by rw [C, e]; exact c4, hA _ _ ha⟩
    refine (cloneR_any ad us.length pc (cellsAt w1 ad (us.length * 5)) w1 (cellsAt_len _ _ _) (by unfold maxLen; omega) (by omega) (fun j u hu => cellsAt_cell (fun t ht => (hall t ht).imp fun _ h => h.1) hu) (cellsAt_one hall)).mono fun e w' ⟨v', he, hown, hbel⟩ => ?_
    rcases hown.2 with ⟨rfl, hm⟩ | ⟨g, cap, cur, rfl, hg, hh, hn, _, hcs, ht⟩
    · have := List.eq_nil_of_length_eq_zero hm
      subst this; exact ⟨none, 0, [], he, h1, by simp, fun h => absurd rfl h, hbel⟩
    · refine ⟨_, cap, us, he, h1, hlen, fun _ => ⟨g, rfl, hg, cur, hh, fun t htm => ?_⟩, hbel⟩
      have hlt : ad.block < B := by rcases h5 with h | h; subst h; simp at htm; exact h
      have C : ∀ i, w1.cell? (ad.add i) = w.cell? (ad.add i) := fun i => hb.cell (p := ad.add i) (by rw [add_block]; exact hlt)
      obtain ⟨g', n, v, pv, bv, ps, s, c0, c1, c2, c3, c4, hps, l1, ha⟩ := h6 t htm
      have G : ∀ x u, x < us.length * 5 → w.cell? (ad.add x) = some u → cur[x]? = some u := fun x u hx hu => by
        have hu' := (C x).trans hu
        rw [← cellsAt_get hx hu', ← ht, List.getElem?_take_of_lt (by omega)]; simp
      exact ⟨g', n, v, pv, bv, ps, s, G _ _ (by omega) c0, G _ _ (by omega) c1, G _ _ (by omega) c2, G _ _ (by omega) c3, G _ _ (by omega) c4, hps, l1, ha⟩
end Go.Proofs.Ytfgaabjpkmmpdaa.Pp
