/-
A property with cards in it, as it lies in memory to any depth; rows of cards and of properties while they are being copied. No conditions.
-/
import Derived.Test.YtccgpemcdbcjeaaPpPClone
namespace Go.Proofs.Ytccgpemcdbcjeaa.Pp
open Go.RowKit

/-- A list of properties whose lists of cards are as A says. -/
def CaT (w : World) (B : Nat) (A : Value → Prop) (sv : Value) : Prop :=
  ∃ pa pm pc, sv = .slice pa pm pc ∧ pm ≤ maxLen ∧ pm * 96 ≤ 140737488355328 ∧ (pa = none → pm = 0) ∧
    ∀ pd, pa = some pd → (pm = 0 ∨ pd.block < B) ∧ ∀ j, j < pm → ∃ (g n v : ByteArray) (pv bv : Value) (ps : List (ByteArray × ByteArray)), w.cell? (pd.add (j * 5)) = some (.string g) ∧ w.cell? (pd.add (j * 5 + 1)) = some (.string n) ∧ w.cell? (pd.add (j * 5 + 2)) = some pv ∧ w.cell? (pd.add (j * 5 + 3)) = some (.string v) ∧ w.cell? (pd.add (j * 5 + 4)) = some bv ∧
      Ps w B pv ps ∧ ps.length ≤ maxLen ∧ ps.length * 32 ≤ 140737488355328 ∧ A bv
/-- A list of cards, at most so deep. -/
def AgT (w : World) (B : Nat) : Nat → Value → Prop
  | 0 => fun _ => False
  | k + 1 => fun av => ∃ aa m ac, av = .slice aa m ac ∧ m ≤ maxLen ∧ m * 24 ≤ 140737488355328 ∧ (aa = none → m = 0) ∧
      ∀ ad, aa = some ad → (m = 0 ∨ ad.block < B) ∧ ∀ i, i < m → ∃ sv, w.cell? (ad.add i) = some sv ∧ CaT w B (AgT w B k) sv

theorem add_block (a : Addr) (i : Nat) : (a.add i).block = a.block := by unfold Addr.add; split <;> rfl
theorem CaT.below {w w' : World} {B : Nat} {A A' : Value → Prop} {sv : Value} (h : CaT w B A sv) (hb : Below B w w') (hA : ∀ v, A v → A' v) : CaT w' B A' sv := by
  obtain ⟨pa, pm, pc, rfl, h1, h2, h3, h4⟩ := h
  refine ⟨pa, pm, pc, rfl, h1, h2, h3, fun pd hp => ?_⟩
  obtain ⟨h5, h6⟩ := h4 pd hp
  refine ⟨h5, fun j hj => ?_⟩
  obtain ⟨g, n, v, pv, bv, ps, c0, c1, c2, c3, c4, hps, l1, l2, ha⟩ := h6 j hj
  have hlt : pd.block < B := by rcases h5 with h | h; omega; exact h
  have C : ∀ i, w'.cell? (pd.add i) = w.cell? (pd.add i) := fun i => hb.cell (p := pd.add i) (by rw [add_block]; exact hlt)
  exact ⟨g, n, v, pv, bv, ps, (C _).trans c0, (C _).trans c1, (C _).trans c2, (C _).trans c3, (C _).trans c4, hps.below hb, l1, l2, hA _ ha⟩
theorem AgT.below {w w' : World} {B : Nat} (hb : Below B w w') : ∀ {k : Nat} {v : Value}, AgT w B k v → AgT w' B k v := by
  intro k
  induction k with
  | zero => intro v h; exact h.elim
  | succ k ih =>
    intro v h
    obtain ⟨aa, m, ac, rfl, h1, h2, h3, h4⟩ := h
    refine ⟨aa, m, ac, rfl, h1, h2, h3, fun ad ha => ?_⟩
    obtain ⟨h5, h6⟩ := h4 ad ha
    refine ⟨h5, fun i hi => ?_⟩
    obtain ⟨sv, c0, hs⟩ := h6 i hi
    have hlt : ad.block < B := by rcases h5 with h | h; omega; exact h
    exact ⟨sv, (hb.cell (p := ad.add i) (by rw [add_block]; exact hlt)).trans c0, hs.below hb (fun v hv => ih hv)⟩
theorem CaT.up {w : World} {B B' : Nat} {A A' : Value → Prop} {sv : Value} (h : CaT w B A sv) (hb : B ≤ B') (hA : ∀ v, A v → A' v) : CaT w B' A' sv := by
  obtain ⟨pa, pm, pc, rfl, h1, h2, h3, h4⟩ := h
  refine ⟨pa, pm, pc, rfl, h1, h2, h3, fun pd hp => ?_⟩
  obtain ⟨h5, h6⟩ := h4 pd hp
  refine ⟨h5.imp id (fun h => by omega), fun j hj => ?_⟩
  obtain ⟨g, n, v, pv, bv, ps, c0, c1, c2, c3, c4, hps, l1, l2, ha⟩ := h6 j hj
  exact ⟨g, n, v, pv, bv, ps, c0, c1, c2, c3, c4, hps.up hb, l1, l2, hA _ ha⟩
theorem AgT.up {w : World} {B B' : Nat} (hb : B ≤ B') : ∀ {k : Nat} {v : Value}, AgT w B k v → AgT w B' k v := by
  intro k
  induction k with
  | zero => intro v h; exact h.elim
  | succ k ih =>
    intro v h
    obtain ⟨aa, m, ac, rfl, h1, h2, h3, h4⟩ := h
    refine ⟨aa, m, ac, rfl, h1, h2, h3, fun ad ha => ?_⟩
    obtain ⟨h5, h6⟩ := h4 ad ha
    refine ⟨h5.imp id (fun h => by omega), fun i hi => ?_⟩
    obtain ⟨sv, c0, hs⟩ := h6 i hi
    exact ⟨sv, c0, hs.up hb (fun v hv => ih hv)⟩
theorem AgT.one {w : World} {B k : Nat} {v : Value} (h : AgT w B k v) : v.oneCell' = true ∧ ∃ aa m ac, v = .slice aa m ac := by
  cases k with
  | zero => exact h.elim
  | succ k => obtain ⟨aa, m, ac, rfl, _⟩ := h; exact ⟨rfl, _, _, _, rfl⟩

/-- Cells that may be read, as a list. -/
def cellsAt (w : World) (ad : Addr) (n : Nat) : List Value := (List.range n).map fun t => (w.cell? (ad.add t)).getD (.bool false)
theorem cellsAt_len (w : World) (ad : Addr) (n : Nat) : (cellsAt w ad n).length = n := by unfold cellsAt; simp
theorem cellsAt_get {w : World} {ad : Addr} {n t : Nat} {u : Value} (ht : t < n) (h : w.cell? (ad.add t) = some u) : (cellsAt w ad n)[t]? = some u := by unfold cellsAt; simp [ht, h]
theorem cellsAt_cell {w : World} {ad : Addr} {n : Nat} (h : ∀ t, t < n → ∃ u, w.cell? (ad.add t) = some u) {t : Nat} {u : Value} (hu : (cellsAt w ad n)[t]? = some u) : w.cell? (ad.add t) = some u := by
  have ht : t < n := by have := (List.getElem?_eq_some_iff.1 hu).1; rw [cellsAt_len] at this; exact this
  obtain ⟨x, hx⟩ := h t ht
  rw [cellsAt_get ht hx] at hu
  rw [hx]; exact hu
theorem cellsAt_one {w : World} {ad : Addr} {n : Nat} (h : ∀ t, t < n → ∃ u, w.cell? (ad.add t) = some u ∧ u.oneCell' = true) : ∀ u ∈ cellsAt w ad n, u.oneCell' = true := by
  intro u hu
  obtain ⟨t, ht, rfl⟩ := List.mem_iff_getElem.1 hu
  rw [cellsAt_len] at ht
  obtain ⟨x, hx, h1⟩ := h t ht
  have := cellsAt_get ht hx
  rw [List.getElem?_eq_getElem (by rw [cellsAt_len]; exact ht)] at this
  rw [Option.some.inj this]; exact h1

/-- A row of cards of the call's own: those from place i on are still what they were. -/
def RowC (W : World) (ga N i : Nat) (P : Value → Prop) : Prop := ∃ cur : Array Value, W.heap[ga]? = some (.cells cur 57 (0, 0)) ∧ N ≤ cur.size ∧ ∀ t, i ≤ t → t < N → ∃ sv, cur[t]? = some sv ∧ P sv
/-- A row of properties of the call's own, likewise. -/
def RowR (W : World) (gp N j : Nat) (G : Value → List (ByteArray × ByteArray) → Value → Prop) : Prop := ∃ cur : Array Value, W.heap[gp]? = some (.cells cur 28 (0, 0)) ∧ N * 5 ≤ cur.size ∧
  ∀ t, j ≤ t → t < N → ∃ (g n v : ByteArray) (pv bv : Value) (ps : List (ByteArray × ByteArray)), cur[t * 5]? = some (.string g) ∧ cur[t * 5 + 1]? = some (.string n) ∧ cur[t * 5 + 2]? = some pv ∧ cur[t * 5 + 3]? = some (.string v) ∧ cur[t * 5 + 4]? = some bv ∧ G pv ps bv
theorem cellCur {W : World} {g t : Nat} {cur : Array Value} {u : Value} {ty : TypeId} (h : W.heap[g]? = some (.cells cur ty (0, 0))) (hu : cur[t]? = some u) : W.cell? ⟨g, t, none⟩ = some u := by simp [World.cell?, h, hu]
theorem frozenCur {W : World} {g t : Nat} {cur : Array Value} {ty : TypeId} (h : W.heap[g]? = some (.cells cur ty (0, 0))) : W.frozen? ⟨g, t, none⟩ = false := by simp [World.frozen?, h]
theorem heapSet {W : World} {b i : Nat} {cs : Array Value} {t : TypeId} {fr : Nat × Nat} (h : W.heap[b]? = some (.cells cs t fr)) (u : Value) : (W.setCell ⟨b, i, none⟩ u).heap[b]? = some (.cells (cs.setIfInBounds i u) t fr) := by
  simp [World.setCell, Array.getElem?_modify, h]
section
variable {W W' : World} {ga gp N i j : Nat} {P : Value → Prop} {G : Value → List (ByteArray × ByteArray) → Value → Prop}
theorem RowC.below (h : RowC W ga N i P) (hb : Below W.heap.size W W') : RowC W' ga N i P := by
  obtain ⟨cur, h1, h2⟩ := h
  exact ⟨cur, (hb.block ga (Array.getElem?_eq_some_iff.1 h1).1).trans h1, h2⟩
theorem RowC.other (h : RowC W ga N i P) {a : Addr} (ha : ga ≠ a.block) (u : Value) : RowC (W.setCell a u) ga N i P := by
  obtain ⟨cur, h1, h2⟩ := h
  exact ⟨cur, (Below.heap_setCell W a u ga ha).trans h1, h2⟩
theorem RowC.set (h : RowC W ga N i P) (u : Value) : RowC (W.setCell ⟨ga, i, none⟩ u) ga N (i + 1) P := by
  obtain ⟨cur, h1, h2, h3⟩ := h
  refine ⟨_, heapSet h1 u, by simpa using h2, fun t ht htN => ?_⟩
  obtain ⟨sv, e, hp⟩ := h3 t (by omega) htN
  exact ⟨sv, by rw [Array.getElem?_setIfInBounds, if_neg (by omega)]; exact e, hp⟩
theorem RowC.at_ (h : RowC W ga N i P) (hi : i < N) : ∃ sv, W.cell? ⟨ga, i, none⟩ = some sv ∧ W.frozen? ⟨ga, i, none⟩ = false ∧ P sv := by
  obtain ⟨cur, h1, h2, h3⟩ := h
  obtain ⟨sv, e, hp⟩ := h3 i (Nat.le_refl _) hi
  exact ⟨sv, cellCur h1 e, frozenCur h1, hp⟩
theorem RowR.below (h : RowR W gp N j G) (hb : Below W.heap.size W W') : RowR W' gp N j G := by
  obtain ⟨cur, h1, h2⟩ := h
  exact ⟨cur, (hb.block gp (Array.getElem?_eq_some_iff.1 h1).1).trans h1, h2⟩
theorem RowR.at_ (h : RowR W gp N j G) (hj : j < N) : ∃ (g n v : ByteArray) (pv bv : Value) (ps : List (ByteArray × ByteArray)), W.cell? ⟨gp, j * 5, none⟩ = some (.string g) ∧ W.cell? ⟨gp, j * 5 + 1, none⟩ = some (.string n) ∧ W.cell? ⟨gp, j * 5 + 2, none⟩ = some pv ∧ W.cell? ⟨gp, j * 5 + 3, none⟩ = some (.string v) ∧ W.cell? ⟨gp, j * 5 + 4, none⟩ = some bv ∧ (∀ t, W.frozen? ⟨gp, t, none⟩ = false) ∧ G pv ps bv := by
  obtain ⟨cur, h1, h2, h3⟩ := h
  obtain ⟨g, n, v, pv, bv, ps, e0, e1, e2, e3, e4, hg⟩ := h3 j (Nat.le_refl _) hj
  exact ⟨g, n, v, pv, bv, ps, cellCur h1 e0, cellCur h1 e1, cellCur h1 e2, cellCur h1 e3, cellCur h1 e4, fun t => frozenCur h1, hg⟩
theorem RowR.set (h : RowR W gp N j G) (u0 u1 u2 u3 u4 : Value) : RowR (((((W.setCell ⟨gp, j * 5, none⟩ u0).setCell ⟨gp, j * 5 + 1, none⟩ u1).setCell ⟨gp, j * 5 + 2, none⟩ u2).setCell ⟨gp, j * 5 + 3, none⟩ u3).setCell ⟨gp, j * 5 + 4, none⟩ u4) gp N (j + 1) G := by
  obtain ⟨cur, h1, h2, h3⟩ := h
  refine ⟨_, heapSet (heapSet (heapSet (heapSet (heapSet h1 u0) u1) u2) u3) u4, by simpa using h2, fun t ht htN => ?_⟩
  obtain ⟨g, n, v, pv, bv, ps, e0, e1, e2, e3, e4, hg⟩ := h3 t (by omega) htN
  have E : ∀ x, j * 5 + 5 ≤ x → (((((cur.setIfInBounds (j * 5) u0).setIfInBounds (j * 5 + 1) u1).setIfInBounds (j * 5 + 2) u2).setIfInBounds (j * 5 + 3) u3).setIfInBounds (j * 5 + 4) u4)[x]? = cur[x]? := fun x hx => by
    rw [Array.getElem?_setIfInBounds, if_neg (by omega), Array.getElem?_setIfInBounds, if_neg (by omega), Array.getElem?_setIfInBounds, if_neg (by omega), Array.getElem?_setIfInBounds, if_neg (by omega), Array.getElem?_setIfInBounds, if_neg (by omega)]
  exact ⟨g, n, v, pv, bv, ps, (E _ (by omega)).trans e0, (E _ (by omega)).trans e1, (E _ (by omega)).trans e2, (E _ (by omega)).trans e3, (E _ (by omega)).trans e4, hg⟩
end

/-- The list of cards, cloned. -/
theorem cloneC_ag {k : Nat} {av : Value} {B : Nat} {w : World} (h : AgT w B (k + 1) av) (w1 : World) (hb : Below B w w1) (aa : Option Addr) (m ac : Nat) (hav : av = .slice aa m ac) :
    Calls Try.prog 41 #[.slice aa m ac] w1 fun e w' => ∃ a' c', e = .returned (.slice a' m c') ∧ (0 < m → ∃ ga, a' = some ⟨ga, 0, none⟩ ∧ w1.heap.size ≤ ga ∧ RowC w' ga m 0 (CaT w B (AgT w B k))) ∧ Below w1.heap.size w1 w' := by
  obtain ⟨aa', m', ac', e, h1, h2, h3, h4⟩ := h
  rw [hav] at e
  cases e
  cases aa with
  | none =>
    have hm := h3 rfl
    subst hm
    exact (cloneC_nil 0 ac w1).mono fun e w' ⟨x, y⟩ => ⟨none, 0, x, fun h => absurd h (Nat.lt_irrefl _), y ▸ Below.refl _ _⟩
  | some ad =>
    obtain ⟨h5, h6⟩ := h4 ad rfl
    have hc : ∀ t, t < m → ∃ sv, w1.cell? (ad.add t) = some sv ∧ sv.oneCell' = true ∧ CaT w B (AgT w B k) sv := fun t ht => by
      obtain ⟨sv, c0, hs⟩ := h6 t ht
      have hlt : ad.block < B := by rcases h5 with h | h; omega; exact h
      refine ⟨sv, (hb.cell (p := ad.add t) (by rw [add_block]; exact hlt)).trans c0, ?_, hs⟩
      obtain ⟨pa, pm, pc, rfl, _⟩ := hs; rfl
    refine (cloneC_any ad m ac (cellsAt w1 ad m) w1 (by rw [cellsAt_len, Nat.mul_one]) h1 h2 (fun j u hu => cellsAt_cell (fun t ht => (hc t ht).imp fun _ h => h.1) hu) (cellsAt_one fun t ht => (hc t ht).imp fun _ h => ⟨h.1, h.2.1⟩)).mono fun e w' ⟨v', he, hown, hbel⟩ => ?_
    rcases hown.2 with ⟨rfl, hm⟩ | ⟨g, cap, cur, rfl, hg, hh, hn, _, hcs, ht⟩
    · subst hm; exact ⟨none, 0, he, fun h => absurd h (Nat.lt_irrefl _), hbel⟩
    · refine ⟨_, cap, he, fun _ => ⟨g, rfl, hg, cur, hh, by omega, fun t _ htm => ?_⟩, hbel⟩
      obtain ⟨sv, c0, _, hs⟩ := hc t htm
      refine ⟨sv, ?_, hs⟩
      rw [← cellsAt_get htm c0, ← ht, List.getElem?_take_of_lt (by omega)]; simp
/-- A list of properties, cloned. -/
theorem cloneR_ca {A : Value → Prop} {pa : Option Addr} {pm pc B : Nat} {w : World} (h : CaT w B A (.slice pa pm pc)) (hA : ∀ v, A v → v.oneCell' = true) (w1 : World) (hb : Below B w w1) :
    Calls Try.prog 42 #[.slice pa pm pc] w1 fun e w' => ∃ a' c', e = .returned (.slice a' pm c') ∧ (0 < pm → ∃ gp, a' = some ⟨gp, 0, none⟩ ∧ w1.heap.size ≤ gp ∧ RowR w' gp pm 0 (fun pv ps bv => Ps w B pv ps ∧ ps.length ≤ maxLen ∧ ps.length * 32 ≤ 140737488355328 ∧ A bv)) ∧ Below w1.heap.size w1 w' := by
  obtain ⟨pa', pm', pc', e, h1, h2, h3, h4⟩ := h
  cases e
  cases pa with
  | none =>
    have hm := h3 rfl
    subst hm
    exact (cloneR_nil 0 pc w1).mono fun e w' ⟨x, y⟩ => ⟨none, 0, x, fun h => absurd h (Nat.lt_irrefl _), y ▸ Below.refl _ _⟩
  | some ad =>
    obtain ⟨h5, h6⟩ := h4 ad rfl
    have hall : ∀ t, t < pm * 5 → ∃ u, w1.cell? (ad.add t) = some u ∧ u.oneCell' = true := fun t ht => by
      have hlt : ad.block < B := by rcases h5 with h | h; omega; exact h
      obtain ⟨g, n, v, pv, bv, ps, c0, c1, c2, c3, c4, hps, _, _, ha⟩ := h6 (t / 5) (by omega)
      have C : ∀ i, w1.cell? (ad.add i) = w.cell? (ad.add i) := fun i => hb.cell (p := ad.add i) (by rw [add_block]; exact hlt)
      obtain ⟨xa, xc, rfl⟩ := hps.shape
      rcases (by omega : t = t / 5 * 5 ∨ t = t / 5 * 5 + 1 ∨ t = t / 5 * 5 + 2 ∨ t = t / 5 * 5 + 3 ∨ t = t / 5 * 5 + 4) with e | e | e | e | e
      · exact ⟨_, by rw [C, e]; exact c0, rfl⟩
      · exact ⟨_, by rw [C, e]; exact c1, rfl⟩
      · exact ⟨_, by rw [C, e]; exact c2, rfl⟩
      · exact ⟨_, by rw [C, e]; exact c3, rfl⟩
      · exact ⟨_, by rw [C, e]; exact c4, hA _ ha⟩
    refine (cloneR_any ad pm pc (cellsAt w1 ad (pm * 5)) w1 (cellsAt_len _ _ _) h1 h2 (fun j u hu => cellsAt_cell (fun t ht => (hall t ht).imp fun _ h => h.1) hu) (cellsAt_one hall)).mono fun e w' ⟨v', he, hown, hbel⟩ => ?_
    rcases hown.2 with ⟨rfl, hm⟩ | ⟨g, cap, cur, rfl, hg, hh, hn, _, hcs, ht⟩
    · subst hm; exact ⟨none, 0, he, fun h => absurd h (Nat.lt_irrefl _), hbel⟩
    · refine ⟨_, cap, he, fun _ => ⟨g, rfl, hg, cur, hh, by omega, fun t _ htm => ?_⟩, hbel⟩
      have hlt : ad.block < B := by rcases h5 with h | h; omega; exact h
      have C : ∀ i, w1.cell? (ad.add i) = w.cell? (ad.add i) := fun i => hb.cell (p := ad.add i) (by rw [add_block]; exact hlt)
      obtain ⟨g', n, v, pv, bv, ps, c0, c1, c2, c3, c4, hps, l1, l2, ha⟩ := h6 t htm
      have G : ∀ x u, x < pm * 5 → w.cell? (ad.add x) = some u → cur[x]? = some u := fun x u hx hu => by
        have hu' := (C x).trans hu
        rw [← cellsAt_get hx hu', ← ht, List.getElem?_take_of_lt (by omega)]; simp
      exact ⟨g', n, v, pv, bv, ps, G _ _ (by omega) c0, G _ _ (by omega) c1, G _ _ (by omega) c2, G _ _ (by omega) c3, G _ _ (by omega) c4, hps, l1, l2, ha⟩
end Go.Proofs.Ytccgpemcdbcjeaa.Pp
