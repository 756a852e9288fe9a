/-
append onto a row of the call's own: where the longer row lies. Conditions: those of the library's own law of append.
-/
import Derived.Test.YtionbdkiclodoaaSq
import Derived.Shelf.Abstract
import Derived.OwnWalkIn
import Derived.Maps.AppendAt
import Derived.OpenShut
import Derived.Lib.Hide
import Derived.Lib.BufferRead
namespace Go.Proofs.Ytionbdkiclodoaa.App
open Go.RowKit

/-- The longer row lies where the row lay, or in a new block. -/
theorem run_append_where {P : Program} (w : World) (base : Nat) (t ty e : TypeId) (i : TypeInfo) (z : Value) (size bytes : Nat) (ht : P.underlying t = some (.slice e)) (hi : P.info? e = some i) (hz : i.zero = some z)
    (hsize : i.size = size) (hby : i.bytes = bytes) (hzs : z.cells.size = size) (hsz : 0 < size)
    (v : Value) (n : Nat) (xs : List Value) (hown : w.ownsRow base e size v n xs)
    (a : Addr) (m c : Nat) (news : List Value) (hl : news.length = m * size) (hnews : ∀ j u, news[j]? = some u → w.cell? (a.add j) = some u) (h1 : ∀ u ∈ news, u.oneCell' = true)
    (h63 : n + m ≤ maxLen) (hbytes : (n + m) * bytes ≤ 140737488355328) (hbase : base ≤ w.heap.size) (hm : 0 < m) :
    ∃ v' w', (Builtin.append_ #[t, t] ty #[v, .slice (some a) m c]).run P w = .ok v' w' ∧ w'.ownsRow base e size v' (n + m) (xs ++ news) ∧ w.grownBy w' v.ownBlock ∧ (v'.ownBlock = v.ownBlock ∨ v'.ownBlock = some w.heap.size) := by
  obtain ⟨v', w', hrun, r1, r2, _⟩ := run_append_own (P := P) w base t ty e i z size bytes ht hi hz hsize hby hzs hsz v n xs hown a m c news hl hnews h1 h63 hbytes hbase
  refine ⟨v', w', hrun, r1, r2, ?_⟩
  subst hsize
  subst hby
  have hM : maxLen ≤ 9223372036854775807 := by decide
  rcases hown.2 with ⟨rfl, rfl⟩ | ⟨g, cap, cur, rfl, hbg, hg, hnc, hcm, hcs, htake⟩
  · have hr := run_append_nil (P := P) w t ty e i z ht hi hz a m c news hl hnews hm (by omega) (by have hb := hbytes; simp only [Nat.zero_add] at hb; omega)
    rw [hr] at hrun
    cases hrun
    exact .inr rfl
  · by_cases hroom : n + m ≤ cap
    · have hr := run_append_room (P := P) w t ty e i ht hi g n cap cur hg a m c news hl hnews h1 hroom (by rw [hl, hcs, ← Nat.add_mul]; exact Nat.mul_le_mul_right _ hroom)
      rw [hr] at hrun
      cases hrun
      exact .inl rfl
    · have hr := run_append_grow (P := P) w t ty e i z ht hi hz ⟨g, 0, none⟩ n cap xs hown.1 (hown.cells (g := g) rfl) a m c news hl hnews (by omega) (by omega) (growslice_fits (by omega) hbytes)
      rw [hr] at hrun
      cases hrun
      exact .inr rfl

/-- The walk over such an append. -/
theorem walk_append {F : Fence} {n : Nat} {P : Program} (w : World) {ops : Array Oper} {rest : List Oper} {o : Oper} {a : Act} {Q : Exit → Act → World → Prop}
    (hg : o.guard = none) (s x : Operand) (t : TypeId) (hop : o.op = Op.call { callee := Callee.builtin Builtin.append, args := #[s, x], argTypes := #[t, t] })
    (base : Nat) (e : TypeId) (i : TypeInfo) (z : Value) (size bytes : Nat) (h1 : P.underlying t = some (.slice e)) (h2 : P.info? e = some i) (h3 : i.zero = some z) (h4 : i.size = size) (h5 : i.bytes = bytes) (h6 : z.cells.size = size) (h7 : 0 < size)
    (v : Value) (k : Nat) (xs : List Value) (hs : a.eval s = v) (hown : w.ownsRow base e size v k xs) (ad : Addr) (m c : Nat) (news : List Value) (hx : a.eval x = .slice (some ad) m c) (hn : news.length = m * size)
    (hc : ∀ j u, news[j]? = some u → w.cell? (ad.add j) = some u) (h1c : ∀ u ∈ news, u.oneCell' = true) (b1 : k + m ≤ maxLen) (b2 : (k + m) * bytes ≤ 140737488355328) (b3 : base ≤ w.heap.size) (hm : 0 < m)
    (hK : ∀ v' w', w'.ownsRow base e size v' (k + m) (xs ++ news) → w.grownBy w' v.ownBlock → (v'.ownBlock = v.ownBlock ∨ v'.ownBlock = some w.heap.size) → wpListIn F n P ops Q rest (a.put o.dst v') w') :
    wpListIn F n P ops Q (o :: rest) a w := by
  obtain ⟨v', w', hrun, r1, r2, r3⟩ := run_append_where (P := P) w base t o.type e i z size bytes h1 h2 h3 h4 h5 h6 h7 v k xs hown ad m c news hn hc h1c b1 b2 b3 hm
  refine wpListIn_plain hg fun K hK' => ?_
  unfold Oper.wpIn
  rw [Oper.semAt_plain F _ _ (by rw [hop]; intro c hc'; cases hc')]
  refine ⟨?_, ?_⟩
  · simp [Oper.about, hop, resolve, Target.leads, Sem.run_pure]
  · simp only [execOp, hop, resolve, invoke, builtin, Sem.run_bind, Sem.run_pure, Result.andThen_ok, List.map_toArray, List.map_cons, List.map_nil, hs, hx, hrun]
    exact hK' _ _ (hK v' w' r1 r2 r3)

/-- 'out = append(out, ..)' where out lies in a box: behind the append, and behind the store. -/
theorem collect {V V1 : World} {n₀ B : Nat} {t e : TypeId} {size : Nat} {v v' : Value} {k m : Nat} {xs ys : List Value} {o : Obj} (hv : Boxed V B t v) (hte : t ≠ e) (hr : V.ownsRow n₀ e size v k xs)
    (hown : V1.ownsRow n₀ e size v' m ys) (hg : (V.alloc o).grownBy V1 v.ownBlock) (hw : v'.ownBlock = v.ownBlock ∨ v'.ownBlock = some (V.alloc o).heap.size) :
    Boxed V1 B t v ∧ Boxed (V1.setCell ⟨B, 0, none⟩ v') B t v' ∧ (V1.setCell ⟨B, 0, none⟩ v').ownsRow n₀ e size v' m ys ∧ (∀ g, v'.ownBlock = some g → v.ownBlock = some g ∨ V.heap.size ≤ g) ∧ Sq.Stays (fun k => k < V.heap.size ∧ k ≠ B ∧ some k ≠ v.ownBlock) V (V1.setCell ⟨B, 0, none⟩ v') := by
  have hne := hv.not_row hte hr
  have hS : Sq.Stays (fun k => k < V.heap.size ∧ some k ≠ v.ownBlock) V V1 := ((Sq.Stays.refl _ V).alloc o (fun k hk => hk.1)).grown hg (fun k hk => ⟨by have := hk.1; simp; omega, hk.2⟩)
  have b1 := hS.boxed (b := B) ⟨hv.lt, hne⟩ hv
  have hfresh : ∀ g, v'.ownBlock = some g → v.ownBlock = some g ∨ V.heap.size ≤ g := fun g e => by
    rcases hw with hw | hw
    · exact .inl (hw ▸ e)
    · rw [e] at hw; cases hw; right; simp
  have hS2 : Sq.Stays (fun k => k ≠ B) V1 (V1.setCell ⟨B, 0, none⟩ v') := (Sq.Stays.refl _ _).setCell _ _ (fun h => h rfl)
  refine ⟨b1, b1.set _, hS2.row hown (fun g e h => ?_), hfresh, (hS.mono fun k hk => ⟨hk.1, hk.2.2⟩).trans (hS2.mono fun k hk => hk.2.1)⟩
  subst h
  rcases hfresh g e with h | h
  · exact hne h.symm
  · have := hv.lt; omega
/-- .. in a round of a loop: what the speaker says of his row goes on. -/
theorem collect_round {V V2 : World} {B n₀ : Nat} {v v' : Value} {O R : Nat → Prop} {w : World} (hS : Sq.Stays (fun k => k < V.heap.size ∧ k ≠ B ∧ some k ≠ v.ownBlock) V V2) (hfresh : ∀ g, v'.ownBlock = some g → v.ownBlock = some g ∨ V.heap.size ≤ g)
    (hO : ∀ k, O k → k < V.heap.size ∧ k ≠ B) (hvO : ∀ g, v.ownBlock = some g → ¬ O g) (hR : ∀ k, R k → k < V.heap.size ∧ k ≠ B ∧ some k ≠ v.ownBlock) (hn : n₀ ≤ B) (hn2 : n₀ ≤ V.heap.size) (hv : ∀ g, v.ownBlock = some g → n₀ ≤ g) (hb : Below n₀ w V) :
    Sq.Stays (fun k => O k ∨ R k) V V2 ∧ (∀ g, v'.ownBlock = some g → ¬ O g) ∧ Below n₀ w V2 := by
  refine ⟨hS.mono fun k hk => ?_, fun g e ho => ?_, hb.trans (hS.below fun k hk => ⟨by omega, by omega, fun e => by have := hv k e.symm; omega⟩)⟩
  · rcases hk with hk | hk
    · exact ⟨(hO k hk).1, (hO k hk).2, fun e => hvO k e.symm hk⟩
    · exact hR k hk
  · rcases hfresh g e with h | h
    · exact hvO g h ho
    · have := (hO g ho).1; omega
end Go.Proofs.Ytionbdkiclodoaa.App
