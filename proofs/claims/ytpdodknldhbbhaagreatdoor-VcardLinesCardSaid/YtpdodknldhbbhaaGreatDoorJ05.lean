/-
Texts joined in one file, each with its own conditions: append onto a row of the call's own: where the longer row lies. Conditions: those of the library's own law of append. · Cards in blocks of a set: what turns no such block leaves them as they are. No conditions.
-/
import Derived.Test.YtpdodknldhbbhaaGreatDoorJ01
import Derived.Shelf.Abstract
import Derived.OwnWalkIn
import Derived.Maps.AppendAt
import Derived.OpenShut
import Derived.Lib.Hide
import Derived.Lib.BufferRead
import Derived.Test.YtpdodknldhbbhaaGreatDoorJ02
namespace Go.Proofs.YtpdodknldhbbhaaGreatDoor.App
open Go.RowKit

/-- The longer row lies where the row lay, or in a new block. -/
theorem run_append_where {P : Program} (w : World) (base : Nat) (t ty e : TypeId) (i : TypeInfo) (z : Value) (size bytes : Nat) (ht : P.underlying t = some (.slice e)) (hi : P.info? e = some i) (hz : i.zero = some z)
    (hsize : i.size = size) (hby : i.bytes = bytes) (hzs : z.cells.size = size) (hsz : 0 < size)
    (v : Value) (n : Nat) (xs : List Value) (hown : w.ownsRow base e size v n xs)
    (a : Addr) (m c : Nat) (news : List Value) (hl : news.length = m * size) (hnews : ∀ j u, news[j]? = some u → w.cell? (a.add j) = some u) (h1 : ∀ u ∈ news, u.oneCell' = true)
    (h63 : n + m ≤ maxLen) (hbytes : (n + m) * bytes ≤ 140737488355328) (hbase : base ≤ w.heap.size) (hm : 0 < m) :
    ∃ v' w', (Builtin.append_ #[t, t] ty #[v, .slice (some a) m c]).run P w = .ok v' w' ∧ w'.ownsRow base e size v' (n + m) (xs ++ news) ∧ w.grownBy w' v.ownBlock ∧ (v'.ownBlock = v.ownBlock ∨ v'.ownBlock = some w.heap.size) := by
  obtain ⟨v', w', hrun, r1, r2, _⟩ := run_append_own (P := P) w base t ty e i z size bytes ht hi hz hsize hby hzs hsz v n xs hown a m c news hl hnews h1 h63 hbytes hbase
  refine ⟨v', w', hrun, r1, r2, ?_⟩
  subst hsize
  subst hby
  have hM : maxLen ≤ 9223372036854775807 := by decide
  rcases hown.2 with ⟨rfl, rfl⟩ | ⟨g, cap, cur, rfl, hbg, hg, hnc, hcm, hcs, htake⟩
  · have hr := run_append_nil (P := P) w t ty e i z ht hi hz a m c news hl hnews hm (by omega) (by have hb := hbytes; simp only [Nat.zero_add] at hb; omega)
    rw [hr] at hrun
    cases hrun
    exact .inr rfl
  · by_cases hroom : n + m ≤ cap
    · have hr := run_append_room (P := P) w t ty e i ht hi g n cap cur hg a m c news hl hnews h1 hroom (by rw [hl, hcs, ← Nat.add_mul]; exact Nat.mul_le_mul_right _ hroom)
      rw [hr] at hrun
      cases hrun
      exact .inl rfl
    · have hr := run_append_grow (P := P) w t ty e i z ht hi hz ⟨g, 0, none⟩ n cap xs hown.1 (hown.cells (g := g) rfl) a m c news hl hnews (by omega) (by omega) (growslice_fits (by omega) hbytes)
      rw [hr] at hrun
      cases hrun
      exact .inr rfl

/-- The walk over such an append. -/
theorem walk_append {F : Fence} {n : Nat} {P : Program} (w : World) {ops : Array Oper} {rest : List Oper} {o : Oper} {a : Act} {Q : Exit → Act → World → Prop}
    (hg : o.guard = none) (s x : Operand) (t : TypeId) (hop : o.op = Op.call { callee := Callee.builtin Builtin.append, args := #[s, x], argTypes := #[t, t] })
    (base : Nat) (e : TypeId) (i : TypeInfo) (z : Value) (size bytes : Nat) (h1 : P.underlying t = some (.slice e)) (h2 : P.info? e = some i) (h3 : i.zero = some z) (h4 : i.size = size) (h5 : i.bytes = bytes) (h6 : z.cells.size = size) (h7 : 0 < size)
    (v : Value) (k : Nat) (xs : List Value) (hs : a.eval s = v) (hown : w.ownsRow base e size v k xs) (ad : Addr) (m c : Nat) (news : List Value) (hx : a.eval x = .slice (some ad) m c) (hn : news.length = m * size)
    (hc : ∀ j u, news[j]? = some u → w.cell? (ad.add j) = some u) (h1c : ∀ u ∈ news, u.oneCell' = true) (b1 : k + m ≤ maxLen) (b2 : (k + m) * bytes ≤ 140737488355328) (b3 : base ≤ w.heap.size) (hm : 0 < m)
    (hK : ∀ v' w', w'.ownsRow base e size v' (k + m) (xs ++ news) → w.grownBy w' v.ownBlock → (v'.ownBlock = v.ownBlock ∨ v'.ownBlock = some w.heap.size) → wpListIn F n P ops Q rest (a.put o.dst v') w') :
    wpListIn F n P ops Q (o :: rest) a w := by
  obtain ⟨v', w', hrun, r1, r2, r3⟩ := run_append_where (P := P) w base t o.type e i z size bytes h1 h2 h3 h4 h5 h6 h7 v k xs hown ad m c news hn hc h1c b1 b2 b3 hm
  refine wpListIn_plain hg fun K hK' => ?_
  unfold Oper.wpIn
  rw [Oper.semAt_plain F _ _ (by rw [hop]; intro c hc'; cases hc')]
  refine ⟨?_, ?_⟩
  · simp [Oper.about, hop, resolve, Target.leads, Sem.run_pure]
  · simp only [execOp, hop, resolve, invoke, builtin, Sem.run_bind, Sem.run_pure, Result.andThen_ok, List.map_toArray, List.map_cons, List.map_nil, hs, hx, hrun]
    exact hK' _ _ (hK v' w' r1 r2 r3)

/-- 'out = append(out, ..)' where out lies in a box: behind the append, and behind the store. -/
theorem collect {V V1 : World} {n₀ B : Nat} {t e : TypeId} {size : Nat} {v v' : Value} {k m : Nat} {xs ys : List Value} {o : Obj} (hv : Boxed V B t v) (hte : t ≠ e) (hr : V.ownsRow n₀ e size v k xs)
    (hown : V1.ownsRow n₀ e size v' m ys) (hg : (V.alloc o).grownBy V1 v.ownBlock) (hw : v'.ownBlock = v.ownBlock ∨ v'.ownBlock = some (V.alloc o).heap.size) :
    Boxed V1 B t v ∧ Boxed (V1.setCell ⟨B, 0, none⟩ v') B t v' ∧ (V1.setCell ⟨B, 0, none⟩ v').ownsRow n₀ e size v' m ys ∧ (∀ g, v'.ownBlock = some g → v.ownBlock = some g ∨ V.heap.size ≤ g) ∧ Sq.Stays (fun k => k < V.heap.size ∧ k ≠ B ∧ some k ≠ v.ownBlock) V (V1.setCell ⟨B, 0, none⟩ v') := by
  have hne := hv.not_row hte hr
  have hS : Sq.Stays (fun k => k < V.heap.size ∧ some k ≠ v.ownBlock) V V1 := ((Sq.Stays.refl _ V).alloc o (fun k hk => hk.1)).grown hg (fun k hk => ⟨by have := hk.1; simp; omega, hk.2⟩)
  have b1 := hS.boxed (b := B) ⟨hv.lt, hne⟩ hv
  have hfresh : ∀ g, v'.ownBlock = some g → v.ownBlock = some g ∨ V.heap.size ≤ g := fun g e => by
    rcases hw with hw | hw
    · exact .inl (hw ▸ e)
    · rw [e] at hw; cases hw; right; simp
  have hS2 : Sq.Stays (fun k => k ≠ B) V1 (V1.setCell ⟨B, 0, none⟩ v') := (Sq.Stays.refl _ _).setCell _ _ (fun h => h rfl)
  refine ⟨b1, b1.set _, hS2.row hown (fun g e h => ?_), hfresh, (hS.mono fun k hk => ⟨hk.1, hk.2.2⟩).trans (hS2.mono fun k hk => hk.2.1)⟩
  subst h
  rcases hfresh g e with h | h
  · exact hne h.symm
  · have := hv.lt; omega
end Go.Proofs.YtpdodknldhbbhaaGreatDoor.App

namespace Go.Proofs.YtpdodknldhbbhaaGreatDoor.Vc
open Go.RowKit Pp Sq

/-- Parameters in a block of the set. -/
def PsF (w : World) (F : Nat → Prop) (v : Value) (ps : List (ByteArray × ByteArray)) : Prop :=
  (ps = [] ∧ (v = .slice none 0 0 ∨ ∃ ad cap, v = .slice (some ad) 0 cap)) ∨ ∃ b o cap, v = .slice (some ⟨b, o, none⟩) ps.length cap ∧ F b ∧ b < w.heap.size ∧ ∀ i, (h : i < ps.length) → w.cell? ⟨b, o + i * 2, none⟩ = some (.string ps[i].1) ∧ w.cell? ⟨b, o + i * 2 + 1, none⟩ = some (.string ps[i].2)
/-- A list of cards whose block is one of the set. -/
def AgF (w : World) (F : Nat → Prop) {α : Type} (C : α → Value → Prop) (l : List α) (v : Value) : Prop :=
  ∃ a c, v = .slice a l.length c ∧ (l ≠ [] → ∃ b o, a = some ⟨b, o, none⟩ ∧ F b ∧ b < w.heap.size) ∧ ∀ b o, a = some ⟨b, o, none⟩ → ∀ i (hi : i < l.length), ∃ sv, w.cell? ⟨b, o + i, none⟩ = some sv ∧ C l[i] sv
/-- The cells of a property. -/
def PcF (w : World) (F : Nat → Prop) {α : Type} (C : α → Value → Prop) (p : Pd × List α) (c0 c1 c2 c3 c4 : Value) : Prop :=
  c0 = .string p.1.g ∧ c1 = .string p.1.n ∧ c3 = .string p.1.v ∧ PsF w F c2 p.1.ps ∧ AgF w F C p.2 c4
/-- A list of properties. -/
def PlF (w : World) (F : Nat → Prop) {α : Type} (C : α → Value → Prop) (l : List (Pd × List α)) (v : Value) : Prop :=
  ∃ a c, v = .slice a l.length c ∧ (l ≠ [] → ∃ b o, a = some ⟨b, o, none⟩ ∧ F b ∧ b < w.heap.size) ∧ ∀ b o, a = some ⟨b, o, none⟩ → ∀ j (hj : j < l.length), ∃ c0 c1 c2 c3 c4,
    w.cell? ⟨b, o + j * 5, none⟩ = some c0 ∧ w.cell? ⟨b, o + j * 5 + 1, none⟩ = some c1 ∧ w.cell? ⟨b, o + j * 5 + 2, none⟩ = some c2 ∧ w.cell? ⟨b, o + j * 5 + 3, none⟩ = some c3 ∧ w.cell? ⟨b, o + j * 5 + 4, none⟩ = some c4 ∧ PcF w F C l[j] c0 c1 c2 c3 c4
def CAf (w : World) (F : Nat → Prop) : Nat → Crd → Value → Prop
  | 0, _, _ => False
  | k + 1, c, sv => PlF w F (CAf w F k) c.ps sv

section
variable {w w' : World} {F F' : Nat → Prop}
theorem stays_cell (hs : Stays (fun k => F k ∧ k < w.heap.size) w w') {b o : Nat} (hb : F b) (hlt : b < w.heap.size) : w'.cell? ⟨b, o, none⟩ = w.cell? ⟨b, o, none⟩ := World.cell?_of_block (a := ⟨b, o, none⟩) (hs.block b ⟨hb, hlt⟩)
theorem PsF.move (hs : Stays (fun k => F k ∧ k < w.heap.size) w w') (hF : ∀ b, F b → b < w.heap.size → F' b) {v : Value} {ps : List (ByteArray × ByteArray)} (h : PsF w F v ps) : PsF w' F' v ps := by
  rcases h with h | ⟨b, o, cap, h1, h2, h3, h4⟩
  · exact .inl h
  · exact .inr ⟨b, o, cap, h1, hF b h2 h3, Nat.lt_of_lt_of_le h3 hs.size, fun i hi => ⟨(stays_cell hs h2 h3).trans (h4 i hi).1, (stays_cell hs h2 h3).trans (h4 i hi).2⟩⟩
theorem AgF.move (hs : Stays (fun k => F k ∧ k < w.heap.size) w w') (hF : ∀ b, F b → b < w.heap.size → F' b) {α : Type} {C C' : α → Value → Prop} (hC : ∀ a v, C a v → C' a v) {l : List α} {v : Value} (h : AgF w F C l v) : AgF w' F' C' l v := by
  obtain ⟨a, c, rfl, h1, h2⟩ := h
  refine ⟨a, c, rfl, fun hl => ?_, fun b o e i hi => ?_⟩
  · obtain ⟨b, o, e, hb, hbw⟩ := h1 hl; exact ⟨b, o, e, hF b hb hbw, Nat.lt_of_lt_of_le hbw hs.size⟩
  · obtain ⟨b', o', e', hb, hbw⟩ := h1 (fun h => by rw [h] at hi; simp at hi)
    rw [e] at e'; cases e'
    obtain ⟨sv, c0, hsv⟩ := h2 b o e i hi
    exact ⟨sv, (stays_cell hs hb hbw).trans c0, hC _ _ hsv⟩
theorem PcF.move (hs : Stays (fun k => F k ∧ k < w.heap.size) w w') (hF : ∀ b, F b → b < w.heap.size → F' b) {α : Type} {C C' : α → Value → Prop} (hC : ∀ a v, C a v → C' a v) {p : Pd × List α} {c0 c1 c2 c3 c4 : Value} (h : PcF w F C p c0 c1 c2 c3 c4) : PcF w' F' C' p c0 c1 c2 c3 c4 :=
  ⟨h.1, h.2.1, h.2.2.1, h.2.2.2.1.move hs hF, h.2.2.2.2.move hs hF hC⟩
theorem PlF.move (hs : Stays (fun k => F k ∧ k < w.heap.size) w w') (hF : ∀ b, F b → b < w.heap.size → F' b) {α : Type} {C C' : α → Value → Prop} (hC : ∀ a v, C a v → C' a v) {l : List (Pd × List α)} {v : Value} (h : PlF w F C l v) : PlF w' F' C' l v := by
  obtain ⟨a, c, rfl, h1, h2⟩ := h
  refine ⟨a, c, rfl, fun hl => ?_, fun b o e j hj => ?_⟩
  · obtain ⟨b, o, e, hb, hbw⟩ := h1 hl; exact ⟨b, o, e, hF b hb hbw, Nat.lt_of_lt_of_le hbw hs.size⟩
  · obtain ⟨b', o', e', hb, hbw⟩ := h1 (fun h => by rw [h] at hj; simp at hj)
    rw [e] at e'; cases e'
    obtain ⟨c0, c1, c2, c3, c4, e0, e1, e2, e3, e4, hp⟩ := h2 b o e j hj
    exact ⟨c0, c1, c2, c3, c4, (stays_cell hs hb hbw).trans e0, (stays_cell hs hb hbw).trans e1, (stays_cell hs hb hbw).trans e2, (stays_cell hs hb hbw).trans e3, (stays_cell hs hb hbw).trans e4, hp.move hs hF hC⟩
/-- Cards where their blocks lie as they lay; the set may have grown. -/
theorem CAf.move (hs : Stays (fun k => F k ∧ k < w.heap.size) w w') (hF : ∀ b, F b → b < w.heap.size → F' b) : ∀ {k : Nat} {c : Crd} {v : Value}, CAf w F k c v → CAf w' F' k c v := by
  intro k
  induction k with
  | zero => intro c v h; exact h.elim
  | succ k ih => intro c v h; exact PlF.move hs hF (fun _ _ h => ih h) h
/-- As cards below a block. -/
theorem PsF.ps {v : Value} {ps : List (ByteArray × ByteArray)} (h : PsF w F v ps) : Ps w w.heap.size v ps := by
  rcases h with h | ⟨b, o, cap, h1, h2, h3, h4⟩
  · exact .inl h
  · exact .inr ⟨b, o, cap, h1, h3, h4⟩
theorem AgF.ag {α : Type} {C C' : α → Value → Prop} (hC : ∀ a v, C a v → C' a v) {l : List α} {v : Value} (h : AgF w F C l v) : AgAt w w.heap.size C' l v := by
  obtain ⟨a, c, rfl, h1, h2⟩ := h
  refine ⟨a, c, rfl, fun hl => ?_, fun b o e i hi => ?_⟩
  · obtain ⟨b, o, e, hb, hbw⟩ := h1 hl; exact ⟨b, o, e, hbw⟩
  · obtain ⟨sv, c0, hsv⟩ := h2 b o e i hi
    exact ⟨sv, c0, hC _ _ hsv⟩
theorem CAf.ca : ∀ {k : Nat} {c : Crd} {v : Value}, CAf w F k c v → CAt w w.heap.size k c v := by
  intro k
  induction k with
  | zero => intro c v h; exact h.elim
  | succ k ih =>
    intro c v h
    obtain ⟨a, cp, rfl, h1, h2⟩ := h
    refine ⟨a, cp, rfl, fun hl => ?_, fun b o e j hj => ?_⟩
    · obtain ⟨b, o, e, hb, hbw⟩ := h1 hl; exact ⟨b, o, e, hbw⟩
    · obtain ⟨c0, c1, c2, c3, c4, e0, e1, e2, e3, e4, hp⟩ := h2 b o e j hj
      obtain ⟨rfl, rfl, rfl, hps, hag⟩ := hp
      exact ⟨c2, c4, e0, e1, e2, e3, e4, hps.ps, hag.ag (fun _ _ h => ih h)⟩
theorem CAf.one {k : Nat} {c : Crd} {v : Value} (h : CAf w F k c v) : ∃ a n cp, v = .slice a n cp := h.ca.one
/-- A list without cards. -/
theorem AgF.nil {α : Type} {C : α → Value → Prop} : AgF w F C ([] : List α) (.slice none 0 0) := ⟨none, 0, rfl, fun h => absurd rfl h, fun _ _ e => by cases e⟩
end
end Go.Proofs.YtpdodknldhbbhaaGreatDoor.Vc
