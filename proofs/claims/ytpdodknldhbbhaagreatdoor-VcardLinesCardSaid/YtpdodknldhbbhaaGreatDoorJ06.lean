/-
Texts joined in one file, each with its own conditions: Cards within cards, level by level, in plain words, and cards in memory whose cells are not frozen. No program in it but its types, no conditions. · The lists of cards of a next level while they are gathered. Conditions: those that each theorem states. · The lists of cards right within those of a level: the program gathers some of them, each at most once. Conditions: the level's lists lie below the caller's blocks, not frozen; at most 2^20 lists on it and on the next. · Deep, whatever its maps of places say: some number of cards within one another, from 1 on, and just 1 if no property has a card. Conditions: the card lies unfrozen below the caller's blocks; no level of it has more than 2^20 lists. · Rows of bytes that a call itself makes: what they hold, what an append does to them, and that they become a text again. No conditions of its own. · A text's bytes as a row of the call's own: what it holds, that it may be written, and its text again. No conditions of its own. · The document's capitals of a text (layer 8): byte by byte. Conditions: the text has at most 2^47 bytes. · The document's capitals of a text (layer 10): byte by byte. Conditions: the text has at most 2^47 bytes.
-/
import Derived.Test.YtpdodknldhbbhaaGreatDoorJ02
import Derived.Test.YtpdodknldhbbhaaGreatDoorJ04
import Derived.Test.YtpdodknldhbbhaaGreatDoorJ05
import Derived.Deep.AppendLies
import Derived.LoopIn
import Derived.Test.YtpdodknldhbbhaaGreatDoorRows
import Derived.WalkKit
import Derived.ProofKit
import Derived.OpenShut
import Derived.Lib.Hide
import Derived.Lib.BufferRead
import Derived.Deep.Draws
import Derived.Laws.IdiomStrings
import Derived.Test.YtpdodknldhbbhaaGreatDoorJ03
namespace Go.Proofs.YtpdodknldhbbhaaGreatDoor.Dp
set_option maxRecDepth 100000
open Go.RowKit Vc

/-- The lists of cards right within properties. -/
def kidsP (l : List (Pd × List Crd)) : List (List Crd) := (l.map (·.2)).filter fun T => !T.isEmpty
def kidsT (T : List Crd) : List (List Crd) := T.flatMap fun t => kidsP t.ps
def kidsL (TL : List (List Crd)) : List (List Crd) := TL.flatMap kidsT
theorem kidsP_app (a b : List (Pd × List Crd)) : kidsP (a ++ b) = kidsP a ++ kidsP b := by unfold kidsP; rw [List.map_append, List.filter_append]
theorem kidsT_app (a b : List Crd) : kidsT (a ++ b) = kidsT a ++ kidsT b := by unfold kidsT; rw [List.flatMap_append]
theorem kidsL_app (a b : List (List Crd)) : kidsL (a ++ b) = kidsL a ++ kidsL b := by unfold kidsL; rw [List.flatMap_append]
theorem sub_flatMap {α β : Type} (f : α → List β) {a b : List α} (h : a.Sublist b) : (a.flatMap f).Sublist (b.flatMap f) := by
  induction h with
  | slnil => exact List.Sublist.refl _
  | cons x _ ih => rw [List.flatMap_cons]; exact ih.trans (List.sublist_append_right _ _)
  | cons_cons x _ ih => rw [List.flatMap_cons, List.flatMap_cons]; exact (List.Sublist.refl _).append ih
theorem take_sub {α : Type} (l : List α) {s x : Nat} (h : s ≤ x) : (l.take s).Sublist (l.take x) := (List.take_prefix_take_left h).sublist
theorem kidsP_sub {a b : List (Pd × List Crd)} (h : a.Sublist b) : (kidsP a).Sublist (kidsP b) := (h.map _).filter _
theorem kidsT_sub {a b : List Crd} (h : a.Sublist b) : (kidsT a).Sublist (kidsT b) := sub_flatMap _ h
theorem kidsL_sub {a b : List (List Crd)} (h : a.Sublist b) : (kidsL a).Sublist (kidsL b) := sub_flatMap _ h
/-- One property more. -/
theorem props_step {G acc : List (List Crd)} {ps : List (Pd × List Crd)} {s x : Nat} (h : acc.Sublist (G ++ kidsP (ps.take s))) (hs : s ≤ x) (hx : x < ps.length) :
    (ps[x].2 = [] → acc.Sublist (G ++ kidsP (ps.take (x + 1)))) ∧ (ps[x].2 ≠ [] → (acc ++ [ps[x].2]).Sublist (G ++ kidsP (ps.take (x + 1)))) := by
  have h1 : acc.Sublist (G ++ kidsP (ps.take x)) := h.trans ((List.Sublist.refl _).append (kidsP_sub (take_sub ps hs)))
  rw [List.take_succ_eq_append_getElem hx, kidsP_app, ← List.append_assoc]
  constructor
  · intro _; exact h1.trans (List.sublist_append_left _ _)
  · intro hne
    have : kidsP [ps[x]] = [ps[x].2] := by
      unfold kidsP
      rw [List.map_cons, List.map_nil, List.filter_cons, if_pos (by simp [hne])]; rfl
    rw [this]
    exact h1.append (List.Sublist.refl _)
/-- All of a card's properties. -/
theorem props_all {G acc : List (List Crd)} {ps : List (Pd × List Crd)} {s : Nat} (h : acc.Sublist (G ++ kidsP (ps.take s))) : acc.Sublist (G ++ kidsP ps) :=
  h.trans ((List.Sublist.refl _).append (kidsP_sub (List.take_sublist s ps)))
theorem cards_start {G acc : List (List Crd)} {T : List Crd} {s x : Nat} (h : acc.Sublist (G ++ kidsT (T.take s))) (hs : s ≤ x) : acc.Sublist (G ++ kidsT (T.take x)) :=
  h.trans ((List.Sublist.refl _).append (kidsT_sub (take_sub T hs)))
theorem cards_step {G acc : List (List Crd)} {T : List Crd} {x : Nat} (hx : x < T.length) (h : acc.Sublist (G ++ kidsT (T.take x) ++ kidsP T[x].ps)) : acc.Sublist (G ++ kidsT (T.take (x + 1))) := by
  rw [List.take_succ_eq_append_getElem hx, kidsT_app, ← List.append_assoc]
  have : kidsT [T[x]] = kidsP T[x].ps := by simp [kidsT]
  rw [this]; exact h
theorem cards_all {G acc : List (List Crd)} {T : List Crd} {s : Nat} (h : acc.Sublist (G ++ kidsT (T.take s))) : acc.Sublist (G ++ kidsT T) :=
  h.trans ((List.Sublist.refl _).append (kidsT_sub (List.take_sublist s T)))
theorem lists_step {acc : List (List Crd)} {TL : List (List Crd)} {i : Nat} (hi : i < TL.length) (h : acc.Sublist (kidsL (TL.take i) ++ kidsT TL[i])) : acc.Sublist (kidsL (TL.take (i + 1))) := by
  rw [List.take_succ_eq_append_getElem hi, kidsL_app]
  have : kidsL [TL[i]] = kidsT TL[i] := by simp [kidsL]
  rw [this]; exact h
theorem take_len {acc : List (List Crd)} {TL : List (List Crd)} {i : Nat} (h : acc.Sublist (kidsL (TL.take i))) : acc.Sublist (kidsL TL) := h.trans (kidsL_sub (List.take_sublist i TL))

/-- A card's cells are not frozen, nor those of the cards within it. -/
def NfC (w : World) : Nat → Crd → Value → Prop
  | 0, _, _ => True
  | k + 1, t, sv => ∀ b o n c, sv = .slice (some ⟨b, o, none⟩) n c → ∀ j (hj : j < t.ps.length), Ka w ⟨b, o + j * 5, none⟩ ∧
      ∀ av, w.cell? ⟨b, o + j * 5 + 4, none⟩ = some av → ∀ b2 o2 n2 c2, av = .slice (some ⟨b2, o2, none⟩) n2 c2 → ∀ i (hi : i < (t.ps[j]).2.length), Ka w ⟨b2, o2 + i, none⟩ ∧ ∀ sv', w.cell? ⟨b2, o2 + i, none⟩ = some sv' → NfC w k (t.ps[j]).2[i] sv'
/-- A list of cards, some, not frozen, none of its lists too long. -/
structure Cd (w : World) (B k : Nat) (T : List Crd) (v : Value) : Prop where
  a : AgAt w B (CAt w B k) T v
  n : T ≠ []
  f : ∀ b o n c, v = .slice (some ⟨b, o, none⟩) n c → ∀ i (hi : i < T.length), Ka w ⟨b, o + i, none⟩ ∧ ∀ sv, w.cell? ⟨b, o + i, none⟩ = some sv → NfC w k T[i] sv
  l : T.length ≤ 1099511627776
  t : ∀ t ∈ T, Fits k t
/-- The cards within are such lists, too. -/
theorem kids_cd {w : World} {B k : Nat} {t : Crd} {b o n c : Nat} (hc : CAt w B (k + 1) t (.slice (some ⟨b, o, none⟩) n c)) (hf : NfC w (k + 1) t (.slice (some ⟨b, o, none⟩) n c)) (ht : Fits (k + 1) t) {j : Nat} (hj : j < t.ps.length) :
    n = t.ps.length ∧ b < B ∧ Ka w ⟨b, o + j * 5, none⟩ ∧ ∃ av, w.cell? ⟨b, o + j * 5 + 4, none⟩ = some av ∧ AgAt w B (CAt w B k) (t.ps[j]).2 av ∧ ((t.ps[j]).2 ≠ [] → Cd w B k (t.ps[j]).2 av) := by
  have hc' : PlAt w B (CAt w B k) t.ps (.slice (some ⟨b, o, none⟩) n c) := hc
  have hn : n = t.ps.length := by obtain ⟨a', c', e, _⟩ := hc'; cases e; rfl
  obtain ⟨b', o', pv, av, e, hb, _, _, _, _, hav, _, hag⟩ := hc'.at_ hj
  cases e
  obtain ⟨hk, hfa⟩ := hf b o n c rfl j hj
  have ht' := (ht.2 _ (List.getElem_mem hj))
  exact ⟨hn, hb, hk, av, hav, hag, fun hne => ⟨hag, hne, fun b2 o2 n2 c2 e i hi => hfa av hav b2 o2 n2 c2 e i hi, ht'.1.2, ht'.2⟩⟩
/-- The lists of cards on a level. -/
def lvl (c : Crd) : Nat → List (List Crd)
  | 0 => [[c]]
  | j + 1 => kidsL (lvl c j)
end Go.Proofs.YtpdodknldhbbhaaGreatDoor.Dp

namespace Go.Proofs.YtpdodknldhbbhaaGreatDoor.Dp
set_option maxRecDepth 100000
open Go.RowKit Vc Sq

theorem infoS : (Tryz.prog.info? 49).map (fun i => (i.zero, i.size, i.bytes)) = some (some (.slice none 0 0), 1, 24) := by kernel_rfl
/-- The box of a call's own, the first one, holds a row of lists of cards, some of G. Its row's block is none of Y. -/
def Nx (w W : World) (k : Nat) (Y : Nat → Prop) (G : List (List Crd)) : Prop :=
  ∃ (acc : List (List Crd)) (v : Value) (vs : List Value), acc.Sublist G ∧ Boxed W w.heap.size 70 v ∧ W.ownsRow (w.heap.size + 4) 49 1 v acc.length vs ∧
    (∀ i (h : i < acc.length), ∃ u, vs[i]? = some u ∧ Cd w w.heap.size k acc[i] u) ∧ (∀ g, v.ownBlock = some g → ¬ Y g) ∧ Below w.heap.size w W
theorem Nx.mono {w W : World} {k : Nat} {Y Y' : Nat → Prop} {G G' : List (List Crd)} (h : Nx w W k Y G) (hY : ∀ g, Y' g → Y g) (hG : ∀ acc : List (List Crd), acc.Sublist G → acc.Sublist G') : Nx w W k Y' G' := by
  obtain ⟨acc, v, vs, h1, h2, h3, h4, h5, h6⟩ := h
  exact ⟨acc, v, vs, hG _ h1, h2, h3, h4, fun g e hy => h5 g e (hY g hy), h6⟩
theorem nx_stays {w A B : World} {k : Nat} {Y Y' : Nat → Prop} {G : List (List Crd)} (h : Nx w A k Y G) (hS : ∀ v : Value, (∀ g, v.ownBlock = some g → g < A.heap.size ∧ ¬ Y g) → Stays (fun j => j ≤ w.heap.size ∨ v.ownBlock = some j) A B) (hY' : ∀ g, g < A.heap.size → Y' g → Y g) : Nx w B k Y' G := by
  obtain ⟨acc, v, vs, h1, h2, h3, h4, h5, h6⟩ := h
  have hlt := own_lt h3
  have hs := hS v (fun g e => ⟨(hlt g e).2, h5 g e⟩)
  exact ⟨acc, v, vs, h1, hs.boxed (.inl (Nat.le_refl _)) h2, hs.row h3 (fun g e => .inr e), h4, fun g e hy => h5 g e (hY' g (hlt g e).2 hy), h6.trans (hs.below fun j hj => .inl (Nat.le_of_lt hj))⟩
theorem nx_foot {w : World} {k H : Nat} {M Z : Nat → Prop} {G : List (List Crd)} (hM : ∀ j, M j → w.heap.size < j) (hH : w.heap.size < H) : Sm.FootM M H (fun O W => Nx w W k (fun g => O g ∨ Z g) G) := by
  intro O O' A B h hO hS hO'
  have hno : ∀ j, j ≤ w.heap.size → ¬ O j := fun j hj ho => by
    rcases hO j ho with h | h
    · have := hM j h; omega
    · omega
  have hsz : w.heap.size < A.heap.size := by obtain ⟨_, _, _, _, h2, _⟩ := h; exact h2.lt
  refine nx_stays h (fun v hv => hS.mono fun j hj => ?_) (fun g hg hy => ?_)
  · rcases hj with hj | hj
    · exact ⟨by omega, hno j hj⟩
    · exact ⟨(hv j hj).1, fun ho => (hv j hj).2 (.inl ho)⟩
  · rcases hy with hy | hy
    · rcases hO' g hy with h | h
      · exact .inl h
      · omega
    · exact .inr hy
/-- A foot that is kept by what lies in certain blocks. -/
theorem foot_pm {M Kb : Nat → Prop} {H b : Nat} (hb : ¬ M b ∧ b < H) (hk : ∀ j, Kb j → ¬ M j ∧ j < H) : Sm.FootM M H (fun (_ : Nat → Prop) W => Pm Kb W b ∧ H ≤ W.heap.size) := by
  intro O O' A B h hO hS _
  have no : ∀ j, ¬ M j ∧ j < H → ¬ O j := fun j hj ho => by
    rcases hO j ho with h | h
    · exact hj.1 h
    · omega
  exact ⟨h.1.kept (hS.block b ⟨h.1.lt, no b hb⟩) (fun j hj => hS.block j ⟨by have := (hk j hj).2; have := h.2; omega, no j (hk j hj)⟩), Nat.le_trans h.2 hS.size⟩
theorem foot_boxed {M : Nat → Prop} {H b : Nat} {t : TypeId} {v : Value} (hb : ¬ M b ∧ b < H) : Sm.FootM M H (fun (_ : Nat → Prop) W => Boxed W b t v) := by
  intro O O' A B h hO hS _
  refine (hS.block b ⟨Boxed.lt h, fun ho => ?_⟩).trans h
  rcases hO b ho with h | h
  · exact hb.1 h
  · omega
theorem foot_stays {M Z : Nat → Prop} {H : Nat} {w : World} (hz : ∀ j, Z j → ¬ M j ∧ j < H ∧ j < w.heap.size) : Sm.FootM M H (fun (_ : Nat → Prop) W => Stays Z w W) := by
  intro O O' A B h hO hS _
  refine h.trans (hS.mono fun j hj => ⟨by have := (hz j hj).2.2; have := h.size; omega, fun ho => ?_⟩)
  rcases hO j ho with h | h
  · exact (hz j hj).1 h
  · have := (hz j hj).2.1; omega
theorem foot_and {M : Nat → Prop} {H : Nat} {I J : (Nat → Prop) → World → Prop} (hI : Sm.FootM M H I) (hJ : Sm.FootM M H J) : Sm.FootM M H (fun O W => I O W ∧ J O W) :=
  fun O O' A B h hO hS hO' => ⟨hI O O' A B h.1 hO hS hO', hJ O O' A B h.2 hO hS hO'⟩

/-- append of one list of cards onto the row in the box. -/
theorem nx_append {w V : World} {k : Nat} {Y : Nat → Prop} {G : List (List Crd)} {acc : List (List Crd)} {v : Value} {vs : List Value} {T : List Crd} {u : Value} (hG : (acc ++ [T]).Sublist G) (hb : Boxed V w.heap.size 70 v)
    (hr : V.ownsRow (w.heap.size + 4) 49 1 v acc.length vs) (hc : ∀ i (h : i < acc.length), ∃ u, vs[i]? = some u ∧ Cd w w.heap.size k acc[i] u) (hY : ∀ g, v.ownBlock = some g → ¬ Y g) (hB : Below w.heap.size w V) (hT : Cd w w.heap.size k T u) (hN : w.heap.size + 4 ≤ V.heap.size)
    (hYl : ∀ j, Y j → j < V.heap.size ∧ j ≠ w.heap.size) (hlen : acc.length + 1 ≤ 1048576) :
    ∃ v' V2, (∀ ty, (Builtin.append_ #[70, 70] ty #[v, .slice (some ⟨V.heap.size, 0, none⟩) 1 1]).run Tryz.prog (V.drew.alloc (.cells #[u] 49)) = .ok v' V2) ∧ V2.cell? ⟨w.heap.size, 0, none⟩ = some v ∧ V2.frozen? ⟨w.heap.size, 0, none⟩ = false ∧
      Nx w (V2.setCell ⟨w.heap.size, 0, none⟩ v') k Y G ∧ Stays Y V (V2.setCell ⟨w.heap.size, 0, none⟩ v') ∧ Boxed V2 w.heap.size 70 v ∧ V.heap.size ≤ (V2.setCell ⟨w.heap.size, 0, none⟩ v').heap.size ∧ (∀ j, j < V.heap.size → j ≠ w.heap.size → v.ownBlock ≠ some j → (V2.setCell ⟨w.heap.size, 0, none⟩ v').heap[j]? = V.heap[j]?) := by
  obtain ⟨i0, hi, hz0, hz1, hz2⟩ := info_parts infoS
  have hne : 70 ≠ 49 := by decide
  have hbd : Boxed V.drew w.heap.size 70 v := hb
  have hrd : V.drew.ownsRow (w.heap.size + 4) 49 1 v acc.length vs := hr
  have hnew := heap_alloc_new V.drew (.cells #[u] 49)
  have hns : ∀ j x, [u][j]? = some x → (V.drew.alloc (.cells #[u] 49)).cell? (Addr.add ⟨V.heap.size, 0, none⟩ j) = some x := World.news_of_block (cs := #[u]) (t := 49) (fr := (0, 0)) hnew
  have hu : u.oneCell' = true := by obtain ⟨a, c, rfl, _⟩ := hT.a; rfl
  have hone : ∀ x ∈ [u], x.oneCell' = true := fun x hx => by rw [List.mem_singleton] at hx; rw [hx]; exact hu
  have hr1 := World.ownsRow.alloc hrd (.cells #[u] 49)
  have hz : (V.drew.alloc (.cells #[u] 49)).heap.size = V.heap.size + 1 := World.size_alloc _ _
  obtain ⟨v', V2, hrun, r1, r2, r3⟩ := App.run_append_where (P := Tryz.prog) (ty := 49) (V.drew.alloc (.cells #[u] 49)) (w.heap.size + 4) 70 49 i0 (.slice none 0 0) 1 24 Tryz.underlying70 hi hz0 hz1 hz2 rfl (by decide) v _ _ hr1 ⟨V.heap.size, 0, none⟩ 1 1 [u] rfl hns hone (by unfold maxLen; omega) (by omega) (by omega) (by decide)
  obtain ⟨c1, c2, c3, c4, c5⟩ := App.collect (o := .cells #[u] 49) hbd hne hrd r1 r2 r3
  refine ⟨v', V2, fun ty => by rw [← hrun]; rfl, c1.cell, c1.frozen, ?_, ?_, c1, ?_, ?_⟩
  · refine ⟨acc ++ [T], v', vs ++ [u], hG, c2, by rw [List.length_append]; exact c3, fun i h => ?_, fun g e hy => ?_, ?_⟩
    · rcases Nat.lt_or_ge i acc.length with hlt | hge
      · obtain ⟨x, hx, hcx⟩ := hc i hlt
        refine ⟨x, ?_, by rw [List.getElem_append_left hlt]; exact hcx⟩
        rw [List.getElem?_append_left (by exact (List.getElem?_eq_some_iff.1 hx).1)]; exact hx
      · rw [List.length_append, List.length_singleton] at h
        obtain rfl : i = acc.length := by omega
        have hvl : vs.length = acc.length := by have := hr.1; omega
        refine ⟨u, ?_, ?_⟩
        · rw [List.getElem?_append_right (by omega), hvl, Nat.sub_self]; rfl
        · simpa using hT
    · rcases c4 g e with h | h
      · exact hY g h hy
      · have := (hYl g hy).1; have h' : V.heap.size ≤ g := h; omega
    · have s := c5.mono (O' := fun j => j < w.heap.size) fun j hj => by
        have hj' : j < w.heap.size := hj
        exact ⟨by show j < V.heap.size; omega, by omega, fun e => by have := (own_lt hr j e.symm).1; omega⟩
      exact hB.trans ⟨s.os, s.tape, s.output, s.size, s.block⟩
  · have s := c5.mono (O' := Y) fun j hj => ⟨(hYl j hj).1, (hYl j hj).2, fun e => hY j e.symm hj⟩
    exact ⟨s.os, s.tape, s.output, s.size, s.block⟩
  · have := c5.size; exact this
  · intro j h1 h2 h3
    exact c5.block j ⟨h1, h2, fun e => h3 e.symm⟩
end Go.Proofs.YtpdodknldhbbhaaGreatDoor.Dp

namespace Go.Proofs.YtpdodknldhbbhaaGreatDoor.Dp
set_option maxRecDepth 100000
open Go.RowKit Vc Sq
attribute [local go_sem] Oper.semAt_some

/-- An append as a step of a region that draws its order, inside a fence. -/
theorem stepIn_append {F : Fence} {n : Nat} {P : Program} {ops : Array Oper} {o : Oper} {a : Act} {w : World} {K : Act → World → Prop} {Q : Exit → Act → World → Prop} {E : Prop} (hgd : o.guard = none) (s x : Operand) (t : TypeId)
    (hop : o.op = Op.call { callee := Callee.builtin Builtin.append, args := #[s, x], argTypes := #[t, t] }) {v u r : Value} {w' : World} (hs : a.eval s = v) (hx : a.eval x = u)
    (hrun : (Builtin.append_ #[t, t] o.type #[v, u]).run P w = .ok r w') (hK : K (a.put o.dst r) w') :
    if Region.wanted o (yielded ops a.tmps) = true then Oper.wpIn F n P o a w K Q else E := by
  have hw : Region.wanted o (yielded ops a.tmps) = true := by simp [Region.wanted, hgd]
  rw [if_pos hw]
  unfold Oper.wpIn
  refine ⟨?_, ?_⟩
  · simp [Oper.about, hop, resolve, Target.leads, Sem.run_pure]
  · rw [Oper.semAt_plain F _ _ (by rw [hop]; intro c hc'; cases hc')]
    simp [execOp, hop, resolve, invoke, builtin, hs, hx, hrun, Result.andThen]
    exact hK
theorem leaves_marks {F : Fence} {n : Nat} {P : Program} {fn : Func} {tmps : Array Value} {R : Ending → World → Prop} : ∀ (Ds : List Nat) (W : World), Ds.Nodup → (∀ D ∈ Ds, W.heap[D]? = some (.deferred (some []))) →
    (∀ W', Stays (fun j => j ∉ Ds) W W' → LeavesInM F n P fn tmps R [] .returning W') → LeavesInM F n P fn tmps R (Ds.map fun D => { target := .collected D, args := #[] }) .returning W
  | [], W, _, _, h => h W (Stays.refl _ _)
  | D :: Ds, W, hnd, hd, h => by
    have hD := hd D (List.mem_cons_self ..)
    rw [List.nodup_cons] at hnd
    refine ⟨by simp, .inl ⟨_, _, rfl, run_takeDeferred hD, leaves_marks Ds _ hnd.2 (fun E hE => ?_) (fun W' hS => h W' ?_)⟩⟩
    · have hne : E ≠ D := fun e => hnd.1 (by rw [← e]; exact hE)
      exact (World.putObj_heap_other hne).trans (hd E (List.mem_cons_of_mem _ hE))
    · exact ((Stays.refl _ W).putObj D _ (fun h => h (List.mem_cons_self ..))).trans (hS.mono fun j hj hm => hj (List.mem_cons_of_mem _ hm))

/-- The loop over a level's lists, between its rounds. -/
structure Wl (w W : World) (k i : Nat) (TL : List (List Crd)) (Ds : List Nat) : Prop where
  x : Nx w W k (fun j => j ∈ Ds) (kidsL (TL.take i))
  c : Pm (fun j => j < w.heap.size) W (w.heap.size + 1)
  p : Pm (fun j => j < w.heap.size) W (w.heap.size + 1 + 1)
  b : Boxed W (w.heap.size + 1 + 1 + 1) 101 (.map (some (w.heap.size + 1 + 1)))
  nd : Ds.Nodup
  d : ∀ D ∈ Ds, W.heap[D]? = some (.deferred (some [])) ∧ w.heap.size + 4 ≤ D
theorem Wl.size {w W : World} {k i : Nat} {TL : List (List Crd)} {Ds : List Nat} (h : Wl w W k i TL Ds) : w.heap.size + 4 ≤ W.heap.size := by have := h.b.lt; omega
theorem Wl.below {w W : World} {k i : Nat} {TL : List (List Crd)} {Ds : List Nat} (h : Wl w W k i TL Ds) : Below w.heap.size w W := by obtain ⟨_, _, _, _, _, _, _, _, h6⟩ := h.x; exact h6
theorem wl_start (w : World) (k : Nat) (TL : List (List Crd)) : Wl w ((((w.alloc (.cells #[.slice none 0 0] 70)).alloc (.map #[] 0)).alloc (.map #[] 0)).alloc (.cells #[.map (some (w.heap.size + 1 + 1))] 101)) k 0 TL [] := by
  have z1 : (w.alloc (.cells #[.slice none 0 0] 70)).heap.size = w.heap.size + 1 := World.size_alloc _ _
  have z2 : ((w.alloc (.cells #[.slice none 0 0] 70)).alloc (.map #[] 0)).heap.size = w.heap.size + 1 + 1 := by rw [World.size_alloc, z1]
  have z3 : (((w.alloc (.cells #[.slice none 0 0] 70)).alloc (.map #[] 0)).alloc (.map #[] 0)).heap.size = w.heap.size + 1 + 1 + 1 := by rw [World.size_alloc, z2]
  have b1 := Boxed.new w 70 (.slice none 0 0)
  have m1 : Pm (fun j => j < w.heap.size) ((w.alloc (.cells #[.slice none 0 0] 70)).alloc (.map #[] 0)) (w.heap.size + 1) := by have := Pm.made (Kb := fun j => j < w.heap.size) (w.alloc (.cells #[.slice none 0 0] 70)); rwa [z1] at this
  have m2 : Pm (fun j => j < w.heap.size) (((w.alloc (.cells #[.slice none 0 0] 70)).alloc (.map #[] 0)).alloc (.map #[] 0)) (w.heap.size + 1 + 1) := by have := Pm.made (Kb := fun j => j < w.heap.size) ((w.alloc (.cells #[.slice none 0 0] 70)).alloc (.map #[] 0)); rwa [z2] at this
  have b3 := Boxed.new (((w.alloc (.cells #[.slice none 0 0] 70)).alloc (.map #[] 0)).alloc (.map #[] 0)) 101 (.map (some (w.heap.size + 1 + 1)))
  rw [z3] at b3
  have keep : ∀ (W : World) (o : Obj) j, j < W.heap.size → (W.alloc o).heap[j]? = W.heap[j]? := fun W o j hj => ((Below.refl W.heap.size W).alloc (Nat.le_refl _) o).block j hj
  have B : Below w.heap.size w ((((w.alloc (.cells #[.slice none 0 0] 70)).alloc (.map #[] 0)).alloc (.map #[] 0)).alloc (.cells #[.map (some (w.heap.size + 1 + 1))] 101)) := ((((Below.refl _ _).alloc (Nat.le_refl _) _).alloc (by omega) _).alloc (by omega) _).alloc (by omega) _
  refine ⟨⟨[], .slice none 0 0, [], List.nil_sublist _, ?_, World.ownsRow_nil _ _ _ _, fun i h => by simp at h, fun g e => by simp [Value.ownBlock] at e, B⟩, ?_, ?_, b3, List.nodup_nil, fun D h => by simp at h⟩
  · exact (keep _ _ _ (by omega)).trans ((keep _ _ _ (by omega)).trans ((keep _ _ _ (by omega)).trans b1))
  · exact (m1.kept (keep _ _ _ (by omega)) (fun j hj => keep _ _ _ (by omega))).kept (keep _ _ _ (by omega)) (fun j hj => keep _ _ _ (by omega))
  · exact m2.kept (keep _ _ _ (by omega)) (fun j hj => keep _ _ _ (by omega))

/-- What the outer range reads: what lay there before, and the boxes made for it. -/
def Ro (w : World) (z : Nat) : Nat → Prop := fun j => j < w.heap.size ∨ (z ≤ j ∧ j < z + 4)
/-- The outer range, between its rounds: W0 the world ahead of it. -/
def Io (w W0 : World) (k i z : Nat) (TL : List (List Crd)) (T : List Crd) (Ds : List Nat) (s : Nat) (O : Nat → Prop) (W : World) : Prop :=
  Nx w W k (fun g => O g ∨ (Ro w z g ∨ g ∈ Ds)) (kidsL (TL.take i) ++ kidsT (T.take s)) ∧ (Pm (fun j => j < w.heap.size) W (w.heap.size + 1 + 1) ∧ W0.heap.size ≤ W.heap.size) ∧ Boxed W (w.heap.size + 1 + 1 + 1) 101 (.map (some (w.heap.size + 1 + 1))) ∧ Stays (fun j => Ro w z j ∨ j ∈ Ds) W0 W
theorem io_foot {w W0 : World} {k i z : Nat} {TL : List (List Crd)} {T : List Crd} {Ds : List Nat} {s : Nat} (hz : w.heap.size + 4 ≤ z) (hz4 : z + 4 ≤ W0.heap.size) (hd : ∀ D ∈ Ds, w.heap.size + 4 ≤ D ∧ D < W0.heap.size) :
    Sm.FootM (fun j => j = w.heap.size + 1) W0.heap.size (Io w W0 k i z TL T Ds s) := by
  refine foot_and (nx_foot (fun j hj => by omega) (by omega)) (foot_and (foot_pm ⟨by omega, by omega⟩ (fun j hj => ⟨by omega, by omega⟩)) (foot_and (foot_boxed ⟨by omega, by omega⟩) (foot_stays fun j hj => ?_)))
  rcases hj with (hj | hj) | hj
  · exact ⟨by omega, by omega, by omega⟩
  · exact ⟨by omega, by omega, by omega⟩
  · have := hd j hj; exact ⟨by omega, by omega, by omega⟩
/-- The inner range, between its rounds: Z what the outer one holds; W2 the world ahead of this range. -/
def Ii (w W2 : World) (k : Nat) (Z : Nat → Prop) (G : List (List Crd)) (ps : List (Pd × List Crd)) (s : Nat) (O : Nat → Prop) (W : World) : Prop :=
  Nx w W k (fun g => O g ∨ Z g) (G ++ kidsP (ps.take s)) ∧ Boxed W (w.heap.size + 1 + 1 + 1) 101 (.map (some (w.heap.size + 1 + 1))) ∧ Stays (fun j => Z j) W2 W
theorem ii_foot {w W2 : World} {k : Nat} {Z : Nat → Prop} {G : List (List Crd)} {ps : List (Pd × List Crd)} {s : Nat} (hz : w.heap.size + 4 ≤ W2.heap.size) (hZ : ∀ j, Z j → j ≠ w.heap.size + 1 + 1 ∧ j < W2.heap.size) :
    Sm.FootM (fun j => j = w.heap.size + 1 + 1) W2.heap.size (Ii w W2 k Z G ps s) :=
  foot_and (nx_foot (fun j hj => by omega) (by omega)) (foot_and (foot_boxed ⟨by omega, by omega⟩) (foot_stays fun j hj => ⟨(hZ j hj).1, (hZ j hj).2, (hZ j hj).2⟩))
/-- The list in a world grown on, its row being none of more blocks. -/
theorem nx_grow {w A B : World} {k : Nat} {Y Y' : Nat → Prop} {G : List (List Crd)} (h : Nx w A k Y G) (hS : Stays (fun j => j < A.heap.size) A B) (hY' : ∀ g, w.heap.size + 4 ≤ g → g < A.heap.size → Y' g → Y g) : Nx w B k Y' G := by
  obtain ⟨acc, v, vs, h1, h2, h3, h4, h5, h6⟩ := h
  have hlt := own_lt h3
  exact ⟨acc, v, vs, h1, hS.boxed h2.lt h2, hS.row h3 (fun g e => (hlt g e).2), h4, fun g e hy => h5 g e (hY' g (hlt g e).1 (hlt g e).2 hy), h6.trans (hS.below fun j hj => by have := h2.lt; show j < A.heap.size; omega)⟩
theorem Nx.below {w W : World} {k : Nat} {Y : Nat → Prop} {G : List (List Crd)} (h : Nx w W k Y G) : Below w.heap.size w W := by obtain ⟨_, _, _, _, _, _, _, _, h6⟩ := h; exact h6
/-- What the inner range reads of a card. -/
theorem card_rd {w : World} {B k : Nat} {t : Crd} {sv : Value} (hc : CAt w B (k + 1) t sv) (hf : NfC w (k + 1) t sv) (ht : Fits (k + 1) t) :
    ∃ a' c' b o, sv = .slice a' t.ps.length c' ∧ (0 < t.ps.length → a' = some ⟨b, o, none⟩ ∧ b < B) ∧ ∀ j (hj : j < t.ps.length), Ka w ⟨b, o + j * 5, none⟩ ∧ ∃ av, w.cell? ⟨b, o + j * 5 + 4, none⟩ = some av ∧ AgAt w B (CAt w B k) (t.ps[j]).2 av ∧ ((t.ps[j]).2 ≠ [] → Cd w B k (t.ps[j]).2 av) := by
  obtain ⟨a', c', rfl⟩ := PlAt.len (show PlAt w B (CAt w B k) t.ps sv from hc)
  by_cases hp : 0 < t.ps.length
  · obtain ⟨b, o, _, _, rfl, hb, _⟩ := PlAt.at_ (show PlAt w B (CAt w B k) t.ps _ from hc) hp
    exact ⟨_, c', b, o, rfl, fun _ => ⟨rfl, hb⟩, fun j hj => by obtain ⟨_, _, h3, av, h4, h5, h6⟩ := kids_cd hc hf ht hj; exact ⟨h3, av, h4, h5, h6⟩⟩
  · exact ⟨a', c', 0, 0, rfl, fun h => absurd h hp, fun j hj => by omega⟩
/-- Four boxes more. -/
theorem stays4 (wr : World) (o1 o2 o3 o4 : Obj) : Stays (fun j => j < wr.heap.size) wr ((((wr.alloc o1).alloc o2).alloc o3).alloc o4) := by
  have z1 := World.size_alloc wr o1
  have z2 := World.size_alloc (wr.alloc o1) o2
  have z3 := World.size_alloc ((wr.alloc o1).alloc o2) o3
  exact ((((Stays.refl _ _).alloc _ (fun k hk => hk)).alloc _ (fun k hk => by omega)).alloc _ (fun k hk => by omega)).alloc _ (fun k hk => by omega)
theorem size4 (wr : World) (o1 o2 o3 o4 : Obj) : ((((wr.alloc o1).alloc o2).alloc o3).alloc o4).heap.size = wr.heap.size + 4 := by simp only [World.size_alloc]
theorem boxes4 (wr : World) (t1 t2 t3 t4 : TypeId) (v1 v2 v3 v4 : Value) : Boxed ((((wr.alloc (.cells #[v1] t1)).alloc (.cells #[v2] t2)).alloc (.cells #[v3] t3)).alloc (.cells #[v4] t4)) wr.heap.size t1 v1 ∧
    Boxed ((((wr.alloc (.cells #[v1] t1)).alloc (.cells #[v2] t2)).alloc (.cells #[v3] t3)).alloc (.cells #[v4] t4)) (wr.heap.size + 1) t2 v2 ∧ Boxed ((((wr.alloc (.cells #[v1] t1)).alloc (.cells #[v2] t2)).alloc (.cells #[v3] t3)).alloc (.cells #[v4] t4)) (wr.heap.size + 1 + 1) t3 v3 ∧
    Boxed ((((wr.alloc (.cells #[v1] t1)).alloc (.cells #[v2] t2)).alloc (.cells #[v3] t3)).alloc (.cells #[v4] t4)) (wr.heap.size + 1 + 1 + 1) t4 v4 := by
  have z1 : (wr.alloc (.cells #[v1] t1)).heap.size = wr.heap.size + 1 := World.size_alloc _ _
  have z2 : ((wr.alloc (.cells #[v1] t1)).alloc (.cells #[v2] t2)).heap.size = wr.heap.size + 1 + 1 := by rw [World.size_alloc, z1]
  have z3 : (((wr.alloc (.cells #[v1] t1)).alloc (.cells #[v2] t2)).alloc (.cells #[v3] t3)).heap.size = wr.heap.size + 1 + 1 + 1 := by rw [World.size_alloc, z2]
  have b1 := Boxed.new wr t1 v1
  have b2 := Boxed.new (wr.alloc (.cells #[v1] t1)) t2 v2
  have b3 := Boxed.new ((wr.alloc (.cells #[v1] t1)).alloc (.cells #[v2] t2)) t3 v3
  have b4 := Boxed.new (((wr.alloc (.cells #[v1] t1)).alloc (.cells #[v2] t2)).alloc (.cells #[v3] t3)) t4 v4
  rw [z1] at b2; rw [z2] at b3; rw [z3] at b4
  exact ⟨((b1.alloc _).alloc _).alloc _, (b2.alloc _).alloc _, b3.alloc _, b4⟩

theorem NfC.on {w w' : World} {B : Nat} (hb : Below B w w') : ∀ {k : Nat} {t : Crd} {sv : Value}, CAt w B k t sv → NfC w k t sv → NfC w' k t sv
  | 0, _, _, _, _ => trivial
  | k + 1, t, sv, hc, hf => by
    intro b o n c e j hj
    subst e
    obtain ⟨b', o', pv, av, e, hbB, _, _, _, _, hav, _, hag⟩ := PlAt.at_ (show PlAt w B (CAt w B k) t.ps _ from hc) hj
    cases e
    obtain ⟨hk, hfa⟩ := hf b o n c rfl j hj
    refine ⟨hk.kept (hb.block b hbB), fun av' hav' b2 o2 n2 c2 e2 i hi => ?_⟩
    have : av' = av := by rw [hb.cell (p := ⟨b, o + j * 5 + 4, none⟩) hbB, hav] at hav'; exact (Option.some.inj hav').symm
    subst this
    subst e2
    obtain ⟨b3, o3, sv3, e, hb3, hcs, hca⟩ := hag.at_ hi
    cases e
    obtain ⟨hk2, hf2⟩ := hfa _ hav b2 o2 n2 c2 rfl i hi
    refine ⟨hk2.kept (hb.block b2 hb3), fun sv' hsv' => ?_⟩
    rw [hb.cell (p := ⟨b2, o2 + i, none⟩) hb3, hcs] at hsv'
    cases hsv'
    exact NfC.on hb hca (hf2 _ hcs)
theorem Cd.on {w w' : World} (hb : Below w.heap.size w w') {k : Nat} {T : List Crd} {v : Value} (h : Cd w w.heap.size k T v) : Cd w' w'.heap.size k T v :=
  ⟨h.a.move (fun b o hlt => hb.cell (p := ⟨b, o, none⟩) hlt) hb.size (fun _ _ h => (h.below hb).up hb.size), h.n, fun b o n c e i hi => by
    subst e
    obtain ⟨b3, o3, sv3, e, hb3, hcs, hca⟩ := h.a.at_ hi
    cases e
    obtain ⟨hk2, hf2⟩ := h.f b o n c rfl i hi
    refine ⟨hk2.kept (hb.block b hb3), fun sv' hsv' => ?_⟩
    rw [hb.cell (p := ⟨b, o + i, none⟩) hb3, hcs] at hsv'
    cases hsv'
    exact (hf2 _ hcs).on hb hca, h.l, h.t⟩
/-- The row of lists that was gathered, as a list of lists. -/
theorem row_ag {w W : World} {k : Nat} {acc : List (List Crd)} {v : Value} {vs : List Value} (hr : W.ownsRow (w.heap.size + 4) 49 1 v acc.length vs) (hc : ∀ i (h : i < acc.length), ∃ u, vs[i]? = some u ∧ Cd w w.heap.size k acc[i] u) (hB : Below w.heap.size w W) :
    AgAt W W.heap.size (Cd W W.heap.size k) acc v := by
  obtain ⟨hl, ⟨rfl, h0⟩ | ⟨g, cap, cur, rfl, _, hg, _, _, _, ht⟩⟩ := hr
  · have : acc = [] := List.length_eq_zero_iff.1 h0
    subst this
    exact ⟨none, 0, rfl, fun h => absurd rfl h, fun b o e => by cases e⟩
  · refine ⟨_, cap, rfl, fun _ => ⟨g, 0, rfl, (Array.getElem?_eq_some_iff.1 hg).1⟩, fun b o e i hi => ?_⟩
    cases e
    obtain ⟨u, hu, hcu⟩ := hc i hi
    rw [← ht] at hu
    have h2 := Lib.cells_of_row hg _ i _ hu
    rw [Lib.addr_add] at h2
    exact ⟨u, h2, hcu.on hB⟩

set_option maxHeartbeats 16000000 in
theorem within_in (k : Nat) (TL : List (List Crd)) (lv : Value) (w : World) (hl : AgAt w w.heap.size (Cd w w.heap.size (k + 1)) TL lv) (hn : TL.length ≤ 1048576) (hkn : (kidsL TL).length ≤ 1048576) :
    CallsIn Fence.wide 5 Tryz.prog 43 #[lv] w fun e w' => ∃ nv NL, e = .returned nv ∧ NL.Sublist (kidsL TL) ∧ AgAt w' w'.heap.size (Cd w' w'.heap.size k) NL nv ∧ Below w.heap.size w w' := by
  obtain ⟨la, lc, rfl⟩ := hl.len
  have HL := Lib.hid hl
  have hmm := @run_makeMap Tryz.prog
  have hmx : Tryz.prog.follows .mixedOrders = true := by kernel_rfl
  have HW := Lib.hid (wl_start w k TL)
  have HKN := Lib.hid hkn
  clear hl hkn
  refine callsIn_of_wp_marks Tryz.func43 rfl trivial ?_ rfl
  simp only [Tryz.ntmps43, List.size_toArray, List.length_cons, List.length_nil, Nat.reduceAdd, Nat.reduceSub, Array.replicate_succ, Array.replicate_zero, List.push_toArray, List.append_toArray, List.nil_append, List.cons_append]
  gi_wp2_with fail
  refine wpIn_loop (fun a' W => ∃ (i : Nat) (Ds : List Nat) (u7 u8 u9 u10 u16 u17 u18 u19 u20 u21 u22 u23 u24 u25 u26 u27 u28 u29 u30 u31 u32 u33 u34 u35 u36 u37 u38 u39 u40 u41 u42 u43 u44 u45 u46 u47 u48 u49 u50 u51 : Value), i ≤ TL.length ∧ Wl w W k i TL Ds ∧ a' = { tmps := #[.slice la TL.length lc, undef, .slice none 0 0, .pointer (some ⟨w.heap.size, 0, none⟩), .map (some (w.heap.size + 1)), .pointer (some ⟨w.heap.size + 1 + 1 + 1, 0, none⟩), undef, u7, u8, u9, u10, .map (some (w.heap.size + 1)), .map (some (w.heap.size + 1 + 1)), .slice la TL.length lc, .int .i64 (TL.length : Int), .int .i64 (i : Int), u16, u17, u18, u19, u20, u21, u22, u23, u24, u25, u26, u27, u28, u29, u30, u31, u32, u33, u34, u35, u36, u37, u38, u39, u40, u41, u42, u43, u44, u45, u46, u47, u48, u49, u50, u51, undef], defers := Ds.map fun D => { target := .collected D, args := #[] } }) (fun a' _ => TL.length - (intOf (a'.tmps.getD 15 undef)).toNat) ?_ ?_
  · exact ⟨0, [], undef, undef, undef, undef, undef, undef, undef, undef, undef, undef, undef, undef, undef, undef, undef, undef, undef, undef, undef, undef, undef, undef, undef, undef, undef, undef, undef, undef, undef, undef, undef, undef, undef, undef, undef, undef, undef, undef, undef, undef, Nat.zero_le _, HW.out, rfl⟩
  rintro _ wr ⟨i, Ds, u7, u8, u9, u10, u16, u17, u18, u19, u20, u21, u22, u23, u24, u25, u26, u27, u28, u29, u30, u31, u32, u33, u34, u35, u36, u37, u38, u39, u40, u41, u42, u43, u44, u45, u46, u47, u48, u49, u50, u51, hi, hwl, rfl⟩
  clear HW
  by_cases hlt : i < TL.length
  · have hiz : (i : Int) < (TL.length : Int) := by omega
    obtain ⟨b, o, v, rfl, hbw, hcell, hcd⟩ := HL.out.at_ hlt
    generalize hT : TL[i] = T at hcd
    obtain ⟨va, vc, rfl, hva, -⟩ := hcd.a
    obtain ⟨b2, o2, rfl, hb2⟩ := hva hcd.n
    have hbel := hwl.below
    have hcell1 := (hbel.cell (p := ⟨b, o + i, none⟩) hbw).trans hcell
    have hbox := Boxed.new wr 49 (.slice (some ⟨b2, o2, none⟩) T.length vc)
    have hc7 := hbox.cell
    have HBX := Lib.hid hbox
    have HWL := Lib.hid hwl
    have HCD := Lib.hid hcd
    clear hwl hcd hbox hcell hva hbel
    gi_wp2_with (refine ⟨trivial, ?_⟩; gi_at_call 76; refine (callsIn_wide.2 (freshC (w.heap.size + 1) wr.heap.size (T.length : Int) _)).mono ?_; rintro e w2 ⟨rfl, rfl⟩)
    try simp only [World.size_alloc]
    obtain ⟨d1, d2, d3, d4⟩ := boxes4 wr 49 99 3 103 (.slice (some ⟨b2, o2, none⟩) T.length vc) (.map (some (w.heap.size + 1))) (.int .i64 (T.length : Int)) (.func (.func 77) #[] #[.pointer (some ⟨wr.heap.size, 0, none⟩)])
    have S4 := stays4 wr (.cells #[.slice (some ⟨b2, o2, none⟩) T.length vc] 49) (.cells #[.map (some (w.heap.size + 1))] 99) (.cells #[.int .i64 (T.length : Int)] 3) (.cells #[.func (.func 77) #[] #[.pointer (some ⟨wr.heap.size, 0, none⟩)]] 103)
    have Z4 := size4 wr (.cells #[.slice (some ⟨b2, o2, none⟩) T.length vc] 49) (.cells #[.map (some (w.heap.size + 1))] 99) (.cells #[.int .i64 (T.length : Int)] 3) (.cells #[.func (.func 77) #[] #[.pointer (some ⟨wr.heap.size, 0, none⟩)]] 103)
    generalize hW0 : (((wr.alloc (.cells #[.slice (some ⟨b2, o2, none⟩) T.length vc] 49)).alloc (.cells #[.map (some (w.heap.size + 1))] 99)).alloc (.cells #[.int .i64 (T.length : Int)] 3)).alloc (.cells #[.func (.func 77) #[] #[.pointer (some ⟨wr.heap.size, 0, none⟩)]] 103) = W0 at *
    clear hW0 hc7
    have hsz := HWL.out.size
    have hdl : ∀ D ∈ Ds, w.heap.size + 4 ≤ D ∧ D < wr.heap.size := fun D hD => ⟨(HWL.out.d D hD).2, (Array.getElem?_eq_some_iff.1 (HWL.out.d D hD).1).1⟩
    have hB0 : Below w.heap.size w W0 := HWL.out.below.trans (S4.below fun j hj => by show j < wr.heap.size; omega)
    have hrd : RdC W0 (wr.heap.size + 1 + 1) (wr.heap.size + 1 + 1 + 1) (wr.heap.size + 1) wr.heap.size (w.heap.size + 1) b2 o2 T.length vc :=
      ⟨d3, d4, d2, fun _ => d1, fun x hx => ((HCD.out.f b2 o2 _ _ rfl x hx).1).kept (hB0.block b2 hb2)⟩
    have hsm := smC (wr.heap.size + 1 + 1) (wr.heap.size + 1 + 1 + 1) (wr.heap.size + 1) wr.heap.size (w.heap.size + 1) b2 o2 T.length vc W0 hrd HCD.out.l (Ro w wr.heap.size) (fun j => j < w.heap.size) ⟨.inr ⟨by omega, by omega⟩, .inr ⟨by omega, by omega⟩, .inr ⟨by omega, by omega⟩, .inr ⟨by omega, by omega⟩, fun _ => .inl hb2⟩ (fun j hj => .inl hj) (fun _ => hb2) (fun h => by rcases h with h | h <;> omega) (fun j hj => by rcases hj with h | h <;> omega)
    have HFT := Lib.hid (fun s => io_foot (W0 := W0) (k := k) (i := i) (TL := TL) (T := T) (s := s) hsz (by omega) (fun D hD => ⟨(hdl D hD).1, by have := (hdl D hD).2; omega⟩))
    have HST := Lib.hid (And.intro S4 (And.intro Z4 (And.intro hdl (And.intro hB0 d1))))
    have HPM0 : Hid (Pm (fun j => j < w.heap.size) W0 (w.heap.size + 1)) := Lib.hid (HWL.out.c.kept (S4.block _ (by show _ < wr.heap.size; omega)) (fun j hj => S4.block j (by show j < wr.heap.size; omega)))
    have HI0 : Hid (Io w W0 k i wr.heap.size TL T Ds 0 (fun j => j = w.heap.size + 1) W0) := Lib.hid ⟨by
        rw [List.take_zero]; show Nx w W0 k _ (kidsL (TL.take i) ++ []); rw [List.append_nil]
        refine nx_grow HWL.out.x S4 fun g h1 h2 h3 => ?_
        rcases h3 with h3 | (h3 | h3) | h3
        · omega
        · omega
        · omega
        · exact h3, ⟨HWL.out.p.kept (S4.block _ (by show _ < wr.heap.size; omega)) (fun j hj => S4.block j (by show j < wr.heap.size; omega)), Nat.le_refl _⟩, S4.boxed (by show _ < wr.heap.size; omega) HWL.out.b, Stays.refl _ _⟩
    clear d1 d2 d3 d4 S4 hrd hdl hB0
    refine Sm.range_sm (gf := 119) (lb := #[.pointer (some ⟨wr.heap.size + 1 + 1, 0, none⟩), .pointer (some ⟨wr.heap.size + 1 + 1 + 1, 0, none⟩), .pointer (some ⟨wr.heap.size + 1, 0, none⟩)]) rfl egC hsm (Stays.refl _ _) (fun j hj => by rcases hj with h | h <;> omega) (fun j hj => ⟨by omega, fun h => by rcases h with h | h <;> omega⟩) (fun _ => rfl)
      (fun A B hA hS => hA.kept (hS.block _ (.inl rfl)) (fun j hj => hS.block j (.inr (.inl hj)))) (fun s O W => Io w W0 k i wr.heap.size TL T Ds s O W) HFT.out HI0.out HPM0.out ?round ?done
    case round =>
      intro l s x O W1 hO hMO hsx hx
      clear HI0 HPM0
      gi_wp2_with fail
      refine ⟨trivial, fun W hI hRW hOl hlz hrec hOW => ?_⟩
      obtain ⟨S4, -, hdl, hB0, d1⟩ := HST.out
      obtain ⟨hNx, ⟨hPm, hzW⟩, hb3, hS0⟩ := hI
      have hBW := hNx.below
      have hc7 := (hRW.boxed (.inr ⟨by omega, by omega⟩) d1).cell
      have hc3 := hb3.cell
      obtain ⟨hka, hnf⟩ := HCD.out.f b2 o2 _ _ rfl x hx
      obtain ⟨b5, o5, sv, e5, -, hcs, hca⟩ := HCD.out.a.at_ hx
      cases e5
      have hfit := HCD.out.t T[x] (List.getElem_mem hx)
      obtain ⟨a', c', b', o', rfl, hps1, hps2⟩ := card_rd hca (hnf sv hcs) hfit
      have hcell := (hBW.cell (p := ⟨b2, o2 + x, none⟩) hb2).trans hcs
      have hx0 : (0 : Int) ≤ (x : Int) := by omega
      have hx1 : (x : Int) < (T.length : Int) := by omega
      have hpl : T[x].ps.length ≤ 1099511627776 := hfit.1
      have HPS := Lib.hid (And.intro hps1 (And.intro hps2 (And.intro hpl hb2)))
      have HNX := Lib.hid (And.intro hNx (And.intro hPm (And.intro hzW (And.intro hb3 (And.intro hS0 (And.intro hBW (And.intro hRW (And.intro hOl (And.intro hlz (And.intro hrec hOW))))))))))
      clear hNx hPm hb3 hS0 hBW hRW hOl hrec hOW hka hnf hcs hca hps1 hps2 hfit hO hMO hdl hB0 d1 S4
      have hc4 : (W.alloc (.cells #[.slice a' T[x].ps.length c'] 22)).cell? ⟨w.heap.size + 1 + 1 + 1, 0, none⟩ = some (.map (some (w.heap.size + 1 + 1))) := (Boxed.alloc HNX.out.2.2.2.1 _).cell
      have hc5 : (W.alloc (.cells #[.slice a' T[x].ps.length c'] 22)).cell? ⟨W.heap.size, 0, none⟩ = some (.slice a' T[x].ps.length c') := (Boxed.new W _ _).cell
      generalize hps : T[x].ps = ps at *
      gi_wp2_with (refine ⟨trivial, ?_⟩; gi_at_call 78; refine (CallsIn.inRound l (callsIn_wide.2 (freshP (w.heap.size + 1 + 1) W.heap.size (ps.length : Int) _))).mono ?_; rintro e w3 ⟨rfl, rfl⟩)
      try simp only [World.size_alloc]
      obtain ⟨d1, d2, d3, d4⟩ := boxes4 W 22 101 3 106 (.slice a' ps.length c') (.map (some (w.heap.size + 1 + 1))) (.int .i64 (ps.length : Int)) (.func (.func 79) #[] #[.pointer (some ⟨W.heap.size, 0, none⟩)])
      have S5 := stays4 W (.cells #[.slice a' ps.length c'] 22) (.cells #[.map (some (w.heap.size + 1 + 1))] 101) (.cells #[.int .i64 (ps.length : Int)] 3) (.cells #[.func (.func 79) #[] #[.pointer (some ⟨W.heap.size, 0, none⟩)]] 106)
      have Z5 := size4 W (.cells #[.slice a' ps.length c'] 22) (.cells #[.map (some (w.heap.size + 1 + 1))] 101) (.cells #[.int .i64 (ps.length : Int)] 3) (.cells #[.func (.func 79) #[] #[.pointer (some ⟨W.heap.size, 0, none⟩)]] 106)
      generalize hW2 : (((W.alloc (.cells #[.slice a' ps.length c'] 22)).alloc (.cells #[.map (some (w.heap.size + 1 + 1))] 101)).alloc (.cells #[.int .i64 (ps.length : Int)] 3)).alloc (.cells #[.func (.func 79) #[] #[.pointer (some ⟨W.heap.size, 0, none⟩)]] 106) = W2 at *
      clear hW2 hc7 hc3 hc4 hc5
      obtain ⟨hNx, hPm, -, hb3, hS0, hBW, hRW, hOl, -, ⟨rl, hrl⟩, hOW⟩ := HNX.out
      obtain ⟨S4, -, hdl, hB0, -⟩ := HST.out
      have hB2 : Below w.heap.size w W2 := hBW.trans (S5.below fun j hj => by show j < W.heap.size; omega)
      have hlW : l < W.heap.size := (Array.getElem?_eq_some_iff.1 hrl).1
      have hrd : RdP W2 (W.heap.size + 1 + 1) (W.heap.size + 1 + 1 + 1) (W.heap.size + 1) W.heap.size (w.heap.size + 1 + 1) b' o' ps.length c' :=
        ⟨d3, d4, d2, fun hp => by have h := d1; rw [(HPS.out.1 hp).1] at h; exact h, fun y hy => ((HPS.out.2.1 y hy).1).kept (hB2.block b' (HPS.out.1 (by omega)).2)⟩
      have hsm2 := smP (W.heap.size + 1 + 1) (W.heap.size + 1 + 1 + 1) (W.heap.size + 1) W.heap.size (w.heap.size + 1 + 1) b' o' ps.length c' W2 hrd hpl (Ro w W.heap.size) (fun j => j < w.heap.size) ⟨.inr ⟨by omega, by omega⟩, .inr ⟨by omega, by omega⟩, .inr ⟨by omega, by omega⟩, .inr ⟨by omega, by omega⟩, fun hp => .inl (HPS.out.1 hp).2⟩ (fun j hj => .inl hj) (fun hp => (HPS.out.1 hp).2) (fun h => by rcases h with h | h <;> omega) (fun j hj => by rcases hj with h | h <;> omega)
      obtain ⟨Z, hZd⟩ : ∃ Z : Nat → Prop, Z = fun j => O j ∨ (Ro w wr.heap.size j ∨ j ∈ Ds) ∨ Ro w W.heap.size j := ⟨_, rfl⟩
      have hZ : ∀ j, Z j → j ≠ w.heap.size ∧ j ≠ w.heap.size + 1 + 1 ∧ j < W2.heap.size := fun j hj => by
        rw [hZd] at hj
        rcases hj with h | (h | h) | h
        · have := hOW j h; omega
        · rcases h with h | h <;> omega
        · have := hdl j h; omega
        · rcases h with h | h <;> omega
      have HFT2 := Lib.hid (fun s => ii_foot (k := k) (G := kidsL (TL.take i) ++ kidsT (T.take x)) (ps := ps) (s := s) (Z := Z) (w := w) (W2 := W2) (by omega) (fun j hj => (hZ j hj).2))
      have HPM2 : Hid (Pm (fun j => j < w.heap.size) W2 (w.heap.size + 1 + 1)) := Lib.hid (hPm.kept (S5.block _ (by show _ < W.heap.size; omega)) (fun j hj => S5.block j (by show j < W.heap.size; omega)))
      have HI2 : Hid (Ii w W2 k Z (kidsL (TL.take i) ++ kidsT (T.take x)) ps 0 (fun j => j = w.heap.size + 1 + 1) W2) := Lib.hid ⟨by
          rw [List.take_zero]; show Nx w W2 k _ (_ ++ []); rw [List.append_nil]
          refine (nx_grow hNx S5 fun g h1 h2 h3 => ?_).mono (fun g h => h) (fun acc h => cards_start h hsx)
          rw [hZd] at h3
          rcases h3 with h3 | h3 | h3 | h3
          · omega
          · exact .inl h3
          · exact .inr h3
          · rcases h3 with h | h <;> omega, S5.boxed (by show _ < W.heap.size; omega) hb3, Stays.refl _ _⟩
      have HZ := Lib.hid (And.intro hZd (And.intro hZ (And.intro S5 (And.intro Z5 (And.intro hB2 d1)))))
      have hl2 : ∃ r, W2.heap[l]? = some (.loop r) := ⟨rl, (S5.block l hlW).trans hrl⟩
      clear d1 d2 d3 d4 S5 hrd hNx hPm hb3 hS0 hBW hRW hOl hOW S4 hdl hB0 hB2 hZ hZd
      refine Sm.range_smN (l0 := l) (gf := 120) (lb := #[.pointer (some ⟨W.heap.size + 1 + 1, 0, none⟩), .pointer (some ⟨W.heap.size + 1 + 1 + 1, 0, none⟩), .pointer (some ⟨W.heap.size + 1, 0, none⟩)]) hl2 rfl egP hsm2 (Stays.refl _ _) (fun j hj => by rcases hj with h | h <;> omega) (fun j hj => ⟨by omega, fun h => by rcases h with h | h <;> omega⟩) (fun _ => rfl)
        (fun A B hA hS => hA.kept (hS.block _ (.inl rfl)) (fun j hj => hS.block j (.inr (.inl hj)))) (fun s O W => Ii w W2 k Z (kidsL (TL.take i) ++ kidsT (T.take x)) ps s O W) HFT2.out HI2.out HPM2.out ?iround ?idone
      case iround =>
        intro l2 s2 y O2 W3 hO2 hMO2 hsy hy
        clear HI2 HPM2 HFT2 hsm2 HFT hsm
        gi_wp2_with fail
        refine ⟨trivial, fun W' hI2 hRW2 hOl2 hlz2 hrec2 hOW2 => ?_⟩
        clear hOl2 hrec2
        obtain ⟨hNx, hb3, hS2⟩ := hI2
        have hBW := hNx.below
        obtain ⟨hka, av, hav0, hag, hcd⟩ := HPS.out.2.1 y hy
        obtain ⟨rfl, hbb⟩ := HPS.out.1 (by omega)
        obtain ⟨ag, ac, rfl⟩ := hag.len
        have hcV := (hRW2.boxed (.inr ⟨by omega, by omega⟩) HZ.out.2.2.2.2.2).cell
        have hav := (hBW.cell (p := ⟨b', o' + y * 5 + 4, none⟩) hbb).trans hav0
        have hy0 : (0 : Int) ≤ (y : Int) := by omega
        have hy1 : (y : Int) < (ps.length : Int) := by omega
        have hstep := HKN
        by_cases hne : ps[y].2 = []
        · have hm0 : ps[y].2.length = 0 := by rw [hne]; rfl
          have hm1 : ¬ (0 : Int) < (ps[y].2.length : Int) := by omega
          have HP := Lib.hid (And.intro hNx (And.intro hb3 hS2))
          clear hNx hb3 hS2 hka hav0 hag hcd hBW hRW2 hOW2 hO2 hMO2
          generalize ps[y].2.length = m at *
          gi_wp2_with fail
          exact ⟨Stays.refl _ _, HP.out.1.mono (fun g h => h) (fun acc h => (props_step h hsy hy).1 hne), HP.out.2.1, HP.out.2.2⟩
        · have hm0 : 0 < ps[y].2.length := List.length_pos_iff.2 hne
          have hm1 : (0 : Int) < (ps[y].2.length : Int) := by omega
          have HP := Lib.hid (And.intro hNx (And.intro hb3 (And.intro hS2 (And.intro hcd (And.intro hBW (And.intro hRW2 (And.intro hOW2 (And.intro hO2 hMO2))))))))
          clear hNx hb3 hS2 hka hav0 hag hcd hBW hRW2 hOW2 hO2 hMO2
          generalize hm : ps[y].2.length = m at *
          obtain ⟨hNx, hb3, hS2, hcd, hBW, hRW2, hOW2, hO2, hMO2⟩ := HP.out
          obtain ⟨hZd, hZ, S5, -, hB2, -⟩ := HZ.out
          obtain ⟨acc, v, vs, h1, h2, h3, h4, h5, h6⟩ := hNx
          have hG := (props_step h1 hsy hy).2 hne
          have hz2 := hS2.size
          have hlen : acc.length + 1 ≤ 1048576 := by
            have := (take_len (lists_step hlt (by rw [hT]; exact cards_all (cards_step hx (by rw [hps]; exact props_all hG))))).length_le
            rw [List.length_append, List.length_singleton] at this
            exact Nat.le_trans this HKN.out
          have hYl : ∀ j, (O2 j ∨ Z j) → j < W'.heap.size ∧ j ≠ w.heap.size := fun j hj => by
            rcases hj with h | h
            · have := hOW2 j h; omega
            · have := hZ j h; omega
          obtain ⟨v', V2, hrun, hc2, hf2, hN, hSt, hbx, -, hkb⟩ := nx_append hG h2 h3 h4 h5 h6 (hcd hne) (by omega) hYl hlen
          obtain ⟨sa, sn, sc, rfl⟩ : ∃ sa sn sc, v' = .slice sa sn sc := by
            obtain ⟨_, v2, _, _, hb2', hr2', _⟩ := hN
            have e := hb2'.symm.trans (Boxed.set v' hbx)
            injection e with e; injection e with e; injection e with e; injection e with e
            subst e
            obtain ⟨_, ⟨rfl, _⟩ | ⟨g', cap', cur', rfl, _⟩⟩ := hr2'
            · exact ⟨_, _, _, rfl⟩
            · exact ⟨_, _, _, rfl⟩
          have hbf : Boxed (V2.setCell ⟨w.heap.size, 0, none⟩ (.slice sa sn sc)) (w.heap.size + 1 + 1 + 1) 101 (.map (some (w.heap.size + 1 + 1))) := (hkb _ hb3.lt (by omega) (fun e => by have := (own_lt h3 _ e).1; omega)).trans hb3
          have hSf : Stays (fun k => O2 k ∨ Ro w W.heap.size k) W' (V2.setCell ⟨w.heap.size, 0, none⟩ (.slice sa sn sc)) := hSt.mono (fun j hj => hj.imp id (fun h => by rw [hZd]; exact .inr (.inr h)))
          have HFIN := Lib.hid (And.intro hSf (And.intro hN (And.intro hbf (hS2.trans (hSt.mono fun j hj => .inr hj)))))
          have hcd0 := h2.cell
          have hcd1 : (W'.alloc (.cells #[.slice ag m ac] 49)).cell? ⟨w.heap.size, 0, none⟩ = some v := (Boxed.alloc h2 _).cell
          have hcVd : W'.drew.cell? ⟨W.heap.size, 0, none⟩ = some (.slice (some ⟨b', o', none⟩) ps.length c') := hcV
          have havd : W'.drew.cell? ⟨b', o' + y * 5 + 4, none⟩ = some (.slice ag m ac) := hav
          clear hb3 hS2 hcd hBW hRW2 hOW2 hO2 hMO2 hZd hZ S5 hB2 h1 h2 h3 h4 h5 h6 hG hz2 hlen hYl hN hSt hkb hbx hbf hSf HP HNX HPS HST
          gi_wp2_with fail
          refine wpIn_region_any hmx ?_
          change wpAnyIn _ _ _ _ _ _ _ _ _ (World.drew _)
          refine wpAnyIn_ready (rs := [0, 1, 2]) (by kernel_rfl) (by simp) ?_
          refine AllReadyIn.cons rfl (fun K hK => ?_) (AllReadyIn.cons rfl (fun K hK => ?_) (AllReadyIn.cons rfl (fun K hK => ?_) AllReadyIn.nil))
          · go_simp
            refine hK _ _ ?_
            clear hK K
            refine wpAnyIn_ready (rs := [1, 2]) (by kernel_rfl) (by simp) ?_
            refine AllReadyIn.cons rfl (fun K hK => ?_) (AllReadyIn.cons rfl (fun K hK => ?_) AllReadyIn.nil)
            · go_simp
              refine hK _ _ ?_
              clear hK K
              refine wpAnyIn_ready (rs := [2]) (by kernel_rfl) (by simp) ?_
              refine AllReadyIn.cons rfl (fun K hK => ?_) AllReadyIn.nil
              go_simp
              refine hK _ _ ?_
              clear hK K
              refine wpAnyIn_ready (rs := [3]) (by kernel_rfl) (by simp) ?_
              refine AllReadyIn.cons rfl (fun K hK => ?_) AllReadyIn.nil
              go_simp
              refine hK _ _ ?_
              clear hK K
              refine wpAnyIn_ready (rs := [4]) (by kernel_rfl) (by simp) ?_
              refine AllReadyIn.cons rfl (fun K hK => ?_) AllReadyIn.nil
              go_simp
              refine hK _ _ ?_
              clear hK K
              refine wpAnyIn_ready (rs := [5]) (by kernel_rfl) (by simp) ?_
              refine AllReadyIn.cons rfl (fun K hK => ?_) AllReadyIn.nil
              go_simp
              refine hK _ _ ?_
              clear hK K
              refine wpAnyIn_ready (rs := [6]) (by kernel_rfl) (by simp) ?_
              refine AllReadyIn.cons rfl (fun K hK => ?_) AllReadyIn.nil
              go_simp
              refine hK _ _ ?_
              clear hK K
              refine wpAnyIn_ready (rs := [7]) (by kernel_rfl) (by simp) ?_
              refine AllReadyIn.cons rfl (fun K hK => ?_) AllReadyIn.nil
              refine stepIn_append rfl _ _ _ rfl rfl rfl (hrun _) (hK _ _ ?_)
              clear hK K
              refine wpAnyIn_ready (rs := [8]) (by kernel_rfl) (by simp) ?_
              refine AllReadyIn.cons rfl (fun K hK => ?_) AllReadyIn.nil
              go_simp
              refine hK _ _ ?_
              clear hK K
              refine wpAnyIn_done (by kernel_rfl) ?_ _
              clear hrun hc2 hf2 hcd0 hcd1 hcVd havd
              gi_wp2_with fail
              exact ⟨HFIN.out.1, HFIN.out.2.1, HFIN.out.2.2.1, HFIN.out.2.2.2⟩
            · go_simp
              refine hK _ _ ?_
              clear hK K
              refine wpAnyIn_ready (rs := [1]) (by kernel_rfl) (by simp) ?_
              refine AllReadyIn.cons rfl (fun K hK => ?_) AllReadyIn.nil
              go_simp
              refine hK _ _ ?_
              clear hK K
              refine wpAnyIn_ready (rs := [3]) (by kernel_rfl) (by simp) ?_
              refine AllReadyIn.cons rfl (fun K hK => ?_) AllReadyIn.nil
              go_simp
              refine hK _ _ ?_
              clear hK K
              refine wpAnyIn_ready (rs := [4]) (by kernel_rfl) (by simp) ?_
              refine AllReadyIn.cons rfl (fun K hK => ?_) AllReadyIn.nil
              go_simp
              refine hK _ _ ?_
              clear hK K
              refine wpAnyIn_ready (rs := [5]) (by kernel_rfl) (by simp) ?_
              refine AllReadyIn.cons rfl (fun K hK => ?_) AllReadyIn.nil
              go_simp
              refine hK _ _ ?_
              clear hK K
              refine wpAnyIn_ready (rs := [6]) (by kernel_rfl) (by simp) ?_
              refine AllReadyIn.cons rfl (fun K hK => ?_) AllReadyIn.nil
              go_simp
              refine hK _ _ ?_
              clear hK K
              refine wpAnyIn_ready (rs := [7]) (by kernel_rfl) (by simp) ?_
              refine AllReadyIn.cons rfl (fun K hK => ?_) AllReadyIn.nil
              refine stepIn_append rfl _ _ _ rfl rfl rfl (hrun _) (hK _ _ ?_)
              clear hK K
              refine wpAnyIn_ready (rs := [8]) (by kernel_rfl) (by simp) ?_
              refine AllReadyIn.cons rfl (fun K hK => ?_) AllReadyIn.nil
              go_simp
              refine hK _ _ ?_
              clear hK K
              refine wpAnyIn_done (by kernel_rfl) ?_ _
              clear hrun hc2 hf2 hcd0 hcd1 hcVd havd
              gi_wp2_with fail
              exact ⟨HFIN.out.1, HFIN.out.2.1, HFIN.out.2.2.1, HFIN.out.2.2.2⟩
          · go_simp
            refine hK _ _ ?_
            clear hK K
            refine wpAnyIn_ready (rs := [0, 2]) (by kernel_rfl) (by simp) ?_
            refine AllReadyIn.cons rfl (fun K hK => ?_) (AllReadyIn.cons rfl (fun K hK => ?_) AllReadyIn.nil)
            · go_simp
              refine hK _ _ ?_
              clear hK K
              refine wpAnyIn_ready (rs := [2]) (by kernel_rfl) (by simp) ?_
              refine AllReadyIn.cons rfl (fun K hK => ?_) AllReadyIn.nil
              go_simp
              refine hK _ _ ?_
              clear hK K
              refine wpAnyIn_ready (rs := [3]) (by kernel_rfl) (by simp) ?_
              refine AllReadyIn.cons rfl (fun K hK => ?_) AllReadyIn.nil
              go_simp
              refine hK _ _ ?_
              clear hK K
              refine wpAnyIn_ready (rs := [4]) (by kernel_rfl) (by simp) ?_
              refine AllReadyIn.cons rfl (fun K hK => ?_) AllReadyIn.nil
              go_simp
              refine hK _ _ ?_
              clear hK K
              refine wpAnyIn_ready (rs := [5]) (by kernel_rfl) (by simp) ?_
              refine AllReadyIn.cons rfl (fun K hK => ?_) AllReadyIn.nil
              go_simp
              refine hK _ _ ?_
              clear hK K
              refine wpAnyIn_ready (rs := [6]) (by kernel_rfl) (by simp) ?_
              refine AllReadyIn.cons rfl (fun K hK => ?_) AllReadyIn.nil
              go_simp
              refine hK _ _ ?_
              clear hK K
              refine wpAnyIn_ready (rs := [7]) (by kernel_rfl) (by simp) ?_
              refine AllReadyIn.cons rfl (fun K hK => ?_) AllReadyIn.nil
              refine stepIn_append rfl _ _ _ rfl rfl rfl (hrun _) (hK _ _ ?_)
              clear hK K
              refine wpAnyIn_ready (rs := [8]) (by kernel_rfl) (by simp) ?_
              refine AllReadyIn.cons rfl (fun K hK => ?_) AllReadyIn.nil
              go_simp
              refine hK _ _ ?_
              clear hK K
              refine wpAnyIn_done (by kernel_rfl) ?_ _
              clear hrun hc2 hf2 hcd0 hcd1 hcVd havd
              gi_wp2_with fail
              exact ⟨HFIN.out.1, HFIN.out.2.1, HFIN.out.2.2.1, HFIN.out.2.2.2⟩
            · go_simp
              refine hK _ _ ?_
              clear hK K
              refine wpAnyIn_ready (rs := [0, 3]) (by kernel_rfl) (by simp) ?_
              refine AllReadyIn.cons rfl (fun K hK => ?_) (AllReadyIn.cons rfl (fun K hK => ?_) AllReadyIn.nil)
              · go_simp
                refine hK _ _ ?_
                clear hK K
                refine wpAnyIn_ready (rs := [3]) (by kernel_rfl) (by simp) ?_
                refine AllReadyIn.cons rfl (fun K hK => ?_) AllReadyIn.nil
                go_simp
                refine hK _ _ ?_
                clear hK K
                refine wpAnyIn_ready (rs := [4]) (by kernel_rfl) (by simp) ?_
                refine AllReadyIn.cons rfl (fun K hK => ?_) AllReadyIn.nil
                go_simp
                refine hK _ _ ?_
                clear hK K
                refine wpAnyIn_ready (rs := [5]) (by kernel_rfl) (by simp) ?_
                refine AllReadyIn.cons rfl (fun K hK => ?_) AllReadyIn.nil
                go_simp
                refine hK _ _ ?_
                clear hK K
                refine wpAnyIn_ready (rs := [6]) (by kernel_rfl) (by simp) ?_
                refine AllReadyIn.cons rfl (fun K hK => ?_) AllReadyIn.nil
                go_simp
                refine hK _ _ ?_
                clear hK K
                refine wpAnyIn_ready (rs := [7]) (by kernel_rfl) (by simp) ?_
                refine AllReadyIn.cons rfl (fun K hK => ?_) AllReadyIn.nil
                refine stepIn_append rfl _ _ _ rfl rfl rfl (hrun _) (hK _ _ ?_)
                clear hK K
                refine wpAnyIn_ready (rs := [8]) (by kernel_rfl) (by simp) ?_
                refine AllReadyIn.cons rfl (fun K hK => ?_) AllReadyIn.nil
                go_simp
                refine hK _ _ ?_
                clear hK K
                refine wpAnyIn_done (by kernel_rfl) ?_ _
                clear hrun hc2 hf2 hcd0 hcd1 hcVd havd
                gi_wp2_with fail
                exact ⟨HFIN.out.1, HFIN.out.2.1, HFIN.out.2.2.1, HFIN.out.2.2.2⟩
              · go_simp
                refine hK _ _ ?_
                clear hK K
                refine wpAnyIn_ready (rs := [0, 4]) (by kernel_rfl) (by simp) ?_
                refine AllReadyIn.cons rfl (fun K hK => ?_) (AllReadyIn.cons rfl (fun K hK => ?_) AllReadyIn.nil)
                · go_simp
                  refine hK _ _ ?_
                  clear hK K
                  refine wpAnyIn_ready (rs := [4]) (by kernel_rfl) (by simp) ?_
                  refine AllReadyIn.cons rfl (fun K hK => ?_) AllReadyIn.nil
                  go_simp
                  refine hK _ _ ?_
                  clear hK K
                  refine wpAnyIn_ready (rs := [5]) (by kernel_rfl) (by simp) ?_
                  refine AllReadyIn.cons rfl (fun K hK => ?_) AllReadyIn.nil
                  go_simp
                  refine hK _ _ ?_
                  clear hK K
                  refine wpAnyIn_ready (rs := [6]) (by kernel_rfl) (by simp) ?_
                  refine AllReadyIn.cons rfl (fun K hK => ?_) AllReadyIn.nil
                  go_simp
                  refine hK _ _ ?_
                  clear hK K
                  refine wpAnyIn_ready (rs := [7]) (by kernel_rfl) (by simp) ?_
                  refine AllReadyIn.cons rfl (fun K hK => ?_) AllReadyIn.nil
                  refine stepIn_append rfl _ _ _ rfl rfl rfl (hrun _) (hK _ _ ?_)
                  clear hK K
                  refine wpAnyIn_ready (rs := [8]) (by kernel_rfl) (by simp) ?_
                  refine AllReadyIn.cons rfl (fun K hK => ?_) AllReadyIn.nil
                  go_simp
                  refine hK _ _ ?_
                  clear hK K
                  refine wpAnyIn_done (by kernel_rfl) ?_ _
                  clear hrun hc2 hf2 hcd0 hcd1 hcVd havd
                  gi_wp2_with fail
                  exact ⟨HFIN.out.1, HFIN.out.2.1, HFIN.out.2.2.1, HFIN.out.2.2.2⟩
                · go_simp
                  refine hK _ _ ?_
                  clear hK K
                  refine wpAnyIn_ready (rs := [0, 5]) (by kernel_rfl) (by simp) ?_
                  refine AllReadyIn.cons rfl (fun K hK => ?_) (AllReadyIn.cons rfl (fun K hK => ?_) AllReadyIn.nil)
                  · go_simp
                    refine hK _ _ ?_
                    clear hK K
                    refine wpAnyIn_ready (rs := [5]) (by kernel_rfl) (by simp) ?_
                    refine AllReadyIn.cons rfl (fun K hK => ?_) AllReadyIn.nil
                    go_simp
                    refine hK _ _ ?_
                    clear hK K
                    refine wpAnyIn_ready (rs := [6]) (by kernel_rfl) (by simp) ?_
                    refine AllReadyIn.cons rfl (fun K hK => ?_) AllReadyIn.nil
                    go_simp
                    refine hK _ _ ?_
                    clear hK K
                    refine wpAnyIn_ready (rs := [7]) (by kernel_rfl) (by simp) ?_
                    refine AllReadyIn.cons rfl (fun K hK => ?_) AllReadyIn.nil
                    refine stepIn_append rfl _ _ _ rfl rfl rfl (hrun _) (hK _ _ ?_)
                    clear hK K
                    refine wpAnyIn_ready (rs := [8]) (by kernel_rfl) (by simp) ?_
                    refine AllReadyIn.cons rfl (fun K hK => ?_) AllReadyIn.nil
                    go_simp
                    refine hK _ _ ?_
                    clear hK K
                    refine wpAnyIn_done (by kernel_rfl) ?_ _
                    clear hrun hc2 hf2 hcd0 hcd1 hcVd havd
                    gi_wp2_with fail
                    exact ⟨HFIN.out.1, HFIN.out.2.1, HFIN.out.2.2.1, HFIN.out.2.2.2⟩
                  · go_simp
                    refine hK _ _ ?_
                    clear hK K
                    refine wpAnyIn_ready (rs := [0, 6]) (by kernel_rfl) (by simp) ?_
                    refine AllReadyIn.cons rfl (fun K hK => ?_) (AllReadyIn.cons rfl (fun K hK => ?_) AllReadyIn.nil)
                    · go_simp
                      refine hK _ _ ?_
                      clear hK K
                      refine wpAnyIn_ready (rs := [6]) (by kernel_rfl) (by simp) ?_
                      refine AllReadyIn.cons rfl (fun K hK => ?_) AllReadyIn.nil
                      go_simp
                      refine hK _ _ ?_
                      clear hK K
                      refine wpAnyIn_ready (rs := [7]) (by kernel_rfl) (by simp) ?_
                      refine AllReadyIn.cons rfl (fun K hK => ?_) AllReadyIn.nil
                      refine stepIn_append rfl _ _ _ rfl rfl rfl (hrun _) (hK _ _ ?_)
                      clear hK K
                      refine wpAnyIn_ready (rs := [8]) (by kernel_rfl) (by simp) ?_
                      refine AllReadyIn.cons rfl (fun K hK => ?_) AllReadyIn.nil
                      go_simp
                      refine hK _ _ ?_
                      clear hK K
                      refine wpAnyIn_done (by kernel_rfl) ?_ _
                      clear hrun hc2 hf2 hcd0 hcd1 hcVd havd
                      gi_wp2_with fail
                      exact ⟨HFIN.out.1, HFIN.out.2.1, HFIN.out.2.2.1, HFIN.out.2.2.2⟩
                    · go_simp
                      refine hK _ _ ?_
                      clear hK K
                      refine wpAnyIn_ready (rs := [0]) (by kernel_rfl) (by simp) ?_
                      refine AllReadyIn.cons rfl (fun K hK => ?_) AllReadyIn.nil
                      go_simp
                      refine hK _ _ ?_
                      clear hK K
                      refine wpAnyIn_ready (rs := [7]) (by kernel_rfl) (by simp) ?_
                      refine AllReadyIn.cons rfl (fun K hK => ?_) AllReadyIn.nil
                      refine stepIn_append rfl _ _ _ rfl rfl rfl (hrun _) (hK _ _ ?_)
                      clear hK K
                      refine wpAnyIn_ready (rs := [8]) (by kernel_rfl) (by simp) ?_
                      refine AllReadyIn.cons rfl (fun K hK => ?_) AllReadyIn.nil
                      go_simp
                      refine hK _ _ ?_
                      clear hK K
                      refine wpAnyIn_done (by kernel_rfl) ?_ _
                      clear hrun hc2 hf2 hcd0 hcd1 hcVd havd
                      gi_wp2_with fail
                      exact ⟨HFIN.out.1, HFIN.out.2.1, HFIN.out.2.2.1, HFIN.out.2.2.2⟩
          · go_simp
            refine hK _ _ ?_
            clear hK K
            refine wpAnyIn_ready (rs := [0, 1]) (by kernel_rfl) (by simp) ?_
            refine AllReadyIn.cons rfl (fun K hK => ?_) (AllReadyIn.cons rfl (fun K hK => ?_) AllReadyIn.nil)
            · go_simp
              refine hK _ _ ?_
              clear hK K
              refine wpAnyIn_ready (rs := [1]) (by kernel_rfl) (by simp) ?_
              refine AllReadyIn.cons rfl (fun K hK => ?_) AllReadyIn.nil
              go_simp
              refine hK _ _ ?_
              clear hK K
              refine wpAnyIn_ready (rs := [3]) (by kernel_rfl) (by simp) ?_
              refine AllReadyIn.cons rfl (fun K hK => ?_) AllReadyIn.nil
              go_simp
              refine hK _ _ ?_
              clear hK K
              refine wpAnyIn_ready (rs := [4]) (by kernel_rfl) (by simp) ?_
              refine AllReadyIn.cons rfl (fun K hK => ?_) AllReadyIn.nil
              go_simp
              refine hK _ _ ?_
              clear hK K
              refine wpAnyIn_ready (rs := [5]) (by kernel_rfl) (by simp) ?_
              refine AllReadyIn.cons rfl (fun K hK => ?_) AllReadyIn.nil
              go_simp
              refine hK _ _ ?_
              clear hK K
              refine wpAnyIn_ready (rs := [6]) (by kernel_rfl) (by simp) ?_
              refine AllReadyIn.cons rfl (fun K hK => ?_) AllReadyIn.nil
              go_simp
              refine hK _ _ ?_
              clear hK K
              refine wpAnyIn_ready (rs := [7]) (by kernel_rfl) (by simp) ?_
              refine AllReadyIn.cons rfl (fun K hK => ?_) AllReadyIn.nil
              refine stepIn_append rfl _ _ _ rfl rfl rfl (hrun _) (hK _ _ ?_)
              clear hK K
              refine wpAnyIn_ready (rs := [8]) (by kernel_rfl) (by simp) ?_
              refine AllReadyIn.cons rfl (fun K hK => ?_) AllReadyIn.nil
              go_simp
              refine hK _ _ ?_
              clear hK K
              refine wpAnyIn_done (by kernel_rfl) ?_ _
              clear hrun hc2 hf2 hcd0 hcd1 hcVd havd
              gi_wp2_with fail
              exact ⟨HFIN.out.1, HFIN.out.2.1, HFIN.out.2.2.1, HFIN.out.2.2.2⟩
            · go_simp
              refine hK _ _ ?_
              clear hK K
              refine wpAnyIn_ready (rs := [0, 3]) (by kernel_rfl) (by simp) ?_
              refine AllReadyIn.cons rfl (fun K hK => ?_) (AllReadyIn.cons rfl (fun K hK => ?_) AllReadyIn.nil)
              · go_simp
                refine hK _ _ ?_
                clear hK K
                refine wpAnyIn_ready (rs := [3]) (by kernel_rfl) (by simp) ?_
                refine AllReadyIn.cons rfl (fun K hK => ?_) AllReadyIn.nil
                go_simp
                refine hK _ _ ?_
                clear hK K
                refine wpAnyIn_ready (rs := [4]) (by kernel_rfl) (by simp) ?_
                refine AllReadyIn.cons rfl (fun K hK => ?_) AllReadyIn.nil
                go_simp
                refine hK _ _ ?_
                clear hK K
                refine wpAnyIn_ready (rs := [5]) (by kernel_rfl) (by simp) ?_
                refine AllReadyIn.cons rfl (fun K hK => ?_) AllReadyIn.nil
                go_simp
                refine hK _ _ ?_
                clear hK K
                refine wpAnyIn_ready (rs := [6]) (by kernel_rfl) (by simp) ?_
                refine AllReadyIn.cons rfl (fun K hK => ?_) AllReadyIn.nil
                go_simp
                refine hK _ _ ?_
                clear hK K
                refine wpAnyIn_ready (rs := [7]) (by kernel_rfl) (by simp) ?_
                refine AllReadyIn.cons rfl (fun K hK => ?_) AllReadyIn.nil
                refine stepIn_append rfl _ _ _ rfl rfl rfl (hrun _) (hK _ _ ?_)
                clear hK K
                refine wpAnyIn_ready (rs := [8]) (by kernel_rfl) (by simp) ?_
                refine AllReadyIn.cons rfl (fun K hK => ?_) AllReadyIn.nil
                go_simp
                refine hK _ _ ?_
                clear hK K
                refine wpAnyIn_done (by kernel_rfl) ?_ _
                clear hrun hc2 hf2 hcd0 hcd1 hcVd havd
                gi_wp2_with fail
                exact ⟨HFIN.out.1, HFIN.out.2.1, HFIN.out.2.2.1, HFIN.out.2.2.2⟩
              · go_simp
                refine hK _ _ ?_
                clear hK K
                refine wpAnyIn_ready (rs := [0, 4]) (by kernel_rfl) (by simp) ?_
                refine AllReadyIn.cons rfl (fun K hK => ?_) (AllReadyIn.cons rfl (fun K hK => ?_) AllReadyIn.nil)
                · go_simp
                  refine hK _ _ ?_
                  clear hK K
                  refine wpAnyIn_ready (rs := [4]) (by kernel_rfl) (by simp) ?_
                  refine AllReadyIn.cons rfl (fun K hK => ?_) AllReadyIn.nil
                  go_simp
                  refine hK _ _ ?_
                  clear hK K
                  refine wpAnyIn_ready (rs := [5]) (by kernel_rfl) (by simp) ?_
                  refine AllReadyIn.cons rfl (fun K hK => ?_) AllReadyIn.nil
                  go_simp
                  refine hK _ _ ?_
                  clear hK K
                  refine wpAnyIn_ready (rs := [6]) (by kernel_rfl) (by simp) ?_
                  refine AllReadyIn.cons rfl (fun K hK => ?_) AllReadyIn.nil
                  go_simp
                  refine hK _ _ ?_
                  clear hK K
                  refine wpAnyIn_ready (rs := [7]) (by kernel_rfl) (by simp) ?_
                  refine AllReadyIn.cons rfl (fun K hK => ?_) AllReadyIn.nil
                  refine stepIn_append rfl _ _ _ rfl rfl rfl (hrun _) (hK _ _ ?_)
                  clear hK K
                  refine wpAnyIn_ready (rs := [8]) (by kernel_rfl) (by simp) ?_
                  refine AllReadyIn.cons rfl (fun K hK => ?_) AllReadyIn.nil
                  go_simp
                  refine hK _ _ ?_
                  clear hK K
                  refine wpAnyIn_done (by kernel_rfl) ?_ _
                  clear hrun hc2 hf2 hcd0 hcd1 hcVd havd
                  gi_wp2_with fail
                  exact ⟨HFIN.out.1, HFIN.out.2.1, HFIN.out.2.2.1, HFIN.out.2.2.2⟩
                · go_simp
                  refine hK _ _ ?_
                  clear hK K
                  refine wpAnyIn_ready (rs := [0, 5]) (by kernel_rfl) (by simp) ?_
                  refine AllReadyIn.cons rfl (fun K hK => ?_) (AllReadyIn.cons rfl (fun K hK => ?_) AllReadyIn.nil)
                  · go_simp
                    refine hK _ _ ?_
                    clear hK K
                    refine wpAnyIn_ready (rs := [5]) (by kernel_rfl) (by simp) ?_
                    refine AllReadyIn.cons rfl (fun K hK => ?_) AllReadyIn.nil
                    go_simp
                    refine hK _ _ ?_
                    clear hK K
                    refine wpAnyIn_ready (rs := [6]) (by kernel_rfl) (by simp) ?_
                    refine AllReadyIn.cons rfl (fun K hK => ?_) AllReadyIn.nil
                    go_simp
                    refine hK _ _ ?_
                    clear hK K
                    refine wpAnyIn_ready (rs := [7]) (by kernel_rfl) (by simp) ?_
                    refine AllReadyIn.cons rfl (fun K hK => ?_) AllReadyIn.nil
                    refine stepIn_append rfl _ _ _ rfl rfl rfl (hrun _) (hK _ _ ?_)
                    clear hK K
                    refine wpAnyIn_ready (rs := [8]) (by kernel_rfl) (by simp) ?_
                    refine AllReadyIn.cons rfl (fun K hK => ?_) AllReadyIn.nil
                    go_simp
                    refine hK _ _ ?_
                    clear hK K
                    refine wpAnyIn_done (by kernel_rfl) ?_ _
                    clear hrun hc2 hf2 hcd0 hcd1 hcVd havd
                    gi_wp2_with fail
                    exact ⟨HFIN.out.1, HFIN.out.2.1, HFIN.out.2.2.1, HFIN.out.2.2.2⟩
                  · go_simp
                    refine hK _ _ ?_
                    clear hK K
                    refine wpAnyIn_ready (rs := [0, 6]) (by kernel_rfl) (by simp) ?_
                    refine AllReadyIn.cons rfl (fun K hK => ?_) (AllReadyIn.cons rfl (fun K hK => ?_) AllReadyIn.nil)
                    · go_simp
                      refine hK _ _ ?_
                      clear hK K
                      refine wpAnyIn_ready (rs := [6]) (by kernel_rfl) (by simp) ?_
                      refine AllReadyIn.cons rfl (fun K hK => ?_) AllReadyIn.nil
                      go_simp
                      refine hK _ _ ?_
                      clear hK K
                      refine wpAnyIn_ready (rs := [7]) (by kernel_rfl) (by simp) ?_
                      refine AllReadyIn.cons rfl (fun K hK => ?_) AllReadyIn.nil
                      refine stepIn_append rfl _ _ _ rfl rfl rfl (hrun _) (hK _ _ ?_)
                      clear hK K
                      refine wpAnyIn_ready (rs := [8]) (by kernel_rfl) (by simp) ?_
                      refine AllReadyIn.cons rfl (fun K hK => ?_) AllReadyIn.nil
                      go_simp
                      refine hK _ _ ?_
                      clear hK K
                      refine wpAnyIn_done (by kernel_rfl) ?_ _
                      clear hrun hc2 hf2 hcd0 hcd1 hcVd havd
                      gi_wp2_with fail
                      exact ⟨HFIN.out.1, HFIN.out.2.1, HFIN.out.2.2.1, HFIN.out.2.2.2⟩
                    · go_simp
                      refine hK _ _ ?_
                      clear hK K
                      refine wpAnyIn_ready (rs := [0]) (by kernel_rfl) (by simp) ?_
                      refine AllReadyIn.cons rfl (fun K hK => ?_) AllReadyIn.nil
                      go_simp
                      refine hK _ _ ?_
                      clear hK K
                      refine wpAnyIn_ready (rs := [7]) (by kernel_rfl) (by simp) ?_
                      refine AllReadyIn.cons rfl (fun K hK => ?_) AllReadyIn.nil
                      refine stepIn_append rfl _ _ _ rfl rfl rfl (hrun _) (hK _ _ ?_)
                      clear hK K
                      refine wpAnyIn_ready (rs := [8]) (by kernel_rfl) (by simp) ?_
                      refine AllReadyIn.cons rfl (fun K hK => ?_) AllReadyIn.nil
                      go_simp
                      refine hK _ _ ?_
                      clear hK K
                      refine wpAnyIn_done (by kernel_rfl) ?_ _
                      clear hrun hc2 hf2 hcd0 hcd1 hcVd havd
                      gi_wp2_with fail
                      exact ⟨HFIN.out.1, HFIN.out.2.1, HFIN.out.2.2.1, HFIN.out.2.2.2⟩
      case idone =>
        rintro s2 O2 W' hO2 hRW2 hTW2 ⟨hNx2, hb32, hS2⟩
        obtain ⟨hNx, hPm, -, hb3, hS0, hBW, hRW, hOl, -, ⟨rl, hrl⟩, hOW⟩ := HNX.out
        obtain ⟨hZd, hZ, S5, -, hB2, -⟩ := HZ.out
        obtain ⟨S4, -, hdl, hB0, -⟩ := HST.out
        subst hZd
        have hSO : Stays (fun j => O j ∨ Ro w wr.heap.size j) W W' := (S5.mono (fun j hj => by
            show j < W.heap.size
            rcases hj with h | h
            · exact (hOW j h).2
            · rcases h with h | h <;> omega)).trans (hS2.mono fun j hj => hj.imp id (fun h => .inl (.inl h)))
        have hSI : Stays (fun j => Ro w wr.heap.size j ∨ j ∈ Ds) W0 W' := hS0.trans ((S5.mono (fun j hj => by
            show j < W.heap.size
            rcases hj with h | h
            · rcases h with h | h <;> omega
            · have := (hdl j h).2; omega)).trans (hS2.mono fun j hj => .inr (.inl hj)))
        have hNf : Nx w W' k (fun g => O g ∨ (Ro w wr.heap.size g ∨ g ∈ Ds)) (kidsL (TL.take i) ++ kidsT (T.take (x + 1))) := hNx2.mono (fun g h => .inr (h.imp id fun h => .inl h)) (fun acc h => cards_step hx (by rw [hps]; exact props_all h))
        have hzf : W0.heap.size ≤ W'.heap.size := by have := hS2.size; omega
        have HFIN := Lib.hid (And.intro hSO (And.intro hNf (And.intro hTW2 (And.intro hzf (And.intro hb32 hSI)))))
        clear hSO hSI hNf hzf hNx2 hS2 hNx hPm hb3 hS0 hBW hRW hOl hrl hOW hZ S5 hB2 S4 hdl hB0 hTW2 hRW2 hO2 hb32 HI2 HPM2 HFT2 HFT HST HNX HPS HZ
        gi_wp2_with fail
        exact ⟨HFIN.out.1, HFIN.out.2.1, ⟨HFIN.out.2.2.1, HFIN.out.2.2.2.1⟩, HFIN.out.2.2.2.2.1, HFIN.out.2.2.2.2.2⟩
    case done =>
      rintro D s O W hD hOD hO hRW hTW ⟨hNx, ⟨hPm, hzW⟩, hb3, hS0⟩ hdef
      obtain ⟨S4, -, hdl, hB0, d1⟩ := HST.out
      have hrel : Wl w W k (i + 1) TL (D :: Ds) := ⟨hNx.mono (fun g hg => by
          rcases List.mem_cons.1 hg with rfl | hg
          · exact .inl hOD
          · exact .inr (.inr hg)) (fun acc h => lists_step hlt (by rw [hT]; exact cards_all h)), hTW, hPm, hb3, List.nodup_cons.2 ⟨fun hm => by have := (hdl D hm).2; omega, HWL.out.nd⟩, fun E hE => by
          rcases List.mem_cons.1 hE with rfl | hE
          · exact ⟨hdef, by omega⟩
          · exact ⟨(hS0.block E (.inr hE)).trans ((S4.block E (hdl E hE).2).trans (HWL.out.d E hE).1), (hdl E hE).1⟩⟩
      have HREL := Lib.hid hrel
      clear hrel hNx hPm hb3 hS0 S4 hdl hB0 d1 hRW hTW hO hOD hdef HST HFT HPM0 HI0 hsm HWL HBX
      have hadd0 : ((i + 1 : Nat) : Int) = (i : Int) + 1 := by omega
      gi_wp2_with fail
      refine ⟨⟨i + 1, D :: Ds, _, _, _, _, _, _, _, _, _, _, _, _, _, _, _, _, _, _, _, _, _, _, _, _, _, _, _, _, _, _, _, _, _, _, _, _, _, _, _, _, hlt, HREL.out, by rw [← hadd0]; rfl⟩, ?_⟩
      · simp [intOf]; omega
  · obtain rfl : i = TL.length := by omega
    have hiz : ¬ (TL.length : Int) < (TL.length : Int) := by omega
    obtain ⟨acc, v, vs, h1, h2, h3, h4, h5, h6⟩ := hwl.x
    have hc := h2.cell
    have HNE := Lib.hid (And.intro hwl.nd hwl.d)
    have hown := HNE.out
    gi_wp2_with fail
    refine leaves_marks Ds _ hown.1 (fun D hD => (hown.2 D hD).1) (fun W' hS => ?_)
    have hlt3 := own_lt h3
    have hB' : Below w.heap.size w W' := h6.trans (hS.below fun j hj hm => by have := (hown.2 j hm).2; omega)
    have hr' := hS.row h3 h5
    exact ⟨_, results_tmp rfl _ _ _, _, rfl, acc, take_len h1, row_ag hr' h4 hB', hB'⟩
end Go.Proofs.YtpdodknldhbbhaaGreatDoor.Dp

namespace Go.Proofs.YtpdodknldhbbhaaGreatDoor.Dp
set_option maxRecDepth 100000
open Go.RowKit Vc Sq

/-- The first level: one list of one card, in blocks of the call's own. -/
theorem level0 {W : World} {k : Nat} {c : Crd} {sv : Value} {b1 b2 : Nat} (hfit : Fits k c) (hca : CAt W W.heap.size k c sv) (hnf : NfC W k c sv) (h1 : W.heap[b1]? = some (.cells #[sv] 24 (0, 0))) (h2 : W.heap[b2]? = some (.cells #[.slice (some ⟨b1, 0, none⟩) 1 1] 49 (0, 0))) :
    AgAt W W.heap.size (Cd W W.heap.size k) [[c]] (.slice (some ⟨b2, 0, none⟩) 1 1) := by
  have c1 := Boxed.cell (t := 24) h1
  have c2 := Boxed.cell (t := 49) h2
  have f1 := Boxed.frozen (t := 24) h1
  refine ⟨_, 1, rfl, fun _ => ⟨b2, 0, rfl, Boxed.lt h2⟩, fun b o e i hi => ?_⟩
  cases e
  obtain rfl : i = 0 := by simp at hi; omega
  refine ⟨_, c2, ⟨⟨_, 1, rfl, fun _ => ⟨b1, 0, rfl, Boxed.lt h1⟩, fun b o e i hi => ?_⟩, by simp, fun b o n c e i hi => ?_, by simp, fun t ht => by simp at ht; rw [ht]; exact hfit⟩⟩
  · cases e
    obtain rfl : i = 0 := by simp at hi; omega
    exact ⟨sv, c1, hca⟩
  · cases e
    obtain rfl : i = 0 := by simp at hi; omega
    refine ⟨⟨⟨_, _, _, h1⟩, f1⟩, fun sv' h => ?_⟩
    have : sv' = sv := by have h' := h.symm.trans c1; exact Option.some.inj h'
    rw [this]; exact hnf

set_option maxHeartbeats 4000000 in
theorem deepUpTo_any (m : Nat) (hm : 2 ≤ m) (hm9 : m ≤ 1000) (k : Nat) (c : Crd) (sv : Value) (w : World) (hfit : Fits k c) (hca : CAt w w.heap.size k c sv) (hnf : NfC w k c sv) (hlv : ∀ j, (lvl c j).length ≤ 1048576) :
    Calls Tryz.prog 24 #[.agg #[sv], .int .i64 (m : Int)] w fun e w' => ∃ n : Nat, e = .returned (.int .i64 (n : Int)) ∧ 1 ≤ n ∧ n ≤ m ∧ (kidsL [[c]] = [] → n = 1) ∧ Below w.heap.size w w' := by
  obtain ⟨a, n, cp, rfl⟩ := hca.one
  have hbox := Boxed.new w 24 (.slice a n cp)
  have hz1 : (w.alloc (.cells #[.slice a n cp] 24)).heap.size = w.heap.size + 1 := World.size_alloc _ _
  have hz2 : ((w.alloc (.cells #[.slice a n cp] 24)).alloc (.cells #[.slice a n cp] 24)).heap.size = w.heap.size + 1 + 1 := by rw [World.size_alloc, hz1]
  have hbox1 := Boxed.new (w.alloc (.cells #[.slice a n cp] 24)) 24 (.slice a n cp)
  have hbox2 := Boxed.new ((w.alloc (.cells #[.slice a n cp] 24)).alloc (.cells #[.slice a n cp] 24)) 49 (.slice (some ⟨w.heap.size + 1, 0, none⟩) 1 1)
  rw [hz1] at hbox1
  rw [hz2] at hbox2
  have hb3 : Below w.heap.size w (((w.alloc (.cells #[.slice a n cp] 24)).alloc (.cells #[.slice a n cp] 24)).alloc (.cells #[.slice (some ⟨w.heap.size + 1, 0, none⟩) 1 1] 49)) := (((Below.refl _ _).alloc (Nat.le_refl _) _).alloc (by omega) _).alloc (by omega) _
  have HL0 := Lib.hid (level0 hfit (hca.on hb3) (hnf.on hb3 hca) (hbox1.alloc _) hbox2)
  have HB3 := Lib.hid hb3
  have HLV := Lib.hid hlv
  have hc0 := hbox.cell
  have hmz : (2 : Int) ≤ (m : Int) := by omega
  have HM := Lib.hid (And.intro hm hm9)
  clear hfit hca hnf hlv hb3 hbox hbox1 hbox2 hz1 hz2 hm hm9
  go_enter Tryz.func24, Tryz.ntmps24
  go_wp2_with fail
  go_loopw [5, 11] (fun lv iv wr => ∃ (i kk : Nat) (NL : List (List Crd)), iv = .int .i64 (i : Int) ∧ i ≤ m ∧ NL.Sublist (lvl c i) ∧ Hid (AgAt wr wr.heap.size (Cd wr wr.heap.size kk) NL lv) ∧ (i = 0 → NL ≠ []) ∧ (kidsL [[c]] = [] → i ≤ 1) ∧ Below w.heap.size w wr) (fun _ iv _ => m - (intOf iv).toNat)
  case atStart => exact ⟨0, k, [[c]], rfl, Nat.zero_le _, List.Sublist.refl _, HL0, fun _ => by simp, fun _ => Nat.zero_le _, HB3.out⟩
  case round =>
    obtain ⟨i, kk, NL, rfl, hi, hsub, hag, h0, h1, hbel⟩ := hrel
    obtain ⟨la, lc, rfl⟩ := hag.out.len
    clear HL0 HB3 hc0
    by_cases hlt : i < m
    · have hiz : (i : Int) < (m : Int) := by omega
      have hm9 := HM.out.2
      by_cases hne : NL = []
      · have hl0 : NL.length = 0 := by rw [hne]; rfl
        have hr : 1 ≤ i ∧ (kidsL [[c]] = [] → i = 1) := by
          have : i ≠ 0 := fun e => h0 e hne
          exact ⟨by omega, fun h => by have := h1 h; omega⟩
        clear h0 h1 hsub hag
        generalize NL.length = q at *
        subst hl0
        go_wp2_with fail
        go_ret
        exact ⟨i, rfl, hr.1, Nat.le_of_lt hlt, hr.2, hbel⟩
      · have hp : 0 < NL.length := List.length_pos_iff.2 hne
        have hl0 : ((NL.length : Int) == 0) = false := by simp; omega
        obtain ⟨k1, rfl⟩ : ∃ k1, kk = k1 + 1 := by
          obtain ⟨_, _, _, _, _, _, hcd⟩ := hag.out.at_ hp
          cases kk with
          | succ k1 => exact ⟨k1, rfl⟩
          | zero =>
            have hq := List.length_pos_iff.2 hcd.n
            obtain ⟨x1, x2, e2⟩ := hcd.a.len
            have hA := hcd.a
            rw [e2] at hA
            obtain ⟨_, _, _, _, _, _, hz⟩ := hA.at_ hq
            exact hz.elim
        have hn1 : NL.length ≤ 1048576 := Nat.le_trans hsub.length_le (HLV.out i)
        have hn2 : (kidsL NL).length ≤ 1048576 := Nat.le_trans (kidsL_sub hsub).length_le (HLV.out (i + 1))
        have CW := Lib.hid ((callsIn_wide (n := 5)).1 (within_in k1 NL _ _ hag.out hn1 hn2))
        have HS := Lib.hid (kidsL_sub hsub)
        have H1 := Lib.hid (show kidsL [[c]] = [] → i + 1 ≤ 1 from fun h => by
          have := h1 h
          rcases Nat.eq_zero_or_pos i with hz | hz
          · omega
          · obtain rfl : i = 1 := by omega
            have : lvl c 1 = [] := h
            rw [this] at hsub
            exact absurd (List.sublist_nil.1 hsub) hne)
        have HBL := Lib.hid hbel
        clear h0 h1 hsub hag hn1 hn2 hbel hp
        go_wp2_with (go_at_call 43; refine CW.out.mono ?_; rintro e w1 ⟨nv, NL', rfl, hs1, hag1, b1⟩)
        go_roundw
        case rel => exact ⟨i + 1, k1, NL', by go_num, by omega, hs1.trans HS.out, Lib.hid hag1, fun h => by omega, H1.out, HBL.out.trans (b1.mono HBL.out.size)⟩
        case measure => simp [intOf]; omega
    · obtain rfl : i = m := by omega
      have hiz : ¬ (i : Int) < (i : Int) := by omega
      have hr : kidsL [[c]] = [] → i = 1 := fun h => by have := h1 h; have := HM.out.1; omega
      clear h0 h1 hsub hag
      go_wp2_with fail
      go_ret
      exact ⟨i, rfl, by have := HM.out.1; omega, Nat.le_refl _, hr, hbel⟩

/-- Deep, whatever the maps of places say. -/
theorem deep_any (k : Nat) (c : Crd) (sv : Value) (w : World) (hfit : Fits k c) (hca : CAt w w.heap.size k c sv) (hnf : NfC w k c sv) (hlv : ∀ j, (lvl c j).length ≤ 1048576) :
    Calls Tryz.prog 11 #[.agg #[sv]] w fun e w' => ∃ n : Nat, e = .returned (.int .i64 (n : Int)) ∧ 1 ≤ n ∧ n ≤ 9 ∧ (kidsL [[c]] = [] → n = 1) ∧ Below w.heap.size w w' := by
  obtain ⟨a, n, cp, rfl⟩ := hca.one
  have hb1 : Below w.heap.size w (w.alloc (.cells #[.slice a n cp] 24)) := (Below.refl _ _).alloc (Nat.le_refl _) _
  have hbox := (Boxed.new w 24 (.slice a n cp)).cell
  have C := Lib.hid (deepUpTo_any 9 (by decide) (by decide) k c _ _ hfit (hca.on hb1) (hnf.on hb1 hca) hlv)
  have HB := Lib.hid hb1
  clear hca hb1 hfit hnf hlv
  go_enter Tryz.func11, Tryz.ntmps11
  go_wp2_with (go_at_call 24; refine C.out.mono ?_; rintro e w1 ⟨d, rfl, h1, h9, h0, b1⟩)
  go_ret
  exact ⟨d, rfl, h1, h9, h0, HB.out.trans (b1.mono HB.out.size)⟩
end Go.Proofs.YtpdodknldhbbhaaGreatDoor.Dp

namespace Go.Proofs.YtpdodknldhbbhaaGreatDoor.Bytes
open Go.RowKit

/-- The cells of a list of bytes. -/
def cells (l : List UInt8) : List Value := l.map fun b => Value.int .u8 b.toNat
theorem cells_length (l : List UInt8) : (cells l).length = l.length := by simp [cells]
theorem cells_append (l r : List UInt8) : cells (l ++ r) = cells l ++ cells r := by simp [cells]

/-- The slice v holds the bytes l, in a row of the call's own (blocks from base on). -/
def Has (w : World) (base : Nat) (v : Value) (l : List UInt8) : Prop := w.ownsRow base 5 1 v l.length (cells l)

theorem Has.nil (w : World) (base : Nat) : Has w base (.slice none 0 0) [] := World.ownsRow_nil _ _ _ _
theorem Has.alloc {w : World} {base : Nat} {v : Value} {l : List UInt8} (h : Has w base v l) (o : Obj) : Has (w.alloc o) base v l := World.ownsRow.alloc h o
theorem Has.drewN {w : World} {base : Nat} {v : Value} {l : List UInt8} (h : Has w base v l) (n : Nat) : Has (w.drewN n) base v l := h
theorem Has.drew {w : World} {base : Nat} {v : Value} {l : List UInt8} (h : Has w base v l) : Has w.drew base v l := h

theorem infoByte : (Tryz.prog.info? 5).map (fun i => (i.zero, i.size, i.bytes)) = some (some (.int .u8 0), 1, 1) := by kernel_rfl

/-- Its text. -/
theorem Has.text {w : World} {base : Nat} {v : Value} {l : List UInt8} (h : Has w base v l) : (convert 60 9 v).run Tryz.prog w = .ok (.string ⟨l.toArray⟩) w := by
  obtain ⟨hl, ⟨rfl, h0⟩ | ⟨g, cap, cur, rfl, _, hg, _, _, _, ht⟩⟩ := h
  · obtain rfl := List.eq_nil_of_length_eq_zero h0
    exact Lib.run_convert_nil_bytes w _ _ 5 0 Tryz.underlying60 Tryz.underlying5 Tryz.underlying9
  · refine run_convert_bytes_back w _ _ 5 _ cap l Tryz.underlying60 Tryz.underlying5 Tryz.underlying9 ?_
    exact Lib.bytes_of_row hg (by rw [Nat.mul_one] at ht; exact ht)

/-- Behind an append of the bytes r. -/
theorem Has.laid {w : World} {base m : Nat} {v : Value} {l r : List UInt8} (hm : m = r.length) (h : w.ownsRow base 5 1 v (l.length + m) (cells l ++ cells r)) : Has w base v (l ++ r) := by
  subst hm; unfold Has; rw [cells_append, List.length_append]; exact h
theorem Has.laid1 {w : World} {base : Nat} {v : Value} {l : List UInt8} {c : UInt8} (h : w.ownsRow base 5 1 v (l.length + 1) (cells l ++ [.int .u8 (c.toNat : Int)])) : Has w base v (l ++ [c]) :=
  Has.laid (r := [c]) rfl h
theorem Has.laid2 {w : World} {base : Nat} {v : Value} {l : List UInt8} {c d : UInt8} (h : w.ownsRow base 5 1 v (l.length + 2) (cells l ++ [.int .u8 (c.toNat : Int), .int .u8 (d.toNat : Int)])) : Has w base v (l ++ [c, d]) :=
  Has.laid (r := [c, d]) rfl h
theorem Has.below {a w w1 : World} {B : Nat} {v : Value} {l : List UInt8} (h : Has w B v l) (hb : Below B a w) (hB : B ≤ w.heap.size) (o : Obj) (hg : (w.alloc o).grownBy w1 v.ownBlock) : Below B a w1 :=
  (hb.alloc hB o).grown hg (by simp; omega) (fun k e => (World.ownsRow.lt h k e).1)
theorem Has.belowD {a w w1 : World} {B : Nat} {v : Value} {l : List UInt8} (h : Has w B v l) (hb : Below B a w) (hB : B ≤ w.heap.size) (o : Obj) (hg : (w.alloc o).drew.grownBy w1 v.ownBlock) : Below B a w1 :=
  ((hb.alloc hB o).drew).grown hg (by simp; omega) (fun k e => (World.ownsRow.lt h k e).1)
/-- A row's slice, written out. -/
theorem Has.shape {w : World} {base n : Nat} {v : Value} {xs : List Value} (h : w.ownsRow base 5 1 v n xs) : ∃ a cap, v = .slice a n cap := by
  obtain ⟨_, ⟨rfl, rfl⟩ | ⟨g, cap, cur, rfl, _⟩⟩ := h
  · exact ⟨none, 0, rfl⟩
  · exact ⟨_, cap, rfl⟩
/-- A row stays where nothing that was there turns. -/
theorem row_below {w w' : World} {base n : Nat} {v : Value} {xs : List Value} (h : w.ownsRow base 5 1 v n xs) (hb : Below w.heap.size w w') : w'.ownsRow base 5 1 v n xs := by
  refine h.kept (row := none) ⟨hb.os, hb.tape, hb.output, hb.size, fun k hk _ => hb.block k hk⟩ ?_
  cases e : v.ownBlock with
  | none => exact .inl rfl
  | some k => exact .inr (by simp)
theorem base_ok' {B : Nat} {w : World} (h : B ≤ w.heap.size) (o : Obj) : B ≤ (w.alloc o).heap.size := by
  simp; omega
theorem one_pos : (0 : Nat) < 1 := by decide
end Go.Proofs.YtpdodknldhbbhaaGreatDoor.Bytes

namespace Go.Proofs.YtpdodknldhbbhaaGreatDoor.Bytes
open Go.RowKit

/-- Block g holds the bytes d, and they may be written. -/
def Row (w : World) (g : Nat) (d : List UInt8) : Prop := g < w.heap.size ∧ ∀ j, (h : j < d.length) → w.cell? ⟨g, j, none⟩ = some (.int .u8 (d[j].toNat : Int)) ∧ w.frozen? ⟨g, j, none⟩ = false
theorem Row.below {w w' : World} {g : Nat} {d : List UInt8} (h : Row w g d) (hb : Below w.heap.size w w') : Row w' g d :=
  ⟨Nat.lt_of_lt_of_le h.1 hb.size, fun j hj => ⟨(hb.cell (p := ⟨g, j, none⟩) h.1).trans (h.2 j hj).1, (hb.frozen (p := ⟨g, j, none⟩) h.1).trans (h.2 j hj).2⟩⟩
theorem Row.drew {w : World} {g : Nat} {d : List UInt8} (h : Row w g d) : Row w.drew g d := h
theorem Row.set {w : World} {g : Nat} {d : List UInt8} (h : Row w g d) (i : Nat) (c : UInt8) : Row (w.setCell ⟨g, i, none⟩ (.int .u8 (c.toNat : Int))) g (d.set i c) := by
  refine ⟨by rw [World.size_setCell]; exact h.1, fun j hj => ?_⟩
  rw [List.length_set] at hj
  refine ⟨?_, by rw [World.frozen?_setCell]; exact (h.2 j hj).2⟩
  by_cases e : i = j
  · subst e
    rw [World.cell?_setCell_same _ _ _ (h.2 i hj).1]
    simp
  · rw [World.cell?_setCell_other _ _ _ _ (fun k => e (congrArg Addr.off k)), (h.2 j hj).1]
    simp [e]
theorem Row.text {w : World} {g cap n : Nat} {d : List UInt8} (h : Row w g d) (hn : n = d.length) : (convert 60 9 (.slice (some ⟨g, 0, none⟩) n cap)).run Tryz.prog w = .ok (.string ⟨d.toArray⟩) w := by
  subst hn
  exact run_convert_bytes_back w _ _ 5 ⟨g, 0, none⟩ cap d Tryz.underlying60 Tryz.underlying5 Tryz.underlying9 fun j hj => by
    have e : ((⟨g, 0, none⟩ : Addr).add j) = ⟨g, j, none⟩ := by
      unfold Addr.add
      split
      · subst_vars; rfl
      · simp
    rw [e]; exact (h.2 j hj).1
/-- A text as bytes of the call's own. -/
theorem bytes_new (w : World) (t : ByteArray) : ∃ cap W, (convert 9 60 (.string t)).run Tryz.prog w = .ok (.slice (some ⟨w.heap.size, 0, none⟩) t.size cap) W ∧ Row W w.heap.size t.data.toList ∧ Below w.heap.size w W := by
  refine ⟨_, _, run_bytes_of_string w _ _ 5 t Tryz.underlying9 Tryz.underlying60 Tryz.underlying5, ?_, ((Below.refl _ w).drew).alloc (Nat.le_refl _) _⟩
  refine ⟨by rw [World.size_alloc]; exact Nat.lt_succ_self _, fun j hj => ⟨?_, ?_⟩⟩
  · have hj' : j < t.data.size := by simpa using hj
    exact (World.cell?_alloc_mark w.drew _ _ _ j).trans (by rw [bytesRow_at t _ j hj']; simp)
  · refine (World.frozen?_alloc_mark w.drew _ _ _ _ j).trans ?_
    have hj' : j < t.data.size := by simpa using hj
    have : ¬ (bytesRow t (grownCap w t.size 0 5)).size ≤ j := by
      unfold bytesRow
      rw [Array.size_append, Array.size_map]
      omega
    rw [Bool.and_eq_false_iff, decide_eq_false_iff_not]
    exact .inl this
theorem Row.at_ {w : World} {g j : Nat} {d : List UInt8} (h : Row w g d) (hj : j < d.length) : ∃ c, d[j]? = some c ∧ w.cell? ⟨g, j, none⟩ = some (.int .u8 (c.toNat : Int)) ∧ w.frozen? ⟨g, j, none⟩ = false :=
  ⟨d[j], List.getElem?_eq_getElem hj, (h.2 j hj).1, (h.2 j hj).2⟩
end Go.Proofs.YtpdodknldhbbhaaGreatDoor.Bytes

namespace Go.Proofs.YtpdodknldhbbhaaGreatDoor.Pp
open Go.RowKit Bytes Cs

/-- A text in capitals. -/
def up (l : List UInt8) : List UInt8 := l.map cap1
end Go.Proofs.YtpdodknldhbbhaaGreatDoor.Pp

namespace Go.Proofs.YtpdodknldhbbhaaGreatDoor.Vc
open Go.RowKit Bytes Cs Pp

end Go.Proofs.YtpdodknldhbbhaaGreatDoor.Vc
