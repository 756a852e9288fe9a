/-
Rows of elements of a call's own: what is put behind one that has room, and a kids' list written in one. Conditions: those that each theorem states.
-/
import Derived.Test.YtpgjalikgmagiaaDoorTrWeigh
import Derived.Test.YtpgjalikgmagiaaDoorAppRun
import Derived.Laws.OwnMore
import Derived.Laws.MakeOwn
namespace Go.Proofs.YtpgjalikgmagiaaDoor.Tr
set_option maxRecDepth 100000
open Go.RowKit Sq

def ecells : List Iv → List Value
  | [] => []
  | x :: r => .int .i64 x.1.page :: .string x.1.name :: .string x.1.text :: .bool x.1.bare :: x.2 :: ecells r
theorem ecells_length : ∀ l : List Iv, (ecells l).length = l.length * 5
  | [] => rfl
  | x :: r => by rw [ecells]; simp only [List.length_cons]; rw [ecells_length r]; omega
theorem ecells_append : ∀ l r : List Iv, ecells (l ++ r) = ecells l ++ ecells r
  | [], _ => rfl
  | x :: l, r => by rw [List.cons_append, ecells, ecells_append l r]; rfl
theorem ecells_at : ∀ (l : List Iv) (i : Nat) (h : i < l.length), (ecells l)[i * 5]? = some (.int .i64 l[i].1.page) ∧ (ecells l)[i * 5 + 1]? = some (.string l[i].1.name) ∧ (ecells l)[i * 5 + 2]? = some (.string l[i].1.text) ∧ (ecells l)[i * 5 + 3]? = some (.bool l[i].1.bare) ∧ (ecells l)[i * 5 + 4]? = some l[i].2
  | x :: r, 0, _ => ⟨rfl, rfl, rfl, rfl, rfl⟩
  | x :: r, i + 1, h => by
    have ih := ecells_at r i (by simpa using h)
    have e : ∀ k, (i + 1) * 5 + k = (i * 5 + k) + 1 + 1 + 1 + 1 + 1 := fun k => by omega
    have e0 := e 0
    simp only [Nat.add_zero] at e0
    rw [e 1, e 2, e 3, e 4, e0, ecells]
    simpa using ih
theorem ecells_get {l : List Iv} {j : Nat} {u : Value} (h : (ecells l)[j]? = some u) : ∃ i, ∃ hi : i < l.length, (j = i * 5 ∧ u = .int .i64 l[i].1.page) ∨ (j = i * 5 + 1 ∧ u = .string l[i].1.name) ∨ (j = i * 5 + 2 ∧ u = .string l[i].1.text) ∨ (j = i * 5 + 3 ∧ u = .bool l[i].1.bare) ∨ (j = i * 5 + 4 ∧ u = l[i].2) := by
  have hj : j < l.length * 5 := by rw [← ecells_length]; exact (List.getElem?_eq_some_iff.1 h).1
  have hi : j / 5 < l.length := by omega
  obtain ⟨p0, p1, p2, p3, p4⟩ := ecells_at l (j / 5) hi
  refine ⟨j / 5, hi, ?_⟩
  rcases (by omega : j = j / 5 * 5 ∨ j = j / 5 * 5 + 1 ∨ j = j / 5 * 5 + 2 ∨ j = j / 5 * 5 + 3 ∨ j = j / 5 * 5 + 4) with e | e | e | e | e
  · rw [← e, h] at p0; exact .inl ⟨e, Option.some.inj p0⟩
  · rw [← e, h] at p1; exact .inr (.inl ⟨e, Option.some.inj p1⟩)
  · rw [← e, h] at p2; exact .inr (.inr (.inl ⟨e, Option.some.inj p2⟩))
  · rw [← e, h] at p3; exact .inr (.inr (.inr (.inl ⟨e, Option.some.inj p3⟩)))
  · rw [← e, h] at p4; exact .inr (.inr (.inr (.inr ⟨e, Option.some.inj p4⟩)))
theorem ecells_set : ∀ (l : List Iv) (i : Nat) (h : i < l.length) (v : Value), ecells (l.set i (l[i].1, v)) = (ecells l).set (i * 5 + 4) v
  | x :: r, 0, _, v => rfl
  | x :: r, i + 1, h, v => by
    have ih := ecells_set r i (by simpa using h) v
    rw [show (i + 1) * 5 + 4 = (i * 5 + 4) + 1 + 1 + 1 + 1 + 1 by omega]
    simp only [List.getElem_cons_succ, List.set_cons_succ, ecells]
    rw [ih]
/-- All their kids' lists are slices. -/
def Sls (l : List Iv) : Prop := ∀ x ∈ l, ∃ a n c, x.2 = .slice a n c
theorem ecells_one {l : List Iv} (h : Sls l) : ∀ u ∈ ecells l, u.oneCell' = true := fun u hu => by
  obtain ⟨j, hj, rfl⟩ := List.getElem_of_mem hu
  obtain ⟨i, hi, hc⟩ := ecells_get (List.getElem?_eq_getElem hj)
  rcases hc with ⟨_, e⟩ | ⟨_, e⟩ | ⟨_, e⟩ | ⟨_, e⟩ | ⟨_, e⟩
  · rw [e]; rfl
  · rw [e]; rfl
  · rw [e]; rfl
  · rw [e]; rfl
  · obtain ⟨a, n, c, hs⟩ := h _ (List.getElem_mem hi)
    rw [e, hs]; rfl
theorem infoEl : (Tryd.prog.info? 24).map (fun i => (i.zero, i.size, i.bytes)) = some (some (.agg #[.int .i64 0, .string .empty, .string .empty, .bool false, .slice none 0 0]), 5, 72) := by kernel_rfl
/-- A row of elements of the call's own, in the block g, with room. -/
def Es (w : World) (base g cap : Nat) (l : List Iv) : Prop := w.ownsRow base 24 5 (.slice (some ⟨g, 0, none⟩) l.length cap) l.length (ecells l)
theorem Es.parts {w : World} {base g cap : Nat} {l : List Iv} (h : Es w base g cap l) : base ≤ g ∧ g < w.heap.size ∧ l.length ≤ cap ∧ ∃ cur, w.heap[g]? = some (.cells cur 24 (0, 0)) ∧ cur.size = cap * 5 := by
  obtain ⟨_, ⟨h', _⟩ | ⟨g', cap', cur, h', hb, hg, hnc, hcm, hcs, ht⟩⟩ := h
  · simp at h'
  · simp only [Value.slice.injEq, Option.some.injEq, Addr.mk.injEq, and_true, true_and] at h'
    obtain ⟨rfl, rfl⟩ := h'
    exact ⟨hb, (Array.getElem?_eq_some_iff.1 hg).1, hnc, cur, hg, hcs⟩
theorem Es.at_ {w : World} {base g cap : Nat} {l : List Iv} (h : Es w base g cap l) {i : Nat} (hi : i < l.length) : w.cell? ⟨g, i * 5, none⟩ = some (.int .i64 l[i].1.page) ∧ w.cell? ⟨g, i * 5 + 1, none⟩ = some (.string l[i].1.name) ∧ w.cell? ⟨g, i * 5 + 2, none⟩ = some (.string l[i].1.text) ∧ w.cell? ⟨g, i * 5 + 3, none⟩ = some (.bool l[i].1.bare) ∧ w.cell? ⟨g, i * 5 + 4, none⟩ = some l[i].2 := by
  obtain ⟨_, ⟨h', _⟩ | ⟨g', cap', cur, h', hb, hg, hnc, hcm, hcs, ht⟩⟩ := h
  · simp at h'
  · simp only [Value.slice.injEq, Option.some.injEq, Addr.mk.injEq, and_true, true_and] at h'
    obtain ⟨rfl, rfl⟩ := h'
    obtain ⟨p0, p1, p2, p3, p4⟩ := ecells_at l i hi
    rw [← ht] at p0 p1 p2 p3 p4
    have q0 := Lib.cells_of_row hg _ _ _ p0
    have q1 := Lib.cells_of_row hg _ _ _ p1
    have q2 := Lib.cells_of_row hg _ _ _ p2
    have q3 := Lib.cells_of_row hg _ _ _ p3
    have q4 := Lib.cells_of_row hg _ _ _ p4
    rw [Lib.addr_add, Nat.zero_add] at q0 q1 q2 q3 q4
    exact ⟨q0, q1, q2, q3, q4⟩
theorem Es.frozen {w : World} {base g cap : Nat} {l : List Iv} (h : Es w base g cap l) (j : Nat) : w.frozen? ⟨g, j, none⟩ = false := by
  obtain ⟨_, _, _, cur, hg, _⟩ := h.parts
  exact frozen_of_row _ _ _ _ _ hg
theorem Es.stays {O : Nat → Prop} {w w' : World} {base g cap : Nat} {l : List Iv} (h : Es w base g cap l) (hS : Stays O w w') (hO : O g) : Es w' base g cap l := hS.row h (fun k e => by simp [Value.ownBlock] at e; exact e ▸ hO)
theorem Es.store {w : World} {base g cap : Nat} {l : List Iv} (h : Es w base g cap l) {i : Nat} (hi : i < l.length) (v : Value) : Es (w.setCell ⟨g, i * 5 + 4, none⟩ v) base g cap (l.set i (l[i].1, v)) := by
  unfold Es
  rw [List.length_set, ecells_set l i hi v]
  exact (World.ownsRow.stored h (i * 5 + 4) v).1
/-- Elements are put behind a row that has room for them. -/
theorem Es.put {W : World} {base g cap : Nat} {l K : List Iv} (h : Es W base g cap l) (hs : Sls K) (hroom : l.length + K.length ≤ cap) (hcap : cap ≤ 1048576) (a : Addr) (c : Nat) (hsrc : ∀ j u, (ecells K)[j]? = some u → W.cell? (a.add j) = some u) :
    ∃ w', (∀ ty, (Builtin.append_ #[22, 22] ty #[.slice (some ⟨g, 0, none⟩) l.length cap, .slice (some a) K.length c]).run Tryd.prog W = .ok (.slice (some ⟨g, 0, none⟩) (l.length + K.length) cap) w') ∧ Es w' base g cap (l ++ K) ∧ W.grownBy w' (some g) := by
  obtain ⟨i0, hi, hz0, hz1, hz2⟩ := info_parts infoEl
  obtain ⟨hbg, hgl, hlc, cur, hg, hcs⟩ := h.parts
  obtain ⟨v', w', hrun, hown, hgr, _⟩ := run_append_own (P := Tryd.prog) W base 22 0 24 i0 _ 5 72 Tryd.underlying22 hi hz0 hz1 hz2 rfl (by decide) _ l.length _ h a K.length c (ecells K) (ecells_length K) hsrc (ecells_one hs) (by unfold maxLen; omega) (by omega) (by omega)
  have hr := run_append_room (P := Tryd.prog) W 22 0 24 i0 Tryd.underlying22 hi g l.length cap cur hg a K.length c (ecells K) (by rw [hz1]; exact ecells_length K) hsrc (ecells_one hs) hroom (by rw [hz1, ecells_length, hcs]; omega)
  rw [hr] at hrun
  cases hrun
  refine ⟨_, fun ty => hr, ?_, hgr⟩
  unfold Es
  rw [List.length_append, ecells_append]
  exact hown
/-- The cells of a list, as they are put. -/
theorem Lst.src {w : World} {B : Nat} {b o n c : Nat} {l : List Iv} (h : Lst w B (.slice (some ⟨b, o, none⟩) n c) l) : ∀ j u, (ecells l)[j]? = some u → w.cell? ((⟨b, o, none⟩ : Addr).add j) = some u := fun j u hu => by
  obtain ⟨i, hi, hc⟩ := ecells_get hu
  obtain ⟨b', o', e, hb, c0, c1, c2, c3, c4, _⟩ := h.at_ hi
  cases e
  rw [Lib.addr_add]
  rcases hc with ⟨rfl, rfl⟩ | ⟨rfl, rfl⟩ | ⟨rfl, rfl⟩ | ⟨rfl, rfl⟩ | ⟨rfl, rfl⟩
  · exact c0
  · rw [← Nat.add_assoc]; exact c1
  · rw [← Nat.add_assoc]; exact c2
  · rw [← Nat.add_assoc]; exact c3
  · rw [← Nat.add_assoc]; exact c4
theorem Lst.sls {w : World} {B : Nat} {v : Value} {l : List Iv} (h : Lst w B v l) : Sls l := fun x hx => by
  obtain ⟨a, c, rfl, _, h⟩ := h
  obtain ⟨j, hj, rfl⟩ := List.getElem_of_mem hx
  obtain ⟨_, _, _, _, _, _, _, _, _, hok⟩ := h j hj
  obtain ⟨a, c, h⟩ := hok.len
  exact ⟨_, _, _, h⟩
end Go.Proofs.YtpgjalikgmagiaaDoor.Tr
