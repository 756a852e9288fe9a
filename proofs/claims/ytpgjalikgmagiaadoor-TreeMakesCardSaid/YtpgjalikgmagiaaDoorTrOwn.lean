/-
'append([]api.Elem{}, kids...)': a row of the call's own with the same elements. Conditions: the list lies below the caller's blocks, at most 3000 long.
-/
import Derived.Test.YtpgjalikgmagiaaDoorTrNode
namespace Go.Proofs.YtpgjalikgmagiaaDoor.Tr
set_option maxRecDepth 100000
open Go.RowKit Sq

theorem Lst.up {w : World} {B B' : Nat} {v : Value} {l : List Iv} (h : Lst w B v l) (hb : B ≤ B') : Lst w B' v l := by
  obtain ⟨a, c, e, hm, h⟩ := h
  refine ⟨a, c, e, hm, fun j hj => ?_⟩
  obtain ⟨b, o, ea, hB, c0, c1, c2, c3, c4, hok⟩ := h j hj
  exact ⟨b, o, ea, Nat.lt_of_lt_of_le hB hb, c0, c1, c2, c3, c4, hok.up hb⟩
theorem row_lst {W : World} {base B : Nat} {v : Value} {l : List Iv} (h : W.ownsRow base 24 5 v l.length (ecells l)) (hok : ∀ x ∈ l, Ok W B x) (hB : B ≤ W.heap.size) (hm : l.length ≤ maxLen) : Lst W W.heap.size v l := by
  obtain ⟨h0, ⟨rfl, h1⟩ | ⟨g, cap, cur, rfl, hb, hg, hnc, hcm, hcs, ht⟩⟩ := h
  · exact ⟨none, 0, by rw [h1], hm, fun j hj => by omega⟩
  · have hes : Es W base g cap l := ⟨h0, .inr ⟨g, cap, cur, rfl, hb, hg, hnc, hcm, hcs, ht⟩⟩
    refine ⟨_, cap, rfl, hm, fun j hj => ?_⟩
    obtain ⟨c0, c1, c2, c3, c4⟩ := hes.at_ hj
    refine ⟨g, 0, rfl, (Array.getElem?_eq_some_iff.1 hg).1, ?_⟩
    simp only [Nat.zero_add]
    exact ⟨c0, c1, c2, c3, c4, (hok _ (List.getElem_mem hj)).up hB⟩
theorem Lst.oks {w : World} {B : Nat} {v : Value} {l : List Iv} (h : Lst w B v l) : ∀ x ∈ l, Ok w B x := fun x hx => by
  obtain ⟨a, c, rfl, _, h⟩ := h
  obtain ⟨j, hj, rfl⟩ := List.getElem_of_mem hx
  obtain ⟨_, _, _, _, _, _, _, _, _, hok⟩ := h j hj
  exact hok
theorem own_append (l : List Iv) (v : Value) (W : World) (hl : Lst W W.heap.size v l) (hn : l.length ≤ 3000) :
    ∃ v' w', (∀ ty, (Builtin.append_ #[22, 22] ty #[.slice (some ⟨W.heap.size, 0, none⟩) 0 0, v]).run Tryd.prog (W.alloc (.cells #[] 24)) = .ok v' w') ∧ Lst w' w'.heap.size v' l ∧ Below W.heap.size W w' := by
  obtain ⟨i0, hi, hz0, hz1, hz2⟩ := info_parts infoEl
  have hb : Below W.heap.size W (W.alloc (.cells #[] 24)) := (Below.refl _ _).alloc (Nat.le_refl _) _
  have hs : (W.alloc (.cells #[] 24)).heap.size = W.heap.size + 1 := World.size_alloc _ _
  have hown : (W.alloc (.cells #[] 24)).ownsRow W.heap.size 24 5 (.slice (some ⟨W.heap.size, 0, none⟩) 0 0) 0 [] := World.ownsRow_made W #[] 0 (Nat.le_refl _) (by decide) rfl
  have hl2 := hl.stays hb
  obtain ⟨a, c, rfl⟩ := hl.len
  cases a with
  | none =>
    have hK : l = [] := by
      cases l with
      | nil => rfl
      | cons x r =>
        obtain ⟨_, _, e, _⟩ := hl.at_ (j := 0) (by simp)
        cases e
    subst hK
    refine ⟨.slice (some ⟨W.heap.size, 0, none⟩) 0 0, W.alloc (.cells #[] 24), fun ty => ?_, row_lst hown (fun x hx => by cases hx) hb.size (Nat.zero_le _), hb⟩
    simp [Builtin.append_, run_underlying Tryd.underlying22, sizeOf, typeInfo, hi, Builtin.lenOf, Builtin.firstCells, storeCells]
  | some ad =>
    have hsrc : ∀ j u, (ecells l)[j]? = some u → (W.alloc (.cells #[] 24)).cell? (ad.add j) = some u := by
      cases l with
      | nil => intro j u hu; simp [ecells] at hu
      | cons x r =>
        obtain ⟨b, o, e, _⟩ := hl.at_ (j := 0) (by simp)
        cases e
        exact hl2.src
    obtain ⟨v', w', hrun, hown', hgr, _⟩ := run_append_own (P := Tryd.prog) (W.alloc (.cells #[] 24)) W.heap.size 22 0 24 i0 _ 5 72 Tryd.underlying22 hi hz0 hz1 hz2 rfl (by decide) _ 0 _ hown ad l.length c (ecells l) (ecells_length l) hsrc (ecells_one hl.sls) (by unfold maxLen; omega) (by omega) (by omega)
    rw [Nat.zero_add, List.nil_append] at hown'
    have hbw : Below W.heap.size W w' := hb.grown hgr (by omega) (fun k e => by cases e; exact Nat.le_refl _)
    refine ⟨v', w', fun ty => hrun, row_lst hown' (fun x hx => (hl.oks x hx).stays hbw) hbw.size (by unfold maxLen; omega), hbw⟩
end Go.Proofs.YtpgjalikgmagiaaDoor.Tr
