/-
What is made of right elements is right, as far as it is not too much: in plain words. No program in it, no conditions.
-/
import Derived.Test.YtpgjalikgmagiaaDoorTrTellsLaw
namespace Go.Proofs.YtpgjalikgmagiaaDoor.Tr
set_option maxRecDepth 100000
open Go.RowKit

/-- The element that is made of kids. -/
abbrev mkE (p : Int) (n : ByteArray) (ks : List El) : El := .mk p n ⟨#[]⟩ false ks
theorem small_kid {e c : El} (h : Small e) (hc : c ∈ e.kids) : Small c := by
  have hsub : ∀ k d, ∀ y ∈ pre k d c, ∃ z ∈ pre (k + 1) 1 e, z.2 = y.2 := fun k d y hy => by
    have h1 : y.2 ∈ (pre k (1 + 1) c).map (·.2) := by rw [pre_snd k (1 + 1) d]; exact List.mem_map.2 ⟨y, hy, rfl⟩
    obtain ⟨z, hz, e1⟩ := List.mem_map.1 h1
    exact ⟨z, by rw [pre_succ]; exact List.mem_cons_of_mem _ (List.mem_flatten.2 ⟨_, List.mem_map.2 ⟨c, hc, rfl⟩, hz⟩), e1⟩
  refine ⟨ht_kids h.ht c hc, fun k d => ?_, fun k d y hy => ?_⟩
  · have h1 := h.n (k + 1) 1
    rw [pre_succ, List.length_cons, List.length_flatten, List.map_map] at h1
    have h2 : (pre k d c).length ≤ (e.kids.map (List.length ∘ pre k (1 + 1))).sum := by
      have : (List.length ∘ pre k (1 + 1)) c ∈ e.kids.map (List.length ∘ pre k (1 + 1)) := List.mem_map.2 ⟨c, hc, rfl⟩
      have hle : ∀ (l : List Nat) (a : Nat), a ∈ l → a ≤ l.sum := fun l => by
        induction l with
        | nil => intro a ha; cases ha
        | cons b r ih =>
          intro a ha
          rw [List.sum_cons]
          rcases List.mem_cons.1 ha with rfl | ha
          · omega
          · have := ih a ha; omega
      have h3 := hle _ _ this
      rw [pre_len k d (1 + 1)]
      exact h3
    omega
  · obtain ⟨z, hz, e1⟩ := hsub k d y hy
    rw [← e1]
    exact h.t (k + 1) 1 z hz
theorem small_mk {p : Int} {n : ByteArray} {e : El} (h : Small e) (hn : n.size ≤ 10000) : Small (mkE p n e.kids) := by
  refine ⟨fun c hc => h.ht c hc, fun k d => ?_, fun k d y hy => ?_⟩
  · cases k with
    | zero => show 0 < 3000; decide
    | succ k =>
      have := h.n (k + 1) d
      rw [pre_succ, List.length_cons] at this ⊢
      exact this
  · cases k with
    | zero => cases hy
    | succ k =>
      rw [pre_succ] at hy
      rcases List.mem_cons.1 hy with rfl | hy
      · exact ⟨by show 0 ≤ 10000; decide, hn⟩
      · exact h.t (k + 1) d y (by rw [pre_succ]; exact List.mem_cons_of_mem _ hy)
theorem small_leaf {p : Int} {n t : ByteArray} (hn : n.size ≤ 10000) (ht : t.size ≤ 10000) : Small (.mk p n t false []) := by
  refine ⟨fun c hc => (by cases hc), fun k d => ?_, fun k d y hy => ?_⟩
  · cases k with
    | zero => show 0 < 3000; decide
    | succ k => rw [pre_succ]; show 1 < 3000; decide
  · cases k with
    | zero => cases hy
    | succ k =>
      rw [pre_succ] at hy
      rcases List.mem_cons.1 hy with rfl | hy
      · exact ⟨ht, hn⟩
      · cases hy
theorem chk0 {e : El} : chkS e = 0 ↔ (∀ x ∈ pre 13 1 e, ¬ 12 < x.1) ∧ weight e ≤ 2000 ∧ ∀ x ∈ pre 13 1 e, flaw x.2 = 0 := by
  unfold chkS
  constructor
  · intro h
    split at h
    · cases h
    · rename_i h1
      split at h
      · cases h
      · rename_i h2
        refine ⟨fun x hx => ?_, by omega, flaws_none.1 h⟩
        rw [Bool.not_eq_true, List.any_eq_false] at h1
        simpa using h1 x hx
  · rintro ⟨h1, h2, h3⟩
    rw [if_neg (by rw [Bool.not_eq_true, List.any_eq_false]; exact fun x hx => by simpa using h1 x hx), if_neg (by omega)]
    exact flaws_none.2 h3
/-- Kids of a right element are right. -/
theorem chk_kids {e c : El} (hs : Small e) (hc : c ∈ e.kids) (h : chkS e = 0) : chkS c = 0 := by
  obtain ⟨h1, h2, h3⟩ := chk0.1 h
  have hH : Ht 12 e := ht_pre 12 0 1 e fun x hx => by have := h1 x hx; omega
  have hc11 : Ht 11 c := hH c hc
  have hcs := small_kid hs hc
  have hp : pre 13 1 c = pre 11 1 c := pre_ht 11 2 1 c hc11
  refine chk0.2 ⟨fun x hx => ?_, ?_, fun x hx => ?_⟩
  · rw [hp] at hx
    have := pre_le 11 1 c x hx
    omega
  · rw [(small_cnt hs).2] at h2
    rw [(small_cnt hcs).2]
    rw [cnt_kids hs.ht] at h2
    have hle : ∀ (l : List El) (a : El), a ∈ l → cnt a ≤ (l.map cnt).sum := fun l => by
      induction l with
      | nil => intro a ha; cases ha
      | cons b r ih =>
        intro a ha
        rw [List.map_cons, List.sum_cons]
        rcases List.mem_cons.1 ha with rfl | ha
        · omega
        · have := ih a ha; omega
    have := hle _ _ hc
    omega
  · rw [hp] at hx
    have h4 : x.2 ∈ (pre 11 (1 + 1) c).map (·.2) := by rw [pre_snd 11 (1 + 1) 1]; exact List.mem_map.2 ⟨x, hx, rfl⟩
    obtain ⟨z, hz, e1⟩ := List.mem_map.1 h4
    rw [← e1]
    refine h3 z (pre_cut 12 1 1 e z ?_)
    rw [pre_succ]
    exact List.mem_cons_of_mem _ (List.mem_flatten.2 ⟨_, List.mem_map.2 ⟨c, hc, rfl⟩, hz⟩)
theorem shown_none : shownB ⟨#[]⟩ = true := by
  unfold shownB
  show (([] : List UInt8).all inkB && Lib.validD []) = true
  rw [Lib.validD_nil]; rfl
/-- What is wrong with an element that is made of right kids. -/
theorem chk_made {p : Int} {n : ByteArray} {ks : List El} (h : ∀ c ∈ ks, chkS c = 0) : chkS (mkE p n ks) = 0 ∨ chkS (mkE p n ks) = 9 ∨ chkS (mkE p n ks) = 4 ∨ chkS (mkE p n ks) = 5 ∨ chkS (mkE p n ks) = 14 := by
  unfold chkS
  split
  · exact .inr (.inl rfl)
  split
  · exact .inr (.inr (.inl rfl))
  rw [show pre 13 1 (mkE p n ks) = (1, mkE p n ks) :: (ks.map (pre 12 (1 + 1))).flatten from pre_succ 12 1 _, flaws]
  have hr : flaws flaw (ks.map (pre 12 (1 + 1))).flatten = 0 := flaws_none.2 fun x hx => by
    obtain ⟨z, hz, hx⟩ := List.mem_flatten.1 hx
    obtain ⟨c, hc, rfl⟩ := List.mem_map.1 hz
    have h4 : x.2 ∈ (pre 12 1 c).map (·.2) := by rw [pre_snd 12 1 (1 + 1)]; exact List.mem_map.2 ⟨x, hx, rfl⟩
    obtain ⟨z, hz, e1⟩ := List.mem_map.1 h4
    rw [← e1]
    exact (chk0.1 (h c hc)).2.2 z (pre_cut 12 1 1 c z hz)
  rw [hr]
  have hf : flaw (mkE p n ks) = 0 ∨ flaw (mkE p n ks) = 4 ∨ flaw (mkE p n ks) = 5 ∨ flaw (mkE p n ks) = 14 := by
    show flawM p (nameB n) ks.length 0 false (shownB ⟨#[]⟩) = 0 ∨ flawM p (nameB n) ks.length 0 false (shownB ⟨#[]⟩) = 4 ∨ flawM p (nameB n) ks.length 0 false (shownB ⟨#[]⟩) = 5 ∨ flawM p (nameB n) ks.length 0 false (shownB ⟨#[]⟩) = 14
    rw [shown_none]
    unfold flawM
    by_cases h1 : p < 0 ∨ 2 < p
    · rw [if_pos h1]; exact .inr (.inr (.inl rfl))
    rw [if_neg h1]
    by_cases h2 : nameB n = false
    · rw [if_pos h2]; exact .inr (.inr (.inr rfl))
    rw [if_neg h2]
    by_cases h3 : 200 < ks.length
    · rw [if_pos h3]; exact .inr (.inl rfl)
    rw [if_neg h3, if_neg (by omega), if_neg (by omega), if_neg (by simp)]
    exact .inl rfl
  show (if flaw (mkE p n ks) ≠ 0 then flaw (mkE p n ks) else 0) = 0 ∨ (if flaw (mkE p n ks) ≠ 0 then flaw (mkE p n ks) else 0) = 9 ∨ (if flaw (mkE p n ks) ≠ 0 then flaw (mkE p n ks) else 0) = 4 ∨ (if flaw (mkE p n ks) ≠ 0 then flaw (mkE p n ks) else 0) = 5 ∨ (if flaw (mkE p n ks) ≠ 0 then flaw (mkE p n ks) else 0) = 14
  by_cases h0 : flaw (mkE p n ks) = 0
  · rw [if_neg (fun h => h h0)]; exact .inl rfl
  · rw [if_pos h0]
    rcases hf with h | h | h | h
    · exact absurd h h0
    · exact .inr (.inr (.inl h))
    · exact .inr (.inr (.inr (.inl h)))
    · exact .inr (.inr (.inr (.inr h)))
end Go.Proofs.YtpgjalikgmagiaaDoor.Tr
