/-
A copy of a list of elements whose lists are apart. Conditions: the list lies below the caller's blocks; at most 50 elements lie within one another, and at most 3000 there are in all.
-/
import Derived.Test.YtpgjalikgmagiaaDoorTrPut
namespace Go.Proofs.YtpgjalikgmagiaaDoor.Tr
set_option maxRecDepth 100000
open Go.RowKit Sq

theorem fits_any : ∀ (k : Nat) {e : El}, Ht k e → FitsE k e → ∀ j, FitsE j e
  | 0, _, h, _, _ => h.elim
  | _ + 1, _, _, _, 0 => trivial
  | k + 1, _, h, hf, j + 1 => ⟨hf.1, hf.2.1, hf.2.2.1, fun c hc => fits_any k (h c hc) (hf.2.2.2 c hc) j⟩
theorem Ok.fit {w : World} {B : Nat} {x : Iv} (h : Ok w B x) : ∀ j, FitsE j x.1 := by
  obtain ⟨k, h1, h2⟩ := h
  exact fits_any k h1.ht h2
/-- The copy under way: those before i have their lists in the row. -/
structure Cp (w W : World) (rb g N i : Nat) (R l : List Iv) : Prop where
  b : Below w.heap.size w W
  box : Boxed W rb 22 (.slice (some ⟨g, 0, none⟩) R.length N)
  row : Es W w.heap.size g N R
  ge : w.heap.size ≤ rb
  done : ∀ j (hj : j < R.length), j < i → (∃ a c, R[j].2 = .slice a R[j].1.kids.length c) ∧ (R[j].1.kids.length ≠ 0 → ∃ s, R[j].2 = .slice (some ⟨g, s * 5, none⟩) R[j].1.kids.length R[j].1.kids.length ∧ s + R[j].1.kids.length ≤ R.length ∧ ∀ t (ht : t < R[j].1.kids.length) (hs : s + t < R.length), R[s + t].1 = R[j].1.kids[t])
  todo : ∀ j (hj : j < R.length), i ≤ j → Ok w w.heap.size R[j]
  top : l.length ≤ R.length ∧ ∀ j (h1 : j < l.length) (h2 : j < R.length), R[j].1 = l[j].1
  ht : ∀ x ∈ R, Ht 50 x.1 ∧ ∀ j, FitsE j x.1
  sum : R.length + sumc (R.drop i) = N + (R.length - i)
theorem cp_start {w W : World} {rb g N : Nat} {l : List Iv} {lv : Value} (hl : Lst w w.heap.size lv l) (hh : ∀ x ∈ l, Ht 50 x.1) (hb : Below w.heap.size w W) (hbx : Boxed W rb 22 (.slice (some ⟨g, 0, none⟩) l.length N)) (hr : Es W w.heap.size g N l) (hge : w.heap.size ≤ rb) (hN : sumc l = N) : Cp w W rb g N 0 l l := by
  have hok : ∀ j (hj : j < l.length), Ok w w.heap.size l[j] := fun j hj => by
    obtain ⟨a, c, rfl, _, h⟩ := hl
    obtain ⟨_, _, _, _, _, _, _, _, _, h⟩ := h j hj
    exact h
  exact ⟨hb, hbx, hr, hge, fun j hj h => absurd h (Nat.not_lt_zero j), fun j hj _ => hok j hj, ⟨Nat.le_refl _, fun j _ _ => rfl⟩, fun x hx => ⟨hh x hx, by
    obtain ⟨j, hj, rfl⟩ := List.getElem_of_mem hx
    exact (hok j hj).fit⟩, by rw [List.drop_zero, hN]; omega⟩
/-- There is room for the lists to come. -/
theorem Cp.room {w W : World} {rb g N i : Nat} {R l : List Iv} (h : Cp w W rb g N i R l) (hi : i < R.length) : R.length + (kidsV w R[i]).length ≤ N ∧ R.length + (kidsV w R[i]).length + (sumc (R.drop (i + 1)) + sumc (kidsV w R[i])) = N + (R.length + (kidsV w R[i]).length - (i + 1)) := by
  have h1 := h.sum
  have h2 := sumc_drop hi
  have h3 := sumc_kids (w := w) (h.ht _ (List.getElem_mem hi)).1
  have h4 := sumc_len (kidsV w R[i])
  have h5 := sumc_len (R.drop (i + 1))
  rw [List.length_drop] at h5
  omega
theorem sumc_append (l r : List Iv) : sumc (l ++ r) = sumc l + sumc r := by unfold sumc; rw [List.map_append, List.sum_append]
/-- A row behind which a list was put, one of its elements having got that list. -/
structure Nw (R K R' : List Iv) (i : Nat) (e : El) (v' : Value) : Prop where
  len : R'.length = R.length + K.length
  self : ∀ (h : i < R'.length), R'[i] = (e, v')
  old : ∀ j (hj : j < R.length) (hj' : j < R'.length), j ≠ i → R'[j] = R[j]
  new : ∀ t (ht : t < K.length) (hj' : R.length + t < R'.length), R'[R.length + t] = K[t]
  drop : R'.drop (i + 1) = R.drop (i + 1) ++ K
theorem nw_of {R K : List Iv} {i : Nat} (hi : i < R.length) (e : El) (v' : Value) : Nw R K ((R ++ K).set i (e, v')) i e v' := by
  refine ⟨by rw [List.length_set, List.length_append], fun h => by rw [List.getElem_set_self], fun j hj hj' hne => ?_, fun t ht hj' => ?_, ?_⟩
  · rw [List.getElem_set_ne (fun e => hne e.symm), List.getElem_append_left hj]
  · rw [List.getElem_set_ne (by omega), List.getElem_append_right (by omega)]
    simp
  · rw [List.drop_set_of_lt (by omega), List.drop_append_of_le_length (by omega)]
theorem Nw.fst {R K R' : List Iv} {i : Nat} {e : El} {v' : Value} (h : Nw R K R' i e v') (hi : i < R.length) (he : R[i].1 = e) {j : Nat} (hj : j < R.length) (hj' : j < R'.length) : R'[j].1 = R[j].1 := by
  by_cases hne : j = i
  · subst hne
    rw [h.self hj', he]
  · rw [h.old j hj hj' hne]
set_option maxHeartbeats 1000000 in
/-- One more has its list in the row. -/
theorem Cp.step {w W W' : World} {rb g N i : Nat} {R K R' l : List Iv} {e : El} {kv v' : Value} (h : Cp w W rb g N i R l) (hi : i < R.length) (he : R[i] = (e, kv)) (hK : kidsV w (e, kv) = K) (hN : Nw R K R' i e v') (hv : VOf v' g R.length K.length) (hb : Below w.heap.size w W')
    (hbx : Boxed W' rb 22 (.slice (some ⟨g, 0, none⟩) (R ++ K).length N)) (hr : Es W' w.heap.size g N R') : Cp w W' rb g N (i + 1) R' l := by
  have hlen := hN.len
  have he1 : R[i].1 = e := by rw [he]
  have hkl : K.length = e.kids.length := by rw [← hK]; exact kidsV_length w (e, kv)
  have hkid : ∀ t (ht : t < K.length) (ht' : t < e.kids.length), K[t].1 = e.kids[t] := fun t ht ht' => by
    have := kidsV_map w (e, kv)
    rw [hK] at this
    have h2 : (K.map (·.1))[t]? = e.kids[t]? := by rw [this]
    rw [List.getElem?_map, List.getElem?_eq_getElem ht, List.getElem?_eq_getElem ht'] at h2
    exact Option.some.inj h2
  have hoki : Ok w w.heap.size (e, kv) := by rw [← he]; exact h.todo i hi (Nat.le_refl _)
  have hokK : ∀ x ∈ K, Ok w w.heap.size x := by rw [← hK]; exact hoki.kids
  have hhti : Ht 50 e := by rw [← he1]; exact (h.ht _ (List.getElem_mem hi)).1
  have hroom := h.room hi
  rw [he, hK] at hroom
  obtain ⟨room1, room2⟩ := hroom
  have htop := h.top.1
  refine ⟨hb, by rw [hlen]; rw [List.length_append] at hbx; exact hbx, hr, h.ge, fun j hj hji => ?_, fun j hj hij => ?_, ⟨by omega, fun j h1 h2 => ?_⟩, fun x hx => ?_, ?_⟩
  · by_cases hne : j = i
    · subst hne
      rw [hN.self hj]
      simp only
      rw [hkl] at hv
      refine ⟨hv.1, fun h0 => ⟨R.length, hv.2 h0, by omega, fun t ht hs => ?_⟩⟩
      rw [hN.new t (by omega) hs]
      exact hkid t (by omega) ht
    · have hjR : j < R.length := by omega
      rw [hN.old j hjR hj hne]
      obtain ⟨d1, d2⟩ := h.done j hjR (by omega)
      refine ⟨d1, fun h0 => ?_⟩
      obtain ⟨s, e1, e2, e3⟩ := d2 h0
      refine ⟨s, e1, by omega, fun t ht hs => ?_⟩
      rw [hN.fst hi he1 (by omega) hs]
      exact e3 t ht (by omega)
  · by_cases hjR : j < R.length
    · rw [hN.old j hjR hj (by omega)]
      exact h.todo j hjR (by omega)
    · obtain ⟨t, rfl⟩ := Nat.exists_eq_add_of_le (Nat.le_of_not_lt hjR)
      rw [hN.new t (by omega) hj]
      exact hokK _ (List.getElem_mem _)
  · rw [hN.fst hi he1 (by omega) h2]
    exact h.top.2 j h1 (by omega)
  · obtain ⟨j, hj, rfl⟩ := List.getElem_of_mem hx
    by_cases hjR : j < R.length
    · rw [hN.fst hi he1 hjR hj]
      exact h.ht _ (List.getElem_mem hjR)
    · obtain ⟨t, rfl⟩ := Nat.exists_eq_add_of_le (Nat.le_of_not_lt hjR)
      have ht : t < K.length := by omega
      rw [hN.new t ht hj]
      refine ⟨?_, (hokK _ (List.getElem_mem ht)).fit⟩
      rw [hkid t ht (by omega)]
      exact ht_kids hhti _ (List.getElem_mem _)
  · rw [hlen, hN.drop, sumc_append]
    exact room2
/-- What has been copied is the list, anew. -/
theorem Cp.eat {w W W' : World} {rb g N : Nat} {R l : List Iv} (h : Cp w W rb g N R.length R l) (hr : Es W' w.heap.size g N R) : ∀ (k : Nat) (j : Nat) (hj : j < R.length), Ht k R[j].1 → EAt W' (g + 1) k R[j].1 R[j].2
  | 0, _, _, hh => hh.elim
  | k + 1, j, hj, hh => by
    obtain ⟨⟨a, c, ha⟩, hd⟩ := h.done j hj hj
    by_cases h0 : R[j].1.kids.length = 0
    · refine ⟨a, c, ha, fun hl => absurd (List.length_eq_zero_iff.1 h0) hl, fun b o e t ht => by omega⟩
    · obtain ⟨s, e1, e2, e3⟩ := hd h0
      refine ⟨_, _, e1, fun _ => ⟨g, _, rfl, Nat.lt_succ_self _⟩, fun b o e t ht => ?_⟩
      cases e
      have hst : s + t < R.length := by omega
      have e4 := e3 t ht hst
      obtain ⟨c0, c1, c2, c3, c4⟩ := hr.at_ hst
      have hm : ∀ q, (s + t) * 5 + q = s * 5 + t * 5 + q := fun q => by omega
      have hm0 := hm 0
      simp only [Nat.add_zero] at hm0
      rw [hm0, e4] at c0
      rw [hm 1, e4] at c1
      rw [hm 2, e4] at c2
      rw [hm 3, e4] at c3
      rw [hm 4] at c4
      refine ⟨_, c0, c1, c2, c3, c4, ?_⟩
      have := Cp.eat h hr k (s + t) hst (by rw [e4]; exact hh _ (List.getElem_mem ht))
      rw [e4] at this
      exact this
theorem Cp.end_ {w W : World} {rb g N : Nat} {R l : List Iv} {v : Value} (h : Cp w W rb g N R.length R l) (hv : VOf v g 0 l.length) (hm : l.length ≤ maxLen) : ∃ l', l'.map (·.1) = l.map (·.1) ∧ ∀ W', Stays (fun k => k = g) W W' → Lst W' W'.heap.size v l' := by
  have hlen : (R.take l.length).length = l.length := by rw [List.length_take]; have := h.top.1; omega
  obtain ⟨⟨a, c, ha⟩, hv2⟩ := hv
  refine ⟨R.take l.length, ?_, fun W' hS => ⟨a, c, by rw [hlen]; exact ha, by rw [hlen]; exact hm, fun j hj => ?_⟩⟩
  · refine List.ext_getElem (by rw [List.length_map, List.length_map, hlen]) fun j h1 h2 => ?_
    rw [List.length_map] at h2
    simp only [List.getElem_map, List.getElem_take]
    exact h.top.2 j h2 (by have := h.top.1; omega)
  · have hr : Es W' w.heap.size g N R := h.row.stays hS rfl
    have hg : g + 1 ≤ W'.heap.size := hr.parts.2.1
    have hj1 : j < l.length := by rw [← hlen]; exact hj
    have hj2 : j < R.length := by have := h.top.1; omega
    have hve := hv2 (by omega)
    rw [ha] at hve
    have hae : a = some ⟨g, 0 * 5, none⟩ := by injection hve
    subst hae
    obtain ⟨c0, c1, c2, c3, c4⟩ := hr.at_ hj2
    refine ⟨g, 0 * 5, rfl, by omega, ?_⟩
    simp only [List.getElem_take, Nat.zero_mul, Nat.zero_add]
    refine ⟨c0, c1, c2, c3, c4, 50, ?_, (h.ht _ (List.getElem_mem hj2)).2 50⟩
    exact (h.eat hr 50 j hj2 (h.ht _ (List.getElem_mem hj2)).1).up hg
end Go.Proofs.YtpgjalikgmagiaaDoor.Tr
