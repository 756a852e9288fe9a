/-
Plain functions on bytes: letters that were written are read again, whole and in lines. No program in it, no conditions.
-/
import Derived.Test.YtijgpelgdepbaaaDoorSxBits
import Derived.Test.YtijgpelgdepbaaaDoorSxDecPieces
namespace Go.Proofs.YtijgpelgdepbaaaDoor.Sx
open Go.RowKit

theorem isL_lt {n : Nat} (h : n < 64) : isL (lt n) = true := (lt_facts n h).1
theorem w6_lts {n : Nat} (h : n < 64) : w6 (lt n) = n := (lt_facts n h).2.1
theorem blank_lt {n : Nat} (h : n < 64) : blankB (lt n) = false := (lt_facts n h).2.2
theorem blank_pad : blankB 61 = false := by decide +kernel
theorem isP_61 : isP 61 = true := rfl
theorem isL_61 : isL 61 = false := by decide +kernel
/-- A group that was written: right, with the bytes that it says. -/
theorem quad_ok {x : List UInt8} (h : 1 ≤ x.length ∧ x.length ≤ 3) : ∃ a b c d, quad x = [a, b, c, d] ∧ isL a = true ∧ isL b = true ∧ ((isL c = true ∧ isL d = true) ∨ (isL c = true ∧ d = 61 ∧ x.length < 3) ∨ (c = 61 ∧ d = 61 ∧ x.length < 3)) ∧ good (quad x) = x ∧ bad (quad x) = false ∧ (∀ c ∈ quad x, blankB c = false) := by
  have H : ∀ n : Nat, n < 256 → (UInt8.ofNat n).toNat = n := fun n hn => UInt8.toNat_ofNat_of_lt' hn
  match x, h with
  | [p], _ =>
    have hp := p.toNat_lt
    have n0 : p.toNat / 4 < 64 := by omega
    have n1 : (p.toNat % 16 * 16 + 0) % 64 < 64 := by omega
    have hq : quad [p] = [lt (p.toNat / 4), lt ((p.toNat % 16 * 16 + 0) % 64), 61, 61] := by simp [quad, four]
    have hs : said (quad [p]) = [lt (p.toNat / 4), lt ((p.toNat % 16 * 16 + 0) % 64)] := by rw [hq, said_2 (isL_lt n1)]
    have ht : tri (said (quad [p])) = [p, 0, 0] := by
      rw [hs]
      show [UInt8.ofNat (w6 _ * 4 + w6 _ / 16), UInt8.ofNat (w6 _ % 16 * 16 + 0 / 4), UInt8.ofNat (0 % 4 * 64 + 0)] = _
      rw [w6_lts n0, w6_lts n1, show p.toNat / 4 * 4 + (p.toNat % 16 * 16 + 0) % 64 / 16 = p.toNat by omega, show (p.toNat % 16 * 16 + 0) % 64 % 16 * 16 + 0 / 4 = 0 by omega, UInt8.ofNat_toNat]; rfl
    obtain ⟨g1, g2⟩ := (good_n ht).1 (by rw [hs]; rfl)
    refine ⟨_, _, _, _, hq, isL_lt n0, isL_lt n1, .inr (.inr ⟨rfl, rfl, by simp⟩), g1, by rw [g2]; simp, ?_⟩
    rw [hq]; intro c hc
    simp only [List.mem_cons, List.not_mem_nil, or_false] at hc
    rcases hc with rfl | rfl | rfl | rfl
    · exact blank_lt n0
    · exact blank_lt n1
    · exact blank_pad
    · exact blank_pad
  | [p, q], _ =>
    have hp := p.toNat_lt
    have hq' := q.toNat_lt
    have n0 : p.toNat / 4 < 64 := by omega
    have n1 : (p.toNat % 16 * 16 + q.toNat / 16) % 64 < 64 := by omega
    have n2 : (q.toNat % 64 * 4 + 0) % 64 < 64 := by omega
    have hq : quad [p, q] = [lt (p.toNat / 4), lt ((p.toNat % 16 * 16 + q.toNat / 16) % 64), lt ((q.toNat % 64 * 4 + 0) % 64), 61] := by simp [quad, four]
    have hs : said (quad [p, q]) = [lt (p.toNat / 4), lt ((p.toNat % 16 * 16 + q.toNat / 16) % 64), lt ((q.toNat % 64 * 4 + 0) % 64)] := by rw [hq, said_3 (isL_lt n2)]
    have ht : tri (said (quad [p, q])) = [p, q, 0] := by
      rw [hs]
      show [UInt8.ofNat (w6 _ * 4 + w6 _ / 16), UInt8.ofNat (w6 _ % 16 * 16 + w6 _ / 4), UInt8.ofNat (w6 _ % 4 * 64 + 0)] = _
      rw [w6_lts n0, w6_lts n1, w6_lts n2, show p.toNat / 4 * 4 + (p.toNat % 16 * 16 + q.toNat / 16) % 64 / 16 = p.toNat by omega, show (p.toNat % 16 * 16 + q.toNat / 16) % 64 % 16 * 16 + (q.toNat % 64 * 4 + 0) % 64 / 4 = q.toNat by omega,
        show (q.toNat % 64 * 4 + 0) % 64 % 4 * 64 + 0 = 0 by omega, UInt8.ofNat_toNat, UInt8.ofNat_toNat]; rfl
    obtain ⟨g1, g2⟩ := (good_n ht).2.1 (by rw [hs]; rfl)
    refine ⟨_, _, _, _, hq, isL_lt n0, isL_lt n1, .inr (.inl ⟨isL_lt n2, rfl, by simp⟩), g1, by rw [g2]; simp, ?_⟩
    rw [hq]; intro c hc
    simp only [List.mem_cons, List.not_mem_nil, or_false] at hc
    rcases hc with rfl | rfl | rfl | rfl
    · exact blank_lt n0
    · exact blank_lt n1
    · exact blank_lt n2
    · exact blank_pad
  | [p, q, r], _ =>
    have hp := p.toNat_lt
    have hq' := q.toNat_lt
    have hr := r.toNat_lt
    have n0 : p.toNat / 4 < 64 := by omega
    have n1 : (p.toNat % 16 * 16 + q.toNat / 16) % 64 < 64 := by omega
    have n2 : (q.toNat % 64 * 4 + r.toNat / 64) % 64 < 64 := by omega
    have n3 : r.toNat % 64 < 64 := by omega
    have hq : quad [p, q, r] = [lt (p.toNat / 4), lt ((p.toNat % 16 * 16 + q.toNat / 16) % 64), lt ((q.toNat % 64 * 4 + r.toNat / 64) % 64), lt (r.toNat % 64)] := rfl
    have hs : said (quad [p, q, r]) = [lt (p.toNat / 4), lt ((p.toNat % 16 * 16 + q.toNat / 16) % 64), lt ((q.toNat % 64 * 4 + r.toNat / 64) % 64), lt (r.toNat % 64)] := by rw [hq, said_4 (isL_lt n3)]
    have ht : tri (said (quad [p, q, r])) = [p, q, r] := by
      rw [hs]
      show [UInt8.ofNat (w6 _ * 4 + w6 _ / 16), UInt8.ofNat (w6 _ % 16 * 16 + w6 _ / 4), UInt8.ofNat (w6 _ % 4 * 64 + w6 _)] = _
      rw [w6_lts n0, w6_lts n1, w6_lts n2, w6_lts n3, show p.toNat / 4 * 4 + (p.toNat % 16 * 16 + q.toNat / 16) % 64 / 16 = p.toNat by omega, show (p.toNat % 16 * 16 + q.toNat / 16) % 64 % 16 * 16 + (q.toNat % 64 * 4 + r.toNat / 64) % 64 / 4 = q.toNat by omega,
        show (q.toNat % 64 * 4 + r.toNat / 64) % 64 % 4 * 64 + r.toNat % 64 = r.toNat by omega, UInt8.ofNat_toNat, UInt8.ofNat_toNat, UInt8.ofNat_toNat]
    obtain ⟨g1, g2⟩ := (good_n ht).2.2 (by rw [hs]; rfl)
    refine ⟨_, _, _, _, hq, isL_lt n0, isL_lt n1, .inl ⟨isL_lt n2, isL_lt n3⟩, g1, g2, ?_⟩
    rw [hq]; intro c hc
    simp only [List.mem_cons, List.not_mem_nil, or_false] at hc
    rcases hc with rfl | rfl | rfl | rfl
    · exact blank_lt n0
    · exact blank_lt n1
    · exact blank_lt n2
    · exact blank_lt n3

theorem fa_let {i : Nat} {c : UInt8} (h : isL c = true) : fa i false c = 0 := by unfold fa; simp [isP_not c h, h]
theorem fa_pad {i : Nat} (bp : Bool) (h : 2 ≤ i % 4) : fa i bp 61 = 0 := by
  have h1 : ¬ i % 4 < 2 := by omega
  have h2 : ¬ i % 4 = 0 := by omega
  unfold fa; simp [isP_61, h1, h2]
/-- What was written is right. -/
theorem flt_enc : ∀ l, flt 0 false (enc l) = 0 := by
  unfold enc
  refine cut_induct (k := 3) (by decide) (by rw [cut_nil]; rfl) fun l h0 ih => ?_
  rw [cut_step (by decide) h0, List.map_cons, List.flatten_cons]
  obtain ⟨a, b, c, d, hq, ha, hb, ho, _⟩ := quad_ok (x := l.take 3) (by rw [List.length_take]; omega)
  rw [hq]
  show flt 0 false (a :: b :: c :: d :: ((cut 3 (l.drop 3)).map quad).flatten) = 0
  rw [flt, if_pos (fa_let ha), isP_not a ha, flt, if_pos (fa_let hb), isP_not b hb]
  rcases ho with ⟨hc, hd⟩ | ⟨hc, rfl, hl⟩ | ⟨rfl, rfl, hl⟩
  · rw [flt, if_pos (fa_let hc), isP_not c hc, flt, if_pos (fa_let hd), isP_not d hd, show 0 + 1 + 1 + 1 + 1 = 0 + 4 from rfl, flt_mod, ih]
  · rw [List.length_take] at hl
    rw [List.drop_eq_nil_of_le (by omega), cut_nil]
    rw [flt, if_pos (fa_let hc), isP_not c hc, flt, if_pos (fa_pad _ (by decide))]; rfl
  · rw [List.length_take] at hl
    rw [List.drop_eq_nil_of_le (by omega), cut_nil]
    rw [flt, if_pos (fa_pad _ (by decide)), flt, if_pos (fa_pad _ (by decide))]; rfl
theorem cut_enc : ∀ l, cut 4 (enc l) = (cut 3 l).map quad := by
  unfold enc
  refine cut_induct (k := 3) (by decide) (by rw [cut_nil]; exact cut_nil 4) fun l h0 ih => ?_
  rw [cut_step (k := 3) (by decide) h0, List.map_cons, List.flatten_cons]
  have h4 := quad_length (l := l.take 3) (by rw [List.length_take]; omega)
  rw [cut_step (by decide) (by rw [List.length_append]; omega), List.take_left' h4, List.drop_left' h4, ih]
theorem strip_all {l : List UInt8} (h : ∀ c ∈ l, blankB c = false) : strip l = l := by
  unfold strip; rw [List.filter_eq_self]; intro c hc; rw [h c hc]; rfl
theorem enc_blank (l : List UInt8) : ∀ c ∈ enc l, blankB c = false := by
  intro c hc
  unfold enc at hc
  rw [List.mem_flatten] at hc
  obtain ⟨t, ht, hc⟩ := hc
  rw [List.mem_map] at ht
  obtain ⟨x, hx, rfl⟩ := ht
  obtain ⟨_, _, _, _, _, _, _, _, _, _, hb⟩ := quad_ok (cut_size (by decide) l x hx)
  exact hb c hc
/-- Letters that come to what was written say it, whatever is passed over. -/
theorem dec_of {l t : List UInt8} (h : strip t = enc l) : dec t = (l, 0) := by
  unfold dec
  rw [h, if_pos (flt_enc l), cut_enc, if_neg, List.map_map]
  · have : (cut 3 l).map (good ∘ quad) = cut 3 l := by
      conv => rhs; rw [← List.map_id (cut 3 l)]
      refine List.map_congr_left fun x hx => ?_
      obtain ⟨_, _, _, _, _, _, _, _, hg, _⟩ := quad_ok (cut_size (by decide) l x hx)
      exact hg
    rw [this, cut_flat (by decide)]
  · rw [Bool.not_eq_true, List.any_eq_false]
    intro y hy
    rw [List.mem_map] at hy
    obtain ⟨x, hx, rfl⟩ := hy
    obtain ⟨_, _, _, _, _, _, _, _, _, hb, _⟩ := quad_ok (cut_size (by decide) l x hx)
    rw [hb]; decide
theorem dec_enc (l : List UInt8) : dec (enc l) = (l, 0) := dec_of (strip_all (enc_blank l))
/-- Pieces in lines. -/
def inLines (l : List (List UInt8)) : List UInt8 := (l.map fun x => x ++ [13, 10]).flatten
theorem inLines_snoc (l : List (List UInt8)) (x : List UInt8) : inLines (l ++ [x]) = inLines l ++ x ++ [13, 10] := by
  unfold inLines; simp
theorem strip_lines : ∀ l : List (List UInt8), strip (inLines l) = strip l.flatten
  | [] => rfl
  | x :: r => by
    have ih := strip_lines r
    unfold inLines at *
    rw [List.map_cons, List.flatten_cons, List.flatten_cons, strip_append, strip_append, strip_append, ih, show strip [13, 10] = [] by decide +kernel, List.append_nil]
theorem dec_lines {k : Nat} (hk : 0 < k) (l : List UInt8) : dec (inLines (cut k (enc l))) = (l, 0) :=
  dec_of (by rw [strip_lines, cut_flat hk, strip_all (enc_blank l)])
theorem inLines_length : ∀ l : List (List UInt8), (inLines l).length = l.flatten.length + 2 * l.length
  | [] => rfl
  | x :: r => by
    have ih := inLines_length r
    unfold inLines at *
    rw [List.map_cons, List.flatten_cons, List.flatten_cons, List.length_append, List.length_append, List.length_append, ih, List.length_cons, List.length_cons, List.length_cons, List.length_nil]; omega
theorem enc_size (l : List UInt8) : (enc l).length = 4 * ((l.length + 2) / 3) := by rw [enc_ref, refAll_length]
end Go.Proofs.YtijgpelgdepbaaaDoor.Sx
