/-
Plain functions on bytes: the pieces of right letters, one by one. No program in it, no conditions.
-/
import Derived.Test.YtijgpelgdepbaaaDoorSxDecMath
namespace Go.Proofs.YtijgpelgdepbaaaDoor.Sx
open Go.RowKit

theorem pieces_ok : ∀ t, flt 0 false t = 0 → ∀ x ∈ cut 4 t, ok4 x := by
  refine cut_induct (k := 4) (by decide) (fun _ x hx => by rw [cut_nil] at hx; cases hx) fun t h0 ih h x hx => ?_
  obtain ⟨a, b, c, d, r, rfl, ho, hr, _⟩ := flt_group h h0
  rw [cut_step (by decide) h0] at hx
  rcases List.mem_cons.1 hx with rfl | hx
  · exact ho
  · exact ih hr x hx
theorem not_pad {c : UInt8} (h : isL c = true) : ([61, 61] : List UInt8).contains c = false := by
  have := isP_not c h
  unfold isP at this
  have h2 : c ≠ 61 := by simpa using this
  simp [h2]
theorem said_4 {a b c d : UInt8} (h : isL d = true) : said [a, b, c, d] = [a, b, c, d] := by
  unfold said Lib.trimRightS
  simp only [List.reverse_cons, List.reverse_nil, List.nil_append, List.cons_append]
  rw [List.dropWhile_cons_of_neg (by rw [not_pad h]; decide)]; rfl
theorem said_3 {a b c : UInt8} (h : isL c = true) : said [a, b, c, 61] = [a, b, c] := by
  unfold said Lib.trimRightS
  simp only [List.reverse_cons, List.reverse_nil, List.nil_append, List.cons_append]
  rw [List.dropWhile_cons_of_pos (by decide), List.dropWhile_cons_of_neg (by rw [not_pad h]; decide)]; rfl
theorem said_2 {a b : UInt8} (h : isL b = true) : said [a, b, 61, 61] = [a, b] := by
  unfold said Lib.trimRightS
  simp only [List.reverse_cons, List.reverse_nil, List.nil_append, List.cons_append]
  rw [List.dropWhile_cons_of_pos (by decide), List.dropWhile_cons_of_pos (by decide), List.dropWhile_cons_of_neg (by rw [not_pad h]; decide)]; rfl
/-- The letters of a right group. -/
theorem said_ok {x : List UInt8} (h : ok4 x) : (∀ c ∈ said x, isL c = true) ∧ ((said x).length = 2 ∨ (said x).length = 3 ∨ (said x).length = 4) := by
  obtain ⟨a, b, c, d, rfl, ha, hb, ⟨hc, hd⟩ | ⟨hc, rfl⟩ | ⟨rfl, rfl⟩⟩ := h
  · rw [said_4 hd]; exact ⟨by simp [ha, hb, hc, hd], by simp⟩
  · rw [said_3 hc]; exact ⟨by simp [ha, hb, hc], by simp⟩
  · rw [said_2 hb]; exact ⟨by simp [ha, hb], by simp⟩
theorem good_n {x : List UInt8} {p q r : UInt8} (ht : tri (said x) = [p, q, r]) :
    ((said x).length = 2 → good x = [p] ∧ bad x = !(p.toNat == p.toNat && (q.toNat == 0 && r.toNat == 0))) ∧
    ((said x).length = 3 → good x = [p, q] ∧ bad x = !(p.toNat == p.toNat && (q.toNat == q.toNat && r.toNat == 0))) ∧
    ((said x).length = 4 → good x = [p, q, r] ∧ bad x = false) := by
  have z : ∀ c : UInt8, (c.toNat == 0) = (c == 0) := fun c => by
    rw [Bool.eq_iff_iff, beq_iff_eq, beq_iff_eq, ← UInt8.toNat_inj]; rfl
  refine ⟨fun h => ?_, fun h => ?_, fun h => ?_⟩
  · have hg : good x = [p] := by unfold good; rw [ht, h]; rfl
    refine ⟨hg, ?_⟩
    unfold bad; rw [hg, ht, z, z]
    show (!([p, q, r] == [p, 0, 0])) = _
    simp
  · have hg : good x = [p, q] := by unfold good; rw [ht, h]; rfl
    refine ⟨hg, ?_⟩
    unfold bad; rw [hg, ht, z]
    show (!([p, q, r] == [p, q, 0])) = _
    simp
  · have hg : good x = [p, q, r] := by unfold good; rw [ht, h]; rfl
    refine ⟨hg, ?_⟩
    unfold bad; rw [hg, ht]
    show (!([p, q, r] == [p, q, r])) = _
    simp
end Go.Proofs.YtijgpelgdepbaaaDoor.Sx
