/-
What reading a line answers with no error is right, in plain words. No program in it.
-/
import Derived.Test.YtccgpemcdbcjeaaDoorPpParseMath
import Derived.Test.YtccgpemcdbcjeaaDoorPpPrt
namespace Go.Proofs.YtccgpemcdbcjeaaDoor.Pp

theorem err_ne {a : Nat} {e : Int} (h : ¬ e = 0) : ¬ (errP a e).err = 0 := h
theorem goodV_of {v : ByteArray} (h : ¬ v.data.toList.findIdx oddb < v.size) : goodV v = true := by
  unfold goodV
  rw [List.all_eq_true]
  intro c hc
  cases ho : oddb c
  · rfl
  · exact absurd (by rw [← list_size]; exact List.findIdx_lt_length_of_exists ⟨c, hc, ho⟩) h
theorem tailP_ok {s : ByteArray} {z : Nat} {g n : ByteArray} {ps : List (ByteArray × ByteArray)} (he : (tailP s z g n ps).err = 0) :
    tailP s z g n ps = ⟨g, n, ps, s.extract (z + 1) s.size, 0, 0⟩ ∧ (s.extract (z + 1) s.size).size ≤ 2400 ∧ goodV (s.extract (z + 1) s.size) = true := by
  unfold tailP at he ⊢
  simp only at he ⊢
  split at he
  · exact absurd he (err_ne (by decide))
  · rename_i h1
    split at he
    · exact absurd he (err_ne (by decide))
    · rename_i h2
      rw [if_neg h1, if_neg h2]
      exact ⟨rfl, by omega, goodV_of h2⟩
/-- The parameters read, one by one: each is right. -/
theorem parsP_ok (s : ByteArray) (z : Nat) (g n : ByteArray) : ∀ (d stop : Nat) (ps : List (ByteArray × ByteArray)), z - stop ≤ d → ps.length ≤ 6 → goodPs ps = true → (parsP s z g n stop ps).err = 0 →
    (parsP s z g n stop ps).g = g ∧ (parsP s z g n stop ps).n = n ∧ (parsP s z g n stop ps).ps.length ≤ 6 ∧ goodPs (parsP s z g n stop ps).ps = true ∧ (parsP s z g n stop ps).v = s.extract (z + 1) s.size ∧ (s.extract (z + 1) s.size).size ≤ 2400 ∧ goodV (s.extract (z + 1) s.size) = true := by
  intro d
  induction d with
  | zero =>
    intro stop ps hd hp hg he
    rw [parsP, dif_neg (by omega)] at he ⊢
    obtain ⟨h1, h2, h3⟩ := tailP_ok he
    rw [h1]
    exact ⟨rfl, rfl, hp, hg, rfl, h2, h3⟩
  | succ d ih =>
    intro stop ps hd hp hg he
    rw [parsP] at he ⊢
    by_cases h : stop < z
    · rw [dif_pos h] at he ⊢
      simp only at he ⊢
      split at he
      · exact absurd he (err_ne (by decide))
      · rename_i h6
        split at he
        · exact absurd he (err_ne (by decide))
        · rename_i hq
          rw [if_neg h6, if_neg hq]
          refine ih _ _ ?_ ?_ ?_ he
          · have := find_ge (s := s) (a := stop + 1) (z := z) (c := 59); omega
          · rw [List.length_append]; simp; omega
          · unfold goodPs at hg ⊢
            rw [List.all_append, hg, Bool.true_and]
            simp only [List.all_cons, List.all_nil, Bool.and_true]
            cases hb : paramB (parOf s (stop + 1) (find s (stop + 1) z 59) (find s (stop + 1) (find s (stop + 1) z 59) 61)).1 (parOf s (stop + 1) (find s (stop + 1) z 59) (find s (stop + 1) (find s (stop + 1) z 59) 61)).2
            · exact absurd (.inl hb) hq
            · rfl
    · rw [dif_neg h] at he ⊢
      obtain ⟨h1, h2, h3⟩ := tailP_ok he
      rw [h1]
      exact ⟨rfl, rfl, hp, hg, rfl, h2, h3⟩
theorem chk_of {R : Par} (h1 : goodNames R.g R.n = true) (h2 : R.ps.length ≤ 6) (h3 : goodPs R.ps = true) (h4 : R.v.size ≤ 2400) (h5 : goodV R.v = true) : chk R.g R.n R.ps R.v 0 = 0 := by
  unfold chk
  rw [if_neg (by rw [h1]; simp), if_neg (by omega), if_neg (by rw [h3]; simp), if_neg (by omega), if_neg (by omega), if_neg (by rw [h5]; simp)]
theorem nameP_ok {s : ByteArray} {z stop a : Nat} {g : ByteArray} (hg : (decide (g.size = 0) || nameB g) = true) (he : (nameP s z stop g a).err = 0) : chk (nameP s z stop g a).g (nameP s z stop g a).n (nameP s z stop g a).ps (nameP s z stop g a).v 0 = 0 := by
  unfold nameP at he ⊢
  split at he
  · exact absurd he (err_ne (by decide))
  · rename_i hn
    rw [if_neg hn]
    obtain ⟨h1, h2, h3, h4, h5, h6, h7⟩ := parsP_ok s z g _ _ stop [] (Nat.le_refl _) (by simp) rfl he
    refine chk_of ?_ h3 h4 (by rw [h5]; exact h6) (by rw [h5]; exact h7)
    rw [h1, h2]
    unfold goodNames
    rw [hg, Bool.true_and]
    simpa using hn
/-- What is read is right. -/
theorem parse_ok {s : ByteArray} (he : (parse s).err = 0) : chk (parse s).g (parse s).n (parse s).ps (parse s).v 0 = 0 := by
  unfold parse at he ⊢
  simp only at he ⊢
  split at he
  · exact absurd he (err_ne (by decide))
  · rename_i hz
    rw [if_neg hz]
    unfold groupP at he ⊢
    simp only at he ⊢
    split at he
    · rename_i hd
      rw [if_pos hd]
      split at he
      · exact absurd he (err_ne (by decide))
      · rename_i hn
        rw [if_neg hn]
        exact nameP_ok (by simp only [Bool.not_eq_false] at hn; rw [hn, Bool.or_true]) he
    · rename_i hd
      rw [if_neg hd]
      exact nameP_ok rfl he
end Go.Proofs.YtccgpemcdbcjeaaDoor.Pp
