/-
Plain functions on bytes: what is written is read, whole or in lines; lines are short, and all bytes are such as anybody prints. No program in it, no conditions.
-/
import Derived.Test.YtccjagjbldofaaaDoorQuSoftMath
namespace Go.Proofs.YtccjagjbldofaaaDoor.Qu
open Go.RowKit Fig

theorem half_hexd_fin : ∀ i : Fin 16, half (hexd i.val) = (i.val : Int) ∧ hexd i.val ≠ 13 := by decide
theorem half_hexd (n : Nat) (h : n < 16) : half (hexd n) = (n : Int) ∧ hexd n ≠ 13 := half_hexd_fin ⟨n, h⟩
theorem lit_plain {c : UInt8} {m : Bool} (h : plainB c m = true) : lit c = true := by
  unfold plainB at h; unfold lit
  revert h
  generalize ink c = p
  generalize blank c = q
  cases p <;> cases q <;> cases m <;> decide
theorem dec_enc : ∀ l : List UInt8, dec (enc l) = (l, 0)
  | [] => rfl
  | c :: r => by
    have ih := dec_enc r
    have hc := c.toNat_lt
    rw [enc]
    by_cases h : plainB c (!r.isEmpty) = true
    · rw [unit_plain h]
      show dec (c :: enc r) = _
      rw [dec_cons, if_pos (lit_plain h), ih]; simp [pre]
    · rw [unit_not h]
      show dec (61 :: hexd (c.toNat / 16) :: hexd (c.toNat % 16) :: enc r) = _
      have h1 := half_hexd (c.toNat / 16) (by omega)
      have h2 := half_hexd (c.toNat % 16) (by omega)
      have hb : behind (hexd (c.toNat / 16) :: hexd (c.toNat % 16) :: enc r) = ([c], 0) := by
        show (if hexd (c.toNat / 16) = 13 ∧ _ then _ else _) = _
        rw [if_neg (fun q => h1.2 q.1), h1.1, h2.1, if_neg (by omega)]
        have : (16 * ((c.toNat / 16 : Nat) : Int) + ((c.toNat % 16 : Nat) : Int)).toNat = c.toNat := by omega
        rw [this]; simp
      rw [dec_cons, if_neg (by decide), if_pos rfl, hb, if_pos rfl, List.drop_succ_cons, List.drop_succ_cons, List.drop_zero, ih]; simp [pre]
theorem isEnc_enc (l : List UInt8) : isEnc (enc l) = true := by unfold isEnc; rw [dec_enc]; simp

/-- What ends with no mark in its last two places is read by itself. -/
theorem dec_append : ∀ (n : Nat) (a b : List UInt8), a.length ≤ n → (∀ i, a.length ≤ i + 2 → a[i]? ≠ some 61) → dec (a ++ b) = if (dec a).2 = 0 then pre (dec a).1 (dec b) else ([], (dec a).2)
  | 0, [], b, _, _ => by simp [dec, pre_dec]
  | n + 1, [], b, _, _ => by simp [dec, pre_dec]
  | n + 1, c :: r, b, hn, hm => by
    simp only [List.length_cons] at hn hm
    have key : ∀ (x : List UInt8) (r' : List UInt8), r'.length ≤ n → (∀ i, r'.length ≤ i + 2 → r'[i]? ≠ some 61) → pre x (dec (r' ++ b)) = if (pre x (dec r')).2 = 0 then pre (pre x (dec r')).1 (dec b) else ([], (pre x (dec r')).2) := fun x r' hr hi => by
      rw [dec_append n r' b hr hi]
      by_cases h0 : (dec r').2 = 0
      · rw [if_pos h0]
        have e : pre x (dec r') = (x ++ (dec r').1, 0) := by unfold pre; rw [if_pos h0]
        rw [e, if_pos rfl, pre_pre]
      · rw [if_neg h0, pre_err h0]
        have e : pre x (dec r') = ([], (dec r').2) := by unfold pre; rw [if_neg h0]
        rw [e, if_neg h0]
    show dec (c :: (r ++ b)) = _
    rw [dec_cons, dec_cons]
    by_cases hl : lit c = true
    · rw [if_pos hl, if_pos hl]
      exact key [c] r (by omega) (fun i hi => by have := hm (i + 1) (by omega); simpa using this)
    · rw [if_neg hl, if_neg hl]
      by_cases h61 : c = 61
      · rw [if_pos h61, if_pos h61]
        have hr2 : 2 ≤ r.length := by
          apply Classical.byContradiction
          intro h
          exact hm 0 (by omega) (by simp [h61])
        match r, hr2 with
        | x :: y :: r', _ =>
          have hb : behind (x :: y :: r' ++ b) = behind (x :: y :: r') := by simp [behind]
          rw [hb]
          by_cases h0 : (behind (x :: y :: r')).2 = 0
          · rw [if_pos h0, if_pos h0]
            show pre _ (dec (r' ++ b)) = _
            exact key _ r' (by simp at hn; omega) (fun i hi => by
              have := hm (i + 3) (by simp at hi ⊢; omega)
              simpa using this)
          · rw [if_neg h0, if_neg h0, if_neg h0]
      · rw [if_neg h61, if_neg h61, if_neg (by decide)]

theorem line_clean {m : Nat} {l : List UInt8} (h3 : 3 ≤ m) (hm : m < l.length) (hF : Far l) : ∀ i, (l.take (lineLen m l)).length ≤ i + 2 → (l.take (lineLen m l))[i]? ≠ some 61 := fun i hi e => by
  have hb := lineLen_bd l h3
  rw [List.length_take, Nat.min_eq_left (by omega)] at hi
  have hil : i < lineLen m l := by
    apply Classical.byContradiction
    intro h
    rw [List.getElem?_eq_none (by rw [List.length_take]; omega)] at e
    cases e
  rw [List.getElem?_take, if_pos hil] at e
  by_cases h2 : l[m - 2]? = some 61
  · have hn : lineLen m l = m - 2 := by unfold lineLen; rw [if_pos h2]
    have := hF i (m - 2) (by omega) e h2
    omega
  · by_cases h1 : l[m - 1]? = some 61
    · have hn : lineLen m l = m - 1 := by unfold lineLen; rw [if_neg h2, if_pos h1]
      have := hF i (m - 1) (by omega) e h1
      omega
    · have hn : lineLen m l = m := by unfold lineLen; rw [if_neg h2, if_neg h1]
      have : i = m - 2 ∨ i = m - 1 := by omega
      rcases this with rfl | rfl
      · exact h2 e
      · exact h1 e
theorem dec_soft_end (l : List UInt8) : dec ([61, 13, 10] ++ l) = dec l := by
  show dec (61 :: 13 :: 10 :: l) = _
  have hb : behind (13 :: 10 :: l) = ([], 0) := by simp [behind]
  rw [dec_cons, if_neg (by decide), if_pos rfl, hb, if_pos rfl, List.drop_succ_cons, List.drop_succ_cons, List.drop_zero, pre_dec]
theorem dec_soft {w : Nat} (hw : 4 ≤ w) : ∀ (n : Nat) (l : List UInt8), l.length ≤ n → Far l → dec (soft w l) = dec l
  | n, l, hn, hF => by
    by_cases h : w < l.length
    · have hb := lineLen_bd l (m := w - 1) (by omega)
      have hc := line_clean (m := w - 1) (by omega) (by omega) hF
      match n, hn with
      | n + 1, hn =>
        rw [soft_step hw h, dec_append _ _ _ (Nat.le_refl _) hc, dec_soft_end, dec_soft hw n (l.drop (lineLen (w - 1) l)) (by simp; omega) (hF.drop _),
          ← dec_append _ _ _ (Nat.le_refl _) hc, List.take_append_drop]
      | 0, hn => omega
    · rw [soft_end h]

/-- Bytes that stand in a line. -/
def inLine (c : UInt8) : Prop := (c.toNat : Int) = 9 ∨ (32 ≤ (c.toNat : Int) ∧ (c.toNat : Int) ≤ 126)
def stepN (c : UInt8) (n : Nat) : Nat := if c = 13 then n else if c = 10 then 0 else n + 1
def Fine (w : Nat) : Nat → List UInt8 → Prop
  | _, [] => True
  | n, c :: r => ((c.toNat : Int) = 9 ∨ (c.toNat : Int) = 10 ∨ (c.toNat : Int) = 13 ∨ (32 ≤ (c.toNat : Int) ∧ (c.toNat : Int) ≤ 126)) ∧ stepN c n ≤ w ∧ Fine w (stepN c n) r
theorem step_in {c : UInt8} {n : Nat} (h : inLine c) : stepN c n = n + 1 := by
  unfold stepN inLine at *
  rw [if_neg (fun e => by subst e; simp at h), if_neg (fun e => by subst e; simp at h)]
theorem fine_in {w : Nat} : ∀ (a b : List UInt8) (n : Nat), (∀ c ∈ a, inLine c) → n + a.length ≤ w → Fine w (n + a.length) b → Fine w n (a ++ b)
  | [], b, n, _, _, h => h
  | c :: r, b, n, ha, hw, h => by
    have hc := ha c List.mem_cons_self
    simp only [List.length_cons] at hw h
    refine ⟨?_, ?_, ?_⟩
    · unfold inLine at hc; omega
    · rw [step_in hc]; omega
    · rw [step_in hc]
      exact fine_in r b (n + 1) (fun x hx => ha x (List.mem_cons_of_mem _ hx)) (by omega) (by rw [show n + 1 + r.length = n + (r.length + 1) by omega]; exact h)
theorem fine_soft {w : Nat} (hw : 4 ≤ w) : ∀ (n : Nat) (l : List UInt8), l.length ≤ n → (∀ c ∈ l, inLine c) → Fine w 0 (soft w l)
  | n, l, hn, ha => by
    by_cases h : w < l.length
    · have hb := lineLen_bd l (m := w - 1) (by omega)
      have hl : (l.take (lineLen (w - 1) l)).length = lineLen (w - 1) l := by rw [List.length_take]; omega
      match n, hn with
      | n + 1, hn =>
        rw [soft_step hw h]
        refine fine_in _ _ 0 (fun c hc => ha c (List.mem_of_mem_take hc)) (by rw [hl]; omega) ?_
        rw [hl]
        have h61 : stepN 61 (0 + lineLen (w - 1) l) ≤ w := by rw [step_in (by unfold inLine; decide)]; omega
        refine ⟨by decide, h61, by decide, h61, by decide, ?_, ?_⟩
        · exact Nat.zero_le _
        · exact fine_soft hw n _ (by simp; omega) (fun c hc => ha c (List.mem_of_mem_drop hc))
      | 0, hn => omega
    · rw [soft_end h]
      have := fine_in (w := w) l [] 0 ha (by omega) trivial
      simpa using this
theorem hexd_in (n : Nat) (h : n < 16) : inLine (hexd n) := by
  have := hexd_toNat n h
  unfold inLine; split at this <;> omega
theorem enc_in (l : List UInt8) : ∀ c ∈ enc l, inLine c := by
  induction l with
  | nil => intro c h; cases h
  | cons x r ih =>
    intro c h
    rw [enc] at h
    have hx := x.toNat_lt
    rcases List.mem_append.1 h with h | h
    · by_cases hp : plainB x (!r.isEmpty) = true
      · rw [unit_plain hp] at h
        obtain rfl : c = x := by simpa using h
        have := lit_plain hp
        unfold lit ink blank at this
        unfold inLine
        simp at this
        omega
      · rw [unit_not hp] at h
        simp only [hexOf, List.flatMap_cons, List.flatMap_nil, List.append_nil, List.cons_append, List.nil_append, List.mem_cons, List.not_mem_nil, or_false] at h
        rcases h with rfl | rfl | rfl
        · unfold inLine; decide
        · exact hexd_in _ (by omega)
        · exact hexd_in _ (by omega)
    · exact ih c h
theorem fine_at {w n k : Nat} {s : ByteArray} (h : k < s.size) (hf : Fine w n (s.data.toList.drop k)) :
    (((s[k]).toNat : Int) = 9 ∨ (s[k].toNat : Int) = 10 ∨ (s[k].toNat : Int) = 13 ∨ (32 ≤ (s[k].toNat : Int) ∧ (s[k].toNat : Int) ≤ 126)) ∧ stepN s[k] n ≤ w ∧ Fine w (stepN s[k] n) (s.data.toList.drop (k + 1)) := by
  rw [drop_at s k h] at hf; exact hf
end Go.Proofs.YtccjagjbldofaaaDoor.Qu
