/-
Pages of names and their tokens, in plain words: the words of a text, numbered from five on; the number of a word, the word of a number. No program in it, no conditions.
-/
import Derived.Test.YtionbdkiclodoaaRows
namespace Go.Proofs.Ytionbdkiclodoaa.Vo
set_option maxRecDepth 100000

/-- The names of the three pages, with blanks between. -/
def t0 : List UInt8 := [65, 100, 100, 32, 65, 108, 101, 114, 116, 32, 65, 114, 99, 104, 105, 118, 101, 32, 65, 116, 111, 109, 105, 99, 32, 67, 104, 97, 108, 32, 67, 109, 100, 32, 67, 109, 100, 73, 68, 32, 67, 109, 100, 82, 101, 102, 32, 67, 111, 112, 121, 32, 67, 114, 101, 100, 32, 68, 97, 116, 97, 32, 68, 101, 108, 101, 116, 101, 32, 69, 120, 101, 99, 32, 70, 105, 110, 97, 108, 32, 71, 101, 116, 32, 73, 116, 101, 109, 32, 76, 97, 110, 103, 32, 76, 111, 99, 78, 97, 109, 101, 32, 76, 111, 99, 85, 82, 73, 32, 77, 97, 112, 32, 77, 97, 112, 73, 116, 101, 109, 32, 77, 101, 116, 97, 32, 77, 115, 103, 73, 68, 32, 77, 115, 103, 82, 101, 102, 32, 78, 111, 82, 101, 115, 112, 32, 78, 111, 82, 101, 115, 117, 108, 116, 115, 32, 80, 117, 116, 32, 82, 101, 112, 108, 97, 99, 101, 32, 82, 101, 115, 112, 85, 82, 73, 32, 82, 101, 115, 117, 108, 116, 115, 32, 83, 101, 97, 114, 99, 104, 32, 83, 101, 113, 117, 101, 110, 99, 101, 32, 83, 101, 115, 115, 105, 111, 110, 73, 68, 32, 83, 102, 116, 68, 101, 108, 32, 83, 111, 117, 114, 99, 101, 32, 83, 111, 117, 114, 99, 101, 82, 101, 102, 32, 83, 116, 97, 116, 117, 115, 32, 83, 121, 110, 99, 32, 83, 121, 110, 99, 66, 111, 100, 121, 32, 83, 121, 110, 99, 72, 100, 114, 32, 83, 121, 110, 99, 77, 76, 32, 84, 97, 114, 103, 101, 116, 32, 84, 97, 114, 103, 101, 116, 82, 101, 102, 32, 45, 32, 86, 101, 114, 68, 84, 68, 32, 86, 101, 114, 80, 114, 111, 116, 111, 32, 78, 117, 109, 98, 101, 114, 79, 102, 67, 104, 97, 110, 103, 101, 115, 32, 77, 111, 114, 101, 68, 97, 116, 97]
def t1 : List UInt8 := [65, 110, 99, 104, 111, 114, 32, 69, 77, 73, 32, 70, 111, 114, 109, 97, 116, 32, 70, 114, 101, 101, 73, 68, 32, 70, 114, 101, 101, 77, 101, 109, 32, 76, 97, 115, 116, 32, 77, 97, 114, 107, 32, 77, 97, 120, 77, 115, 103, 83, 105, 122, 101, 32, 77, 101, 109, 32, 77, 101, 116, 73, 110, 102, 32, 78, 101, 120, 116, 32, 78, 101, 120, 116, 78, 111, 110, 99, 101, 32, 83, 104, 97, 114, 101, 100, 77, 101, 109, 32, 83, 105, 122, 101, 32, 84, 121, 112, 101, 32, 86, 101, 114, 115, 105, 111, 110, 32, 77, 97, 120, 79, 98, 106, 83, 105, 122, 101]
def t2 : List UInt8 := [67, 84, 67, 97, 112, 32, 67, 84, 84, 121, 112, 101, 32, 68, 97, 116, 97, 83, 116, 111, 114, 101, 32, 68, 97, 116, 97, 84, 121, 112, 101, 32, 68, 101, 118, 73, 68, 32, 68, 101, 118, 73, 110, 102, 32, 68, 101, 118, 84, 121, 112, 32, 68, 105, 115, 112, 108, 97, 121, 78, 97, 109, 101, 32, 68, 83, 77, 101, 109, 32, 69, 120, 116, 32, 70, 119, 86, 32, 72, 119, 86, 32, 77, 97, 110, 32, 77, 97, 120, 71, 85, 73, 68, 83, 105, 122, 101, 32, 77, 97, 120, 73, 68, 32, 77, 97, 120, 77, 101, 109, 32, 77, 111, 100, 32, 79, 69, 77, 32, 80, 97, 114, 97, 109, 78, 97, 109, 101, 32, 80, 114, 111, 112, 78, 97, 109, 101, 32, 82, 120, 32, 82, 120, 80, 114, 101, 102, 32, 83, 104, 97, 114, 101, 100, 77, 101, 109, 32, 83, 105, 122, 101, 32, 83, 111, 117, 114, 99, 101, 82, 101, 102, 32, 83, 119, 86, 32, 83, 121, 110, 99, 67, 97, 112, 32, 83, 121, 110, 99, 84, 121, 112, 101, 32, 84, 120, 32, 84, 120, 80, 114, 101, 102, 32, 86, 97, 108, 69, 110, 117, 109, 32, 86, 101, 114, 67, 84, 32, 86, 101, 114, 68, 84, 68, 32, 88, 78, 97, 109, 32, 88, 86, 97, 108, 32, 85, 84, 67, 32, 83, 117, 112, 112, 111, 114, 116, 78, 117, 109, 98, 101, 114, 79, 102, 67, 104, 97, 110, 103, 101, 115, 32, 83, 117, 112, 112, 111, 114, 116, 76, 97, 114, 103, 101, 79, 98, 106, 115]
def txt (p : Int) : List UInt8 := if p = 0 then t0 else if p = 1 then t1 else if p = 2 then t2 else []
/-- A text's words, b of the first one being there already. -/
def sp : List UInt8 → List UInt8 → List (List UInt8)
  | b, [] => [b]
  | b, c :: l => if c = 32 then b :: sp [] l else sp (b ++ [c]) l
def wds (l : List UInt8) : List (List UInt8) := if l = [] then [] else sp [] l
/-- Words with their numbers, those left out that are a '-'. -/
def numb : Nat → List (List UInt8) → List (Nat × List UInt8)
  | _, [] => []
  | k, x :: l => if x = [45] then numb (k + 1) l else (k, x) :: numb (k + 1) l
/-- A page's names with their tokens. -/
def toks (p : Int) : List (Nat × List UInt8) := numb 5 (wds (txt p))
def tok (p : Int) (n : List UInt8) : Nat := match (toks p).find? (fun x => x.2 == n) with
  | some x => x.1
  | none => 0
def nam (p : Int) (t : Nat) : List UInt8 := match (toks p).find? (fun x => x.1 == t) with
  | some x => x.2
  | none => []
/-- As the document looks them up. -/
def tokN (n : List UInt8) : Nat → List (List UInt8) → Nat
  | _, [] => 0
  | k, x :: l => if x = n ∧ n ≠ [45] then k else tokN n (k + 1) l
def namN (t : Nat) : Nat → List (List UInt8) → List UInt8
  | _, [] => []
  | k, x :: l => if t = k then (if x = [45] then [] else x) else namN t (k + 1) l

theorem idx_cons (b : UInt8) (r : List UInt8) (h : ¬ b = 32) : (b :: r).idxOf 32 = r.idxOf 32 + 1 := by
  rw [List.idxOf_cons]; have : (b == 32) = false := by simpa using h
  rw [this]; rfl
theorem sp_yes : ∀ (t l : List UInt8), l.idxOf 32 < l.length → sp t l = (t ++ l.take (l.idxOf 32)) :: sp [] (l.drop (l.idxOf 32 + 1))
  | _, [], h => by simp at h
  | t, b :: r, h => by
    by_cases hb : b = 32
    · subst hb; simp [sp]
    · rw [idx_cons b r hb] at h ⊢
      have ih := sp_yes (t ++ [b]) r (by simpa using h)
      rw [sp, if_neg hb, ih]
      simp
theorem sp_no : ∀ (t l : List UInt8), ¬ l.idxOf 32 < l.length → sp t l = [t ++ l]
  | t, [], _ => by simp [sp]
  | t, b :: r, h => by
    by_cases hb : b = 32
    · subst hb; simp at h
    · rw [idx_cons b r hb] at h
      have ih := sp_no (t ++ [b]) r (by simpa using h)
      rw [sp, if_neg hb, ih]
      simp
/-- A text does not end in a blank. -/
def Fine (l : List UInt8) : Prop := l.getLast? ≠ some 32
theorem wds_nil : wds [] = [] := rfl
theorem wds_no {l : List UInt8} (h : ¬ l.idxOf 32 < l.length) (hl : l ≠ []) : wds l = [l] := by
  unfold wds; rw [if_neg hl, sp_no [] l h]; rfl
theorem drop_full {l : List UInt8} (h : l.idxOf 32 < l.length) (hf : Fine l) : l.drop (l.idxOf 32 + 1) ≠ [] := fun e => by
  have h1 : l.length ≤ l.idxOf 32 + 1 := by simpa using e
  have h2 : l.idxOf 32 = l.length - 1 := by omega
  apply hf
  rw [List.getLast?_eq_getElem?, ← h2, List.getElem?_eq_getElem h, List.getElem_idxOf h]
theorem wds_yes {l : List UInt8} (h : l.idxOf 32 < l.length) (hf : Fine l) : wds l = l.take (l.idxOf 32) :: wds (l.drop (l.idxOf 32 + 1)) := by
  have hl : l ≠ [] := fun e => by rw [e] at h; simp at h
  unfold wds
  rw [if_neg hl, if_neg (drop_full h hf), sp_yes [] l h]
  rfl
theorem fine_drop {l : List UInt8} (h : l.idxOf 32 < l.length) (hf : Fine l) : Fine (l.drop (l.idxOf 32 + 1)) := fun e => by
  apply hf
  have hd := drop_full h hf
  rw [← e, List.getLast?_drop]
  rw [if_neg (by intro h'; exact hd (by rw [List.drop_eq_nil_of_le h']))]

theorem numb_append : ∀ (k : Nat) (l r : List (List UInt8)), numb k (l ++ r) = numb k l ++ numb (k + l.length) r
  | k, [], r => by simp [numb]
  | k, x :: l, r => by
    have ih := numb_append (k + 1) l r
    have e : k + 1 + l.length = k + (x :: l).length := by simp; omega
    rw [e] at ih
    simp only [List.cons_append, numb]
    by_cases h : x = [45]
    · rw [if_pos h, if_pos h, ih]
    · rw [if_neg h, if_neg h, ih]; rfl
theorem numb_ge : ∀ (k : Nat) (l : List (List UInt8)) (x : Nat × List UInt8), x ∈ numb k l → k ≤ x.1 ∧ x.1 < k + l.length ∧ x.2 ≠ [45] ∧ x.2 ∈ l
  | _, [], x, h => by simp [numb] at h
  | k, y :: l, x, h => by
    by_cases hy : y = [45]
    · rw [numb, if_pos hy] at h
      have ih := numb_ge (k + 1) l x h
      refine ⟨by omega, by simp; omega, ih.2.2.1, List.mem_cons_of_mem _ ih.2.2.2⟩
    · rw [numb, if_neg hy] at h
      rcases List.mem_cons.1 h with rfl | h
      · exact ⟨Nat.le_refl _, by simp, hy, List.mem_cons_self⟩
      · have ih := numb_ge (k + 1) l x h
        exact ⟨by omega, by simp; omega, ih.2.2.1, List.mem_cons_of_mem _ ih.2.2.2⟩
theorem tokN_find (n : List UInt8) : ∀ (k : Nat) (l : List (List UInt8)), tokN n k l = match (numb k l).find? (fun x => x.2 == n) with
    | some x => x.1
    | none => 0
  | _, [] => rfl
  | k, x :: l => by
    have ih := tokN_find n (k + 1) l
    by_cases hx : x = [45]
    · rw [tokN, numb, if_pos hx, if_neg (fun h => h.2 (by rw [← h.1, hx])), ih]
    · rw [tokN, numb, if_neg hx]
      by_cases hn : x = n
      · rw [if_pos ⟨hn, fun e => hx (hn.trans e)⟩, List.find?_cons]
        simp [hn]
      · rw [if_neg (fun h => hn h.1), List.find?_cons]
        have : (x == n) = false := by simpa using hn
        simp [this, ih]
theorem namN_find (t : Nat) : ∀ (k : Nat) (l : List (List UInt8)), namN t k l = match (numb k l).find? (fun x => x.1 == t) with
    | some x => x.2
    | none => []
  | _, [] => rfl
  | k, x :: l => by
    have ih := namN_find t (k + 1) l
    by_cases ht : t = k
    · subst ht
      by_cases hx : x = [45]
      · rw [namN, numb, if_pos hx, if_pos rfl, if_pos hx]
        have : (numb (t + 1) l).find? (fun x => x.1 == t) = none := List.find?_eq_none.2 fun y hy => by have := numb_ge _ _ _ hy; simp; omega
        rw [this]
      · rw [namN, numb, if_neg hx, if_pos rfl, if_neg hx, List.find?_cons]
        simp
    · rw [namN, if_neg ht, ih, numb]
      by_cases hx : x = [45]
      · rw [if_pos hx]
      · rw [if_neg hx, List.find?_cons]
        have : (k == t) = false := by simpa using fun e => ht e.symm
        simp [this]
theorem namN_at (t : Nat) : ∀ (k : Nat) (l : List (List UInt8)), namN t k l = if h : k ≤ t ∧ t - k < l.length then (if l[t - k]'h.2 = [45] then [] else l[t - k]'h.2) else []
  | k, [] => by simp [namN]
  | k, x :: l => by
    rw [namN]
    by_cases ht : t = k
    · subst ht; simp
    · rw [if_neg ht, namN_at t (k + 1) l]
      by_cases h : k + 1 ≤ t ∧ t - (k + 1) < l.length
      · have h' : k ≤ t ∧ t - k < (x :: l).length := by simp; omega
        have e : t - k = (t - (k + 1)) + 1 := by omega
        rw [dif_pos h, dif_pos h']
        simp only [e, List.getElem_cons_succ]
      · rw [dif_neg h, dif_neg (by simp; omega)]
theorem tokN_tok (p : Int) (n : List UInt8) : tokN n 5 (wds (txt p)) = tok p n := tokN_find n 5 _
theorem namN_nam (p : Int) (t : Nat) : namN t 5 (wds (txt p)) = nam p t := namN_find t 5 _

/-! What is so of the three texts. -/
theorem pages (p : Int) : txt p = t0 ∨ txt p = t1 ∨ txt p = t2 ∨ txt p = [] := by
  unfold txt
  by_cases h0 : p = 0
  · simp [h0]
  · by_cases h1 : p = 1
    · simp [h1]
    · by_cases h2 : p = 2
      · simp [h2]
      · simp [h0, h1, h2]
theorem fine_txt (p : Int) : Fine (txt p) := by
  rcases pages p with h | h | h | h <;> rw [h] <;> unfold Fine <;> decide +kernel
theorem size_txt (p : Int) : (txt p).length ≤ 1000 := by
  rcases pages p with h | h | h | h <;> rw [h] <;> decide +kernel
theorem count_wds (p : Int) : (wds (txt p)).length ≤ 100 := by
  rcases pages p with h | h | h | h <;> rw [h] <;> decide +kernel
theorem nodup_wds (p : Int) : (wds (txt p)).Nodup := by
  rcases pages p with h | h | h | h <;> rw [h] <;> decide +kernel
theorem full_wds (p : Int) : ∀ x ∈ wds (txt p), x ≠ [] := by
  rcases pages p with h | h | h | h <;> rw [h] <;> decide +kernel
theorem size_wds (p : Int) : ∀ x ∈ wds (txt p), x.length ≤ 1000 := by
  rcases pages p with h | h | h | h <;> rw [h] <;> decide +kernel
theorem wds_none {p : Int} (h : ¬ (0 ≤ p ∧ p ≤ 2)) : wds (txt p) = [] := by
  unfold txt; rw [if_neg (by omega), if_neg (by omega), if_neg (by omega)]; rfl

theorem toks_lt (p : Int) {x : Nat × List UInt8} (h : x ∈ toks p) : 5 ≤ x.1 ∧ x.1 < 105 ∧ x.2 ∈ wds (txt p) := by
  have h1 := numb_ge _ _ _ h; have := count_wds p; exact ⟨by omega, by omega, h1.2.2.2⟩
theorem tok_lt (p : Int) (n : List UInt8) : tok p n < 105 := by
  unfold tok
  split
  · rename_i x h; exact (toks_lt p (List.mem_of_find?_eq_some h)).2.1
  · omega
theorem nam_size (p : Int) (t : Nat) : (nam p t).length ≤ 1000 := by
  unfold nam
  split
  · rename_i x h; exact size_wds p _ (toks_lt p (List.mem_of_find?_eq_some h)).2.2
  · simp
/-- Numbers rise. -/
theorem numb_rise : ∀ (k : Nat) (l : List (List UInt8)), (numb k l).Pairwise (fun x y => x.1 < y.1)
  | _, [] => List.Pairwise.nil
  | k, x :: l => by
    rw [numb]
    by_cases h : x = [45]
    · rw [if_pos h]; exact numb_rise (k + 1) l
    · rw [if_neg h]; exact List.Pairwise.cons (fun y hy => by have := numb_ge _ _ _ hy; show k < y.1; omega) (numb_rise (k + 1) l)
theorem numb_words : ∀ (k : Nat) (l : List (List UInt8)), l.Nodup → (numb k l).Pairwise (fun x y => x.2 ≠ y.2)
  | _, [], _ => List.Pairwise.nil
  | k, x :: l, hn => by
    have hn' := List.nodup_cons.1 hn
    rw [numb]
    by_cases h : x = [45]
    · rw [if_pos h]; exact numb_words (k + 1) l hn'.2
    · rw [if_neg h]; exact List.Pairwise.cons (fun y hy e => hn'.1 (by have := numb_ge _ _ _ hy; rw [show x = y.2 from e]; exact this.2.2.2)) (numb_words (k + 1) l hn'.2)
/-- The one that is found is the one that is there. -/
theorem found {α β : Type} [BEq β] [LawfulBEq β] (f : α → β) : ∀ (l : List α), l.Pairwise (fun x y => f x ≠ f y) → ∀ x ∈ l, l.find? (fun y => f y == f x) = some x
  | [], _, x, h => by simp at h
  | y :: l, hp, x, h => by
    have hp' := List.pairwise_cons.1 hp
    rw [List.find?_cons]
    by_cases e : f y = f x
    · rcases List.mem_cons.1 h with rfl | h
      · simp
      · exact absurd e (hp'.1 x h)
    · have : (f y == f x) = false := by simpa using e
      rw [this]
      rcases List.mem_cons.1 h with rfl | h
      · exact absurd rfl e
      · exact found f l hp'.2 x h
theorem tok_of (p : Int) {x : Nat × List UInt8} (h : x ∈ toks p) : tok p x.2 = x.1 := by
  have hf := found (fun x : Nat × List UInt8 => x.2) (toks p) (numb_words 5 _ (nodup_wds p)) x h; unfold tok; simp only [hf]
theorem nam_of (p : Int) {x : Nat × List UInt8} (h : x ∈ toks p) : nam p x.1 = x.2 := by
  have hf := found (fun x : Nat × List UInt8 => x.1) (toks p) ((numb_rise 5 _).imp (fun h => Nat.ne_of_lt h)) x h; unfold nam; simp only [hf]
theorem tok_none {p : Int} {n : List UInt8} (h : ∀ x ∈ toks p, x.2 ≠ n) : tok p n = 0 := by
  unfold tok; rw [List.find?_eq_none.2 fun x hx => by simpa using h x hx]
theorem nam_none {p : Int} {t : Nat} (h : ∀ x ∈ toks p, x.1 ≠ t) : nam p t = [] := by
  unfold nam; rw [List.find?_eq_none.2 fun x hx => by simpa using h x hx]
theorem tok_or (p : Int) (n : List UInt8) : tok p n = 0 ∨ (tok p n, n) ∈ toks p := by
  rcases Classical.em (∃ x ∈ toks p, x.2 = n) with ⟨x, hx, rfl⟩ | h
  · right; rw [tok_of p hx]; exact hx
  · left; exact tok_none fun x hx e => h ⟨x, hx, e⟩
theorem nam_or (p : Int) (t : Nat) : nam p t = [] ∨ (t, nam p t) ∈ toks p := by
  rcases Classical.em (∃ x ∈ toks p, x.1 = t) with ⟨x, hx, rfl⟩ | h
  · right; rw [nam_of p hx]; exact hx
  · left; exact nam_none fun x hx e => h ⟨x, hx, e⟩
/-- 14.2. -/
theorem one_tok (p : Int) (t : Nat) (h : nam p t ≠ []) : tok p (nam p t) = t := by
  rcases nam_or p t with h1 | h1
  · exact absurd h1 h
  · exact tok_of p h1
theorem one_nam (p : Int) (n : List UInt8) (h : tok p n ≠ 0) : nam p (tok p n) = n := by
  rcases tok_or p n with h1 | h1
  · exact absurd h1 h
  · exact nam_of p h1
theorem toks_full (p : Int) {x : Nat × List UInt8} (h : x ∈ toks p) : x.2 ≠ [] := full_wds p _ (toks_lt p h).2.2

/-- The namespaces. -/
def spc (p : Int) : List UInt8 := if p = 0 then [83, 89, 78, 67, 77, 76, 58, 83, 89, 78, 67, 77, 76, 49, 46, 50] else if p = 1 then [115, 121, 110, 99, 109, 108, 58, 109, 101, 116, 105, 110, 102] else if p = 2 then [115, 121, 110, 99, 109, 108, 58, 100, 101, 118, 105, 110, 102] else []
def pag (s : List UInt8) : Int := if s = spc 0 then 0 else if s = spc 1 then 1 else if s = spc 2 then 2 else -1
theorem pag_spc {p : Int} (h0 : 0 ≤ p) (h2 : p ≤ 2) : pag (spc p) = p := by
  have : p = 0 ∨ p = 1 ∨ p = 2 := by omega
  rcases this with rfl | rfl | rfl <;> decide +kernel
end Go.Proofs.Ytionbdkiclodoaa.Vo
