/-
Lines in plain words: a text's lines, lines joined, lines folded, lines that go on with the one ahead. No conditions: plain functions on lists of bytes.
-/
import Derived.Test.YtcclicgjklmihaaRows
namespace Go.Proofs.Ytcclicgjklmihaa.Ln

/-- A line without the carriage return at its end. -/
def trimR (t : List UInt8) : List UInt8 := if t.getLast? = some 13 then t.dropLast else t
/-- The lines of a text, t of the first one being there already. -/
def spl : List UInt8 → List UInt8 → List (List UInt8)
  | t, [] => if t = [] then [] else [t]
  | t, b :: r => if b = 10 then trimR t :: spl [] r else spl (t ++ [b]) r
def split (l : List UInt8) : List (List UInt8) := spl [] l
theorem split_nil : split [] = [] := rfl
theorem idx_cons (b : UInt8) (r : List UInt8) (h : ¬ b = 10) : (b :: r).idxOf 10 = r.idxOf 10 + 1 := by
  rw [List.idxOf_cons]; have : (b == 10) = false := by simpa using h
  rw [this]; rfl
theorem spl_yes : ∀ (t l : List UInt8), l.idxOf 10 < l.length → spl t l = trimR (t ++ l.take (l.idxOf 10)) :: spl [] (l.drop (l.idxOf 10 + 1))
  | _, [], h => by simp at h
  | t, b :: r, h => by
    by_cases hb : b = 10
    · subst hb; simp [spl]
    · rw [idx_cons b r hb] at h ⊢
      have ih := spl_yes (t ++ [b]) r (by simpa using h)
      rw [spl, if_neg hb, ih]
      simp
theorem spl_no : ∀ (t l : List UInt8), ¬ l.idxOf 10 < l.length → spl t l = if t ++ l = [] then [] else [t ++ l]
  | t, [], _ => by simp [spl]
  | t, b :: r, h => by
    by_cases hb : b = 10
    · subst hb; simp at h
    · rw [idx_cons b r hb] at h
      have ih := spl_no (t ++ [b]) r (by simpa using h)
      rw [spl, if_neg hb, ih]
      simp
theorem split_yes {l : List UInt8} (h : l.idxOf 10 < l.length) : split l = trimR (l.take (l.idxOf 10)) :: split (l.drop (l.idxOf 10 + 1)) := by
  unfold split; rw [spl_yes [] l h]; simp
theorem split_no {l : List UInt8} (h : ¬ l.idxOf 10 < l.length) (hl : l ≠ []) : split l = [l] := by
  unfold split; rw [spl_no [] l h]; simp [hl]
theorem trimR_length (t : List UInt8) : (trimR t).length ≤ t.length := by unfold trimR; split <;> simp
theorem spl_length : ∀ (t l : List UInt8), (spl t l).length ≤ (if t = [] then 0 else 1) + l.length
  | t, [] => by unfold spl; by_cases h : t = [] <;> simp [h]
  | t, b :: r => by
    unfold spl
    by_cases hb : b = 10
    · rw [if_pos hb]; have := spl_length [] r; simp at this ⊢; omega
    · rw [if_neg hb]; have := spl_length (t ++ [b]) r; simp at this ⊢; omega
theorem split_length (l : List UInt8) : (split l).length ≤ l.length := by have := spl_length [] l; unfold split; simpa using this
/-- All of a list's texts, one behind the other. -/
def bytes (l : List (List UInt8)) : Nat := l.flatten.length
theorem bytes_cons (x : List UInt8) (l : List (List UInt8)) : bytes (x :: l) = x.length + bytes l := by simp [bytes]
theorem bytes_append (l r : List (List UInt8)) : bytes (l ++ r) = bytes l + bytes r := by simp [bytes]
theorem spl_bytes : ∀ (t l : List UInt8), bytes (spl t l) ≤ t.length + l.length
  | t, [] => by unfold spl; by_cases h : t = [] <;> simp [h, bytes]
  | t, b :: r => by
    unfold spl
    by_cases hb : b = 10
    · rw [if_pos hb, bytes_cons]; have h1 := spl_bytes [] r; have h2 := trimR_length t; simp at h1 ⊢; omega
    · rw [if_neg hb]; have := spl_bytes (t ++ [b]) r; simp at this ⊢; omega
theorem split_bytes (l : List UInt8) : bytes (split l) ≤ l.length := by have := spl_bytes [] l; unfold split; simpa using this

/-- Lines with their numbers. -/
def num : Nat → List (List UInt8) → List (Nat × List UInt8)
  | _, [] => []
  | k, x :: r => (k, x) :: num (k + 1) r
theorem num_length : ∀ (k : Nat) (l : List (List UInt8)), (num k l).length = l.length
  | _, [] => rfl
  | k, x :: r => by simp [num, num_length (k + 1) r]
theorem num_snd : ∀ (k : Nat) (l : List (List UInt8)), (num k l).map (·.2) = l
  | _, [] => rfl
  | k, x :: r => by simp [num, num_snd (k + 1) r]
theorem num_get : ∀ (k : Nat) (l : List (List UInt8)) (i : Nat) (h : i < l.length), (num k l)[i]? = some (k + i, l[i])
  | k, x :: r, 0, _ => rfl
  | k, x :: r, i + 1, h => by
    have := num_get (k + 1) r i (by simpa using h)
    simp only [num, List.getElem?_cons_succ, this, List.getElem_cons_succ]
    congr 2; omega
theorem num_drop (k : Nat) (l : List (List UInt8)) (i : Nat) (h : i < l.length) : (num k l).drop i = (k + i, l[i]) :: (num k l).drop (i + 1) := by
  have hl : i < (num k l).length := by rw [num_length]; exact h
  rw [List.drop_eq_getElem_cons hl]
  congr 1
  have := num_get k l i h
  rw [List.getElem?_eq_getElem hl] at this
  simpa using this

/-- Does a line go on with the one ahead? -/
def goes : List UInt8 → Bool
  | b :: _ => b == 32 || b == 9
  | [] => false
/-- Lines, each with those that go on with it; st: the one that is not at its end yet. -/
def unf : Option (Nat × List UInt8) → List (Nat × List UInt8) → List (Nat × List UInt8)
  | none, [] => []
  | some p, [] => [p]
  | none, x :: r => unf (some x) r
  | some p, x :: r => if goes x.2 then unf (some (p.1, p.2 ++ x.2)) r else p :: unf (some x) r
theorem unf_same : ∀ (r r' : List (Nat × List UInt8)) (st st' : Option (Nat × List UInt8)), r.map (·.2) = r'.map (·.2) → st.map (·.2) = st'.map (·.2) → (unf st r).map (·.2) = (unf st' r').map (·.2)
  | [], [], none, none, _, _ => rfl
  | [], [], some p, some q, _, h => by simpa [unf] using h
  | [], [], none, some q, _, h => by simp at h
  | [], [], some q, none, _, h => by simp at h
  | [], x :: r, _, _, h, _ => by simp at h
  | x :: r, [], _, _, h, _ => by simp at h
  | x :: r, y :: r', none, some q, _, h => by simp at h
  | x :: r, y :: r', some q, none, _, h => by simp at h
  | x :: r, y :: r', none, none, h, _ => by
    simp only [List.map_cons, List.cons.injEq] at h
    unfold unf
    exact unf_same r r' (some x) (some y) h.2 (by simp [h.1])
  | x :: r, y :: r', some p, some q, h, hs => by
    simp only [List.map_cons, List.cons.injEq] at h
    have hs' : p.2 = q.2 := by simpa using hs
    unfold unf
    rw [h.1]
    by_cases hg : goes y.2 = true
    · rw [if_pos hg, if_pos hg]
      exact unf_same r r' _ _ h.2 (by simp [hs'])
    · rw [if_neg hg, if_neg hg, List.map_cons, List.map_cons, unf_same r r' (some x) (some y) h.2 (by simp [h.1]), hs']
def unfold (l : List (List UInt8)) : List (List UInt8) := (unf none (num 1 l)).map (·.2)
theorem unfold_any (k : Nat) (l : List (List UInt8)) : (unf none (num k l)).map (·.2) = unfold l := unf_same _ _ _ _ (by rw [num_snd, num_snd]) rfl
theorem unf_length : ∀ (st : Option (Nat × List UInt8)) (r : List (Nat × List UInt8)), (unf st r).length ≤ st.toList.length + r.length
  | none, [] => by simp [unf]
  | some p, [] => by simp [unf]
  | none, x :: r => by have := unf_length (some x) r; simp [unf] at this ⊢; omega
  | some p, x :: r => by
    unfold unf
    by_cases hg : goes x.2 = true
    · rw [if_pos hg]; have := unf_length (some (p.1, p.2 ++ x.2)) r; simp at this ⊢; omega
    · rw [if_neg hg]; have := unf_length (some x) r; simp at this ⊢; omega

/-- Lines as a text. -/
def join : List (List UInt8) → List UInt8
  | [] => []
  | x :: r => x ++ ([13, 10] ++ join r)
theorem join_length : ∀ l : List (List UInt8), (join l).length = bytes l + 2 * l.length
  | [] => rfl
  | x :: r => by have := join_length r; simp [join, bytes_cons]; omega

def blank (l : List UInt8) (i : Nat) : Bool := match l[i]? with | some b => b == 32 || b == 9 | none => false
theorem blank_at {l : List UInt8} {i : Nat} (h : i < l.length) : blank l i = (l[i] == 32 || l[i] == 9) := by unfold blank; rw [List.getElem?_eq_getElem h]
theorem blank_off {l : List UInt8} {i : Nat} (h : ¬ i < l.length) : blank l i = false := by unfold blank; rw [List.getElem?_eq_none (by omega)]
theorem goes_blank (l : List UInt8) : goes l = blank l 0 := by cases l <;> rfl
/-- The last of the places 1 to i at which a blank stands; 0: none. -/
def last (l : List UInt8) : Nat → Nat
  | 0 => 0
  | i + 1 => if blank l (i + 1) then i + 1 else last l i
theorem last_le (l : List UInt8) : ∀ i, last l i ≤ i
  | 0 => Nat.le_refl _
  | i + 1 => by unfold last; split; exact Nat.le_refl _; have := last_le l i; omega
def place (k : Nat) (l : List UInt8) : Nat := if l.length ≤ k then 0 else last l k
theorem place_lt {k : Nat} {l : List UInt8} (h : place k l ≠ 0) : place k l < l.length ∧ k < l.length := by
  unfold place at h ⊢
  by_cases hl : l.length ≤ k
  · rw [if_pos hl] at h; exact absurd rfl h
  · rw [if_neg hl]; have := last_le l k; omega
def fold (k : Nat) (l : List UInt8) : List (List UInt8) := if h : place k l = 0 then [l] else have _ := h; l.take (place k l) :: fold k (l.drop (place k l))
termination_by l.length
decreasing_by rw [List.length_drop]; have := place_lt h; omega
theorem fold_end {k : Nat} {l : List UInt8} (h : place k l = 0) : fold k l = [l] := by rw [fold, dif_pos h]
theorem fold_more {k : Nat} {l : List UInt8} (h : place k l ≠ 0) : fold k l = l.take (place k l) :: fold k (l.drop (place k l)) := by rw [fold, dif_neg h]
end Go.Proofs.Ytcclicgjklmihaa.Ln
