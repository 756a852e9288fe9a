/-
Plain functions on bytes: letters in lines ('soft'). No program in it, no conditions.
-/
import Derived.Test.YtccjagjbldofaaaDoorQuDecMath
import Derived.Lib.LastIndexByte
namespace Go.Proofs.YtccjagjbldofaaaDoor.Qu
open Go.RowKit Fig

/-- How many bytes, up to m, a line takes. -/
def lineLen (m : Nat) (l : List UInt8) : Nat := if l[m - 2]? = some 61 then m - 2 else if l[m - 1]? = some 61 then m - 1 else m
def softF (w : Nat) : Nat → List UInt8 → List UInt8
  | 0, l => l
  | f + 1, l => if w < l.length then l.take (lineLen (w - 1) l) ++ ([61, 13, 10] ++ softF w f (l.drop (lineLen (w - 1) l))) else l
def soft (w : Nat) (l : List UInt8) : List UInt8 := softF w l.length l
/-- Marks stand three places apart, or more. -/
def Far (l : List UInt8) : Prop := ∀ i j : Nat, i < j → l[i]? = some 61 → l[j]? = some 61 → i + 3 ≤ j
def isEnc (l : List UInt8) : Bool := (dec l).2 == 0 && (enc (dec l).1 == l)
/-- Soft's answer. -/
def softA (l : List UInt8) (n : Int) : List UInt8 × Nat := if n < 4 ∨ 200 < n then ([], 2) else if isEnc l then (soft n.toNat l, 0) else ([], 3)

theorem lineLen_bd {m : Nat} (l : List UInt8) (h : 3 ≤ m) : 1 ≤ lineLen m l ∧ lineLen m l ≤ m := by
  unfold lineLen; split <;> (try split) <;> omega
theorem softF_enough {w : Nat} (hw : 4 ≤ w) : ∀ (f g : Nat) (l : List UInt8), l.length ≤ f → l.length ≤ g → softF w f l = softF w g l
  | 0, 0, l, _, _ => rfl
  | 0, g + 1, l, h, _ => by
    unfold softF; rw [if_neg (by omega)]
  | f + 1, 0, l, _, h => by
    rw [show softF w 0 l = l from rfl]; unfold softF; rw [if_neg (by omega)]
  | f + 1, g + 1, l, h, h' => by
    unfold softF
    split
    · have hb := lineLen_bd l (m := w - 1) (by omega)
      rw [softF_enough hw f g (l.drop (lineLen (w - 1) l)) (by simp; omega) (by simp; omega)]
    · rfl
theorem soft_step {w : Nat} {l : List UInt8} (hw : 4 ≤ w) (h : w < l.length) : soft w l = l.take (lineLen (w - 1) l) ++ ([61, 13, 10] ++ soft w (l.drop (lineLen (w - 1) l))) := by
  have hb := lineLen_bd l (m := w - 1) (by omega)
  obtain ⟨n, hn⟩ : ∃ n, l.length = n + 1 := ⟨l.length - 1, by omega⟩
  unfold soft
  rw [hn]
  show (if w < l.length then _ else _) = _
  rw [if_pos h, softF_enough hw n (l.drop (lineLen (w - 1) l)).length _ (by simp; omega) (Nat.le_refl _)]
theorem soft_end {w : Nat} {l : List UInt8} (h : ¬ w < l.length) : soft w l = l := by
  unfold soft
  cases hn : l.length with
  | zero => rfl
  | succ n => unfold softF; rw [if_neg h]
theorem soft_length {w : Nat} (hw : 4 ≤ w) : ∀ (n : Nat) (l : List UInt8), l.length ≤ n → (soft w l).length ≤ 4 * l.length
  | n, l, hn => by
    by_cases h : w < l.length
    · have hb := lineLen_bd l (m := w - 1) (by omega)
      match n, hn with
      | n + 1, hn =>
        have ih := soft_length hw n (l.drop (lineLen (w - 1) l)) (by simp; omega)
        rw [soft_step hw h, List.length_append, List.length_append, List.length_take]
        simp only [List.length_drop, List.length_cons, List.length_nil] at ih ⊢
        omega
      | 0, hn => omega
    · rw [soft_end h]; omega
theorem Far.drop {l : List UInt8} (h : Far l) (n : Nat) : Far (l.drop n) := fun i j hij hi hj => by
  rw [List.getElem?_drop] at hi hj
  have := h (n + i) (n + j) (by omega) hi hj
  omega
theorem hexd_ne (n : Nat) (h : n < 16) : hexd n ≠ 61 := by
  have := hexd_toNat n h
  intro e
  rw [e] at this
  simp at this
  split at this <;> omega
theorem Far.one {c : UInt8} {l : List UInt8} (hc : c ≠ 61) (h : Far l) : Far (c :: l) := fun i j hij hi hj => by
  cases i with
  | zero => simp at hi; exact absurd hi hc
  | succ i =>
    cases j with
    | zero => omega
    | succ j =>
      simp at hi hj
      have := h i j (by omega) hi hj
      omega
theorem Far.mark {a b : UInt8} {l : List UInt8} (ha : a ≠ 61) (hb : b ≠ 61) (h : Far l) : Far (61 :: a :: b :: l) := fun i j hij hi hj => by
  have h2 := (h.one hb).one ha
  cases i with
  | zero =>
    match j, hij, hj with
    | 1, _, hj => simp at hj; exact absurd hj ha
    | 2, _, hj => simp at hj; exact absurd hj hb
    | j + 3, _, _ => omega
  | succ i =>
    cases j with
    | zero => omega
    | succ j =>
      have hi' : (a :: b :: l)[i]? = some 61 := by simpa using hi
      have hj' : (a :: b :: l)[j]? = some 61 := by simpa using hj
      have := h2 i j (by omega) hi' hj'
      omega
theorem plain_ne {c : UInt8} {m : Bool} (h : plainB c m = true) : c ≠ 61 := fun e => by
  subst e; unfold plainB ink blank at h; simp at h
theorem enc_far (l : List UInt8) : Far (enc l) := by
  induction l with
  | nil => intro i j _ hi; simp [enc] at hi
  | cons c r ih =>
    rw [enc]
    have hc := c.toNat_lt
    by_cases h : plainB c (!r.isEmpty) = true
    · rw [unit_plain h]; exact ih.one (plain_ne h)
    · rw [unit_not h]; exact ih.mark (hexd_ne _ (by omega)) (hexd_ne _ (by omega))
theorem isEnc_far {l : List UInt8} (h : isEnc l = true) : Far l := by
  unfold isEnc at h
  simp only [Bool.and_eq_true, beq_iff_eq] at h
  rw [← h.2]; exact enc_far _
theorem dec_length : ∀ (n : Nat) (l : List UInt8), l.length ≤ n → (dec l).1.length ≤ l.length
  | 0, [], _ => by simp [dec]
  | n + 1, [], _ => by simp [dec]
  | n + 1, c :: r, h => by
    rw [dec_cons]
    simp only [List.length_cons] at h ⊢
    have hp : ∀ a p, (pre a p).1.length ≤ a.length + p.1.length := fun a p => by unfold pre; split <;> simp
    split
    · have := hp [c] (dec r); have := dec_length n r (by omega); simp at *; omega
    · split
      · split
        · have h1 := hp (behind r).1 (dec (r.drop 2)); have h2 := dec_length n (r.drop 2) (by simp; omega); have h3 := behind_length r; have h4 := behind_few (r := r) (by assumption)
          simp at h2; omega
        · simp
      · simp

/-- The last mark among the first m bytes tells how many a line takes. -/
theorem line_last {s : ByteArray} {m : Nat} (h3 : 3 ≤ m) (hm : m < s.size) (hF : Far s.data.toList) (x : Int) (hx : x = Lib.lastIndexByte (s.extract 0 m) 61) :
    (-1 ≤ x ∧ x < m) ∧ (if 0 ≤ x ∧ (m : Int) < x + 3 then x else (m : Int)) = (lineLen m s.data.toList : Int) := by
  have hsz : (s.extract 0 m).size = m := by rw [ByteArray.size_extract]; omega
  have hat : ∀ j, j < m → ((((s.extract 0 m).data[j]!).toNat : Int) = 61 ↔ s.data.toList[j]? = some 61) := fun j hj => by
    have h1 : (s.extract 0 m).data[j]! = s.data.toList[j]'(by simp; omega) := by
      have hl : j < (s.extract 0 m).data.size := by
        show j < (s.extract 0 m).size
        omega
      rw [getElem!_pos (s.extract 0 m).data j hl]
      simp [ByteArray.data_extract]
    rw [h1, List.getElem?_eq_getElem (by simp; omega)]
    constructor
    · intro e
      generalize s.data.toList[j]'(by simp; omega) = c at e
      have : c = 61 := UInt8.toNat_inj.1 (by simp; omega)
      rw [this]
    · intro e
      have := Option.some.inj e
      rw [this]; rfl
  have sp := Lib.lastIndexByte_spec (s.extract 0 m) 61
  rw [hsz, ← hx] at sp
  unfold lineLen
  rcases sp with ⟨e, hn⟩ | ⟨i, hi, e, hc, hn⟩
  · refine ⟨by omega, ?_⟩
    have n2 : ¬ s.data.toList[m - 2]? = some 61 := fun q => hn (m - 2) (by omega) ((hat _ (by omega)).2 q)
    have n1 : ¬ s.data.toList[m - 1]? = some 61 := fun q => hn (m - 1) (by omega) ((hat _ (by omega)).2 q)
    rw [if_neg n2, if_neg n1, if_neg (by omega)]
  · refine ⟨by omega, ?_⟩
    have hc' := (hat i hi).1 hc
    by_cases h1 : i + 1 = m
    · have n2 : ¬ s.data.toList[m - 2]? = some 61 := fun q => by have := hF (m - 2) i (by omega) q hc'; omega
      have p1 : s.data.toList[m - 1]? = some 61 := by rw [← h1]; simpa using hc'
      rw [if_neg n2, if_pos p1, if_pos (by omega)]; omega
    · by_cases h2 : i + 2 = m
      · have p2 : s.data.toList[m - 2]? = some 61 := by rw [← h2]; simpa using hc'
        rw [if_pos p2, if_pos (by omega)]; omega
      · have n2 : ¬ s.data.toList[m - 2]? = some 61 := fun q => hn (m - 2) (by omega) (by omega) ((hat _ (by omega)).2 q)
        have n1 : ¬ s.data.toList[m - 1]? = some 61 := fun q => hn (m - 1) (by omega) (by omega) ((hat _ (by omega)).2 q)
        rw [if_neg n2, if_neg n1, if_neg (by omega)]
end Go.Proofs.YtccjagjbldofaaaDoor.Qu
