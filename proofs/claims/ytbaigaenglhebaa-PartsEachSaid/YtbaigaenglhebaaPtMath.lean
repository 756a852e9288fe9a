/-
Values of several parts, as plain functions of lists of bytes: how parts are written and joined, and how a value is parted. No conditions.
-/
import Derived.Test.YtbaigaenglhebaaStrs
namespace Go.Proofs.Ytbaigaenglhebaa.Pt
open Go.RowKit Strs

/-- Has this byte a mark ahead of it where it is written? -/
def mk (c : UInt8) : Bool := c == 59 || c == 92

/-- A part as it is written. -/
def wr : List UInt8 → List UInt8
  | [] => []
  | c :: r => if mk c then 92 :: c :: wr r else c :: wr r
/-- The parts behind the first, each with what stands ahead of it. -/
def tailJ : List (List UInt8) → List UInt8
  | [] => []
  | p :: r => 59 :: (wr p ++ tailJ r)
/-- Parts as a value. -/
def jn : List (List UInt8) → List UInt8
  | [] => []
  | p :: r => wr p ++ tailJ r

/-- Behind b, from the place k on: the parts up to what is wrong, and its place. -/
def sm : List UInt8 → List UInt8 → Nat → List (List UInt8) × Option Nat
  | [], b, _ => ([b], none)
  | c :: r, b, k => if c = 59 then (b :: (sm r [] (k + 1)).1, (sm r [] (k + 1)).2) else
    if c = 92 then (match r with | [] => ([], some k) | d :: r' => if mk d then sm r' (b ++ [d]) (k + 2) else ([], some k)) else sm r (b ++ [c]) (k + 1)
theorem sm_nil (b : List UInt8) (k : Nat) : sm [] b k = ([b], none) := by rw [sm]
theorem sm_sep {c : UInt8} (h : c = 59) (r b : List UInt8) (k : Nat) : sm (c :: r) b k = (b :: (sm r [] (k + 1)).1, (sm r [] (k + 1)).2) := by subst h; (conv => lhs; unfold sm); simp
theorem sm_last {c : UInt8} (h : c = 92) (b : List UInt8) (k : Nat) : sm [c] b k = ([], some k) := by subst h; unfold sm; simp
theorem sm_bad {c d : UInt8} (h : c = 92) (hd : mk d = false) (r b : List UInt8) (k : Nat) : sm (c :: d :: r) b k = ([], some k) := by subst h; (conv => lhs; unfold sm); simp [hd]
theorem sm_mark {c d : UInt8} (h : c = 92) (hd : mk d = true) (r b : List UInt8) (k : Nat) : sm (c :: d :: r) b k = sm r (b ++ [d]) (k + 2) := by subst h; (conv => lhs; unfold sm); simp [hd]
theorem sm_plain {c : UInt8} (h1 : ¬ c = 59) (h2 : ¬ c = 92) (r b : List UInt8) (k : Nat) : sm (c :: r) b k = sm r (b ++ [c]) (k + 1) := by
  conv => lhs; unfold sm
  rw [if_neg h1, if_neg h2]

/-- One part, from the front on: behind b, from the place k on: it and the place of its end; false: nothing and the place of what is wrong. -/
def pa : List UInt8 → List UInt8 → Nat → List UInt8 × Nat × Bool
  | [], b, k => (b, k, true)
  | c :: r, b, k => if c = 59 then (b, k, true) else
    if c = 92 then (match r with | [] => ([], k, false) | d :: r' => if mk d then pa r' (b ++ [d]) (k + 2) else ([], k, false)) else pa r (b ++ [c]) (k + 1)
theorem pa_nil (b : List UInt8) (k : Nat) : pa [] b k = (b, k, true) := by rw [pa]
theorem pa_sep {c : UInt8} (h : c = 59) (r b : List UInt8) (k : Nat) : pa (c :: r) b k = (b, k, true) := by subst h; unfold pa; simp
theorem pa_last {c : UInt8} (h : c = 92) (b : List UInt8) (k : Nat) : pa [c] b k = ([], k, false) := by subst h; unfold pa; simp
theorem pa_bad {c d : UInt8} (h : c = 92) (hd : mk d = false) (r b : List UInt8) (k : Nat) : pa (c :: d :: r) b k = ([], k, false) := by subst h; (conv => lhs; unfold pa); simp [hd]
theorem pa_mark {c d : UInt8} (h : c = 92) (hd : mk d = true) (r b : List UInt8) (k : Nat) : pa (c :: d :: r) b k = pa r (b ++ [d]) (k + 2) := by subst h; (conv => lhs; unfold pa); simp [hd]
theorem pa_plain {c : UInt8} (h1 : ¬ c = 59) (h2 : ¬ c = 92) (r b : List UInt8) (k : Nat) : pa (c :: r) b k = pa r (b ++ [c]) (k + 1) := by
  conv => lhs; unfold pa
  rw [if_neg h1, if_neg h2]

/-- All six ways, by induction over the length. -/
theorem ways (P : List UInt8 → Prop) (h0 : P []) (hs : ∀ r, P r → P (59 :: r)) (hl : P [92]) (hb : ∀ d r, mk d = false → P (92 :: d :: r)) (hm : ∀ d r, mk d = true → P r → P (92 :: d :: r)) (hp : ∀ c r, ¬ c = 59 → ¬ c = 92 → P r → P (c :: r)) : ∀ t, P t := by
  intro t
  induction h : t.length using Nat.strongRecOn generalizing t with
  | _ n ih =>
    subst h
    match t with
    | [] => exact h0
    | c :: r =>
      by_cases h1 : c = 59
      · subst h1; exact hs r (ih r.length (by simp) r rfl)
      · by_cases h2 : c = 92
        · subst h2
          match r with
          | [] => exact hl
          | d :: r' =>
            cases hd : mk d
            · exact hb d r' hd
            · exact hm d r' hd (ih r'.length (by simp; omega) r' rfl)
        · exact hp c r h1 h2 (ih r.length (by simp) r rfl)

/-- Where the part that begins here ends: within the text, its end is at its end or at what stands between; what comes behind. -/
theorem pa_sm : ∀ (t b : List UInt8) (k : Nat),
    (∃ p n, pa t b k = (p, k + n, true) ∧ n < t.length ∧ sm t b k = (p :: (sm (t.drop (n + 1)) [] (k + n + 1)).1, (sm (t.drop (n + 1)) [] (k + n + 1)).2)) ∨
    (∃ p, pa t b k = (p, k + t.length, true) ∧ sm t b k = ([p], none)) ∨
    (∃ n, pa t b k = ([], k + n, false) ∧ n < t.length ∧ sm t b k = ([], some (k + n))) := by
  refine ways _ ?_ ?_ ?_ ?_ ?_ ?_
  · intro b k; exact .inr (.inl ⟨b, by rw [pa_nil]; rfl, sm_nil b k⟩)
  · intro r _ b k
    exact .inl ⟨b, 0, by rw [pa_sep rfl]; rfl, by simp, by rw [sm_sep rfl]; rfl⟩
  · intro b k; exact .inr (.inr ⟨0, by rw [pa_last rfl]; rfl, by simp, by rw [sm_last rfl]; rfl⟩)
  · intro d r hd b k; exact .inr (.inr ⟨0, by rw [pa_bad rfl hd]; rfl, by simp, by rw [sm_bad rfl hd]; rfl⟩)
  · intro d r hd ih b k
    rw [pa_mark rfl hd, sm_mark rfl hd]
    rcases ih (b ++ [d]) (k + 2) with ⟨p, n, h1, h2, h3⟩ | ⟨p, h1, h2⟩ | ⟨n, h1, h2, h3⟩
    · refine .inl ⟨p, n + 2, by rw [h1, show k + 2 + n = k + (n + 2) by omega], by simp; omega, ?_⟩
      rw [h3, show k + 2 + n + 1 = k + (n + 2) + 1 by omega]; rfl
    · exact .inr (.inl ⟨p, by rw [h1, show k + 2 + r.length = k + (92 :: d :: r).length by simp; omega], h2⟩)
    · exact .inr (.inr ⟨n + 2, by rw [h1, show k + 2 + n = k + (n + 2) by omega], by simp; omega, by rw [h3, show k + 2 + n = k + (n + 2) by omega]⟩)
  · intro c r h1 h2 ih b k
    rw [pa_plain h1 h2, sm_plain h1 h2]
    rcases ih (b ++ [c]) (k + 1) with ⟨p, n, h1, h2, h3⟩ | ⟨p, h1, h2⟩ | ⟨n, h1, h2, h3⟩
    · refine .inl ⟨p, n + 1, by rw [h1, show k + 1 + n = k + (n + 1) by omega], by simp; omega, ?_⟩
      rw [h3, show k + 1 + n + 1 = k + (n + 1) + 1 by omega]; rfl
    · exact .inr (.inl ⟨p, by rw [h1, show k + 1 + r.length = k + (c :: r).length by simp; omega], h2⟩)
    · exact .inr (.inr ⟨n + 1, by rw [h1, show k + 1 + n = k + (n + 1) by omega], by simp; omega, by rw [h3, show k + 1 + n = k + (n + 1) by omega]⟩)

/-- The parts of a value, and the place of what is wrong. -/
def parts (t : List UInt8) : List (List UInt8) × Option Nat := sm t [] 0
/-- What the iterator tells: each part, and minus one; what is wrong comes last, as nothing and its place. -/
def told (r : List (List UInt8) × Option Nat) : List (List UInt8 × Int) := r.1.map (fun p => (p, (-1 : Int))) ++ (match r.2 with | none => [] | some k => [([], (k : Int))])
theorem told_cons (p : List UInt8) (l : List (List UInt8)) (f : Option Nat) : told (p :: l, f) = (p, -1) :: told (l, f) := rfl
theorem told_one (p : List UInt8) : told ([p], none) = [(p, -1)] := rfl
theorem told_wrong (k : Nat) : told ([], some k) = [([], (k : Int))] := rfl

theorem sm_length : ∀ (t b : List UInt8) (k : Nat), (sm t b k).1.length ≤ t.length + 1 ∧ ((sm t b k).2 = none → 0 < (sm t b k).1.length) ∧ ∀ n, (sm t b k).2 = some n → n < k + t.length := by
  refine ways _ ?_ ?_ ?_ ?_ ?_ ?_
  · intro b k; rw [sm_nil]; simp
  · intro r ih b k; rw [sm_sep rfl]; have := ih [] (k + 1); refine ⟨by simp; omega, by simp, fun n hn => ?_⟩; have := this.2.2 n hn; simp; omega
  · intro b k; rw [sm_last rfl]; simp
  · intro d r hd b k; rw [sm_bad rfl hd]; refine ⟨by simp, by simp, fun n hn => ?_⟩; cases hn; simp
  · intro d r hd ih b k; rw [sm_mark rfl hd]; have := ih (b ++ [d]) (k + 2); refine ⟨by simp; omega, this.2.1, fun n hn => ?_⟩; have := this.2.2 n hn; simp; omega
  · intro c r h1 h2 ih b k; rw [sm_plain h1 h2]; have := ih (b ++ [c]) (k + 1); refine ⟨by simp; omega, this.2.1, fun n hn => ?_⟩; have := this.2.2 n hn; simp; omega
theorem told_length (r : List (List UInt8) × Option Nat) : (told r).length ≤ r.1.length + 1 := by
  unfold told; rw [List.length_append, List.length_map]; cases r.2 <;> simp

/-- What is written is read. -/
theorem wr_append (p q : List UInt8) : wr (p ++ q) = wr p ++ wr q := by
  induction p with
  | nil => rfl
  | cons c r ih => by_cases h : mk c = true <;> simp [wr, h, ih]
theorem sm_wr (r : List UInt8) : ∀ (p b : List UInt8) (k : Nat), sm (wr p ++ r) b k = sm r (b ++ p) (k + (wr p).length) := by
  intro p
  induction p with
  | nil => intro b k; simp [wr]
  | cons c q ih =>
    intro b k
    by_cases h : mk c = true
    · have e : wr (c :: q) = 92 :: c :: wr q := by simp [wr, h]
      have e2 : k + (wr (c :: q)).length = k + 2 + (wr q).length := by rw [e]; simp; omega
      rw [e2, e, List.cons_append, List.cons_append, sm_mark rfl h, ih, List.append_assoc]
      rfl
    · have hc : ¬ c = 59 ∧ ¬ c = 92 := by simpa [mk] using h
      have e : wr (c :: q) = c :: wr q := by simp [wr, h]
      have e2 : k + (wr (c :: q)).length = k + 1 + (wr q).length := by rw [e]; simp; omega
      rw [e2, e, List.cons_append, sm_plain hc.1 hc.2, ih, List.append_assoc]
      rfl
theorem sm_tail : ∀ (l : List (List UInt8)) (b : List UInt8) (k : Nat), sm (tailJ l) b k = (b :: l, none) := by
  intro l
  induction l with
  | nil => intro b k; exact sm_nil b k
  | cons p r ih => intro b k; rw [tailJ, sm_sep rfl, sm_wr, ih]; simp
/-- What is joined is parted. -/
theorem parts_jn {l : List (List UInt8)} (h : l ≠ []) : parts (jn l) = (l, none) := by
  cases l with
  | nil => exact absurd rfl h
  | cons p r => rw [parts, jn, sm_wr, sm_tail]; simp
theorem jn_sm : ∀ (t b : List UInt8) (k : Nat), (sm t b k).2 = none → jn (sm t b k).1 = wr b ++ t ∧ tailJ (sm t b k).1 = 59 :: (wr b ++ t) := by
  refine ways _ ?_ ?_ ?_ ?_ ?_ ?_
  · intro b k _; rw [sm_nil]; simp [jn, tailJ]
  · intro r ih b k h
    rw [sm_sep rfl] at h ⊢
    have := ih [] (k + 1) h
    simp only [jn, tailJ, this.2]
    simp [wr]
  · intro b k h; rw [sm_last rfl] at h; cases h
  · intro d r hd b k h; rw [sm_bad rfl hd] at h; cases h
  · intro d r hd ih b k h
    rw [sm_mark rfl hd] at h ⊢
    have := ih (b ++ [d]) (k + 2) h
    rw [this.1, this.2, wr_append]
    simp [wr, hd]
  · intro c r h1 h2 ih b k h
    rw [sm_plain h1 h2] at h ⊢
    have := ih (b ++ [c]) (k + 1) h
    have hm : mk c = false := by simp [mk, h1, h2]
    rw [this.1, this.2, wr_append]
    simp [wr, hm]
/-- What is parted is joined. -/
theorem jn_parts {t : List UInt8} (h : (parts t).2 = none) : jn (parts t).1 = t := by
  exact (jn_sm t [] 0 h).1

/-- Bytes of a list of texts. -/
def bytes (l : List (List UInt8)) : Nat := l.flatten.length
theorem bytes_cons (x : List UInt8) (r : List (List UInt8)) : bytes (x :: r) = x.length + bytes r := by simp [bytes]
theorem wr_length (p : List UInt8) : (wr p).length ≤ 2 * p.length := by
  induction p with
  | nil => simp [wr]
  | cons c r ih => by_cases h : mk c = true <;> simp [wr, h] <;> omega
theorem tailJ_length (l : List (List UInt8)) : (tailJ l).length ≤ 2 * bytes l + l.length := by
  induction l with
  | nil => simp [tailJ, bytes]
  | cons p r ih => rw [tailJ, bytes_cons]; have := wr_length p; simp; omega
theorem jn_length (l : List (List UInt8)) : (jn l).length ≤ 2 * bytes l + l.length := by
  cases l with
  | nil => simp [jn]
  | cons p r => rw [jn, bytes_cons]; have := wr_length p; have := tailJ_length r; simp; omega
theorem sm_bytes : ∀ (t b : List UInt8) (k : Nat), bytes (sm t b k).1 ≤ b.length + t.length := by
  refine ways _ ?_ ?_ ?_ ?_ ?_ ?_
  · intro b k; rw [sm_nil]; simp [bytes]
  · intro r ih b k; rw [sm_sep rfl]; have := ih [] (k + 1); rw [bytes_cons]; simp at this ⊢; omega
  · intro b k; rw [sm_last rfl]; simp [bytes]
  · intro d r hd b k; rw [sm_bad rfl hd]; simp [bytes]
  · intro d r hd ih b k; rw [sm_mark rfl hd]; have := ih (b ++ [d]) (k + 2); simp at this ⊢; omega
  · intro c r h1 h2 ih b k; rw [sm_plain h1 h2]; have := ih (b ++ [c]) (k + 1); simp at this ⊢; omega
end Go.Proofs.Ytbaigaenglhebaa.Pt
