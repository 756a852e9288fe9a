/-
Plain functions on bytes and letters: a text's letters, whether it is right, texts in three charsets and back. No program in it, no conditions.
-/
import Derived.WalkKit
import Derived.Lib.Hide
import Derived.Lib.ValidLaws
import Derived.Lib.ValidAsc
import Derived.Lib.RuneBytes
import Derived.Lib.MapLaws
namespace Go.Proofs.YtpgjalikgmagiaaDoor.Cs
open Go.Lib

/-- No right letter stands at the beginning. -/
def bad (l : List UInt8) : Bool := decide ((decodeL l).1 = 65533 ∧ (decodeL l).2 = 1)
def lgo : Nat → List UInt8 → List Nat
  | 0, _ => []
  | n + 1, l => if l = [] then [] else if bad l = true then [] else (decodeL l).1 :: lgo n (l.drop (decodeL l).2)
/-- The letters of the longest right beginning. -/
def lets (l : List UInt8) : List Nat := lgo l.length l

theorem lgo_nil : ∀ n, lgo n [] = []
  | 0 => rfl
  | _ + 1 => by simp [lgo]
theorem lgo_fuel : ∀ (n m : Nat) (l : List UInt8), l.length ≤ n → l.length ≤ m → lgo n l = lgo m l
  | 0, m, l, hn, _ => by
    have : l = [] := List.eq_nil_of_length_eq_zero (by omega)
    subst this
    rw [lgo_nil, lgo_nil]
  | n + 1, 0, l, _, hm => by
    have : l = [] := List.eq_nil_of_length_eq_zero (by omega)
    subst this
    rw [lgo_nil, lgo_nil]
  | n + 1, m + 1, l, hn, hm => by
    unfold lgo
    by_cases hne : l = []
    · simp [hne]
    · have hw := decodeL_width l
      have hl : 0 < l.length := List.length_pos_iff.2 hne
      rw [if_neg hne, if_neg hne, lgo_fuel n m (l.drop (decodeL l).2) (by rw [List.length_drop]; omega) (by rw [List.length_drop]; omega)]
theorem lets_nil : lets [] = [] := rfl
theorem lets_step {l : List UInt8} (hne : l ≠ []) : lets l = if bad l = true then [] else (decodeL l).1 :: lets (l.drop (decodeL l).2) := by
  have hl : 0 < l.length := List.length_pos_iff.2 hne
  have hw := decodeL_width l
  obtain ⟨n, hn⟩ : ∃ n, l.length = n + 1 := ⟨l.length - 1, by omega⟩
  unfold lets
  rw [hn]
  show (if l = [] then [] else _) = _
  rw [if_neg hne, lgo_fuel n (l.drop (decodeL l).2).length _ (by rw [List.length_drop]; omega) (Nat.le_refl _)]
theorem lets_bad {l : List UInt8} (hne : l ≠ []) (h : bad l = true) : lets l = [] := by rw [lets_step hne, if_pos h]
theorem lets_good {l : List UInt8} (hne : l ≠ []) (h : bad l = false) : lets l = (decodeL l).1 :: lets (l.drop (decodeL l).2) := by rw [lets_step hne, h, if_neg (by simp)]
theorem valid_bad {l : List UInt8} (hne : l ≠ []) (h : bad l = true) : validD l = false := by rw [validD_step l hne, if_pos (of_decide_eq_true h)]
theorem valid_good {l : List UInt8} (hne : l ≠ []) (h : bad l = false) : validD l = validD (l.drop (decodeL l).2) := by rw [validD_step l hne, if_neg (of_decide_eq_false h)]
theorem letter_induct {P : List UInt8 → Prop} (h0 : P []) (h1 : ∀ l, l ≠ [] → P (l.drop (decodeL l).2) → P l) : ∀ l, P l := by
  intro l
  obtain ⟨n, hn⟩ : ∃ n, l.length = n := ⟨_, rfl⟩
  induction n using Nat.strongRecOn generalizing l with
  | ind n ih =>
    by_cases h : l = []
    · subst h; exact h0
    · have hl : 0 < l.length := List.length_pos_iff.2 h
      have hw := decodeL_width l
      exact h1 l h (ih _ (by rw [List.length_drop]; omega) _ rfl)
theorem lets_length : ∀ l, (lets l).length ≤ l.length :=
  letter_induct (by rw [lets_nil]; exact Nat.le_refl _) fun l h ih => by
    have hl : 0 < l.length := List.length_pos_iff.2 h
    have hw := decodeL_width l
    rw [List.length_drop] at ih
    rcases hb : bad l with _ | _
    · rw [lets_good h hb, List.length_cons]; omega
    · rw [lets_bad h hb]; simp
theorem lets_le : ∀ l, ∀ x ∈ lets l, x ≤ 1114111 :=
  letter_induct (by rw [lets_nil]; intro x hx; cases hx) fun l h ih => by
    rcases hb : bad l with _ | _
    · rw [lets_good h hb]
      intro x hx
      rcases List.mem_cons.1 hx with rfl | hx
      · exact decodeL_rune l
      · exact ih x hx
    · rw [lets_bad h hb]; intro x hx; cases hx
/-- A right text is its letters' bytes. -/
theorem enc_lets : ∀ l, validD l = true → (lets l).flatMap (fun x : Nat => encodeRune (x : Int)) = l :=
  letter_induct (fun _ => rfl) fun l h ih hv => by
    rcases hb : bad l with _ | _
    · rw [valid_good h hb] at hv
      rw [lets_good h hb, List.flatMap_cons, ih hv, encode_decode l h (of_decide_eq_false hb), List.take_append_drop]
    · rw [valid_bad h hb] at hv; cases hv

/-! ### bytes as letters -/
theorem enc1 (c : UInt8) : (c.toNat < 128 ∧ encodeRune (c.toNat : Int) = [c]) ∨ (128 ≤ c.toNat ∧ encodeRune (c.toNat : Int) = [UInt8.ofNat (192 + c.toNat / 64), UInt8.ofNat (128 + c.toNat % 64)]) := by
  have hc := c.toNat_lt
  unfold encodeRune
  by_cases h : c.toNat < 128
  · left
    refine ⟨h, ?_⟩
    rw [encodeRuneZ_one (by omega) (by omega)]
    simp [Nat.toUInt8]
  · right
    refine ⟨by omega, ?_⟩
    rw [encodeRuneZ_two (by omega) (by omega)]
    have e1 : (192 + (c.toNat : Int) / 64).toNat = 192 + c.toNat / 64 := by omega
    have e2 : (128 + (c.toNat : Int) % 64).toNat = 128 + c.toNat % 64 := by omega
    simp only [List.map_cons, List.map_nil, Nat.toUInt8, e1, e2]
theorem dec1 (c : UInt8) (t : List UInt8) : decodeL (encodeRune (c.toNat : Int) ++ t) = (c.toNat, (encodeRune (c.toNat : Int)).length) := by
  have hc := c.toNat_lt
  rcases enc1 c with ⟨h, e⟩ | ⟨h, e⟩
  · rw [e]; exact decodeL_ascii c t h
  · rw [e, decodeL_N]
    have a0 : (UInt8.ofNat (192 + c.toNat / 64)).toNat = 192 + c.toNat / 64 := by rw [UInt8.toNat_ofNat']; omega
    have a1 : (UInt8.ofNat (128 + c.toNat % 64)).toNat = 128 + c.toNat % 64 := by rw [UInt8.toNat_ofNat']; omega
    simp only [List.cons_append, List.nil_append, List.getD_cons_zero, List.getD_cons_succ, List.length_cons, a0, a1, List.length_nil]
    unfold decodeN
    rw [if_neg (by omega), if_pos ⟨by omega, by omega, by omega⟩, if_pos (by omega)]
    rw [show (192 + c.toNat / 64) % 32 * 64 + (128 + c.toNat % 64) % 64 = c.toNat by omega]
theorem enc1_ne (c : UInt8) (t : List UInt8) : encodeRune (c.toNat : Int) ++ t ≠ [] := by
  rcases enc1 c with ⟨_, e⟩ | ⟨_, e⟩ <;> rw [e] <;> simp
theorem enc1_good (c : UInt8) (t : List UInt8) : bad (encodeRune (c.toNat : Int) ++ t) = false := by
  have hc := c.toNat_lt
  unfold bad
  rw [dec1]
  exact decide_eq_false (fun h => by have h1 : c.toNat = 65533 := h.1; omega)
/-- The text whose letters are bytes. -/
def latin (l : List UInt8) : List UInt8 := l.flatMap fun c => encodeRune (c.toNat : Int)
theorem latin_cons (c : UInt8) (l : List UInt8) : latin (c :: l) = encodeRune (c.toNat : Int) ++ latin l := rfl
theorem latin_snoc (l : List UInt8) (c : UInt8) : latin (l ++ [c]) = latin l ++ encodeRune (c.toNat : Int) := by
  unfold latin; rw [List.flatMap_append]; simp
theorem latin_length : ∀ l, (latin l).length ≤ 2 * l.length
  | [] => Nat.le_refl _
  | c :: l => by
    have := latin_length l
    rw [latin_cons, List.length_append, List.length_cons]
    rcases enc1 c with ⟨_, e⟩ | ⟨_, e⟩ <;> rw [e] <;> simp <;> omega
theorem latin_valid : ∀ l, validD (latin l) = true
  | [] => rfl
  | c :: l => by
    rw [latin_cons, valid_good (enc1_ne c _) (enc1_good c _), dec1, List.drop_left]
    exact latin_valid l
theorem latin_lets : ∀ l, lets (latin l) = l.map UInt8.toNat
  | [] => rfl
  | c :: l => by
    rw [latin_cons, lets_good (enc1_ne c _) (enc1_good c _), dec1, List.drop_left, latin_lets l]
    rfl
/-- No letter is above one. -/
def within (m : Int) (l : List Nat) : Bool := l.all fun x => decide ((x : Int) ≤ m)
theorem within_all (l : List UInt8) : within 1114111 (lets l) = true :=
  List.all_eq_true.2 fun x hx => decide_eq_true (by have := lets_le l x hx; omega)
theorem within_cons (m : Int) (x : Nat) (l : List Nat) : within m (x :: l) = (decide ((x : Int) ≤ m) && within m l) := rfl
/-- Letters as bytes. -/
def bytesOf (l : List Nat) : List UInt8 := l.map UInt8.ofNat
theorem bytesOf_latin {m : Int} (hm : m ≤ 255) : ∀ l, within m l = true → latin (bytesOf l) = l.flatMap fun x : Nat => encodeRune (x : Int)
  | [], _ => rfl
  | x :: l, h => by
    rw [within_cons, Bool.and_eq_true] at h
    have h1 := of_decide_eq_true h.1
    have e : (UInt8.ofNat x).toNat = x := by rw [UInt8.toNat_ofNat']; omega
    show latin (UInt8.ofNat x :: bytesOf l) = _
    rw [latin_cons, bytesOf_latin hm l h.2, List.flatMap_cons, e]
theorem bytesOf_within {m : Int} (hm : m ≤ 255) : ∀ l, within m l = true → (bytesOf l).map UInt8.toNat = l
  | [], _ => rfl
  | x :: l, h => by
    rw [within_cons, Bool.and_eq_true] at h
    have h1 := of_decide_eq_true h.1
    have e : (UInt8.ofNat x).toNat = x := by rw [UInt8.toNat_ofNat']; omega
    show (UInt8.ofNat x).toNat :: (bytesOf l).map UInt8.toNat = _
    rw [bytesOf_within hm l h.2, e]
theorem bytesOf_toNat : ∀ l : List UInt8, bytesOf (l.map UInt8.toNat) = l
  | [] => rfl
  | c :: l => by
    show UInt8.ofNat c.toNat :: bytesOf (l.map UInt8.toNat) = _
    rw [bytesOf_toNat l]; simp

/-! ### charsets -/
/-- The greatest letter of a charset. -/
def lastL (k : Int) : Int := if k = 1 then 127 else if k = 2 then 255 else if k = 3 then 1114111 else -1
/-- What bytes say, and an error's number: 5 no charset, 16 no bytes of it. -/
def dec (k : Int) (l : List UInt8) : List UInt8 × Int :=
  if k = 1 ∨ k = 2 then (if within (lastL k) (l.map UInt8.toNat) = true then (latin l, 0) else ([], 16))
  else if k = 3 then (if validD l = true then (l, 0) else ([], 16)) else ([], 5)
/-- A text's bytes, and an error's number: 5 no charset, 3 not right, 16 a letter that the charset lacks. -/
def enc (k : Int) (l : List UInt8) : List UInt8 × Int :=
  if k = 1 ∨ k = 2 then (if validD l = true then (if within (lastL k) (lets l) = true then (bytesOf (lets l), 0) else ([], 16)) else ([], 3))
  else if k = 3 then (if validD l = true then (l, 0) else ([], 3)) else ([], 5)
def least (l : List UInt8) : Int := if (enc 1 l).2 = 0 then 1 else if (enc 2 l).2 = 0 then 2 else if (enc 3 l).2 = 0 then 3 else 0
theorem lastL_small {k : Int} (h : k = 1 ∨ k = 2) : lastL k ≤ 255 := by rcases h with rfl | rfl <;> decide
theorem dec_enc {k : Int} {l : List UInt8} (h : (enc k l).2 = 0) : dec k (enc k l).1 = (l, 0) := by
  unfold enc dec at *
  by_cases hk : k = 1 ∨ k = 2
  · simp only [if_pos hk] at h ⊢
    by_cases hv : validD l = true
    · simp only [if_pos hv] at h ⊢
      by_cases hw : within (lastL k) (lets l) = true
      · simp only [if_pos hw]
        rw [bytesOf_within (lastL_small hk) _ hw, if_pos hw, bytesOf_latin (lastL_small hk) _ hw, enc_lets l hv]
      · simp [if_neg hw] at h
    · simp [if_neg hv] at h
  · simp only [if_neg hk] at h ⊢
    by_cases h3 : k = 3
    · simp only [if_pos h3] at h ⊢
      by_cases hv : validD l = true
      · simp only [if_pos hv]
      · simp [if_neg hv] at h
    · simp [if_neg h3] at h
theorem enc_dec {k : Int} {l : List UInt8} (h : (dec k l).2 = 0) : enc k (dec k l).1 = (l, 0) ∧ validD (dec k l).1 = true := by
  unfold enc dec at *
  by_cases hk : k = 1 ∨ k = 2
  · simp only [if_pos hk] at h ⊢
    by_cases hw : within (lastL k) (l.map UInt8.toNat) = true
    · simp only [if_pos hw]
      rw [latin_valid, if_pos rfl, latin_lets, if_pos hw, bytesOf_toNat]
      exact ⟨rfl, rfl⟩
    · simp [if_neg hw] at h
  · simp only [if_neg hk] at h ⊢
    by_cases h3 : k = 3
    · simp only [if_pos h3] at h ⊢
      by_cases hv : validD l = true
      · simp only [if_pos hv]; exact ⟨trivial, hv⟩
      · simp [if_neg hv] at h
    · simp [if_neg h3] at h
theorem enc_size (k : Int) (l : List UInt8) : (enc k l).1.length ≤ l.length := by
  have := lets_length l
  unfold enc
  split
  · split
    · split
      · simp [bytesOf]; exact this
      · simp
    · simp
  · split
    · split <;> simp
    · simp
theorem dec_size (k : Int) (l : List UInt8) : (dec k l).1.length ≤ 2 * l.length := by
  have := latin_length l
  unfold dec
  split
  · split
    · exact this
    · simp
  · split
    · split
      · simp; omega
      · simp
    · simp
end Go.Proofs.YtpgjalikgmagiaaDoor.Cs
