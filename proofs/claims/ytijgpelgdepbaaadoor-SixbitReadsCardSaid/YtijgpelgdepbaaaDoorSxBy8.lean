/-
Plain functions on bytes: letters bit by bit, and that their bytes are those of the pieces of four letters. No program in it, no conditions.
-/
import Derived.Test.YtijgpelgdepbaaaDoorSxDecPieces
namespace Go.Proofs.YtijgpelgdepbaaaDoor.Sx
open Go.RowKit

/-- A letter's six bits. -/
def six (c : UInt8) : List Nat := [w6 c / 32 % 2, w6 c / 16 % 2, w6 c / 8 % 2, w6 c / 4 % 2, w6 c / 2 % 2, w6 c % 2]
/-- The bits of the letters ahead of a pad. -/
def bitsOf : List UInt8 → List Nat
  | [] => []
  | c :: r => if c = 61 then [] else six c ++ bitsOf r
/-- What bits are worth. -/
def val (l : List Nat) : Nat := l.foldl (fun n b => 2 * n + b) 0
/-- Bits as bytes, and those that are left. -/
def by8 (l : List Nat) : List UInt8 := if _h : 8 ≤ l.length then UInt8.ofNat (val (l.take 8)) :: by8 (l.drop 8) else []
termination_by l.length
decreasing_by rw [List.length_drop]; omega
def rest8 (l : List Nat) : List Nat := if _h : 8 ≤ l.length then rest8 (l.drop 8) else l
termination_by l.length
decreasing_by rw [List.length_drop]; omega
theorem by8_yes {l : List Nat} (h : 8 ≤ l.length) : by8 l = UInt8.ofNat (val (l.take 8)) :: by8 (l.drop 8) := by rw [by8, dif_pos h]
theorem by8_no {l : List Nat} (h : ¬ 8 ≤ l.length) : by8 l = [] := by rw [by8, dif_neg h]
theorem rest8_yes {l : List Nat} (h : 8 ≤ l.length) : rest8 l = rest8 (l.drop 8) := by rw [rest8, dif_pos h]
theorem rest8_no {l : List Nat} (h : ¬ 8 ≤ l.length) : rest8 l = l := by rw [rest8, dif_neg h]
theorem by8_cons (a b c d e f g h : Nat) (r : List Nat) : by8 (a :: b :: c :: d :: e :: f :: g :: h :: r) = UInt8.ofNat (128 * a + 64 * b + 32 * c + 16 * d + 8 * e + 4 * f + 2 * g + h) :: by8 r := by
  rw [by8_yes (by simp)]
  congr 1
  congr 1
  show 2 * (2 * (2 * (2 * (2 * (2 * (2 * (2 * 0 + a) + b) + c) + d) + e) + f) + g) + h = _
  omega
theorem rest8_cons (a b c d e f g h : Nat) (r : List Nat) : rest8 (a :: b :: c :: d :: e :: f :: g :: h :: r) = rest8 r := by
  rw [rest8_yes (by simp)]; rfl
theorem six_le (c : UInt8) : ∀ b ∈ six c, b ≤ 1 := by
  intro b hb; unfold six at hb
  simp at hb; omega
theorem bits_le : ∀ l, ∀ b ∈ bitsOf l, b ≤ 1
  | [], b, hb => by cases hb
  | c :: r, b, hb => by
    unfold bitsOf at hb
    split at hb
    · cases hb
    · rcases List.mem_append.1 hb with h | h
      · exact six_le c b h
      · exact bits_le r b h
theorem bits_length : ∀ l, (bitsOf l).length ≤ 6 * l.length
  | [] => by simp [bitsOf]
  | c :: r => by
    unfold bitsOf
    split
    · simp
    · rw [List.length_append, List.length_cons]; have := bits_length r; simp [six]; omega
theorem val_snoc (l : List Nat) (b : Nat) : val (l ++ [b]) = 2 * val l + b := by unfold val; rw [List.foldl_append]; rfl
theorem val_lt (l : List Nat) (h : ∀ b ∈ l, b ≤ 1) : ∀ j, j ≤ l.length → val (l.take j) < 2 ^ j := by
  intro j
  induction j with
  | zero => intro _; simp [val]
  | succ j ih =>
    intro hj
    rw [List.take_succ_eq_append_getElem (by omega), val_snoc, Nat.pow_succ]
    have := ih (by omega)
    have := h l[j] (List.getElem_mem _)
    omega
theorem byte_a {a b : Nat} (ha : a < 64) (hb : b < 64) : 128 * (a / 32 % 2) + 64 * (a / 16 % 2) + 32 * (a / 8 % 2) + 16 * (a / 4 % 2) + 8 * (a / 2 % 2) + 4 * (a % 2) + 2 * (b / 32 % 2) + b / 16 % 2 = a * 4 + b / 16 := by omega
theorem byte_b {b c : Nat} (hc : c < 64) : 128 * (b / 8 % 2) + 64 * (b / 4 % 2) + 32 * (b / 2 % 2) + 16 * (b % 2) + 8 * (c / 32 % 2) + 4 * (c / 16 % 2) + 2 * (c / 8 % 2) + c / 4 % 2 = b % 16 * 16 + c / 4 := by omega
theorem byte_c {c d : Nat} (hd : d < 64) : 128 * (c / 2 % 2) + 64 * (c % 2) + 32 * (d / 32 % 2) + 16 * (d / 16 % 2) + 8 * (d / 8 % 2) + 4 * (d / 4 % 2) + 2 * (d / 2 % 2) + d % 2 = c % 4 * 64 + d := by omega
theorem no_pad {c : UInt8} (h : isL c = true) : ¬ c = 61 := by rintro rfl; have := isP_not _ h; simp [isP] at this
theorem bits_yes {c : UInt8} (r : List UInt8) (h : isL c = true) : bitsOf (c :: r) = six c ++ bitsOf r := by rw [bitsOf, if_neg (no_pad h)]
theorem bits_pad (r : List UInt8) : bitsOf (61 :: r) = [] := by rw [bitsOf, if_pos rfl]
theorem ofNat_zero {n : Nat} (h : n < 256) : (UInt8.ofNat n == 0) = (n == 0) := by
  rw [Bool.eq_iff_iff, beq_iff_eq, beq_iff_eq, ← UInt8.toNat_inj, UInt8.toNat_ofNat_of_lt' h]; rfl
theorem tri_four (a b c d : UInt8) : tri [a, b, c, d] = [UInt8.ofNat (w6 a * 4 + w6 b / 16), UInt8.ofNat (w6 b % 16 * 16 + w6 c / 4), UInt8.ofNat (w6 c % 4 * 64 + w6 d)] := rfl
theorem tri_three (a b c : UInt8) : tri [a, b, c] = [UInt8.ofNat (w6 a * 4 + w6 b / 16), UInt8.ofNat (w6 b % 16 * 16 + w6 c / 4), UInt8.ofNat (w6 c % 4 * 64)] := rfl
theorem tri_two (a b : UInt8) : tri [a, b] = [UInt8.ofNat (w6 a * 4 + w6 b / 16), UInt8.ofNat (w6 b % 16 * 16), 0] := by simp [tri, gn]
theorem dec_bits : ∀ t, flt 0 false t = 0 → by8 (bitsOf t) = ((cut 4 t).map good).flatten ∧ (rest8 (bitsOf t)).any (fun b => b != 0) = (cut 4 t).any bad := by
  refine cut_induct (k := 4) (by decide) (fun _ => ?_) fun t h0 ih h => ?_
  · rw [cut_nil, show bitsOf [] = [] from rfl, by8_no (by simp), rest8_no (by simp)]; exact ⟨rfl, rfl⟩
  · obtain ⟨a, b, c, d, r, rfl, ⟨a', b', c', d', he, ha, hb, ho⟩, hr, hp⟩ := flt_group h h0
    obtain ⟨rfl, rfl, rfl, rfl⟩ : a = a' ∧ b = b' ∧ c = c' ∧ d = d' := by simpa using he
    have na := w6_lt a
    have nb := w6_lt b
    have nc := w6_lt c
    have nd := w6_lt d
    rw [cut_step (by decide) h0, show (a :: b :: c :: d :: r).drop 4 = r from rfl, show (a :: b :: c :: d :: r).take 4 = [a, b, c, d] from rfl] at *
    rw [List.map_cons, List.flatten_cons, List.any_cons]
    rcases ho with ⟨hc, hd⟩ | ⟨hc, rfl⟩ | ⟨rfl, rfl⟩
    · obtain ⟨i1, i2⟩ := ih hr
      rw [bits_yes _ ha, bits_yes _ hb, bits_yes _ hc, bits_yes _ hd]
      simp only [six, List.cons_append, List.nil_append]
      rw [by8_cons, by8_cons, by8_cons, rest8_cons, rest8_cons, rest8_cons, i1, i2, byte_a na nb, byte_b nc, byte_c nd]
      obtain ⟨g1, g2⟩ := (good_n (x := [a, b, c, d]) (by rw [said_4 hd]; exact tri_four a b c d)).2.2 (by rw [said_4 hd]; rfl)
      rw [g1, g2]
      exact ⟨rfl, rfl⟩
    · obtain rfl := hp rfl
      rw [bits_yes _ ha, bits_yes _ hb, bits_yes _ hc, bits_pad, cut_nil]
      simp only [six, List.cons_append, List.nil_append]
      rw [by8_cons, by8_cons, rest8_cons, rest8_cons, by8_no (by simp), rest8_no (by simp), byte_a na nb, byte_b nc]
      obtain ⟨g1, g2⟩ := (good_n (x := [a, b, c, 61]) (by rw [said_3 hc]; exact tri_three a b c)).2.1 (by rw [said_3 hc]; rfl)
      rw [g1, g2]
      refine ⟨rfl, ?_⟩
      rw [UInt8.toNat_ofNat_of_lt' (by show _ < 256; omega)]
      simp
      rw [Bool.eq_iff_iff]; simp; omega
    · obtain rfl := hp rfl
      rw [bits_yes _ ha, bits_yes _ hb, bits_pad, cut_nil]
      simp only [six, List.cons_append, List.nil_append]
      rw [by8_cons, rest8_cons, by8_no (by simp), rest8_no (by simp), byte_a na nb]
      obtain ⟨g1, g2⟩ := (good_n (x := [a, b, 61, 61]) (by rw [said_2 hb]; exact tri_two a b)).1 (by rw [said_2 hb]; rfl)
      rw [g1, g2]
      refine ⟨rfl, ?_⟩
      rw [UInt8.toNat_ofNat_of_lt' (by show _ < 256; omega)]
      simp
      rw [Bool.eq_iff_iff]; simp; omega
end Go.Proofs.YtijgpelgdepbaaaDoor.Sx
