/-
The first byte that no value of a property has: in plain words, and over the model's own reading of letters. No program in it, no conditions.
-/
import Derived.Test.YtccgpemcdbcjeaaDoorPpMath
import Derived.Lib.IndexAny
import Derived.Laws.RangeAny
namespace Go.Proofs.YtccgpemcdbcjeaaDoor.Pp
open Go.RowKit

/-- The bytes that no value has, as a text. -/
def odd3 : ByteArray := ⟨#[0, 10, 13]⟩
/-- The place of the first of them, or -1. -/
def idxO (s : ByteArray) : Int := if s.data.toList.findIdx oddb < s.size then (s.data.toList.findIdx oddb : Int) else -1
theorem odd3_has (x : UInt8) : odd3.data.toList.contains x = oddb x := by
  unfold odd3 oddb
  rw [Bool.eq_iff_iff]
  simp only [List.contains_cons, List.contains_nil, Bool.or_false, Bool.or_eq_true, beq_iff_eq, decide_eq_true_eq]
  have e : ∀ c : UInt8, x = c ↔ (x.toNat : Int) = (c.toNat : Int) := fun c => ⟨fun h => by rw [h], fun h => UInt8.toNat_inj.1 (by omega)⟩
  rw [e 0, e 10, e 13]
  rfl
theorem idxO_lib (s : ByteArray) : Lib.indexAny s.data.toList odd3.data.toList = idxO s := by
  unfold idxO
  by_cases h : s.data.toList.findIdx oddb < s.size
  · rw [if_pos h]
    have hl : s.data.toList.findIdx oddb < s.data.toList.length := by rw [list_size]; exact h
    refine Lib.indexAny_hit (x := s.data.toList[s.data.toList.findIdx oddb]) ?_ (List.getElem?_eq_getElem hl) ?_
    · intro j b hj hb
      rw [odd3_has]
      obtain ⟨hj', rfl⟩ := List.getElem?_eq_some_iff.1 hb
      have := List.not_of_lt_findIdx hj
      simpa using this
    · rw [odd3_has]; exact List.findIdx_getElem
  · rw [if_neg h]
    refine Lib.indexAny_none ?_
    intro j b hj hb
    rw [odd3_has]
    obtain ⟨hj', rfl⟩ := List.getElem?_eq_some_iff.1 hb
    have := List.not_of_lt_findIdx (p := oddb) (xs := s.data.toList) (i := j) (by rw [list_size] at hj; omega)
    simpa using this

theorem get_list (s : ByteArray) (j : Nat) (x : UInt8) (h : s.data.toList[j]? = some x) : s.get! j = x := by
  obtain ⟨hj, rfl⟩ := List.getElem?_eq_some_iff.1 h
  have hj' : j < s.data.size := by simpa using hj
  show s.data[j]! = _
  simp [getElem!_pos s.data j hj']
/-- What a letter that is no ASCII takes: no byte of it is below 128. -/
theorem decode_cover (s : ByteArray) (pos : Nat) (h : pos < s.size) (ha : 128 ≤ (s[pos]'h).toNat) : pos + (Utf8.decode s pos).2 ≤ s.size ∧ ∀ j, pos ≤ j → j < pos + (Utf8.decode s pos).2 → 128 ≤ (s.get! j).toNat := by
  have h0 : 128 ≤ (s.get! pos).toNat := by have e := get_at s pos h; rw [Nat.add_zero] at e; rw [e]; exact ha
  have hn : ¬ (s[pos]'h).toNat < 128 := by omega
  simp only [Utf8.decode, get_at s pos h, hn, if_false]
  repeat' split
  all_goals (simp only [Bool.and_eq_true, decide_eq_true_eq, beq_iff_eq] at *)
  all_goals (refine ⟨by omega, fun j h1 h2 => ?_⟩)
  all_goals (obtain rfl | rfl | rfl | rfl : j = pos ∨ j = pos + 1 ∨ j = pos + 2 ∨ j = pos + 3 := by omega)
  all_goals omega
/-- The letter is none of those that UTF-8 leaves out. -/
theorem decode_valid (s : ByteArray) (pos : Nat) : Utf8.valid ((Utf8.decode s pos).1 : Int) = true := by
  have hb : ∀ k, (s.get! (pos + k)).toNat < 256 := fun k => (s.get! (pos + k)).toNat_lt
  have h0 := hb 0; have h1 := hb 1; have h2 := hb 2; have h3 := hb 3
  have e : Utf8.valid ((Utf8.runeError : Nat) : Int) = true := by decide
  have hz : (s.get! (pos + 0)).toNat = (s.get! pos).toNat := by rw [Nat.add_zero]
  simp only [Utf8.decode]
  repeat' split
  all_goals first | with_reducible exact e | (simp only [Bool.and_eq_true, decide_eq_true_eq, beq_iff_eq] at *; first | (rename_i hv; exact hv.2) | (unfold Utf8.valid; simp; omega))
/-- A letter that is no ASCII, as bytes: two, three or four, the last from 128 on. -/
theorem encode_high (c : Nat) (h : 128 ≤ c) (hv : Utf8.valid (c : Int) = true) : (∃ a b : UInt8, Utf8.encode (c : Int) = ⟨#[a, b]⟩ ∧ 128 ≤ b.toNat) ∨ (∃ a b d : UInt8, Utf8.encode (c : Int) = ⟨#[a, b, d]⟩ ∧ 128 ≤ d.toNat) ∨ (∃ a b d x : UInt8, Utf8.encode (c : Int) = ⟨#[a, b, d, x]⟩ ∧ 128 ≤ x.toNat) := by
  unfold Utf8.encode
  simp only [hv, if_true, Int.toNat_natCast]
  rw [if_neg (by omega)]
  have e : ∀ n : Nat, 128 ≤ (UInt8.ofNat (128 + n % 64)).toNat := fun n => by
    rw [UInt8.toNat_ofNat']; omega
  split
  · exact .inl ⟨_, _, rfl, e _⟩
  · split
    · exact .inr (.inl ⟨_, _, _, rfl, e _⟩)
    · exact .inr (.inr ⟨_, _, _, _, rfl, e _⟩)
theorem index_high (l : List UInt8) (b : UInt8) (hl : ∀ x ∈ l, x.toNat < 128) (hb : 128 ≤ b.toNat) : Lib.indexByte l b = -1 := by
  induction l with
  | nil => rfl
  | cons a r ih =>
    have h1 := hl a (List.mem_cons_self ..)
    have h2 := ih fun x hx => hl x (List.mem_cons_of_mem _ hx)
    unfold Lib.indexByte
    have : ¬ a = b := fun e => by subst e; omega
    simp [this, h2]
end Go.Proofs.YtccgpemcdbcjeaaDoor.Pp
