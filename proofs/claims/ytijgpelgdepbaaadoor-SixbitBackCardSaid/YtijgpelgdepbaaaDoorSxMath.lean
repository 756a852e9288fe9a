/-
Plain functions on bytes: a text in pieces of so many bytes. No program in it, no conditions.
-/
import Derived.WalkKit
import Derived.Lib.Hide
namespace Go.Proofs.YtijgpelgdepbaaaDoor.Sx
open Go.RowKit

/-- A text in pieces of k bytes. -/
def cut (k : Nat) (l : List UInt8) : List (List UInt8) :=
  if _h : l = [] ∨ k = 0 then [] else l.take k :: cut k (l.drop k)
termination_by l.length
decreasing_by
  have : 0 < l.length := List.length_pos_iff.2 (fun e => _h (.inl e))
  rw [List.length_drop]; omega

theorem cut_nil (k : Nat) : cut k [] = [] := by rw [cut, dif_pos (.inl rfl)]
theorem cut_step {k : Nat} {l : List UInt8} (hk : 0 < k) (h : 0 < l.length) : cut k l = l.take k :: cut k (l.drop k) := by
  rw [cut, dif_neg]
  rintro (e | e)
  · subst e; simp at h
  · omega
theorem cut_induct {k : Nat} (hk : 0 < k) {P : List UInt8 → Prop} (h0 : P []) (h1 : ∀ l, 0 < l.length → P (l.drop k) → P l) : ∀ l, P l := by
  intro l
  obtain ⟨n, hn⟩ : ∃ n, l.length = n := ⟨_, rfl⟩
  induction n using Nat.strongRecOn generalizing l with
  | ind n ih =>
    by_cases h : 0 < l.length
    · exact h1 l h (ih _ (by rw [List.length_drop]; omega) _ rfl)
    · have : l = [] := List.eq_nil_of_length_eq_zero (by omega)
      subst this; exact h0
theorem cut_flat {k : Nat} (hk : 0 < k) : ∀ l, (cut k l).flatten = l :=
  cut_induct hk (by rw [cut_nil]; rfl) fun l h ih => by rw [cut_step hk h, List.flatten_cons, ih, List.take_append_drop]
theorem cut_length {k : Nat} (hk : 0 < k) : ∀ l, (cut k l).length ≤ l.length :=
  cut_induct hk (by rw [cut_nil]; exact Nat.le_refl _) fun l h ih => by
    rw [cut_step hk h, List.length_cons]; rw [List.length_drop] at ih; omega
theorem cut_short {k : Nat} {l : List UInt8} (hk : 0 < k) (h0 : 0 < l.length) (h : l.length ≤ k) : cut k l = [l] := by
  rw [cut_step hk h0, List.take_of_length_le h, List.drop_eq_nil_of_le h, cut_nil]
/-- Each piece has a byte, and no more than k. -/
theorem cut_size {k : Nat} (hk : 0 < k) : ∀ l, ∀ x ∈ cut k l, 1 ≤ x.length ∧ x.length ≤ k :=
  cut_induct hk (by rw [cut_nil]; intro x hx; cases hx) fun l h ih => by
    rw [cut_step hk h]
    intro x hx
    rcases List.mem_cons.1 hx with rfl | hx
    · rw [List.length_take]; omega
    · exact ih x hx

/-- The width that counts. -/
def wid (n : Int) : Nat := if n < 1 then 1 else n.toNat
theorem wid_pos (n : Int) : 0 < wid n := by unfold wid; split <;> omega
theorem wid_max (n : Int) : max n 1 = (wid n : Int) := by unfold wid; split <;> omega

theorem ext_to (s : ByteArray) (n : Nat) : s.extract 0 n = ⟨(s.data.toList.take n).toArray⟩ := by
  apply ByteArray.ext
  rw [ByteArray.data_extract, ← Array.toList_inj, Array.toList_extract, List.extract_eq_take_drop]
  simp
theorem ext_from (s : ByteArray) (n : Nat) : (s.extract n s.size).data.toList = s.data.toList.drop n := by
  rw [ByteArray.data_extract, Array.toList_extract, List.extract_eq_take_drop, List.take_of_length_le]
  simp
theorem own_text {s : ByteArray} : s = ⟨s.data.toList.toArray⟩ := by cases s; simp
theorem list_size (s : ByteArray) : s.data.toList.length = s.size := by rw [Array.length_toList]; rfl
theorem ulen {u : List UInt8} {n : Nat} (h : u.length = n) : (⟨u.toArray⟩ : ByteArray).size = n := by
  show u.toArray.size = n
  simpa using h
theorem udata (u : List UInt8) : (⟨u.toArray⟩ : ByteArray).data.toList = u := rfl
end Go.Proofs.YtijgpelgdepbaaaDoor.Sx
