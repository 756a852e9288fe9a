/-
Fields of a name, single names, and how many fields are in one of two alone, in plain words. No program in it, no conditions.
-/
import Derived.Test.YtfghodakdnhleaaCtMath
namespace Go.Proofs.Ytfghodakdnhleaa.Ct

/-- Has a contact one of a name, as a whole? -/
def sgl (s : ByteArray) : Bool := s.toList == [66, 68, 65, 89] || s.toList == [70, 78] || s.toList == [78] || s.toList == [79, 82, 71] || s.toList == [82, 69, 86] || s.toList == [84, 73, 84, 76, 69]
/-- The fields of a name. -/
def namF (l : List Fd) (s : ByteArray) : List Fd := l.filter fun x => (x.1.toList == s.toList)
theorem namF_yes {l : List Fd} {s : ByteArray} {k : Nat} (h : k < l.length) (he : (l[k].1.toList == s.toList) = true) : namF (l.drop k) s = l[k] :: namF (l.drop (k + 1)) s := by
  rw [List.drop_eq_getElem_cons h, namF, List.filter_cons, if_pos he]; rfl
theorem namF_no {l : List Fd} {s : ByteArray} {k : Nat} (h : k < l.length) (he : (l[k].1.toList == s.toList) = false) : namF (l.drop k) s = namF (l.drop (k + 1)) s := by
  rw [List.drop_eq_getElem_cons h, namF, List.filter_cons, if_neg (by rw [he]; simp)]; rfl
theorem namF_le (l : List Fd) (s : ByteArray) : (namF l s).length ≤ l.length := List.length_filter_le _ _
/-- Is a field among others? -/
def hasF (l : List Fd) (x : Fd) : Bool := l.any fun y => decide (y = x)
theorem hasF_mem {l : List Fd} {x : Fd} : hasF l x = true ↔ x ∈ l := by
  unfold hasF
  rw [List.any_eq_true]
  constructor
  · rintro ⟨y, hy, e⟩
    rw [decide_eq_true_eq] at e
    rw [← e]; exact hy
  · exact fun h => ⟨x, h, by simp⟩
theorem hasF_yes {l : List Fd} {x : Fd} {k : Nat} (h : k < l.length) (he : l[k] = x) : hasF (l.drop k) x = true := by
  rw [List.drop_eq_getElem_cons h, hasF, List.any_cons, decide_eq_true he]; rfl
theorem hasF_no {l : List Fd} {x : Fd} {k : Nat} (h : k < l.length) (he : ¬ l[k] = x) : hasF (l.drop k) x = hasF (l.drop (k + 1)) x := by
  rw [List.drop_eq_getElem_cons h, hasF, List.any_cons, decide_eq_false he]; rfl
/-- How many fields are not among others? -/
def missF (l m : List Fd) : Nat := (l.filter fun x => !hasF m x).length
theorem missF_yes {l m : List Fd} {k : Nat} (h : k < l.length) (he : hasF m l[k] = true) : missF (l.drop k) m = missF (l.drop (k + 1)) m := by
  rw [List.drop_eq_getElem_cons h, missF, List.filter_cons, if_neg (by rw [he]; simp)]; rfl
theorem missF_no {l m : List Fd} {k : Nat} (h : k < l.length) (he : hasF m l[k] = false) : missF (l.drop k) m = missF (l.drop (k + 1)) m + 1 := by
  rw [List.drop_eq_getElem_cons h, missF, List.filter_cons, if_pos (by rw [he]; rfl)]; rfl
theorem missF_le (l m : List Fd) : missF l m ≤ l.length := List.length_filter_le _ _
theorem missF_nil (m : List Fd) : missF [] m = 0 := rfl
end Go.Proofs.Ytfghodakdnhleaa.Ct
