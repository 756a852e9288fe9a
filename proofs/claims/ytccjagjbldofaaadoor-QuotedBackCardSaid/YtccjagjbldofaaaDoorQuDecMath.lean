/-
Plain functions on bytes: what letters say ('dec'). No program in it, no conditions.
-/
import Derived.Test.YtccjagjbldofaaaDoorQuMath
import Derived.Test.YtccjagjbldofaaaDoorQuUpMath
namespace Go.Proofs.YtccjagjbldofaaaDoor.Qu
open Go.RowKit Fig

/-- What a mark says by what stands behind it: bytes, and an error's number (0: none). -/
def behind : List UInt8 → List UInt8 × Nat
  | [] => ([], 1)
  | [x] => if x = 13 then ([], 1) else if half x < 0 then ([], 3) else ([], 1)
  | x :: y :: _ => if x = 13 ∧ y = 10 then ([], 0) else if half x < 0 ∨ half y < 0 then ([], 3) else ([UInt8.ofNat (16 * half x + half y).toNat], 0)
/-- A byte that says itself. -/
def lit (c : UInt8) : Bool := ink c || blank c
def pre (b : List UInt8) (p : List UInt8 × Nat) : List UInt8 × Nat := if p.2 = 0 then (b ++ p.1, 0) else ([], p.2)
def dec : List UInt8 → List UInt8 × Nat
  | [] => ([], 0)
  | [c] => if lit c then ([c], 0) else if c = 61 then ([], 1) else ([], 3)
  | [c, x] => if lit c then pre [c] (dec [x]) else if c = 61 then ([], (behind [x]).2) else ([], 3)
  | c :: x :: y :: r => if lit c then pre [c] (dec (x :: y :: r)) else if c = 61 then (if (behind (x :: y :: r)).2 = 0 then pre (behind (x :: y :: r)).1 (dec r) else ([], (behind (x :: y :: r)).2)) else ([], 3)

theorem behind_few {r : List UInt8} (h : (behind r).2 = 0) : 2 ≤ r.length := by
  match r with
  | [] => simp [behind] at h
  | [x] =>
    exfalso
    revert h
    show (if x = 13 then ([], 1) else if half x < 0 then ([], 3) else ([], 1) : List UInt8 × Nat).2 = 0 → False
    by_cases h1 : x = 13
    · rw [if_pos h1]; decide
    · rw [if_neg h1]
      by_cases h2 : half x < 0
      · rw [if_pos h2]; decide
      · rw [if_neg h2]; decide
  | _ :: _ :: _ => simp
theorem dec_cons (c : UInt8) (r : List UInt8) :
    dec (c :: r) = if lit c then pre [c] (dec r) else if c = 61 then (if (behind r).2 = 0 then pre (behind r).1 (dec (r.drop 2)) else ([], (behind r).2)) else ([], 3) := by
  match r with
  | [] => simp [dec, behind, pre]
  | [x] =>
    have : (behind [x]).2 ≠ 0 := fun h => by have := behind_few h; simp at this
    simp only [dec]
    rw [if_neg this]
  | x :: y :: r => simp only [dec, List.drop_succ_cons, List.drop_zero]
theorem pre_nil (p : List UInt8 × Nat) (h : p.2 = 0 ∨ p.1 = []) : pre [] p = p := by
  obtain ⟨a, b⟩ := p
  unfold pre; split
  · rename_i h0; simp at h0; simp [h0]
  · rcases h with h | h
    · rename_i h0; exact absurd h h0
    · simp at h; simp [h]
theorem pre_pre (a b : List UInt8) (p : List UInt8 × Nat) : pre a (pre b p) = pre (a ++ b) p := by
  unfold pre
  by_cases h : p.2 = 0
  · simp [h]
  · simp [h]
theorem pre_err {a : List UInt8} {e : Nat} (h : e ≠ 0) : pre a ([], e) = ([], e) := by unfold pre; rw [if_neg h]
theorem dec_form (l : List UInt8) : (dec l).2 = 0 ∨ (dec l).1 = [] := by
  match l with
  | [] => left; rfl
  | c :: r =>
    rw [dec_cons]
    have hp : ∀ a p, (pre a p).2 = 0 ∨ (pre a p).1 = [] := fun a p => by unfold pre; split <;> simp
    split
    · exact hp _ _
    · split
      · split
        · exact hp _ _
        · right; rfl
      · right; rfl
theorem pre_dec (l : List UInt8) : pre [] (dec l) = dec l := pre_nil _ (dec_form l)
theorem behind_take (r : List UInt8) : behind (r.take 2) = behind r := by
  match r with
  | [] => rfl
  | [x] => rfl
  | x :: y :: r => simp [behind]
theorem behind_length (r : List UInt8) : (behind r).1.length ≤ 1 := by
  unfold behind; split
  · simp
  · split <;> (try split) <;> simp
  · split <;> (try split) <;> simp

/-! At a place of a text. -/
theorem dec_lit {s : ByteArray} {k : Nat} {l : List UInt8} (hk : k < s.size) (h : lit s[k] = true) (hl : pre l (dec (s.data.toList.drop k)) = dec s.data.toList) :
    pre (l ++ [s[k]]) (dec (s.data.toList.drop (k + 1))) = dec s.data.toList := by
  rw [drop_at s k hk, dec_cons, if_pos h, pre_pre] at hl; exact hl
theorem dec_mark {s : ByteArray} {k : Nat} {l b : List UInt8} (hk : k < s.size) (h : lit s[k] = false) (hc : s[k] = 61) (hb : behind (s.data.toList.drop (k + 1)) = (b, 0)) (hl : pre l (dec (s.data.toList.drop k)) = dec s.data.toList) :
    pre (l ++ b) (dec (s.data.toList.drop (k + 3))) = dec s.data.toList := by
  rw [drop_at s k hk, dec_cons, h, if_neg (by decide), if_pos hc, hb, if_pos rfl, pre_pre, List.drop_drop] at hl; exact hl
theorem dec_bad {s : ByteArray} {k e : Nat} {l b : List UInt8} (hk : k < s.size) (h : lit s[k] = false) (hc : s[k] = 61) (hb : behind (s.data.toList.drop (k + 1)) = (b, e)) (he : e ≠ 0) (hl : pre l (dec (s.data.toList.drop k)) = dec s.data.toList) :
    dec s.data.toList = ([], e) := by
  rw [drop_at s k hk, dec_cons, h, if_neg (by decide), if_pos hc, hb, if_neg he, pre_err he] at hl; exact hl.symm
theorem dec_other {s : ByteArray} {k : Nat} {l : List UInt8} (hk : k < s.size) (h : lit s[k] = false) (hc : ¬ s[k] = 61) (hl : pre l (dec (s.data.toList.drop k)) = dec s.data.toList) :
    dec s.data.toList = ([], 3) := by
  rw [drop_at s k hk, dec_cons, h, if_neg (by decide), if_neg hc, pre_err (by decide)] at hl; exact hl.symm
theorem dec_end {s : ByteArray} {k : Nat} {l : List UInt8} (hk : ¬ k < s.size) (hl : pre l (dec (s.data.toList.drop k)) = dec s.data.toList) : dec s.data.toList = (l, 0) := by
  rw [drop_end s hk] at hl; rw [← hl]; simp [dec, pre]
theorem behind_size {s : ByteArray} {k : Nat} {b : List UInt8} (hb : behind (s.data.toList.drop (k + 1)) = (b, 0)) : k + 3 ≤ s.size := by
  have := behind_few (r := s.data.toList.drop (k + 1)) (by rw [hb])
  simp at this; omega
theorem retD {a : List UInt8} {b : Nat} {p : List UInt8 × Nat} (h : p = (a, b)) : Ending.returned (.tuple #[.string ⟨a.toArray⟩, .int .i64 (b : Int)]) = Ending.returned (.tuple #[.string ⟨p.1.toArray⟩, .int .i64 (p.2 : Int)]) := by rw [h]
end Go.Proofs.YtccjagjbldofaaaDoor.Qu
