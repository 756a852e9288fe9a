/-
Elements within elements, in plain words: all of them in order, at most so many, so deep. No program in it, no conditions.
-/
import Derived.Test.YtpgjalikgmagiaaDoorSq
namespace Go.Proofs.YtpgjalikgmagiaaDoor.Tr
set_option maxRecDepth 100000

/-- An element: its page, name and text, whether the text is bare, what lies within. -/
inductive El where
  | mk (p : Int) (n t : ByteArray) (q : Bool) (ks : List El)
def El.page : El → Int | .mk p _ _ _ _ => p
def El.name : El → ByteArray | .mk _ n _ _ _ => n
def El.text : El → ByteArray | .mk _ _ t _ _ => t
def El.bare : El → Bool | .mk _ _ _ q _ => q
def El.kids : El → List El | .mk _ _ _ _ ks => ks

section
variable {I X : Type}
/-- An element and all within it, at most so deep, each ahead of its kids, with how deep it lies (over anything that has kids). -/
def preG (kids : I → List I) : Nat → Nat → I → List (Nat × I)
  | 0, _, _ => []
  | k + 1, d, e => (d, e) :: ((kids e).map (preG kids k (d + 1))).flatten
/-- A loop over kids that stops when there are enough. -/
def goA (f : List X → I → List X) (most : Nat) : List X → List I → List X
  | l, [] => l
  | l, e :: r => if l.length < most then goA f most (f l e) r else l
theorem goA_drop {f : List X → I → List X} {most : Nat} {l : List X} {es : List I} {i : Nat} (h : i < es.length) : goA f most l (es.drop i) = if l.length < most then goA f most (f l es[i]) (es.drop (i + 1)) else l := by
  rw [List.drop_eq_getElem_cons h]; rfl
theorem goA_eq {f : List X → I → List X} {g : I → List X} {most : Nat} (h : ∀ l e, l.length ≤ most → f l e = l ++ (g e).take (most - l.length)) :
    ∀ (es : List I) (l : List X), l.length ≤ most → goA f most l es = l ++ ((es.map g).flatten).take (most - l.length)
  | [], l, _ => by simp [goA]
  | e :: r, l, hl => by
    unfold goA
    split
    · rename_i hlt
      rw [h l e hl]
      have h1 : (l ++ (g e).take (most - l.length)).length ≤ most := by
        rw [List.length_append, List.length_take]; omega
      rw [goA_eq h r _ h1, List.map_cons, List.flatten_cons, List.append_assoc, List.take_append]
      congr 2
      rw [List.length_append, List.length_take]
      by_cases hm : (g e).length ≤ most - l.length
      · rw [Nat.min_eq_right hm, Nat.sub_add_eq]
      · rw [Nat.min_eq_left (by omega), show most - (l.length + (most - l.length)) = 0 by omega, show most - l.length - (g e).length = 0 by omega]
    · rename_i hge
      rw [show most - l.length = 0 by omega, List.take_zero, List.append_nil]
/-- .. behind those that there are. -/
def allR (kids : I → List I) (most : Nat) : Nat → Nat → List (Nat × I) → I → List (Nat × I)
  | 0, _, l, _ => l
  | k + 1, d, l, e => if most ≤ l.length then l else goA (allR kids most k (d + 1)) most (l ++ [(d, e)]) (kids e)
variable {kids : I → List I}
theorem allR_eq (most : Nat) : ∀ (k d : Nat) (l : List (Nat × I)) (e : I), l.length ≤ most → allR kids most k d l e = l ++ (preG kids k d e).take (most - l.length)
  | 0, _, _, _, _ => by simp [allR, preG]
  | k + 1, d, l, e, hl => by
    unfold allR
    split
    · rename_i hm
      rw [show most - l.length = 0 by omega, List.take_zero, List.append_nil]
    · rename_i hm
      rw [goA_eq (g := preG kids k (d + 1)) (fun l e h => allR_eq most k (d + 1) l e h) (kids e) _ (by rw [List.length_append, List.length_singleton]; omega), preG, List.length_append, List.length_singleton]
      obtain ⟨m, hm'⟩ : ∃ m, most - l.length = m + 1 := ⟨most - l.length - 1, by omega⟩
      rw [hm', show most - (l.length + 1) = m by omega, List.take_succ_cons, List.append_assoc]
      rfl
theorem allR_le (most : Nat) (k d : Nat) (l : List (Nat × I)) (e : I) (h : l.length ≤ most) : (allR kids most k d l e).length ≤ most := by
  rw [allR_eq most k d l e h, List.length_append, List.length_take]; omega
/-- What is said of them through a map that keeps the kids. -/
theorem preG_map {J : Type} {kj : J → List J} (g : I → J) (h : ∀ e, kj (g e) = (kids e).map g) : ∀ (k d : Nat) (e : I), (preG kids k d e).map (fun y => (y.1, g y.2)) = preG kj k d (g e)
  | 0, _, _ => rfl
  | k + 1, d, e => by
    rw [preG, preG, List.map_cons, List.map_flatten, h, List.map_map, List.map_map]
    congr 2
    exact List.map_congr_left fun c _ => preG_map g h k (d + 1) c
theorem preG_all {p : I → Prop} (h : ∀ e, p e → ∀ c ∈ kids e, p c) : ∀ (k d : Nat) (e : I), p e → ∀ y ∈ preG kids k d e, p y.2
  | 0, _, _, _, _, hy => by cases hy
  | k + 1, d, e, he, y, hy => by
    rw [preG] at hy
    rcases List.mem_cons.1 hy with rfl | hy
    · exact he
    · obtain ⟨z, hz, hx⟩ := List.mem_flatten.1 hy
      obtain ⟨c, hc, rfl⟩ := List.mem_map.1 hz
      exact preG_all h k (d + 1) c (h e he c hc) y hx
end
/-- .. over elements. -/
def pre : Nat → Nat → El → List (Nat × El) := preG El.kids
theorem pre_zero (d : Nat) (e : El) : pre 0 d e = [] := rfl
theorem pre_succ (k d : Nat) (e : El) : pre (k + 1) d e = (d, e) :: (e.kids.map (pre k (d + 1))).flatten := rfl

/-- At most so many lie within one another. -/
def Ht : Nat → El → Prop
  | 0, _ => False
  | k + 1, e => ∀ c ∈ e.kids, Ht k c
theorem Ht.up : ∀ {k j : Nat} {e : El}, Ht k e → Ht (k + j) e
  | 0, _, _, h => h.elim
  | k + 1, j, e, h => by
    rw [show k + 1 + j = (k + j) + 1 by omega]
    exact fun c hc => Ht.up (h c hc)
theorem pre_ht : ∀ (k j d : Nat) (e : El), Ht k e → pre (k + j) d e = pre k d e
  | 0, _, _, _, h => h.elim
  | k + 1, j, d, e, h => by
    rw [show k + 1 + j = (k + j) + 1 by omega, pre_succ, pre_succ]
    congr 2
    exact List.map_congr_left fun c hc => pre_ht k j (d + 1) c (h c hc)
theorem ht_pre : ∀ (k j d : Nat) (e : El), (∀ x ∈ pre (k + j + 1) d e, x.1 < d + k) → Ht k e
  | 0, j, d, e, h => by
    have := h (d, e) (by rw [pre_succ]; exact List.mem_cons_self ..)
    simp at this
  | k + 1, j, d, e, h => by
    intro c hc
    refine ht_pre k j (d + 1) c fun x hx => ?_
    have := h x (by
      rw [show k + 1 + j + 1 = (k + j + 1) + 1 by omega, pre_succ]
      exact List.mem_cons_of_mem _ (List.mem_flatten.2 ⟨_, List.mem_map.2 ⟨c, hc, rfl⟩, hx⟩))
    omega
theorem pre_le : ∀ (k d : Nat) (e : El), ∀ x ∈ pre k d e, d ≤ x.1 ∧ x.1 < d + k
  | 0, _, _, x, h => by cases h
  | k + 1, d, e, x, h => by
    rw [pre_succ] at h
    rcases List.mem_cons.1 h with rfl | h
    · exact ⟨Nat.le_refl _, by show d < d + (k + 1); omega⟩
    · obtain ⟨y, hy, hx⟩ := List.mem_flatten.1 h
      obtain ⟨c, _, rfl⟩ := List.mem_map.1 hy
      have := pre_le k (d + 1) c x hx
      omega
/-- What lies at most so deep is no less where one looks deeper. -/
theorem pre_grow : ∀ (k j d : Nat) (e : El), (pre k d e).length ≤ (pre (k + j) d e).length
  | 0, _, _, _ => Nat.zero_le _
  | k + 1, j, d, e => by
    rw [show k + 1 + j = (k + j) + 1 by omega, pre_succ, pre_succ, List.length_cons, List.length_cons]
    have : ∀ l : List El, ((l.map (pre k (d + 1))).flatten).length ≤ ((l.map (pre (k + j) (d + 1))).flatten).length := fun l => by
      induction l with
      | nil => exact Nat.le_refl _
      | cons c r ih =>
        have := pre_grow k j (d + 1) c
        simp only [List.map_cons, List.flatten_cons, List.length_append]
        omega
    have := this e.kids
    omega
/-- .. and wherever it lies. -/
theorem pre_len : ∀ (k d d' : Nat) (e : El), (pre k d e).length = (pre k d' e).length
  | 0, _, _, _ => rfl
  | k + 1, d, d', e => by
    rw [pre_succ, pre_succ, List.length_cons, List.length_cons, List.length_flatten, List.length_flatten, List.map_map, List.map_map]
    congr 2
    exact List.map_congr_left fun c _ => pre_len k (d + 1) (d' + 1) c
/-- How many there are, beyond 5000: 5000. -/
def weight (e : El) : Nat := min 5000 (pre 5000 1 e).length
end Go.Proofs.YtpgjalikgmagiaaDoor.Tr
