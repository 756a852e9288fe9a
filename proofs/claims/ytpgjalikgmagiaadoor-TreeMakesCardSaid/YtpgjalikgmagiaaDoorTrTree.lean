/-
Elements in memory, and what the document says is wrong with them, in plain words. No program in it, no conditions.
-/
import Derived.Test.YtpgjalikgmagiaaDoorTrMath
import Derived.Test.YtpgjalikgmagiaaDoorPpMath
import Derived.Lib.ValidLaws
import Derived.Lib.LaidU8T
import Derived.Below
namespace Go.Proofs.YtpgjalikgmagiaaDoor.Tr
set_option maxRecDepth 100000
open Go.RowKit

/-! ### What is wrong -/
def letB (c : UInt8) : Bool := decide ((65 ≤ (c.toNat : Int) ∧ (c.toNat : Int) ≤ 90) ∨ (97 ≤ (c.toNat : Int) ∧ (c.toNat : Int) ≤ 122))
def digB (c : UInt8) : Bool := decide (48 ≤ (c.toNat : Int) ∧ (c.toNat : Int) ≤ 57)
def wordB (c : UInt8) : Bool := letB c || digB c
def inkB (c : UInt8) : Bool := decide (32 ≤ (c.toNat : Int) ∨ (c.toNat : Int) = 9 ∨ (c.toNat : Int) = 10)
/-- A name: 1 to 32 letters and digits, the first one a letter. -/
def nameL (l : List UInt8) : Bool := match l with | [] => false | c :: r => decide ((c :: r).length ≤ 32) && letB c && (c :: r).all wordB
def nameB (s : ByteArray) : Bool := nameL s.data.toList
/-- A text that may stand as it is. -/
def shownB (s : ByteArray) : Bool := s.data.toList.all inkB && Lib.validD s.data.toList
theorem nameB_none {s : ByteArray} (h : s.size = 0) : nameB s = false := by
  unfold nameB; rw [List.eq_nil_of_length_eq_zero (l := s.data.toList) (by rw [Pp.list_size]; exact h)]; rfl
theorem nameB_long {s : ByteArray} (h : ¬ s.size ≤ 32) : nameB s = false := by
  unfold nameB nameL; rw [← Pp.list_size] at h
  cases e : s.data.toList with
  | nil => rfl
  | cons a r => rw [e] at h; simp only; rw [decide_eq_false h]; rfl
theorem nameB_some {s : ByteArray} (h : 0 < s.size) (h' : s.size ≤ 32) : nameB s = (letB s[0] && s.data.toList.all wordB) := by
  unfold nameB nameL
  have h0 : s.data.toList[0]'(by rw [Pp.list_size]; exact h) = s[0] := by simp; rfl
  have hl := Pp.list_size s
  cases e : s.data.toList with
  | nil => rw [e] at hl; simp at hl; omega
  | cons a r =>
    simp only [e, List.getElem_cons_zero] at h0
    rw [e] at hl
    simp only
    rw [decide_eq_true (by rw [hl]; exact h'), h0, Bool.true_and]
/-- What is wrong with an element by itself, by its page, its name's rightness, its number of kids, its text's length, how it stands, and whether it may stand so: an error's number. -/
def flawM (p : Int) (nb : Bool) (m z : Nat) (q sb : Bool) : Int :=
  if p < 0 ∨ 2 < p then 5 else if nb = false then 14 else if 200 < m then 4 else if 0 < m ∧ ¬ z = 0 then 7 else if 4000 < z then 8 else
  if (q = true ∧ z = 0) ∨ (q = false ∧ sb = false) then 3 else 0
def flaw (e : El) : Int := flawM e.page (nameB e.name) e.kids.length e.text.size e.bare (shownB e.text)
/-- The first that is wrong of a row of elements. -/
def flaws (f : El → Int) : List (Nat × El) → Int
  | [] => 0
  | x :: r => if f x.2 ≠ 0 then f x.2 else flaws f r
/-- What is wrong with an element and all within it. -/
def checkE (e : El) : Int :=
  if ((pre 13 1 e).take 5000).any (fun x => decide (12 < x.1)) = true then 9 else if 2000 < weight e then 4 else flaws flaw ((pre 13 1 e).take 5000)
theorem flaws_drop {f : El → Int} {l : List (Nat × El)} {i : Nat} (h : i < l.length) : flaws f (l.drop i) = if f l[i].2 ≠ 0 then f l[i].2 else flaws f (l.drop (i + 1)) := by
  rw [List.drop_eq_getElem_cons h, flaws]
theorem flaws_none {f : El → Int} : ∀ {l : List (Nat × El)}, flaws f l = 0 ↔ ∀ x ∈ l, f x.2 = 0
  | [] => ⟨fun _ x hx => (by cases hx), fun _ => rfl⟩
  | y :: r => by
    rw [flaws]
    by_cases hy : f y.2 = 0
    · rw [if_neg (fun h => h hy), flaws_none (l := r)]
      exact ⟨fun h x hx => by rcases List.mem_cons.1 hx with rfl | hx; exact hy; exact h x hx, fun h x hx => h x (List.mem_cons_of_mem _ hx)⟩
    · rw [if_pos hy]
      exact ⟨fun h => absurd h hy, fun h => absurd (h y (List.mem_cons_self ..)) hy⟩

/-! ### In memory -/
/-- A list of elements, five cells each: page, name, text, bare or not, kids. -/
def KsAt (w : World) (B : Nat) (C : El → Value → Prop) (l : List El) (v : Value) : Prop :=
  ∃ a c, v = .slice a l.length c ∧ (l ≠ [] → ∃ b o, a = some ⟨b, o, none⟩ ∧ b < B) ∧ ∀ b o, a = some ⟨b, o, none⟩ → ∀ j (hj : j < l.length), ∃ kv,
    w.cell? ⟨b, o + j * 5, none⟩ = some (.int .i64 l[j].page) ∧ w.cell? ⟨b, o + j * 5 + 1, none⟩ = some (.string l[j].name) ∧ w.cell? ⟨b, o + j * 5 + 2, none⟩ = some (.string l[j].text) ∧ w.cell? ⟨b, o + j * 5 + 3, none⟩ = some (.bool l[j].bare) ∧ w.cell? ⟨b, o + j * 5 + 4, none⟩ = some kv ∧ C l[j] kv
/-- An element, by its kids' list. -/
def EAt (w : World) (B : Nat) : Nat → El → Value → Prop
  | 0, _, _ => False
  | k + 1, e, kv => KsAt w B (EAt w B k) e.kids kv
theorem KsAt.move {w w' : World} {B B' : Nat} {C C' : El → Value → Prop} {l : List El} {v : Value} (h : KsAt w B C l v) (hc : ∀ b o, b < B → w'.cell? ⟨b, o, none⟩ = w.cell? ⟨b, o, none⟩) (hB : B ≤ B') (hC : ∀ a v, C a v → C' a v) : KsAt w' B' C' l v := by
  obtain ⟨a, c, rfl, h1, h2⟩ := h
  refine ⟨a, c, rfl, fun hl => ?_, fun b o e j hj => ?_⟩
  · obtain ⟨b, o, e, hb⟩ := h1 hl; exact ⟨b, o, e, Nat.lt_of_lt_of_le hb hB⟩
  · obtain ⟨b', o', e', hb⟩ := h1 (fun h => by rw [h] at hj; simp at hj)
    rw [e] at e'; cases e'
    obtain ⟨kv, q0, q1, q2, q3, q4, q5⟩ := h2 b o e j hj
    exact ⟨kv, (hc b _ hb).trans q0, (hc b _ hb).trans q1, (hc b _ hb).trans q2, (hc b _ hb).trans q3, (hc b _ hb).trans q4, hC _ _ q5⟩
theorem EAt.below {w w' : World} {B : Nat} (hb : Below B w w') : ∀ {k : Nat} {e : El} {v : Value}, EAt w B k e v → EAt w' B k e v := by
  intro k
  induction k with
  | zero => intro e v h; exact h.elim
  | succ k ih => intro e v h; exact KsAt.move h (fun b o hlt => hb.cell (p := ⟨b, o, none⟩) hlt) (Nat.le_refl _) (fun a v h => ih h)
theorem EAt.up {w : World} {B B' : Nat} (hb : B ≤ B') : ∀ {k : Nat} {e : El} {v : Value}, EAt w B k e v → EAt w B' k e v := by
  intro k
  induction k with
  | zero => intro e v h; exact h.elim
  | succ k ih => intro e v h; exact KsAt.move h (fun _ _ _ => rfl) hb (fun a v h => ih h)
/-- An element in a later world. -/
theorem EAt.on {w w' : World} (hb : Below w.heap.size w w') {k : Nat} {e : El} {v : Value} (h : EAt w w.heap.size k e v) : EAt w' w'.heap.size k e v := (h.below hb).up hb.size
theorem KsAt.len {w : World} {B : Nat} {C : El → Value → Prop} {l : List El} {v : Value} (h : KsAt w B C l v) : ∃ a cp, v = .slice a l.length cp := by obtain ⟨a, cp, rfl, _⟩ := h; exact ⟨_, _, rfl⟩
theorem EAt.len {w : World} {B k : Nat} {e : El} {v : Value} (h : EAt w B k e v) : ∃ a cp, v = .slice a e.kids.length cp := by
  cases k with
  | zero => exact h.elim
  | succ k => exact KsAt.len (show KsAt w B (EAt w B k) e.kids v from h)
/-- One of a list. -/
theorem KsAt.at_ {w : World} {B : Nat} {C : El → Value → Prop} {l : List El} {a : Option Addr} {n cp : Nat} (h : KsAt w B C l (.slice a n cp)) {j : Nat} (hj : j < l.length) :
    ∃ b o kv, a = some ⟨b, o, none⟩ ∧ b < B ∧ w.cell? ⟨b, o + j * 5, none⟩ = some (.int .i64 l[j].page) ∧ w.cell? ⟨b, o + j * 5 + 1, none⟩ = some (.string l[j].name) ∧ w.cell? ⟨b, o + j * 5 + 2, none⟩ = some (.string l[j].text) ∧ w.cell? ⟨b, o + j * 5 + 3, none⟩ = some (.bool l[j].bare) ∧ w.cell? ⟨b, o + j * 5 + 4, none⟩ = some kv ∧ C l[j] kv := by
  obtain ⟨a', c', e, h1, h2⟩ := h
  cases e
  obtain ⟨b, o, rfl, hb⟩ := h1 (fun h => by rw [h] at hj; simp at hj)
  obtain ⟨kv, h3⟩ := h2 b o rfl j hj
  exact ⟨b, o, kv, rfl, hb, h3⟩
theorem EAt.ht {w : World} {B : Nat} : ∀ {k : Nat} {e : El} {v : Value}, EAt w B k e v → Ht k e
  | 0, _, _, h => h.elim
  | k + 1, e, v, h => by
    intro c hc
    have h' : KsAt w B (EAt w B k) e.kids v := h
    obtain ⟨a, cp, rfl⟩ := h'.len
    obtain ⟨j, hj, rfl⟩ := List.getElem_of_mem hc
    obtain ⟨_, _, _, _, _, _, _, _, _, _, hk⟩ := h'.at_ hj
    exact EAt.ht hk
end Go.Proofs.YtpgjalikgmagiaaDoor.Tr
