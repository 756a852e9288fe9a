/-
Texts joined in one file, each with its own conditions: What a mark says by the bytes behind it: the program's answer is the plain function 'behind'. Conditions: at most two bytes stand there; the library's tables hold what the rows list. · Plain functions on bytes: letters as bytes. No program in it, no conditions.
-/
import Derived.Test.YtpdodknldhbbhaaGreatDoorJ07
import Derived.Test.YtpdodknldhbbhaaGreatDoorJ08
import Derived.Laws.IdiomStrings
import Derived.Test.YtpdodknldhbbhaaGreatDoorJ03
import Derived.Lib.Bytealg
import Derived.Lib.SlTrimSet
namespace Go.Proofs.YtpdodknldhbbhaaGreatDoor.Qu
set_option maxRecDepth 100000
open Go.RowKit Fig

theorem mapGo_length (f : Int → Int) : ∀ (n : Nat) (l : List UInt8), (Lib.mapGoD f n l).length ≤ 4 * n
  | 0, _ => by simp [Lib.mapGoD]
  | n + 1, l => by
    unfold Lib.mapGoD
    split
    · simp
    · have ih := mapGo_length f n (l.drop (Lib.decodeL l).2)
      have : (if 0 ≤ f (Lib.decodeL l).1 then Lib.encodeRune (f (Lib.decodeL l).1) else []).length ≤ 4 := by
        split
        · have := (Lib.encodeRuneZ_length (f (Lib.decodeL l).1)).2
          simpa [Lib.encodeRune] using this
        · simp
      rw [List.length_append]; omega
theorem upperD_size (l : List UInt8) : (⟨(Lib.toUpperD l).toArray⟩ : ByteArray).size ≤ 4 * l.length := by
  show (Lib.toUpperD l).toArray.size ≤ _
  rw [List.size_toArray]; exact mapGo_length _ _ _
theorem behind1 {x : UInt8} (h : ¬ x = 13) : unhex (Lib.toUpperD [x]) = behind [x] := by
  rw [said1]; show _ = if x = 13 then ([], 1) else if half x < 0 then ([], 3) else ([], 1)
  rw [if_neg h]
theorem behind2 {x y : UInt8} (h : ¬ (x = 13 ∧ y = 10)) : unhex (Lib.toUpperD [x, y]) = behind [x, y] := by
  rw [said2]; show _ = if x = 13 ∧ y = 10 then ([], 0) else if half x < 0 ∨ half y < 0 then ([], 3) else ([UInt8.ofNat (16 * half x + half y).toNat], 0)
  rw [if_neg h]

set_option maxHeartbeats 400000 in
theorem said_any (l : List UInt8) (hl : l.length ≤ 2) (w : World) (T : Tabs w) :
    Calls Tryz.prog 175 #[.string ⟨l.toArray⟩] w fun e w' => e = .returned (.tuple #[.string ⟨(behind l).1.toArray⟩, .int .i64 ((behind l).2 : Int)]) ∧ Below w.heap.size w w' := by
  have C1 := Lib.hid (upper_any ⟨l.toArray⟩ w (by show l.toArray.size < _; simp; omega) T)
  match l, hl with
  | [], _ =>
    go_enter Tryz.func175, Tryz.ntmps175
    go_wp2_with fail
    go_ret2
    exact ⟨rfl, Below.refl _ _⟩
  | [x], _ =>
    by_cases h13 : x = 13
    · subst h13
      go_enter Tryz.func175, Tryz.ntmps175
      go_wp2_with fail
      go_ret2
      exact ⟨rfl, Below.refl _ _⟩
    · have hb : (x == 13) = false := by simpa using h13
      have C2 := Lib.hid (fun W => unhex_any ⟨(Lib.toUpperD [x]).toArray⟩ W (by have := upperD_size [x]; simp at this ⊢; omega))
      rw [show (⟨(Lib.toUpperD [x]).toArray⟩ : ByteArray).data.toList = Lib.toUpperD [x] by simp, behind1 h13] at C2
      generalize (⟨(Lib.toUpperD [x]).toArray⟩ : ByteArray) = u at C1 C2
      generalize (behind [x]).1.toArray = p at C2 ⊢
      generalize (behind [x]).2 = q at C2 ⊢
      clear h13
      go_enter Tryz.func175, Tryz.ntmps175
      go_wp2_with fail
      refine C1.out.mono ?_
      rintro e w1 ⟨rfl, b1⟩
      go_wp2_with fail
      refine (C2.out _).mono ?_
      rintro e w2 ⟨rfl, b2⟩
      go_wp2_with fail
      go_ret2
      exact ⟨rfl, b1.trans (b2.mono b1.size)⟩
  | [x, y], _ =>
    by_cases h : x = 13 ∧ y = 10
    · obtain ⟨rfl, rfl⟩ := h
      go_enter Tryz.func175, Tryz.ntmps175
      go_wp2_with fail
      go_ret2
      exact ⟨rfl, Below.refl _ _⟩
    · have hb : (x == 13 && y == 10) = false := by simpa using h
      have C2 := Lib.hid (fun W => unhex_any ⟨(Lib.toUpperD [x, y]).toArray⟩ W (by have := upperD_size [x, y]; simp at this ⊢; omega))
      rw [show (⟨(Lib.toUpperD [x, y]).toArray⟩ : ByteArray).data.toList = Lib.toUpperD [x, y] by simp, behind2 h] at C2
      generalize (⟨(Lib.toUpperD [x, y]).toArray⟩ : ByteArray) = u at C1 C2
      generalize (behind [x, y]).1.toArray = p at C2 ⊢
      generalize (behind [x, y]).2 = q at C2 ⊢
      clear h
      go_enter Tryz.func175, Tryz.ntmps175
      go_wp2_with fail
      refine C1.out.mono ?_
      rintro e w1 ⟨rfl, b1⟩
      go_wp2_with fail
      refine (C2.out _).mono ?_
      rintro e w2 ⟨rfl, b2⟩
      go_wp2_with fail
      go_ret2
      exact ⟨rfl, b1.trans (b2.mono b1.size)⟩
end Go.Proofs.YtpdodknldhbbhaaGreatDoor.Qu

namespace Go.Proofs.YtpdodknldhbbhaaGreatDoor.Sx
open Go.RowKit

/-- What a letter is worth; -1 of a byte that is none. -/
def wI (c : UInt8) : Int := Lib.indexByte lts c
def w6 (c : UInt8) : Nat := (wI c).toNat
def isL (c : UInt8) : Bool := decide (0 ≤ wI c)
def isP (c : UInt8) : Bool := c == 61
def blankB (c : UInt8) : Bool := decide (0 ≤ Lib.indexByte [32, 9, 13, 10] c)
theorem all_bytes {P : UInt8 → Prop} (h : ∀ n, n < 256 → P (UInt8.ofNat n)) (c : UInt8) : P c := by
  have := h c.toNat c.toNat_lt
  rwa [UInt8.ofNat_toNat] at this
theorem wI_bd (c : UInt8) : -1 ≤ wI c ∧ wI c ≤ 63 :=
  all_bytes (P := fun c => -1 ≤ wI c ∧ wI c ≤ 63) (by decide +kernel) c
theorem w6_lt (c : UInt8) : w6 c < 64 := by have := wI_bd c; unfold w6; omega
theorem w6_of {c : UInt8} (h : isL c = true) : wI c = (w6 c : Int) := by unfold isL at h; unfold w6; have := of_decide_eq_true h; omega
theorem isP_not (c : UInt8) : isL c = true → isP c = false :=
  all_bytes (P := fun c => isL c = true → isP c = false) (by decide +kernel) c
theorem isP_eq {c : UInt8} (h : isP c = true) : c = 61 := by unfold isP at h; exact beq_iff_eq.1 h
/-- A text without the bytes that are passed over. -/
def strip (l : List UInt8) : List UInt8 := l.filter fun c => !blankB c
theorem strip_nil : strip [] = [] := rfl
theorem strip_yes {c : UInt8} (r : List UInt8) (h : blankB c = true) : strip (c :: r) = strip r := by unfold strip; rw [List.filter_cons_of_neg (by simp [h])]
theorem strip_no {c : UInt8} (r : List UInt8) (h : blankB c = false) : strip (c :: r) = c :: strip r := by unfold strip; rw [List.filter_cons_of_pos (by simp [h])]
theorem strip_length (l : List UInt8) : (strip l).length ≤ l.length := List.length_filter_le _ _

/-- What is wrong with a letter at place i, behind a pad or not. -/
def fa (i : Nat) (bp : Bool) (c : UInt8) : Nat :=
  if !isP c && !isL c then 3 else if bp && i % 4 == 0 then 6 else if (isP c && decide (i % 4 < 2)) || (bp && !isP c) then 3 else 0
/-- The first fault. -/
def flt : Nat → Bool → List UInt8 → Nat
  | i, _, [] => if i % 4 = 0 then 0 else 1
  | i, bp, c :: r => if fa i bp c = 0 then flt (i + 1) (isP c) r else fa i bp c
theorem fa_mod (i : Nat) (bp : Bool) (c : UInt8) : fa (i + 4) bp c = fa i bp c := by unfold fa; rw [Nat.add_mod_right]
theorem flt_mod (l : List UInt8) : ∀ i bp, flt (i + 4) bp l = flt i bp l := by
  induction l with
  | nil => intro i bp; unfold flt; rw [Nat.add_mod_right]
  | cons c r ih => intro i bp; unfold flt; rw [fa_mod, show i + 4 + 1 = i + 1 + 4 by omega, ih]

/-- A group of four that is right but for its last letter's bits. -/
def ok4 (x : List UInt8) : Prop := ∃ a b c d, x = [a, b, c, d] ∧ isL a = true ∧ isL b = true ∧ ((isL c = true ∧ isL d = true) ∨ (isL c = true ∧ d = 61) ∨ (c = 61 ∧ d = 61))
theorem fa_ok {i : Nat} {bp : Bool} {c : UInt8} (h : fa i bp c = 0) : (isP c = true ∨ isL c = true) ∧ (bp = true → i % 4 ≠ 0 ∧ isP c = true) ∧ (isP c = true → 2 ≤ i % 4) := by
  unfold fa at h
  have hm : i % 4 = 0 ∨ i % 4 = 1 ∨ i % 4 = 2 ∨ i % 4 = 3 := by omega
  generalize isP c = x at *
  generalize isL c = y at *
  generalize i % 4 = m at *
  rcases hm with rfl | rfl | rfl | rfl <;> cases x <;> cases y <;> cases bp <;> simp_all
/-- A right text begins with a right group, and goes on only behind one without pads. -/
theorem flt_group {t : List UInt8} (h : flt 0 false t = 0) (h0 : 0 < t.length) : ∃ a b c d r, t = a :: b :: c :: d :: r ∧ ok4 [a, b, c, d] ∧ flt 0 false r = 0 ∧ (isP d = true → r = []) := by
  match t, h0 with
  | a :: t, _ =>
    unfold flt at h
    by_cases ha : fa 0 false a = 0
    · rw [if_pos ha] at h
      obtain ⟨a1, a2, a3⟩ := fa_ok ha
      have hpa : isP a = false := by cases e : isP a <;> simp_all
      rw [hpa] at h
      match t with
      | [] => simp [flt] at h
      | b :: t =>
        unfold flt at h
        by_cases hb : fa 1 false b = 0
        · rw [if_pos hb] at h
          obtain ⟨b1, b2, b3⟩ := fa_ok hb
          have hpb : isP b = false := by cases e : isP b <;> simp_all
          rw [hpb] at h
          match t with
          | [] => simp [flt] at h
          | c :: t =>
            unfold flt at h
            by_cases hc : fa 2 false c = 0
            · rw [if_pos hc] at h
              obtain ⟨c1, c2, c3⟩ := fa_ok hc
              match t with
              | [] => simp [flt] at h
              | d :: r =>
                unfold flt at h
                by_cases hd : fa 3 (isP c) d = 0
                · rw [if_pos hd] at h
                  obtain ⟨d1, d2, d3⟩ := fa_ok hd
                  have hla : isL a = true := by simpa [hpa] using a1
                  have hlb : isL b = true := by simpa [hpb] using b1
                  refine ⟨a, b, c, d, r, rfl, ⟨a, b, c, d, rfl, hla, hlb, ?_⟩, ?_, ?_⟩
                  · rcases c1 with hp | hl
                    · exact .inr (.inr ⟨isP_eq hp, isP_eq (d2 hp).2⟩)
                    · rcases d1 with hq | hm
                      · exact .inr (.inl ⟨hl, isP_eq hq⟩)
                      · exact .inl ⟨hl, hm⟩
                  · cases hq : isP d
                    · rw [hq] at h; rw [← flt_mod]; exact h
                    · rw [hq] at h
                      match r with
                      | [] => simp [flt]
                      | e :: r =>
                        unfold flt at h
                        by_cases he : fa 4 true e = 0
                        · have := (fa_ok he).2.1 rfl; simp at this
                        · rw [if_neg he] at h; exact absurd h he
                  · intro hq
                    match r with
                    | [] => rfl
                    | e :: r =>
                      rw [hq] at h
                      unfold flt at h
                      by_cases he : fa 4 true e = 0
                      · have := (fa_ok he).2.1 rfl; simp at this
                      · rw [if_neg he] at h; exact absurd h he
                · rw [if_neg hd] at h; exact absurd h hd
            · rw [if_neg hc] at h; exact absurd h hc
        · rw [if_neg hb] at h; exact absurd h hb
    · rw [if_neg ha] at h; exact absurd h ha

/-- The letters of a group that are no pads. -/
def said (x : List UInt8) : List UInt8 := Lib.trimRightS x [61, 61]
/-- The three bytes that letters say; a missing letter counts 0. -/
def gn (x : List UInt8) (i : Nat) : Nat := match x[i]? with | some c => w6 c | none => 0
def tri (x : List UInt8) : List UInt8 := [UInt8.ofNat (gn x 0 * 4 + gn x 1 / 16), UInt8.ofNat (gn x 1 % 16 * 16 + gn x 2 / 4), UInt8.ofNat (gn x 2 % 4 * 64 + gn x 3)]
/-- The bytes that a group says, and whether a bit that is missing is set. -/
def good (x : List UInt8) : List UInt8 := (tri (said x)).take ((said x).length - 1)
def bad (x : List UInt8) : Bool := tri (said x) != (good x ++ List.replicate (3 - (good x).length) 0)
/-- The bytes that letters say, or what is wrong. -/
def dec (l : List UInt8) : List UInt8 × Nat :=
  if flt 0 false (strip l) = 0 then (if (cut 4 (strip l)).any bad then ([], 3) else (((cut 4 (strip l)).map good).flatten, 0)) else ([], flt 0 false (strip l))
end Go.Proofs.YtpdodknldhbbhaaGreatDoor.Sx
