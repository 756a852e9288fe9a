/-
Texts joined in one file, each with its own conditions: Names and values of properties in plain words, over lists of bytes. No program in it, no conditions. · The document's small questions about bytes, names and values: their answers are the plain functions'. No conditions. · Names and parameters' values, as the document says them: the answers are the plain functions'. No conditions. · A parameter, as the document asks it; a property's parameters as cells that lie in a row. No conditions. · A card read line by line, and the same by descent: both read the same. Plain functions over any language of lines; no program in it, no conditions. · Cards as plain data of some depth, and how they lie in memory. No conditions. · Plain functions on bytes: capitals of ASCII alone, byte by byte; the names of charsets. No program in it, no conditions. · A property as a value, its cells, and what is wrong with it in plain words. No conditions. · Plain functions on bytes: digits of bytes, and bytes of digits. No program in it, no conditions. · Plain functions on bytes: which bytes are plain, bytes as letters. No program in it, no conditions. · Plain functions on bytes: what digits say. No program in it, no conditions. · Plain functions on bytes: a text in pieces of so many bytes. No program in it, no conditions. · Plain functions on bytes: letters of six bits. No program in it, no conditions. · Plain functions on bytes: bytes as letters, piece by piece. No program in it, no conditions. · Where a byte is in a text, from a place on, ahead of an end: the document's answer, in plain words. Conditions: the end lies within the text, the place not behind the end. · The program's questions about bytes and names: the answers are the plain functions'. No conditions. · A property's parameter by its name, and whether a property is great: the document's answers are the plain functions'. Conditions: the parameters lie below the caller's blocks, at most 2^40 of them. · A property's parameter by its name: the program's answer is the plain function's. Conditions: the parameters lie below the caller's blocks, at most 2^40 of them. · Lines in plain words: a text's lines, lines joined, lines folded, lines that go on with the one ahead. No conditions: plain functions on lists of bytes. · Small laws of single operations that the library lacks, over any program. No conditions beside those in each statement. · A property's line in plain words. No conditions.
-/
import Derived.WalkKit
import Derived.Lib.Hide
import Derived.Test.YtjgfbicllgalkaaGreatDoorRows
import Derived.RegionTactic
import Derived.IntWalk
import Derived.Below
import Derived.Laws.BitsAllLaws
namespace Go.Proofs.YtjgfbicllgalkaaGreatDoor.Pp

theorem list_size (s : ByteArray) : s.data.toList.length = s.size := by rw [Array.length_toList]; rfl
/-- A capital. -/
def lett (c : UInt8) : Bool := decide (65 ≤ (c.toNat : Int) ∧ (c.toNat : Int) ≤ 90)
/-- A byte of a name. -/
def nmc (c : UInt8) : Bool := lett c || decide (48 ≤ (c.toNat : Int) ∧ (c.toNat : Int) ≤ 57) || decide ((c.toNat : Int) = 45)
/-- A byte of a parameter's value. -/
def valc (c : UInt8) : Bool := decide (33 ≤ (c.toNat : Int) ∧ (c.toNat : Int) ≤ 126 ∧ ¬ (c.toNat : Int) = 59 ∧ ¬ (c.toNat : Int) = 58 ∧ ¬ (c.toNat : Int) = 61)
/-- A byte that no value of a property has. -/
def oddb (c : UInt8) : Bool := decide ((c.toNat : Int) = 0 ∨ (c.toNat : Int) = 10 ∨ (c.toNat : Int) = 13)
/-- Not a small letter. -/
def capb (c : UInt8) : Bool := !decide (97 ≤ (c.toNat : Int) ∧ (c.toNat : Int) ≤ 122)
def nameL (l : List UInt8) : Bool := match l with | [] => false | c :: r => decide ((c :: r).length ≤ 32) && lett c && (c :: r).all nmc
def valL (l : List UInt8) : Bool := match l with | [] => false | c :: r => decide ((c :: r).length ≤ 32) && (c :: r).all valc
def nameB (s : ByteArray) : Bool := nameL s.data.toList
def valB (s : ByteArray) : Bool := valL s.data.toList
def paramB (n v : ByteArray) : Bool := (decide (n.size = 0) || nameB n) && valB v

theorem str_none {t : ByteArray} (h : t.size = 0) : t.toList.isEmpty = true := by
  rw [ByteArray.toList_eq, List.isEmpty_iff]; exact List.eq_nil_of_length_eq_zero (by rw [list_size, h])
theorem str_some {t : ByteArray} (h : ¬ t.size = 0) : t.toList.isEmpty = false := by
  rw [ByteArray.toList_eq]; cases e : t.data.toList with
  | nil => have := list_size t; rw [e] at this; simp at this; omega
  | cons a r => rfl

theorem all_no {P : UInt8 → Bool} {s : ByteArray} {k : Nat} (h : k < s.size) (hp : P s[k] = false) : (s.data.toList.drop k).all P = false := by
  rw [List.drop_eq_getElem_cons (by rw [list_size]; exact h), List.all_cons]
  have : s.data.toList[k]'(by rw [list_size]; exact h) = s[k] := by simp; rfl
  rw [this, hp]; rfl
theorem all_yes {P : UInt8 → Bool} {s : ByteArray} {k : Nat} (h : k < s.size) (hp : P s[k] = true) : (s.data.toList.drop k).all P = (s.data.toList.drop (k + 1)).all P := by
  rw [List.drop_eq_getElem_cons (by rw [list_size]; exact h), List.all_cons]
  have : s.data.toList[k]'(by rw [list_size]; exact h) = s[k] := by simp; rfl
  rw [this, hp]; rfl
theorem all_end {P : UInt8 → Bool} {s : ByteArray} : (s.data.toList.drop s.size).all P = true := by
  rw [List.drop_eq_nil_of_le (by rw [list_size]; exact Nat.le_refl _)]; rfl

theorem nameB_none {s : ByteArray} (h : s.size = 0) : nameB s = false := by
  unfold nameB; rw [List.eq_nil_of_length_eq_zero (l := s.data.toList) (by rw [list_size, h])]; rfl
theorem nameB_long {s : ByteArray} (h : ¬ s.size ≤ 32) : nameB s = false := by
  unfold nameB nameL; rw [← list_size] at h
  cases e : s.data.toList with
  | nil => rfl
  | cons a r => rw [e] at h; simp only; rw [decide_eq_false h]; rfl
theorem nameB_some {s : ByteArray} (h : 0 < s.size) (h' : s.size ≤ 32) : nameB s = (lett s[0] && s.data.toList.all nmc) := by
  unfold nameB nameL
  have h0 : s.data.toList[0]'(by rw [list_size]; exact h) = s[0] := by simp; rfl
  have hl := list_size s
  cases e : s.data.toList with
  | nil => rw [e] at hl; simp at hl; omega
  | cons a r =>
    simp only [e, List.getElem_cons_zero] at h0
    rw [e] at hl
    simp only
    rw [decide_eq_true (by rw [hl]; exact h'), h0, Bool.true_and]
theorem valB_none {s : ByteArray} (h : s.size = 0) : valB s = false := by
  unfold valB; rw [List.eq_nil_of_length_eq_zero (l := s.data.toList) (by rw [list_size, h])]; rfl
theorem valB_long {s : ByteArray} (h : ¬ s.size ≤ 32) : valB s = false := by
  unfold valB valL; rw [← list_size] at h
  cases e : s.data.toList with
  | nil => rfl
  | cons a r => rw [e] at h; simp only; rw [decide_eq_false h]; rfl
theorem valB_some {s : ByteArray} (h : 0 < s.size) (h' : s.size ≤ 32) : valB s = s.data.toList.all valc := by
  unfold valB valL
  have hl := list_size s
  cases e : s.data.toList with
  | nil => rw [e] at hl; simp at hl; omega
  | cons a r =>
    rw [e] at hl
    simp only
    rw [decide_eq_true (by rw [hl]; exact h'), Bool.true_and]
end Go.Proofs.YtjgfbicllgalkaaGreatDoor.Pp

namespace Go.Proofs.YtjgfbicllgalkaaGreatDoor.Pp
open Go.RowKit

theorem ret_bool {a b : Bool} (h : a = b) : Ending.returned (.bool a) = .returned (.bool b) := by rw [h]

theorem rLetter_any (c : UInt8) (w : World) :
    Calls Tryz.prog 236 #[.int .u8 (c.toNat : Int)] w fun e w' => e = .returned (.bool (lett c)) ∧ w = w' := by
  have hb := c.toNat_lt
  go_enter Tryz.func236, Tryz.ntmps236
  go_wp2
  all_goals (go_ret; exact ⟨ret_bool (by unfold lett; rw [Bool.eq_iff_iff]; simp; try omega), rfl⟩)
theorem rOdd_any (c : UInt8) (w : World) :
    Calls Tryz.prog 186 #[.int .u8 (c.toNat : Int)] w fun e w' => e = .returned (.bool (oddb c)) ∧ w = w' := by
  have hb := c.toNat_lt
  go_enter Tryz.func186, Tryz.ntmps186
  go_wp2
  all_goals (go_ret; exact ⟨ret_bool (by unfold oddb; rw [Bool.eq_iff_iff]; simp; try omega), rfl⟩)
end Go.Proofs.YtjgfbicllgalkaaGreatDoor.Pp

namespace Go.Proofs.YtjgfbicllgalkaaGreatDoor.Pp
open Go.RowKit

set_option maxHeartbeats 1600000 in
theorem rName_any (s : ByteArray) (w : World) :
    Calls Tryz.prog 184 #[.string s] w fun e w' => e = .returned (.bool (nameB s)) ∧ w = w' := by
  by_cases hz : s.size = 0
  · rw [nameB_none hz]
    have hs0 := str_none hz
    go_enter Tryz.func184, Tryz.ntmps184
    go_wp2_with fail
    go_ret
    exact ⟨rfl, rfl⟩
  have hs0 := str_some hz
  by_cases hl : 32 < (s.size : Int)
  · rw [nameB_long (by omega)]
    go_enter Tryz.func184, Tryz.ntmps184
    go_wp2_with fail
    go_ret
    exact ⟨rfl, rfl⟩
  have hp : 0 < s.size := by omega
  rw [nameB_some hp (by omega)]
  obtain ⟨r, hr⟩ : ∃ r, s.data.toList.all nmc = r := ⟨_, rfl⟩
  rw [hr]
  have C1 := Lib.hid (fun W => rLetter_any s[0] W)
  generalize lett s[0] = p at C1 ⊢
  have HE := Lib.hid (all_end (P := nmc) (s := s))
  cases p with
  | false =>
    go_enter Tryz.func184, Tryz.ntmps184
    go_wp2_with fail
    refine (C1.out _).mono ?_
    rintro e w' ⟨rfl, rfl⟩
    go_wp2_with fail
    go_ret
    exact ⟨rfl, rfl⟩
  | true =>
    go_enter Tryz.func184, Tryz.ntmps184
    go_wp2_with fail
    refine (C1.out _).mono ?_
    rintro e w' ⟨rfl, rfl⟩
    go_wp2_with fail
    go_loop [3] (fun iv => ∃ k : Nat, iv = .int .i64 k ∧ k ≤ s.size ∧ Hid ((s.data.toList.drop k).all nmc = r)) (fun iv => s.size - (intOf iv).toNat)
    case atStart => exact ⟨0, rfl, Nat.zero_le _, Lib.hid (by rw [List.drop_zero]; exact hr)⟩
    case round =>
      obtain ⟨k, rfl, hk, HK⟩ := hrel
      clear hr C1
      by_cases hlt : k < s.size
      · have HN := Lib.hid (all_no (P := nmc) hlt)
        have HY := Lib.hid (all_yes (P := nmc) hlt)
        have C2 := Lib.hid (fun W => rLetter_any s[k] W)
        obtain ⟨c, hc⟩ : ∃ c : UInt8, s[k] = c := ⟨_, rfl⟩
        have hb := c.toNat_lt
        have HU := Lib.hid (show nmc c = (lett c || decide (48 ≤ (c.toNat : Int) ∧ (c.toNat : Int) ≤ 57) || decide ((c.toNat : Int) = 45)) from rfl)
        rw [hc] at HN HY C2
        generalize lett c = q at C2 HU
        cases q with
        | true =>
          have HK' := Lib.hid ((HY.out (by rw [HU.out]; rfl)).symm.trans HK.out)
          go_wp2_with fail
          refine (C2.out _).mono ?_
          rintro e w' ⟨rfl, rfl⟩
          go_wp2_with fail
          go_round
          case rel => exact ⟨k + 1, by go_num, by omega, HK'⟩
          case measure => simp [intOf]; omega
        | false =>
          by_cases h1 : (c.toNat : Int) < 48
          · by_cases h3 : (c.toNat : Int) = 45
            · rw [h3] at C2
              have HK' := Lib.hid ((HY.out (by rw [HU.out, decide_eq_true h3, Bool.or_true])).symm.trans HK.out)
              go_wp2_with fail
              refine (C2.out _).mono ?_
              rintro e w' ⟨rfl, rfl⟩
              go_wp2_with fail
              go_round
              case rel => exact ⟨k + 1, by go_num, by omega, HK'⟩
              case measure => simp [intOf]; omega
            · obtain rfl : false = r := by rw [← HK.out]; exact (HN.out (by rw [HU.out, decide_eq_false h3, decide_eq_false (by omega)]; rfl)).symm
              go_wp2_with fail
              refine (C2.out _).mono ?_
              rintro e w' ⟨rfl, rfl⟩
              go_wp2_with fail
              go_ret
              exact ⟨rfl, rfl⟩
          · by_cases h2 : 57 < (c.toNat : Int)
            · have h3 : ¬ (c.toNat : Int) = 45 := by omega
              obtain rfl : false = r := by rw [← HK.out]; exact (HN.out (by rw [HU.out, decide_eq_false h3, decide_eq_false (by omega)]; rfl)).symm
              go_wp2_with fail
              refine (C2.out _).mono ?_
              rintro e w' ⟨rfl, rfl⟩
              go_wp2_with fail
              go_ret
              exact ⟨rfl, rfl⟩
            · have HK' := Lib.hid ((HY.out (by rw [HU.out, decide_eq_true (show 48 ≤ (c.toNat : Int) ∧ (c.toNat : Int) ≤ 57 by omega)]; rfl)).symm.trans HK.out)
              go_wp2_with fail
              refine (C2.out _).mono ?_
              rintro e w' ⟨rfl, rfl⟩
              go_wp2_with fail
              go_round
              case rel => exact ⟨k + 1, by go_num, by omega, HK'⟩
              case measure => simp [intOf]; omega
      · obtain rfl : k = s.size := by omega
        obtain rfl : true = r := by rw [← HK.out]; exact HE.out.symm
        go_wp2_with fail
        go_ret
        exact ⟨rfl, rfl⟩

set_option maxHeartbeats 400000 in
theorem rValue_any (s : ByteArray) (w : World) :
    Calls Tryz.prog 237 #[.string s] w fun e w' => e = .returned (.bool (valB s)) ∧ w = w' := by
  by_cases hz : s.size = 0
  · rw [valB_none hz]
    have hs0 := str_none hz
    go_enter Tryz.func237, Tryz.ntmps237
    go_wp2_with fail
    go_ret
    exact ⟨rfl, rfl⟩
  have hs0 := str_some hz
  by_cases hl : 32 < (s.size : Int)
  · rw [valB_long (by omega)]
    go_enter Tryz.func237, Tryz.ntmps237
    go_wp2_with fail
    go_ret
    exact ⟨rfl, rfl⟩
  have hp : 0 < s.size := by omega
  rw [valB_some hp (by omega)]
  obtain ⟨r, hr⟩ : ∃ r, s.data.toList.all valc = r := ⟨_, rfl⟩
  rw [hr]
  have HE := Lib.hid (all_end (P := valc) (s := s))
  go_enter Tryz.func237, Tryz.ntmps237
  go_wp2_with fail
  go_loop [3] (fun iv => ∃ k : Nat, iv = .int .i64 k ∧ k ≤ s.size ∧ Hid ((s.data.toList.drop k).all valc = r)) (fun iv => s.size - (intOf iv).toNat)
  case atStart => exact ⟨0, rfl, Nat.zero_le _, Lib.hid (by rw [List.drop_zero]; exact hr)⟩
  case round =>
    obtain ⟨k, rfl, hk, HK⟩ := hrel
    clear hr
    by_cases hlt : k < s.size
    · have HN := Lib.hid (all_no (P := valc) hlt)
      have HY := Lib.hid (all_yes (P := valc) hlt)
      obtain ⟨c, hc⟩ : ∃ c : UInt8, s[k] = c := ⟨_, rfl⟩
      have hb := c.toNat_lt
      rw [hc] at HN HY
      by_cases h1 : (c.toNat : Int) < 33
      · obtain rfl : false = r := by rw [← HK.out]; exact (HN.out (by unfold valc; rw [decide_eq_false (by omega)])).symm
        go_wp2_with fail
        go_ret
        exact ⟨rfl, rfl⟩
      by_cases h2 : 126 < (c.toNat : Int)
      · obtain rfl : false = r := by rw [← HK.out]; exact (HN.out (by unfold valc; rw [decide_eq_false (by omega)])).symm
        go_wp2_with fail
        go_ret
        exact ⟨rfl, rfl⟩
      by_cases h3 : (c.toNat : Int) = 59
      · obtain rfl : false = r := by rw [← HK.out]; exact (HN.out (by unfold valc; rw [decide_eq_false (by omega)])).symm
        go_wp2_with fail
        go_ret
        exact ⟨rfl, rfl⟩
      by_cases h4 : (c.toNat : Int) = 58
      · obtain rfl : false = r := by rw [← HK.out]; exact (HN.out (by unfold valc; rw [decide_eq_false (by omega)])).symm
        go_wp2_with fail
        go_ret
        exact ⟨rfl, rfl⟩
      by_cases h5 : (c.toNat : Int) = 61
      · obtain rfl : false = r := by rw [← HK.out]; exact (HN.out (by unfold valc; rw [decide_eq_false (by omega)])).symm
        go_wp2_with fail
        go_ret
        exact ⟨rfl, rfl⟩
      have e3 : ((c.toNat : Int) == 59) = false := by simpa using h3
      have e4 : ((c.toNat : Int) == 58) = false := by simpa using h4
      have e5 : ((c.toNat : Int) == 61) = false := by simpa using h5
      have HK' := Lib.hid ((HY.out (by unfold valc; rw [decide_eq_true ⟨by omega, by omega, h3, h4, h5⟩])).symm.trans HK.out)
      go_wp2_with fail
      go_round
      case rel => exact ⟨k + 1, by go_num, by omega, HK'⟩
      case measure => simp [intOf]; omega
    · obtain rfl : k = s.size := by omega
      obtain rfl : true = r := by rw [← HK.out]; exact HE.out.symm
      go_wp2_with fail
      go_ret
      exact ⟨rfl, rfl⟩
end Go.Proofs.YtjgfbicllgalkaaGreatDoor.Pp

namespace Go.Proofs.YtjgfbicllgalkaaGreatDoor.Pp
open Go.RowKit

set_option maxHeartbeats 400000 in
theorem rParam_any (n v : ByteArray) (w : World) :
    Calls Tryz.prog 185 #[.agg #[.string n, .string v]] w fun e w' => e = .returned (.bool (paramB n v)) ∧ Below w.heap.size w w' := by
  have C1 := Lib.hid (fun W => rName_any n W)
  have C2 := Lib.hid (fun W => rValue_any v W)
  unfold paramB
  generalize nameB n = p at C1 ⊢
  generalize valB v = q at C2 ⊢
  by_cases hz : n.size = 0
  · have hs0 := str_none hz
    rw [decide_eq_true hz, Bool.true_or, Bool.true_and]
    go_enter Tryz.func185, Tryz.ntmps185
    go_wp2_with fail
    refine (C2.out _).mono ?_
    rintro e w' ⟨rfl, rfl⟩
    go_wp2_with fail
    go_ret
    exact ⟨rfl, (Below.refl _ _).alloc (Nat.le_refl _) _⟩
  · have hs0 := str_some hz
    rw [decide_eq_false hz, Bool.false_or]
    cases p with
    | false =>
      go_enter Tryz.func185, Tryz.ntmps185
      go_wp2_with fail
      refine (C1.out _).mono ?_
      rintro e w' ⟨rfl, rfl⟩
      go_wp2_with fail
      go_ret
      exact ⟨rfl, (Below.refl _ _).alloc (Nat.le_refl _) _⟩
    | true =>
      go_enter Tryz.func185, Tryz.ntmps185
      go_wp2_with fail
      refine (C1.out _).mono ?_
      rintro e w' ⟨rfl, rfl⟩
      go_wp2_with fail
      refine (C2.out _).mono ?_
      rintro e w' ⟨rfl, rfl⟩
      go_wp2_with fail
      go_ret
      exact ⟨rfl, (Below.refl _ _).alloc (Nat.le_refl _) _⟩

/-- The slice v, whose block lies below B, holds the parameters ps. -/
def Ps (w : World) (B : Nat) (v : Value) (ps : List (ByteArray × ByteArray)) : Prop :=
  (ps = [] ∧ (v = .slice none 0 0 ∨ ∃ ad cap, v = .slice (some ad) 0 cap)) ∨ ∃ b o cap, v = .slice (some ⟨b, o, none⟩) ps.length cap ∧ b < B ∧ ∀ i, (h : i < ps.length) → w.cell? ⟨b, o + i * 2, none⟩ = some (.string ps[i].1) ∧ w.cell? ⟨b, o + i * 2 + 1, none⟩ = some (.string ps[i].2)
theorem Ps.below {w w' : World} {B : Nat} {v : Value} {ps : List (ByteArray × ByteArray)} (h : Ps w B v ps) (hb : Below B w w') : Ps w' B v ps := by
  rcases h with h | ⟨b, o, cap, h1, h2, h3⟩
  · exact .inl h
  · exact .inr ⟨b, o, cap, h1, h2, fun i hi => ⟨(hb.cell (p := ⟨b, o + i * 2, none⟩) h2).trans (h3 i hi).1, (hb.cell (p := ⟨b, o + i * 2 + 1, none⟩) h2).trans (h3 i hi).2⟩⟩
theorem Ps.up {w : World} {B B' : Nat} {v : Value} {ps : List (ByteArray × ByteArray)} (h : Ps w B v ps) (hb : B ≤ B') : Ps w B' v ps := by
  rcases h with h | ⟨b, o, cap, h1, h2, h3⟩
  · exact .inl h
  · exact .inr ⟨b, o, cap, h1, Nat.lt_of_lt_of_le h2 hb, h3⟩
theorem Ps.shape {w : World} {B : Nat} {v : Value} {ps : List (ByteArray × ByteArray)} (h : Ps w B v ps) : ∃ a cap, v = .slice a ps.length cap := by
  rcases h with ⟨rfl, rfl | ⟨ad, cap, rfl⟩⟩ | ⟨b, o, cap, h1, _, _⟩
  · exact ⟨none, 0, rfl⟩
  · exact ⟨some ad, cap, rfl⟩
  · exact ⟨_, cap, h1⟩
/-- One of them: its cells. -/
theorem Ps.at_ {w : World} {B i : Nat} {v : Value} {ps : List (ByteArray × ByteArray)} (h : Ps w B v ps) (hi : i < ps.length) : ∃ b o cap, v = .slice (some ⟨b, o, none⟩) ps.length cap ∧ b < B ∧ w.cell? ⟨b, o + i * 2, none⟩ = some (.string ps[i].1) ∧ w.cell? ⟨b, o + i * 2 + 1, none⟩ = some (.string ps[i].2) := by
  rcases h with ⟨rfl, _⟩ | ⟨b, o, cap, h1, h2, h3⟩
  · simp at hi
  · exact ⟨b, o, cap, h1, h2, h3 i hi⟩
end Go.Proofs.YtjgfbicllgalkaaGreatDoor.Pp

namespace Go.Proofs.YtjgfbicllgalkaaGreatDoor.Vm

/-- A card: properties, each with cards of its own. -/
inductive Tr (P : Type) where
  | node (l : List (P × List (Tr P)))
def Tr.ps {P : Type} : Tr P → List (P × List (Tr P))
  | .node l => l

/-- What lines say. -/
structure Lang where
  P : Type
  Q : Type
  bl : ByteArray → Bool
  isB : ByteArray → Bool
  isV : ByteArray → Bool
  isE : ByteArray → Bool
  rd : ByteArray → Int × Q
  /-- If a property goes on in the next line: what it is without the mark. -/
  on : Q → Option Q
  put : Q → ByteArray → Q
  mean : Q → Int × P
  agent : P → Bool
  hasV : P → Bool

variable {G : Lang}
abbrev Ls := List (Nat × ByteArray)
/-- The next line that is not blank. -/
def next (G : Lang) : Ls → Option ((Nat × ByteArray) × Ls)
  | [] => none
  | x :: r => if G.bl x.2 = true then next G r else some (x, r)
def soft (G : Lang) : G.Q → Ls → Option (G.Q × Ls)
  | q, [] => match G.on q with
    | none => some (q, [])
    | some _ => none
  | q, x :: r => match G.on q with
    | none => some (q, x :: r)
    | some q' => soft G (G.put q' x.2) r
/-- The end of the lines; a fault at a line; an answer, and the lines that are left. -/
inductive Res (α : Type) where
  | end_ : Res α
  | bad : Nat → Int → Res α
  | ok : α → Ls → Res α

/-- A property that has been read up to its value: what it is, and the lines that are left. -/
def tailR (G : Lang) (card : Ls → Res (Tr G.P)) (deepest : Bool) (k : Nat) (q : G.Q) (r : Ls) : Res (G.P × List (Tr G.P)) :=
  if (G.mean q).1 ≠ 0 then .bad k (G.mean q).1 else
  if G.agent (G.mean q).2 = false then .ok ((G.mean q).2, []) r else
  if G.hasV (G.mean q).2 = true then .bad k 5 else
  if deepest = true then .bad k 9 else
  match card r with
  | .end_ => .end_
  | .bad k e => .bad k e
  | .ok c r' => .ok ((G.mean q).2, [c]) r'
def propR (G : Lang) (card : Ls → Res (Tr G.P)) (deepest : Bool) (s : ByteArray) (k : Nat) (r : Ls) : Res (G.P × List (Tr G.P)) :=
  if (G.rd s).1 ≠ 0 then .bad k (G.rd s).1 else
  match soft G (G.rd s).2 r with
  | none => .end_
  | some (q, r') => tailR G card deepest k q r'
def bodyR (G : Lang) (pr : ByteArray → Nat → Ls → Res (G.P × List (Tr G.P))) : Nat → List (G.P × List (Tr G.P)) → Ls → Res (Tr G.P)
  | 0, _, _ => .end_
  | n + 1, f, l => match next G l with
    | none => .end_
    | some (x, r) =>
      if G.isE x.2 = true then .ok (.node f) r else
      if f.length = 24 then .bad x.1 4 else
      match pr x.2 x.1 r with
      | .end_ => .end_
      | .bad k e => .bad k e
      | .ok p r' => bodyR G pr n (f ++ [p]) r'
/-- The card of the next lines; so many more may lie within one another. -/
def cardR (G : Lang) (N : Nat) : Nat → Ls → Res (Tr G.P)
  | 0, _ => .end_
  | d + 1, l => match next G l with
    | none => .end_
    | some (x, r) =>
      if G.isB x.2 = false then .bad x.1 3 else
      match next G r with
      | none => .end_
      | some (y, r') =>
        if G.isV y.2 = false then .bad y.1 3 else bodyR G (propR G (cardR G N d) (d == 0)) N [] r'
/-- What reading answers: a line, an error, a card. -/
abbrev Ans (G : Lang) := Nat × Int × Tr G.P
def fail {G : Lang} (k : Nat) (e : Int) : Ans G := (k, e, .node [])
def parseR (G : Lang) (N : Nat) (l : Ls) : Ans G :=
  match cardR G N 3 l with
  | .end_ => fail 0 1
  | .bad k e => fail k e
  | .ok c r => match next G r with
    | none => (0, 0, c)
    | some (x, _) => fail x.1 6

/-- A reader's state: what it wants, the cards that are open (the innermost first), the card that has ended; or a property that goes on, with its line's number. -/
inductive St (G : Lang) where
  | at_ (w : Nat) (os : List (List (G.P × List (Tr G.P)))) (c : Tr G.P)
  | on (k : Nat) (os : List (List (G.P × List (Tr G.P)))) (c : Tr G.P) (q : G.Q)
inductive Out (G : Lang) where
  | go (s : St G)
  | bad (k : Nat) (e : Int)
def addP {α : Type} : List (List α) → α → List (List α)
  | [], _ => []
  | f :: os, p => (f ++ [p]) :: os
/-- The last property gets a card. -/
def setA {G : Lang} (f : List (G.P × List (Tr G.P))) (c : Tr G.P) : List (G.P × List (Tr G.P)) :=
  match f.getLast? with
  | none => []
  | some p => f.dropLast ++ [(p.1, [c])]
def ended {G : Lang} (os : List (List (G.P × List (Tr G.P)))) (c : Tr G.P) : St G :=
  match os with
  | [] => .at_ 2 [] c
  | [f] => .at_ 3 [] (.node f)
  | f :: g :: os => .at_ 2 (setA g (.node f) :: os) c
/-- A property whose value does not go on. -/
def takeD {G : Lang} (k : Nat) (os : List (List (G.P × List (Tr G.P)))) (c : Tr G.P) (q : G.Q) : Out G :=
  if (G.mean q).1 ≠ 0 then .bad k (G.mean q).1 else
  if G.agent (G.mean q).2 = false then .go (.at_ 2 (addP os ((G.mean q).2, [])) c) else
  if G.hasV (G.mean q).2 = true then .bad k 5 else
  if os.length = 3 then .bad k 9 else .go (.at_ 0 (addP os ((G.mean q).2, [])) c)
def takeV {G : Lang} (k : Nat) (os : List (List (G.P × List (Tr G.P)))) (c : Tr G.P) (q : G.Q) : Out G :=
  match G.on q with
  | some q' => .go (.on k os c q')
  | none => takeD k os c q
def takeP {G : Lang} (k : Nat) (os : List (List (G.P × List (Tr G.P)))) (c : Tr G.P) (s : ByteArray) : Out G :=
  if (os.headD []).length = 24 then .bad k 4 else
  if (G.rd s).1 ≠ 0 then .bad k (G.rd s).1 else takeV k os c (G.rd s).2
def takeL {G : Lang} (w : Nat) (os : List (List (G.P × List (Tr G.P)))) (c : Tr G.P) (k : Nat) (s : ByteArray) : Out G :=
  if w = 0 ∧ G.isB s = true then .go (.at_ 1 ([] :: os) c) else
  if w = 1 ∧ G.isV s = true then .go (.at_ 2 os c) else
  if w = 0 ∨ w = 1 then .bad k 3 else
  if w = 3 then .bad k 6 else
  if G.isE s = true then .go (ended os c) else takeP k os c s
def step {G : Lang} : St G → Nat × ByteArray → Out G
  | .at_ w os c, x => if G.bl x.2 = true then .go (.at_ w os c) else takeL w os c x.1 x.2
  | .on k os c q, x => takeV k os c (G.put q x.2)
def done {G : Lang} : St G → Ans G
  | .at_ 3 _ c => (0, 0, c)
  | _ => fail 0 1
def run {G : Lang} : St G → Ls → Ans G
  | s, [] => done s
  | s, x :: r => match step s x with
    | .go s' => run s' r
    | .bad k e => fail k e
def fin {G : Lang} : Out G → Ls → Ans G
  | .go s, r => run s r
  | .bad k e, _ => fail k e

theorem run_cons (s : St G) (x : Nat × ByteArray) (r : Ls) : run s (x :: r) = fin (step s x) r := by
  show (match step s x with | .go s' => run s' r | .bad k e => fail k e) = _
  cases step s x <;> rfl
theorem next_len : ∀ {l : Ls} {x : Nat × ByteArray} {r : Ls}, next G l = some (x, r) → r.length < l.length
  | y :: l, x, r, h => by
    unfold next at h
    by_cases hb : G.bl y.2 = true
    · rw [if_pos hb] at h; have := next_len h; simp; omega
    · rw [if_neg hb] at h; cases h; simp
theorem soft_len : ∀ {l : Ls} {q q' : G.Q} {r : Ls}, soft G q l = some (q', r) → r.length ≤ l.length
  | [], q, q', r, h => by
    unfold soft at h
    cases ho : G.on q with
    | none => rw [ho] at h; cases h; simp
    | some _ => rw [ho] at h; cases h
  | x :: l, q, q', r, h => by
    unfold soft at h
    cases ho : G.on q with
    | none => rw [ho] at h; cases h; simp
    | some _ => rw [ho] at h; have := soft_len h; simp; omega
theorem run_skip : ∀ (l : Ls) (w : Nat) (os : List (List (G.P × List (Tr G.P)))) (c : Tr G.P),
    run (.at_ w os c) l = match next G l with | none => done (.at_ w os c) | some (x, r) => fin (takeL w os c x.1 x.2) r
  | [], _, _, _ => rfl
  | y :: l, w, os, c => by
    rw [run_cons]
    simp only [step, next]
    by_cases hb : G.bl y.2 = true
    · rw [if_pos hb, if_pos hb]; exact run_skip l w os c
    · rw [if_neg hb, if_neg hb]
theorem fin_soft : ∀ (l : Ls) (k : Nat) (os : List (List (G.P × List (Tr G.P)))) (c : Tr G.P) (q : G.Q),
    fin (takeV k os c q) l = match soft G q l with | none => fail 0 1 | some (q', r) => fin (takeD k os c q') r
  | [], k, os, c, q => by
    unfold takeV soft
    cases ho : G.on q with
    | none => rfl
    | some q' => rfl
  | x :: l, k, os, c, q => by
    unfold takeV soft
    cases ho : G.on q with
    | none => rfl
    | some q' =>
      show run (.on k os c q') (x :: l) = _
      rw [run_cons]
      exact fin_soft l k os c (G.put q' x.2)

/-- What is left of a card's lines is shorter. -/
theorem body_len {pr : ByteArray → Nat → Ls → Res (G.P × List (Tr G.P))} (hp : ∀ s k l p r, pr s k l = .ok p r → r.length ≤ l.length) : ∀ (n : Nat) (f : List (G.P × List (Tr G.P))) (l : Ls) (t : Tr G.P) (r : Ls), bodyR G pr n f l = .ok t r → r.length ≤ l.length
  | 0, f, l, t, r, h => by unfold bodyR at h; cases h
  | n + 1, f, l, t, r, h => by
    unfold bodyR at h
    cases hn : next G l with
    | none => rw [hn] at h; cases h
    | some x =>
      obtain ⟨x, r0⟩ := x
      rw [hn] at h
      simp only at h
      have := next_len hn
      split at h
      · cases h; omega
      · split at h
        · cases h
        · cases hq : pr x.2 x.1 r0 with
          | end_ => rw [hq] at h; cases h
          | bad k e => rw [hq] at h; cases h
          | ok p r' =>
            rw [hq] at h
            have h1 := hp _ _ _ _ _ hq
            have h2 := body_len hp n _ _ _ _ h
            omega
theorem prop_len {card : Ls → Res (Tr G.P)} {d : Bool} (hc : ∀ l t r, card l = .ok t r → r.length ≤ l.length) (s : ByteArray) (k : Nat) (l : Ls) (p : G.P × List (Tr G.P)) (r : Ls) (h : propR G card d s k l = .ok p r) : r.length ≤ l.length := by
  unfold propR at h
  split at h
  · cases h
  · cases hs : soft G (G.rd s).2 l with
    | none => rw [hs] at h; cases h
    | some y =>
      obtain ⟨q, r'⟩ := y
      rw [hs] at h
      simp only at h
      have := soft_len hs
      unfold tailR at h
      split at h
      · cases h
      · split at h
        · cases h; exact this
        · split at h
          · cases h
          · split at h
            · cases h
            · cases hq : card r' with
              | end_ => rw [hq] at h; cases h
              | bad k e => rw [hq] at h; cases h
              | ok c r2 => rw [hq] at h; cases h; have := hc _ _ _ hq; omega
theorem card_len (N : Nat) : ∀ (d : Nat) (l : Ls) (t : Tr G.P) (r : Ls), cardR G N d l = .ok t r → r.length ≤ l.length
  | 0, l, t, r, h => by unfold cardR at h; cases h
  | d + 1, l, t, r, h => by
    unfold cardR at h
    cases hn : next G l with
    | none => rw [hn] at h; cases h
    | some x =>
      obtain ⟨x, r0⟩ := x
      rw [hn] at h
      simp only at h
      have h1 := next_len hn
      split at h
      · cases h
      · cases hn2 : next G r0 with
        | none => rw [hn2] at h; cases h
        | some y =>
          obtain ⟨y, r1⟩ := y
          rw [hn2] at h
          simp only at h
          have h2 := next_len hn2
          split at h
          · cases h
          · have := body_len (fun s k l p r hq => prop_len (card_len N d) s k l p r hq) _ _ _ _ _ h
            omega

/-- Behind a card that has been read by descent. -/
def after {G : Lang} (R : Res (Tr G.P)) (f : Tr G.P → Ls → Ans G) : Ans G :=
  match R with
  | .end_ => fail 0 1
  | .bad k e => fail k e
  | .ok t r => f t r
theorem setA_last {f : List (G.P × List (Tr G.P))} {p : G.P} {a : List (Tr G.P)} {c : Tr G.P} : setA (f ++ [(p, a)]) c = f ++ [(p, [c])] := by
  unfold setA; simp

/-- The lines of a card, from its properties on: line by line as by descent. -/
theorem run_body (N : Nat) : ∀ (d : Nat), d ≤ 2 → ∀ (n : Nat) (f : List (G.P × List (Tr G.P))) (os : List (List (G.P × List (Tr G.P)))) (c : Tr G.P) (l : Ls), l.length < n → n ≤ N → d + os.length = 2 →
    run (.at_ 2 (f :: os) c) l = after (bodyR G (propR G (cardR G N d) (d == 0)) n f l) (fun t r => run (ended (t.ps :: os) c) r) := by
  intro d
  induction d with
  | zero =>
    intro _ n
    induction n with
    | zero => intro f os c l h; omega
    | succ n ih =>
      intro f os c l hl hN hd
      rw [run_skip]
      unfold bodyR
      cases hn : next G l with
      | none => rfl
      | some x =>
        obtain ⟨x, r⟩ := x
        have hr := next_len hn
        simp only
        unfold takeL
        rw [if_neg (by omega), if_neg (by omega), if_neg (by omega), if_neg (by omega)]
        by_cases hE : G.isE x.2 = true
        · rw [if_pos hE, if_pos hE]; rfl
        · rw [if_neg hE, if_neg hE]
          unfold takeP propR
          show fin (if f.length = 24 then _ else _) r = _
          by_cases h24 : f.length = 24
          · rw [if_pos h24, if_pos h24]; rfl
          · rw [if_neg h24, if_neg h24]
            by_cases he : (G.rd x.2).1 = 0
            · have he' : ¬ (G.rd x.2).1 ≠ 0 := fun h => h he
              rw [if_neg he', if_neg he', fin_soft]
              cases hs : soft G (G.rd x.2).2 r with
              | none => rfl
              | some y =>
                obtain ⟨q, r'⟩ := y
                have hr' := soft_len hs
                simp only
                unfold takeD tailR
                by_cases hm : (G.mean q).1 = 0
                · have hm' : ¬ (G.mean q).1 ≠ 0 := fun h => h hm
                  rw [if_neg hm', if_neg hm']
                  by_cases ha : G.agent (G.mean q).2 = false
                  · rw [if_pos ha, if_pos ha]
                    exact ih _ _ _ _ (by omega) (by omega) hd
                  · rw [if_neg ha, if_neg ha]
                    by_cases hv : G.hasV (G.mean q).2 = true
                    · rw [if_pos hv, if_pos hv]; rfl
                    · rw [if_neg hv, if_neg hv, if_pos (by simp; omega), if_pos (by rfl)]; rfl
                · rw [if_pos hm, if_pos hm]; rfl
            · rw [if_pos he, if_pos he]; rfl
  | succ d ihd =>
    intro hd2 n
    have ihd := ihd (by omega)
    induction n with
    | zero => intro f os c l h; omega
    | succ n ih =>
      intro f os c l hl hN hd
      rw [run_skip]
      unfold bodyR
      cases hn : next G l with
      | none => rfl
      | some x =>
        obtain ⟨x, r⟩ := x
        have hr := next_len hn
        simp only
        unfold takeL
        rw [if_neg (by omega), if_neg (by omega), if_neg (by omega), if_neg (by omega)]
        by_cases hE : G.isE x.2 = true
        · rw [if_pos hE, if_pos hE]; rfl
        · rw [if_neg hE, if_neg hE]
          unfold takeP propR
          show fin (if f.length = 24 then _ else _) r = _
          by_cases h24 : f.length = 24
          · rw [if_pos h24, if_pos h24]; rfl
          · rw [if_neg h24, if_neg h24]
            by_cases he : (G.rd x.2).1 = 0
            · have he' : ¬ (G.rd x.2).1 ≠ 0 := fun h => h he
              rw [if_neg he', if_neg he', fin_soft]
              cases hs : soft G (G.rd x.2).2 r with
              | none => rfl
              | some y =>
                obtain ⟨q, r'⟩ := y
                have hr' := soft_len hs
                simp only
                unfold takeD tailR
                by_cases hm : (G.mean q).1 = 0
                · have hm' : ¬ (G.mean q).1 ≠ 0 := fun h => h hm
                  rw [if_neg hm', if_neg hm']
                  by_cases ha : G.agent (G.mean q).2 = false
                  · rw [if_pos ha, if_pos ha]
                    exact ih _ _ _ _ (by omega) (by omega) hd
                  · rw [if_neg ha, if_neg ha]
                    by_cases hv : G.hasV (G.mean q).2 = true
                    · rw [if_pos hv, if_pos hv]; rfl
                    · rw [if_neg hv, if_neg hv, if_neg (by simp; omega), if_neg (by simp)]
                      show run (.at_ 0 ((f ++ [((G.mean q).2, [])]) :: os) c) r' = _
                      rw [run_skip, cardR]
                      cases hn2 : next G r' with
                      | none => rfl
                      | some y =>
                        obtain ⟨y, r2⟩ := y
                        have hr2 := next_len hn2
                        simp only
                        unfold takeL
                        by_cases hB : G.isB y.2 = true
                        · rw [if_pos ⟨rfl, hB⟩, if_neg (by rw [hB]; simp)]
                          show run (.at_ 1 ([] :: (f ++ [((G.mean q).2, [])]) :: os) c) r2 = _
                          rw [run_skip]
                          cases hn3 : next G r2 with
                          | none => rfl
                          | some z =>
                            obtain ⟨z, r3⟩ := z
                            have hr3 := next_len hn3
                            simp only
                            unfold takeL
                            rw [if_neg (by omega)]
                            by_cases hV : G.isV z.2 = true
                            · rw [if_pos ⟨rfl, hV⟩, if_neg (by rw [hV]; simp)]
                              show run (.at_ 2 ([] :: (f ++ [((G.mean q).2, [])]) :: os) c) r3 = _
                              rw [ihd N [] _ c r3 (by omega) (Nat.le_refl _) (by simp; omega)]
                              have hlen := body_len (G := G) (pr := propR G (cardR G N d) (d == 0)) (fun s k l p r hq => prop_len (card_len N d) s k l p r hq) N [] r3
                              cases hq : bodyR G (propR G (cardR G N d) (d == 0)) N [] r3 with
                              | end_ => rfl
                              | bad k e => rfl
                              | ok t r4 =>
                                have := hlen _ _ hq
                                simp only [after]
                                show run (.at_ 2 (setA (f ++ [((G.mean q).2, [])]) (.node t.ps) :: os) c) r4 = _
                                rw [setA_last]
                                cases t
                                exact ih _ _ _ _ (by omega) (by omega) hd
                            · rw [if_neg (fun h => hV h.2), if_pos (.inr rfl), if_pos (by simpa using hV)]; rfl
                        · rw [if_neg (fun h => hB h.2), if_neg (by omega), if_pos (.inl rfl), if_pos (by simpa using hB)]; rfl
                · rw [if_pos hm, if_pos hm]; rfl
            · rw [if_pos he, if_pos he]; rfl

/-- Line by line as by descent. -/
theorem run_all (N : Nat) (l : Ls) (c : Tr G.P) (h : l.length < N) : run (.at_ 0 [] c) l = parseR G N l := by
  rw [run_skip, parseR, cardR]
  cases hn : next G l with
  | none => rfl
  | some x =>
    obtain ⟨x, r⟩ := x
    have hr := next_len hn
    simp only
    unfold takeL
    by_cases hB : G.isB x.2 = true
    · rw [if_pos ⟨rfl, hB⟩, if_neg (by rw [hB]; simp)]
      show run (.at_ 1 [[]] c) r = _
      rw [run_skip]
      cases hn2 : next G r with
      | none => rfl
      | some y =>
        obtain ⟨y, r2⟩ := y
        have hr2 := next_len hn2
        simp only
        unfold takeL
        rw [if_neg (by omega)]
        by_cases hV : G.isV y.2 = true
        · rw [if_pos ⟨rfl, hV⟩, if_neg (by rw [hV]; simp)]
          show run (.at_ 2 [[]] c) r2 = _
          rw [run_body N 2 (Nat.le_refl _) N [] [] c r2 (by omega) (Nat.le_refl _) rfl]
          cases hq : bodyR G (propR G (cardR G N 2) (2 == 0)) N [] r2 with
          | end_ => rfl
          | bad k e => rfl
          | ok t r4 =>
            show run (.at_ 3 [] (.node t.ps)) r4 = match next G r4 with | none => (0, 0, t) | some (x, _) => fail x.1 6
            rw [run_skip]
            cases next G r4 with
            | none => cases t; rfl
            | some z =>
              simp only
              unfold takeL
              rw [if_neg (by omega), if_neg (by omega), if_neg (by omega), if_pos rfl]; rfl
        · rw [if_neg (fun h => hV h.2), if_pos (.inr rfl), if_pos (by simpa using hV)]; rfl
    · rw [if_neg (fun h => hB h.2), if_neg (by omega), if_pos (.inl rfl), if_pos (by simpa using hB)]; rfl
end Go.Proofs.YtjgfbicllgalkaaGreatDoor.Vm

namespace Go.Proofs.YtjgfbicllgalkaaGreatDoor.Vc
open Go.RowKit Pp

/-- A property but for its cards. -/
structure Pd where
  g : ByteArray
  n : ByteArray
  ps : List (ByteArray × ByteArray)
  v : ByteArray
/-- A card: properties, each with its cards. -/
abbrev Crd := Vm.Tr Pd

/-- A list of cards: the slice v, whose block lies below B. -/
def AgAt (w : World) (B : Nat) {α : Type} (C : α → Value → Prop) (l : List α) (v : Value) : Prop :=
  ∃ a c, v = .slice a l.length c ∧ (l ≠ [] → ∃ b o, a = some ⟨b, o, none⟩ ∧ b < B) ∧ ∀ b o, a = some ⟨b, o, none⟩ → ∀ i (hi : i < l.length), ∃ sv, w.cell? ⟨b, o + i, none⟩ = some sv ∧ C l[i] sv
/-- A list of properties. -/
def PlAt (w : World) (B : Nat) {α : Type} (C : α → Value → Prop) (l : List (Pd × List α)) (v : Value) : Prop :=
  ∃ a c, v = .slice a l.length c ∧ (l ≠ [] → ∃ b o, a = some ⟨b, o, none⟩ ∧ b < B) ∧ ∀ b o, a = some ⟨b, o, none⟩ → ∀ j (hj : j < l.length), ∃ pv av,
    w.cell? ⟨b, o + j * 5, none⟩ = some (.string l[j].1.g) ∧ w.cell? ⟨b, o + j * 5 + 1, none⟩ = some (.string l[j].1.n) ∧ w.cell? ⟨b, o + j * 5 + 2, none⟩ = some pv ∧ w.cell? ⟨b, o + j * 5 + 3, none⟩ = some (.string l[j].1.v) ∧ w.cell? ⟨b, o + j * 5 + 4, none⟩ = some av ∧ Ps w B pv l[j].1.ps ∧ AgAt w B C l[j].2 av
/-- A card: the value of its one field. -/
def CAt (w : World) (B : Nat) : Nat → Crd → Value → Prop
  | 0, _, _ => False
  | k + 1, c, sv => PlAt w B (CAt w B k) c.ps sv

theorem AgAt.move {w w' : World} {B B' : Nat} {α : Type} {C C' : α → Value → Prop} {l : List α} {v : Value} (h : AgAt w B C l v) (hc : ∀ b o, b < B → w'.cell? ⟨b, o, none⟩ = w.cell? ⟨b, o, none⟩) (hB : B ≤ B') (hC : ∀ a v, C a v → C' a v) : AgAt w' B' C' l v := by
  obtain ⟨a, c, rfl, h1, h2⟩ := h
  refine ⟨a, c, rfl, fun hl => ?_, fun b o e i hi => ?_⟩
  · obtain ⟨b, o, e, hb⟩ := h1 hl; exact ⟨b, o, e, Nat.lt_of_lt_of_le hb hB⟩
  · obtain ⟨b', o', e', hb⟩ := h1 (fun h => by rw [h] at hi; simp at hi)
    rw [e] at e'; cases e'
    obtain ⟨sv, c0, hs⟩ := h2 b o e i hi
    exact ⟨sv, (hc _ _ hb).trans c0, hC _ _ hs⟩
theorem PlAt.move {w w' : World} {B B' : Nat} {α : Type} {C C' : α → Value → Prop} {l : List (Pd × List α)} {v : Value} (h : PlAt w B C l v) (hc : ∀ b o, b < B → w'.cell? ⟨b, o, none⟩ = w.cell? ⟨b, o, none⟩) (hP : ∀ pv ps, Ps w B pv ps → Ps w' B' pv ps) (hB : B ≤ B') (hC : ∀ a v, C a v → C' a v) : PlAt w' B' C' l v := by
  obtain ⟨a, c, rfl, h1, h2⟩ := h
  refine ⟨a, c, rfl, fun hl => ?_, fun b o e j hj => ?_⟩
  · obtain ⟨b, o, e, hb⟩ := h1 hl; exact ⟨b, o, e, Nat.lt_of_lt_of_le hb hB⟩
  · obtain ⟨b', o', e', hb⟩ := h1 (fun h => by rw [h] at hj; simp at hj)
    rw [e] at e'; cases e'
    obtain ⟨pv, av, c0, c1, c2, c3, c4, hp, ha⟩ := h2 b o e j hj
    exact ⟨pv, av, (hc _ _ hb).trans c0, (hc _ _ hb).trans c1, (hc _ _ hb).trans c2, (hc _ _ hb).trans c3, (hc _ _ hb).trans c4, hP _ _ hp, ha.move hc hB hC⟩
theorem CAt.below {w w' : World} {B : Nat} (hb : Below B w w') : ∀ {k : Nat} {c : Crd} {v : Value}, CAt w B k c v → CAt w' B k c v := by
  intro k
  induction k with
  | zero => intro c v h; exact h.elim
  | succ k ih => intro c v h; exact PlAt.move h (fun b o hlt => hb.cell (p := ⟨b, o, none⟩) hlt) (fun _ _ h => h.below hb) (Nat.le_refl _) (fun a v h => ih h)
theorem CAt.up {w : World} {B B' : Nat} (hb : B ≤ B') : ∀ {k : Nat} {c : Crd} {v : Value}, CAt w B k c v → CAt w B' k c v := by
  intro k
  induction k with
  | zero => intro c v h; exact h.elim
  | succ k ih => intro c v h; exact PlAt.move h (fun _ _ _ => rfl) (fun _ _ h => h.up hb) hb (fun a v h => ih h)
/-- A card in a later world. -/
theorem CAt.on {w w' : World} (hb : Below w.heap.size w w') {k : Nat} {c : Crd} {v : Value} (h : CAt w w.heap.size k c v) : CAt w' w'.heap.size k c v := (h.below hb).up hb.size
theorem CAt.one {w : World} {B k : Nat} {c : Crd} {v : Value} (h : CAt w B k c v) : ∃ a n cp, v = .slice a n cp := by
  cases k with
  | zero => exact h.elim
  | succ k => obtain ⟨a, cp, rfl, _⟩ := h; exact ⟨_, _, _, rfl⟩
/-- One property of a card. -/
theorem PlAt.at_ {w : World} {B : Nat} {α : Type} {C : α → Value → Prop} {l : List (Pd × List α)} {a : Option Addr} {n cp : Nat} (h : PlAt w B C l (.slice a n cp)) {j : Nat} (hj : j < l.length) :
    ∃ b o pv av, a = some ⟨b, o, none⟩ ∧ b < B ∧ w.cell? ⟨b, o + j * 5, none⟩ = some (.string l[j].1.g) ∧ w.cell? ⟨b, o + j * 5 + 1, none⟩ = some (.string l[j].1.n) ∧ w.cell? ⟨b, o + j * 5 + 2, none⟩ = some pv ∧ w.cell? ⟨b, o + j * 5 + 3, none⟩ = some (.string l[j].1.v) ∧ w.cell? ⟨b, o + j * 5 + 4, none⟩ = some av ∧ Ps w B pv l[j].1.ps ∧ AgAt w B C l[j].2 av := by
  obtain ⟨a', c', e, h1, h2⟩ := h
  cases e
  obtain ⟨b, o, rfl, hb⟩ := h1 (fun h => by rw [h] at hj; simp at hj)
  obtain ⟨pv, av, h3⟩ := h2 b o rfl j hj
  exact ⟨b, o, pv, av, rfl, hb, h3⟩
theorem PlAt.len {w : World} {B : Nat} {α : Type} {C : α → Value → Prop} {l : List (Pd × List α)} {v : Value} (h : PlAt w B C l v) : ∃ a cp, v = .slice a l.length cp := by obtain ⟨a, cp, rfl, _⟩ := h; exact ⟨_, _, rfl⟩
/-- One card of a list. -/
theorem AgAt.at_ {w : World} {B : Nat} {α : Type} {C : α → Value → Prop} {l : List α} {a : Option Addr} {n cp : Nat} (h : AgAt w B C l (.slice a n cp)) {i : Nat} (hi : i < l.length) :
    ∃ b o sv, a = some ⟨b, o, none⟩ ∧ b < B ∧ w.cell? ⟨b, o + i, none⟩ = some sv ∧ C l[i] sv := by
  obtain ⟨a', c', e, h1, h2⟩ := h
  cases e
  obtain ⟨b, o, rfl, hb⟩ := h1 (fun h => by rw [h] at hi; simp at hi)
  obtain ⟨sv, h3⟩ := h2 b o rfl i hi
  exact ⟨b, o, sv, rfl, hb, h3⟩
theorem AgAt.len {w : World} {B : Nat} {α : Type} {C : α → Value → Prop} {l : List α} {v : Value} (h : AgAt w B C l v) : ∃ a cp, v = .slice a l.length cp := by obtain ⟨a, cp, rfl, _⟩ := h; exact ⟨_, _, rfl⟩
end Go.Proofs.YtjgfbicllgalkaaGreatDoor.Vc

namespace Go.Proofs.YtjgfbicllgalkaaGreatDoor.Cs
open Go.RowKit

/-- A to Z for a to z. -/
def cap1 (c : UInt8) : UInt8 := if 97 ≤ c.toNat ∧ c.toNat ≤ 122 then UInt8.ofNat (c.toNat - 32) else c
theorem cap1_yes {c : UInt8} (h : 97 ≤ (c.toNat : Int)) (h' : (c.toNat : Int) ≤ 122) : ((cap1 c).toNat : Int) = (c.toNat : Int) - 32 := by
  unfold cap1
  rw [if_pos ⟨by omega, by omega⟩, UInt8.toNat_ofNat', Nat.mod_eq_of_lt (by omega)]
  omega
theorem cap1_no {c : UInt8} (h : ¬ (97 ≤ (c.toNat : Int) ∧ (c.toNat : Int) ≤ 122)) : cap1 c = c := by
  unfold cap1
  rw [if_neg (by omega)]
/-- The first k bytes in capitals. -/
def capK (l : List UInt8) (k : Nat) : List UInt8 := (l.take k).map cap1 ++ l.drop k
theorem capK_zero (l : List UInt8) : capK l 0 = l := by simp [capK]
theorem capK_all {l : List UInt8} {k : Nat} (h : l.length ≤ k) : capK l k = l.map cap1 := by
  unfold capK; rw [List.take_of_length_le h, List.drop_eq_nil_of_le h, List.append_nil]
theorem capK_length (l : List UInt8) (k : Nat) : (capK l k).length = l.length := by
  unfold capK; rw [List.length_append, List.length_map, List.length_take, List.length_drop]; omega
theorem capK_at {l : List UInt8} {k : Nat} (h : k < l.length) : (capK l k)[k]? = some l[k] := by
  unfold capK
  rw [List.getElem?_append_right (by rw [List.length_map, List.length_take]; omega), List.length_map, List.length_take, List.getElem?_drop, show k + (k - min k l.length) = k by omega, List.getElem?_eq_getElem h]
theorem capK_set {l : List UInt8} {k : Nat} (h : k < l.length) : (capK l k).set k (cap1 l[k]) = capK l (k + 1) := by
  unfold capK
  rw [List.set_append_right _ _ (by rw [List.length_map, List.length_take]; omega), List.length_map, List.length_take, show k - min k l.length = 0 by omega, List.drop_eq_getElem_cons h, List.set_cons_zero, List.take_succ_eq_append_getElem h, List.map_append, List.append_assoc]
  rfl
theorem capK_same {l : List UInt8} {k : Nat} (h : k < l.length) (hs : cap1 l[k] = l[k]) : capK l (k + 1) = capK l k := by
  rw [← capK_set h, hs]
  have hk := capK_at h
  apply List.ext_getElem?
  intro i
  rw [List.getElem?_set]
  split
  · subst_vars
    rw [hk]; split
    · rfl
    · rw [capK_length] at *; omega
  · rfl

/-- A charset's name. -/
def nm (k : Int) : ByteArray := if k = 1 then ⟨#[85, 83, 45, 65, 83, 67, 73, 73]⟩ else if k = 2 then ⟨#[73, 83, 79, 45, 56, 56, 53, 57, 45, 49]⟩ else if k = 3 then ⟨#[85, 84, 70, 45, 56]⟩ else ⟨#[]⟩
/-- Which of them a text in capitals is. -/
def whichN (u : ByteArray) : Int := if (u.toList == (nm 1).toList) = true then 1 else if (u.toList == (nm 2).toList) = true then 2 else if (u.toList == (nm 3).toList) = true then 3 else 0
def named (l : List UInt8) : Int := whichN ⟨(l.map cap1).toArray⟩
theorem nm_toList1 : (nm 1).toList = [85, 83, 45, 65, 83, 67, 73, 73] := by decide +kernel
theorem named_utf8 : named [85, 116, 102, 45, 56] = 3 := by decide +kernel
end Go.Proofs.YtjgfbicllgalkaaGreatDoor.Cs

namespace Go.Proofs.YtjgfbicllgalkaaGreatDoor.Pp
open Go.RowKit

/-- A property as a value. -/
def prV (g n : ByteArray) (pv : Value) (v : ByteArray) (av : Value) : Value := .agg #[.string g, .string n, pv, .string v, av]
/-- A property's cells in block b. -/
def PrAt (w : World) (b : Nat) (g n : ByteArray) (pv : Value) (v : ByteArray) (av : Value) : Prop := w.heap[b]? = some (.cells #[.string g, .string n, pv, .string v, av] 56 (0, 0))
section
variable {w w' : World} {b : Nat} {g n : ByteArray} {pv : Value} {v : ByteArray} {av : Value}
theorem PrAt.lt (h : PrAt w b g n pv v av) : b < w.heap.size := (Array.getElem?_eq_some_iff.1 h).1
theorem PrAt.c0 (h : PrAt w b g n pv v av) : w.cell? ⟨b, 0, none⟩ = some (.string g) := cell_of_row w b 0 _ _ _ h
theorem PrAt.c1 (h : PrAt w b g n pv v av) : w.cell? ⟨b, 1, none⟩ = some (.string n) := cell_of_row w b 1 _ _ _ h
theorem PrAt.c2 (h : PrAt w b g n pv v av) : w.cell? ⟨b, 2, none⟩ = some pv := cell_of_row w b 2 _ _ _ h
theorem PrAt.c3 (h : PrAt w b g n pv v av) : w.cell? ⟨b, 3, none⟩ = some (.string v) := cell_of_row w b 3 _ _ _ h
theorem PrAt.c4 (h : PrAt w b g n pv v av) : w.cell? ⟨b, 4, none⟩ = some av := cell_of_row w b 4 _ _ _ h
theorem PrAt.below (h : PrAt w b g n pv v av) (hb : Below w.heap.size w w') : PrAt w' b g n pv v av := (hb.block b h.lt).trans h
end
/-- What is wrong with it: the number of the error. -/
def goodNames (g n : ByteArray) : Bool := (decide (g.size = 0) || nameB g) && nameB n
def goodPs (ps : List (ByteArray × ByteArray)) : Bool := ps.all fun p => paramB p.1 p.2
def goodV (v : ByteArray) : Bool := v.data.toList.all fun c => !oddb c
def chk (g n : ByteArray) (ps : List (ByteArray × ByteArray)) (v : ByteArray) (m : Nat) : Int :=
  if goodNames g n = false then 14 else if 6 < ps.length then 4 else if goodPs ps = false then 3 else if 0 < m then 5 else if 2400 < v.size then 8 else if goodV v = false then 3 else 0
theorem chk_vals (g n : ByteArray) (ps : List (ByteArray × ByteArray)) (v : ByteArray) (m : Nat) : chk g n ps v m = 0 ∨ chk g n ps v m = 3 ∨ chk g n ps v m = 4 ∨ chk g n ps v m = 5 ∨ chk g n ps v m = 8 ∨ chk g n ps v m = 14 := by
  unfold chk
  split
  · simp
  split
  · simp
  split
  · simp
  split
  · simp
  split
  · simp
  split <;> simp

theorem ps_no {P : ByteArray × ByteArray → Bool} {l : List (ByteArray × ByteArray)} {k : Nat} (h : k < l.length) (hp : P l[k] = false) : (l.drop k).all P = false := by
  rw [List.drop_eq_getElem_cons h, List.all_cons, hp]; rfl
theorem ps_yes {P : ByteArray × ByteArray → Bool} {l : List (ByteArray × ByteArray)} {k : Nat} (h : k < l.length) (hp : P l[k] = true) : (l.drop k).all P = (l.drop (k + 1)).all P := by
  rw [List.drop_eq_getElem_cons h, List.all_cons, hp]; rfl
end Go.Proofs.YtjgfbicllgalkaaGreatDoor.Pp

namespace Go.Proofs.YtjgfbicllgalkaaGreatDoor.Fig
open Go.RowKit

/-- The digit of a number below 16. -/
def hexd (n : Nat) : UInt8 := if n < 10 then UInt8.ofNat (48 + n) else UInt8.ofNat (55 + n)
/-- Two digits for each byte. -/
def hexOf (l : List UInt8) : List UInt8 := l.flatMap fun c => [hexd (c.toNat / 16), hexd (c.toNat % 16)]

theorem hexd_toNat (n : Nat) (h : n < 16) : (hexd n).toNat = if n < 10 then 48 + n else 55 + n := by
  unfold hexd; split <;> simp <;> omega
theorem hexOf_length (l : List UInt8) : (hexOf l).length = 2 * l.length := by
  induction l with
  | nil => rfl
  | cons c r ih => simp [hexOf] at ih ⊢; omega
theorem hexOf_snoc (l : List UInt8) (c : UInt8) : hexOf (l ++ [c]) = hexOf l ++ [hexd (c.toNat / 16), hexd (c.toNat % 16)] := by
  simp [hexOf]
theorem take_snoc (s : ByteArray) (k : Nat) (h : k < s.size) : s.data.toList.take (k + 1) = s.data.toList.take k ++ [s[k]] := by
  rw [List.take_succ_eq_append_getElem (by simpa using h)]; rfl
theorem hexOf_step (s : ByteArray) (k : Nat) (h : k < s.size) : hexOf (s.data.toList.take (k + 1)) = hexOf (s.data.toList.take k) ++ [hexd (s[k].toNat / 16), hexd (s[k].toNat % 16)] := by
  rw [take_snoc s k h, hexOf_snoc]
theorem hexOf_take_length (s : ByteArray) (k : Nat) (h : k ≤ s.size) : (hexOf (s.data.toList.take k)).length = 2 * k := by
  rw [hexOf_length, List.length_take]; simp; omega
end Go.Proofs.YtjgfbicllgalkaaGreatDoor.Fig

namespace Go.Proofs.YtjgfbicllgalkaaGreatDoor.Qu
open Go.RowKit Fig

def ink (c : UInt8) : Bool := decide (32 < (c.toNat : Int)) && decide ((c.toNat : Int) ≤ 126) && decide ((c.toNat : Int) ≠ 61)
def blank (c : UInt8) : Bool := decide ((c.toNat : Int) = 32) || decide ((c.toNat : Int) = 9)
def plainB (c : UInt8) (more : Bool) : Bool := ink c || (blank c && more)
/-- A byte's letters: itself, or a mark and two digits. -/
def unit (c : UInt8) (more : Bool) : List UInt8 := if plainB c more then [c] else 61 :: hexOf [c]
def enc : List UInt8 → List UInt8
  | [] => []
  | c :: r => unit c (!r.isEmpty) ++ enc r

theorem unit_plain {c : UInt8} {m : Bool} (h : plainB c m = true) : unit c m = [c] := by unfold unit; rw [if_pos h]
theorem unit_not {c : UInt8} {m : Bool} (h : ¬ plainB c m = true) : unit c m = [61] ++ hexOf [c] := by unfold unit; rw [if_neg h]; rfl
theorem unit_length (c : UInt8) (m : Bool) : (unit c m).length ≤ 3 := by
  unfold unit; split
  · simp
  · simp [hexOf]
theorem enc_length (l : List UInt8) : (enc l).length ≤ 3 * l.length := by
  induction l with
  | nil => simp [enc]
  | cons c r ih => have := unit_length c (!r.isEmpty); simp [enc]; omega

/-- All bytes of l are plain. -/
def plainAll : List UInt8 → Bool
  | [] => true
  | c :: r => plainB c (!r.isEmpty) && plainAll r
theorem enc_ge (l : List UInt8) : l.length ≤ (enc l).length := by
  induction l with
  | nil => simp
  | cons c r ih =>
    have : 1 ≤ (unit c (!r.isEmpty)).length := by unfold unit; split <;> simp
    simp [enc]; omega
theorem enc_self (l : List UInt8) : (enc l = l) = (plainAll l = true) := by
  induction l with
  | nil => simp [enc, plainAll]
  | cons c r ih =>
    by_cases h : plainB c (!r.isEmpty) = true
    · rw [enc, unit_plain h, plainAll, h, Bool.true_and, ← ih]; simp
    · rw [enc, unit_not h, plainAll]
      have : plainB c (!r.isEmpty) = false := by simpa using h
      rw [this, Bool.false_and]
      apply propext
      constructor
      · intro e
        have := congrArg List.length e
        have h2 := enc_ge r
        simp [hexOf] at this
        omega
      · intro e; cases e
theorem enc_beq (l : List UInt8) : (enc l == l) = plainAll l := by
  have h := enc_self l
  by_cases e : enc l = l
  · rw [beq_iff_eq.2 e]; exact (h.mp e).symm
  · rw [beq_eq_false_iff_ne.2 e]
    cases hp : plainAll l
    · rfl
    · exact absurd (h.mpr hp) e

/-! At a place of a text. -/
theorem drop_at (s : ByteArray) (k : Nat) (h : k < s.size) : s.data.toList.drop k = s[k] :: s.data.toList.drop (k + 1) := by
  rw [List.drop_eq_getElem_cons (by simpa using h)]; rfl
theorem more_at (s : ByteArray) (k : Nat) : (!(s.data.toList.drop (k + 1)).isEmpty) = decide (k + 1 < s.size) := by
  by_cases h : k + 1 < s.size
  · have : (s.data.toList.drop (k + 1)).isEmpty = false := by
      rw [List.isEmpty_eq_false_iff]; intro e; have := congrArg List.length e; simp at this; omega
    rw [this]; simp [h]
  · have : s.data.toList.drop (k + 1) = [] := List.drop_eq_nil_of_le (by simp; omega)
    rw [this]; simp [h]
theorem enc_at (s : ByteArray) (k : Nat) (h : k < s.size) : enc (s.data.toList.drop k) = unit s[k] (decide (k + 1 < s.size)) ++ enc (s.data.toList.drop (k + 1)) := by
  rw [drop_at s k h, enc, more_at]
theorem plainAll_at (s : ByteArray) (k : Nat) (h : k < s.size) : plainAll (s.data.toList.drop k) = (plainB s[k] (decide (k + 1 < s.size)) && plainAll (s.data.toList.drop (k + 1))) := by
  rw [drop_at s k h, plainAll, more_at]
theorem drop_end (s : ByteArray) {k : Nat} (h : ¬ k < s.size) : s.data.toList.drop k = [] := List.drop_eq_nil_of_le (by simp; omega)
/-- The text of the one byte at a place. -/
theorem one_at (s : ByteArray) (k : Nat) (h : k < s.size) : (s.extract k (k + 1)).data.toList = [s[k]] := by
  rw [ByteArray.data_extract, Array.toList_extract, List.extract_eq_take_drop]
  have := drop_at s k h
  rw [this]; simp
end Go.Proofs.YtjgfbicllgalkaaGreatDoor.Qu

namespace Go.Proofs.YtjgfbicllgalkaaGreatDoor.Fig
open Go.RowKit

/-- What a digit counts; -1: it is none. -/
def hvI (x : Int) : Int := if 48 ≤ x ∧ x ≤ 57 then x - 48 else if 65 ≤ x ∧ x ≤ 70 then x - 55 else -1
theorem hvI_dec {x : Int} (h : 48 ≤ x ∧ x ≤ 57) : hvI x = x - 48 := by unfold hvI; rw [if_pos h]
theorem hvI_alpha {x : Int} (h : 65 ≤ x ∧ x ≤ 70) : hvI x = x - 55 := by unfold hvI; rw [if_neg (by omega), if_pos h]
theorem hvI_no {x : Int} (h : ¬ (48 ≤ x ∧ x ≤ 57)) (h' : ¬ (65 ≤ x ∧ x ≤ 70)) : hvI x = -1 := by unfold hvI; rw [if_neg h, if_neg h']
theorem hvI_bd (x : Int) : -1 ≤ hvI x ∧ hvI x ≤ 15 := by
  by_cases h : 48 ≤ x ∧ x ≤ 57
  · rw [hvI_dec h]; omega
  · by_cases h' : 65 ≤ x ∧ x ≤ 70
    · rw [hvI_alpha h']; omega
    · rw [hvI_no h h']; omega
def hv (c : UInt8) : Int := hvI (c.toNat : Int)
theorem hv_bd (c : UInt8) : -1 ≤ hv c ∧ hv c ≤ 15 := hvI_bd _

/-- The bytes that pairs of digits say. -/
def pairs : List UInt8 → List UInt8
  | a :: b :: r => UInt8.ofNat (16 * hv a + hv b).toNat :: pairs r
  | _ => []
/-- A text of digits as bytes, with its error. -/
def unhex (l : List UInt8) : List UInt8 × Nat :=
  if l.any (fun c => decide (hv c < 0)) then ([], 3) else if l.length % 2 = 1 then ([], 1) else (pairs l, 0)

theorem unhex_field {l : List UInt8} {k : Nat} (h : k < l.length) (hc : hv l[k] < 0) : unhex l = ([], 3) := by
  unfold unhex; rw [if_pos]
  rw [List.any_eq_true]; exact ⟨l[k], List.getElem_mem h, by simpa using hc⟩
theorem any_false {l : List UInt8} (h : ∀ i (hi : i < l.length), 0 ≤ hv l[i]) : l.any (fun c => decide (hv c < 0)) = false := by
  rw [List.any_eq_false]
  intro c hc
  obtain ⟨i, hi, rfl⟩ := List.mem_iff_getElem.1 hc
  have := h i hi
  simp; omega
theorem unhex_short {l : List UInt8} (h : ∀ i (hi : i < l.length), 0 ≤ hv l[i]) (ho : l.length % 2 = 1) : unhex l = ([], 1) := by
  unfold unhex; rw [any_false h, if_neg (by decide), if_pos ho]
theorem unhex_ok {l : List UInt8} (h : ∀ i (hi : i < l.length), 0 ≤ hv l[i]) (ho : l.length % 2 = 0) : unhex l = (pairs l, 0) := by
  unfold unhex; rw [any_false h, if_neg (by decide), if_neg (by omega)]

theorem pairs_even : ∀ (l : List UInt8) (a b : UInt8), l.length % 2 = 0 → pairs (l ++ [a, b]) = pairs l ++ [UInt8.ofNat (16 * hv a + hv b).toNat]
  | [], a, b, _ => rfl
  | [x], a, b, h => by simp at h
  | x :: y :: r, a, b, h => by
    have ih := pairs_even r a b (by simp at h; omega)
    show _ :: pairs (r ++ [a, b]) = _
    rw [ih]; rfl
theorem pairs_odd : ∀ (l : List UInt8) (a : UInt8), l.length % 2 = 0 → pairs (l ++ [a]) = pairs l
  | [], a, _ => rfl
  | [x], a, h => by simp at h
  | x :: y :: r, a, h => by
    have ih := pairs_odd r a (by simp at h; omega)
    show _ :: pairs (r ++ [a]) = _
    rw [ih]; rfl
theorem pairs_length : ∀ (l : List UInt8), (pairs l).length = l.length / 2
  | [] => rfl
  | [_] => by simp [pairs]
  | _ :: _ :: r => by
    have ih := pairs_length r
    simp [pairs, ih]; omega
theorem byte_of {x : Int} (h : 0 ≤ x ∧ x < 256) : ((UInt8.ofNat x.toNat).toNat : Int) = x := by
  simp; omega

theorem tk_snoc (s : ByteArray) (k : Nat) (h : k < s.size) : s.data.toList.take (k + 1) = s.data.toList.take k ++ [s[k]] := by
  rw [List.take_succ_eq_append_getElem (by simpa using h)]; rfl
theorem tk_len (s : ByteArray) (k : Nat) (h : k ≤ s.size) : (s.data.toList.take k).length = k := by
  rw [List.length_take]; simp; omega
theorem tk_pairs_odd (s : ByteArray) (k : Nat) (h : k < s.size) (he : k % 2 = 0) : pairs (s.data.toList.take (k + 1)) = pairs (s.data.toList.take k) := by
  rw [tk_snoc s k h, pairs_odd _ _ (by rw [tk_len s k (by omega)]; exact he)]
theorem tk_pairs_even (s : ByteArray) (k : Nat) (h : k + 1 < s.size) (he : k % 2 = 0) :
    pairs (s.data.toList.take (k + 2)) = pairs (s.data.toList.take k) ++ [UInt8.ofNat (16 * hv s[k] + hv s[k + 1]).toNat] := by
  rw [tk_snoc s (k + 1) h, tk_snoc s k (by omega), List.append_assoc]
  exact pairs_even _ _ _ (by rw [tk_len s k (by omega)]; exact he)

theorem or16 (a b : Int) (h0 : 0 ≤ a) (h1 : a < 16) (h2 : 0 ≤ b) (h3 : b < 16) : bits .or .u8 (a * 16) b = 16 * a + b := by
  obtain ⟨A, rfl⟩ := Int.eq_ofNat_of_zero_le h0
  obtain ⟨B, rfl⟩ := Int.eq_ofNat_of_zero_le h2
  have h := u8_or_nat (A * 16) B (by omega) (by omega)
  rw [show (((A * 16 : Nat)) : Int) = (A : Int) * 16 by omega] at h
  rw [h, Nat.mul_comm A 16, ← Nat.two_pow_add_eq_or_of_lt (i := 4) (by omega)]
  omega
theorem hvAll_data {s : ByteArray} (h : ∀ i (hi : i < s.size), 0 ≤ hv s[i]) : ∀ i (hi : i < s.data.toList.length), 0 ≤ hv s.data.toList[i] := fun i hi => h i (by simpa using hi)
theorem ux_field {s : ByteArray} {k : Nat} (h : k < s.size) (hc : hv s[k] < 0) : unhex s.data.toList = ([], 3) := unhex_field (k := k) (by simpa using h) hc
theorem ux_short {s : ByteArray} (h : ∀ i (hi : i < s.size), 0 ≤ hv s[i]) (ho : s.size % 2 = 1) : unhex s.data.toList = ([], 1) := unhex_short (hvAll_data h) (by simpa using ho)
theorem ux_ok {s : ByteArray} (h : ∀ i (hi : i < s.size), 0 ≤ hv s[i]) (ho : s.size % 2 = 0) : unhex s.data.toList = (pairs s.data.toList, 0) := unhex_ok (hvAll_data h) (by simpa using ho)
theorem retS {a : List UInt8} {b : Nat} {p : List UInt8 × Nat} (h : p = (a, b)) : Ending.returned (.tuple #[.string ⟨a.toArray⟩, .int .i64 (b : Int)]) = Ending.returned (.tuple #[.string ⟨p.1.toArray⟩, .int .i64 (p.2 : Int)]) := by rw [h]
end Go.Proofs.YtjgfbicllgalkaaGreatDoor.Fig

namespace Go.Proofs.YtjgfbicllgalkaaGreatDoor.Sx
open Go.RowKit

/-- A text in pieces of k bytes. -/
def cut (k : Nat) (l : List UInt8) : List (List UInt8) :=
  if _h : l = [] ∨ k = 0 then [] else l.take k :: cut k (l.drop k)
termination_by l.length
decreasing_by
  have : 0 < l.length := List.length_pos_iff.2 (fun e => _h (.inl e))
  rw [List.length_drop]; omega

theorem cut_nil (k : Nat) : cut k [] = [] := by rw [cut, dif_pos (.inl rfl)]
theorem cut_step {k : Nat} {l : List UInt8} (hk : 0 < k) (h : 0 < l.length) : cut k l = l.take k :: cut k (l.drop k) := by
  rw [cut, dif_neg]
  rintro (e | e)
  · subst e; simp at h
  · omega
theorem cut_induct {k : Nat} (hk : 0 < k) {P : List UInt8 → Prop} (h0 : P []) (h1 : ∀ l, 0 < l.length → P (l.drop k) → P l) : ∀ l, P l := by
  intro l
  obtain ⟨n, hn⟩ : ∃ n, l.length = n := ⟨_, rfl⟩
  induction n using Nat.strongRecOn generalizing l with
  | ind n ih =>
    by_cases h : 0 < l.length
    · exact h1 l h (ih _ (by rw [List.length_drop]; omega) _ rfl)
    · have : l = [] := List.eq_nil_of_length_eq_zero (by omega)
      subst this; exact h0
theorem cut_flat {k : Nat} (hk : 0 < k) : ∀ l, (cut k l).flatten = l :=
  cut_induct hk (by rw [cut_nil]; rfl) fun l h ih => by rw [cut_step hk h, List.flatten_cons, ih, List.take_append_drop]
theorem cut_length {k : Nat} (hk : 0 < k) : ∀ l, (cut k l).length ≤ l.length :=
  cut_induct hk (by rw [cut_nil]; exact Nat.le_refl _) fun l h ih => by
    rw [cut_step hk h, List.length_cons]; rw [List.length_drop] at ih; omega
theorem cut_short {k : Nat} {l : List UInt8} (hk : 0 < k) (h0 : 0 < l.length) (h : l.length ≤ k) : cut k l = [l] := by
  rw [cut_step hk h0, List.take_of_length_le h, List.drop_eq_nil_of_le h, cut_nil]
/-- Each piece has a byte, and no more than k. -/
theorem cut_size {k : Nat} (hk : 0 < k) : ∀ l, ∀ x ∈ cut k l, 1 ≤ x.length ∧ x.length ≤ k :=
  cut_induct hk (by rw [cut_nil]; intro x hx; cases hx) fun l h ih => by
    rw [cut_step hk h]
    intro x hx
    rcases List.mem_cons.1 hx with rfl | hx
    · rw [List.length_take]; omega
    · exact ih x hx

/-- The width that counts. -/
def wid (n : Int) : Nat := if n < 1 then 1 else n.toNat
theorem wid_pos (n : Int) : 0 < wid n := by unfold wid; split <;> omega
theorem wid_max (n : Int) : max n 1 = (wid n : Int) := by unfold wid; split <;> omega

theorem ext_to (s : ByteArray) (n : Nat) : s.extract 0 n = ⟨(s.data.toList.take n).toArray⟩ := by
  apply ByteArray.ext
  rw [ByteArray.data_extract, ← Array.toList_inj, Array.toList_extract, List.extract_eq_take_drop]
  simp
theorem ext_from (s : ByteArray) (n : Nat) : (s.extract n s.size).data.toList = s.data.toList.drop n := by
  rw [ByteArray.data_extract, Array.toList_extract, List.extract_eq_take_drop, List.take_of_length_le]
  simp
theorem own_text {s : ByteArray} : s = ⟨s.data.toList.toArray⟩ := by cases s; simp
theorem list_size (s : ByteArray) : s.data.toList.length = s.size := by rw [Array.length_toList]; rfl
theorem ulen {u : List UInt8} {n : Nat} (h : u.length = n) : (⟨u.toArray⟩ : ByteArray).size = n := by
  show u.toArray.size = n
  simpa using h
theorem udata (u : List UInt8) : (⟨u.toArray⟩ : ByteArray).data.toList = u := rfl
end Go.Proofs.YtjgfbicllgalkaaGreatDoor.Sx

namespace Go.Proofs.YtjgfbicllgalkaaGreatDoor.Sx
open Go.RowKit

/-- The letters of 0 to 63. -/
def lts : List UInt8 := [65, 66, 67, 68, 69, 70, 71, 72, 73, 74, 75, 76, 77, 78, 79, 80, 81, 82, 83, 84, 85, 86, 87, 88, 89, 90, 97, 98, 99, 100, 101, 102, 103, 104, 105, 106, 107, 108, 109, 110, 111, 112, 113, 114, 115, 116, 117, 118, 119, 120, 121, 122, 48, 49, 50, 51, 52, 53, 54, 55, 56, 57, 43, 47]
def lt (n : Nat) : UInt8 := lts.getD n 0
end Go.Proofs.YtjgfbicllgalkaaGreatDoor.Sx

namespace Go.Proofs.YtjgfbicllgalkaaGreatDoor.Sx
open Go.RowKit

/-- The letters of three bytes (a missing one counts 0). -/
def four (l : List UInt8) : List UInt8 := [lt ((l.getD 0 0).toNat / 4), lt (((l.getD 0 0).toNat % 16 * 16 + (l.getD 1 0).toNat / 16) % 64), lt (((l.getD 1 0).toNat % 64 * 4 + (l.getD 2 0).toNat / 64) % 64), lt ((l.getD 2 0).toNat % 64)]
/-- The letters of a piece of one to three bytes. -/
def quad (l : List UInt8) : List UInt8 := (four l).take (l.length + 1) ++ List.replicate (3 - l.length) 61
/-- Bytes as letters. -/
def enc (l : List UInt8) : List UInt8 := ((cut 3 l).map quad).flatten
theorem quad_length {l : List UInt8} (h : 1 ≤ l.length ∧ l.length ≤ 3) : (quad l).length = 4 := by
  unfold quad four
  rw [List.length_append, List.length_take, List.length_replicate]
  simp only [List.length_cons, List.length_nil]
  omega
theorem quads_length {l : List (List UInt8)} (h : ∀ x ∈ l, 1 ≤ x.length ∧ x.length ≤ 3) : ((l.map quad).flatten).length = 4 * l.length := by
  induction l with
  | nil => rfl
  | cons x r ih =>
    rw [List.map_cons, List.flatten_cons, List.length_append, quad_length (h x (by simp)), ih (fun y hy => h y (by simp [hy])), List.length_cons]; omega
theorem quads_snoc (l : List (List UInt8)) (x : List UInt8) : ((l ++ [x]).map quad).flatten = (l.map quad).flatten ++ quad x := by simp
theorem enc_length (l : List UInt8) : (enc l).length = 4 * (cut 3 l).length := quads_length (cut_size (by decide) l)
end Go.Proofs.YtjgfbicllgalkaaGreatDoor.Sx

namespace Go.Proofs.YtjgfbicllgalkaaGreatDoor.Pp
open Go.RowKit

/-- Where byte c is in l from place a on, ahead of place z; z if nowhere. -/
def findN (l : List UInt8) (a z : Nat) (c : UInt8) : Nat := a + ((l.take z).drop a).idxOf c
theorem findN_le {l : List UInt8} {a z : Nat} {c : UInt8} (hz : z ≤ l.length) (ha : a ≤ z) : findN l a z c ≤ z := by
  unfold findN
  have h := List.idxOf_le_length (a := c) (l := (l.take z).drop a)
  rw [List.length_drop, List.length_take] at h
  omega
theorem findN_ge {l : List UInt8} {a z : Nat} {c : UInt8} : a ≤ findN l a z c := by unfold findN; omega
theorem findN_hit {l : List UInt8} {a z : Nat} {c : UInt8} (h : a < z) (hz : z ≤ l.length) (hc : l[a]'(by omega) = c) : findN l a z c = a := by
  unfold findN
  rw [List.drop_eq_getElem_cons (by rw [List.length_take]; omega), List.getElem_take, hc, List.idxOf_cons_self]; rfl
theorem findN_miss {l : List UInt8} {a z : Nat} {c : UInt8} (h : a < z) (hz : z ≤ l.length) (hc : ¬ l[a]'(by omega) = c) : findN l a z c = findN l (a + 1) z c := by
  unfold findN
  rw [List.drop_eq_getElem_cons (by rw [List.length_take]; omega), List.getElem_take, List.idxOf_cons, show ((l[a]'(by omega)) == c) = false by simpa using hc]
  simp only [cond_false]
  omega
theorem findN_end {l : List UInt8} {z : Nat} {c : UInt8} (hz : z ≤ l.length) : findN l z z c = z := by
  unfold findN
  rw [List.drop_eq_nil_of_le (by rw [List.length_take]; omega)]; rfl

set_option maxHeartbeats 400000 in
theorem rFind_any (s : ByteArray) (a z : Nat) (c : UInt8) (w : World) (hz : z ≤ s.size) (ha : a ≤ z) (hs : s.size ≤ 1099511627776) :
    Calls Tryz.prog 207 #[.string s, .int .i64 a, .int .i64 z, .int .u8 (c.toNat : Int)] w fun e w' => e = .returned (.int .i64 (findN s.data.toList a z c : Nat)) ∧ w = w' := by
  obtain ⟨r, hr⟩ : ∃ r, findN s.data.toList a z c = r := ⟨_, rfl⟩
  rw [hr]
  have HE := Lib.hid (findN_end (l := s.data.toList) (z := z) (c := c) (by rw [list_size]; exact hz))
  have HH : Hid (∀ k, (h : k < z) → s[k]'(by omega) = c → findN s.data.toList k z c = k) := Lib.hid (fun k h e => findN_hit h (by rw [list_size]; exact hz) (by rw [← e]; simp; rfl))
  have HM : Hid (∀ k, (h : k < z) → ¬ s[k]'(by omega) = c → findN s.data.toList k z c = findN s.data.toList (k + 1) z c) := Lib.hid (fun k h e => findN_miss h (by rw [list_size]; exact hz) (fun f => e (by rw [← f]; simp; rfl)))
  go_enter Tryz.func207, Tryz.ntmps207
  go_wp2_with fail
  go_loop [9] (fun iv => ∃ k : Nat, iv = .int .i64 k ∧ a ≤ k ∧ k ≤ z ∧ Hid (findN s.data.toList k z c = r)) (fun iv => z - (intOf iv).toNat)
  case atStart => exact ⟨a, rfl, Nat.le_refl _, ha, Lib.hid hr⟩
  case round =>
    obtain ⟨k, rfl, hk0, hk, HK⟩ := hrel
    clear hr
    by_cases hlt : k < z
    · have hlt2 : k < s.size := by omega
      have H1 := Lib.hid (HH.out k hlt)
      have H2 := Lib.hid (HM.out k hlt)
      obtain ⟨d, hd⟩ : ∃ d : UInt8, s[k] = d := ⟨_, rfl⟩
      rw [hd] at H1 H2
      by_cases he : d = c
      · obtain rfl : k = r := by rw [← HK.out]; exact (H1.out he).symm
        subst he
        go_wp2_with fail
        go_ret
        exact ⟨rfl, rfl⟩
      · have HK' := Lib.hid ((H2.out he).symm.trans HK.out)
        have hne : ((d.toNat : Int) == (c.toNat : Int)) = false := by
          rw [beq_eq_false_iff_ne]; intro h; exact he (UInt8.toNat_inj.mp (by omega))
        go_wp2_with fail
        go_round
        case rel => exact ⟨k + 1, by go_num, by omega, by omega, HK'⟩
        case measure => simp [intOf]; omega
    · obtain rfl : k = z := by omega
      obtain rfl : k = r := by rw [← HK.out]; exact HE.out.symm
      go_wp2_with fail
      go_ret
      exact ⟨rfl, rfl⟩
end Go.Proofs.YtjgfbicllgalkaaGreatDoor.Pp

namespace Go.Proofs.YtjgfbicllgalkaaGreatDoor.Pp
open Go.RowKit

/-- A digit. -/
def digb (c : UInt8) : Bool := decide (48 ≤ (c.toNat : Int) ∧ (c.toNat : Int) ≤ 57)
theorem pCap_any (c : UInt8) (w : World) :
    Calls Tryz.prog 225 #[.int .u8 (c.toNat : Int)] w fun e w' => e = .returned (.bool (lett c)) ∧ w = w' := by
  have hb := c.toNat_lt
  go_enter Tryz.func225, Tryz.ntmps225
  go_wp2
  all_goals (go_ret; exact ⟨ret_bool (by unfold lett; rw [Bool.eq_iff_iff]; simp; try omega), rfl⟩)
theorem pDig_any (c : UInt8) (w : World) :
    Calls Tryz.prog 226 #[.int .u8 (c.toNat : Int)] w fun e w' => e = .returned (.bool (digb c)) ∧ w = w' := by
  have hb := c.toNat_lt
  go_enter Tryz.func226, Tryz.ntmps226
  go_wp2
  all_goals (go_ret; exact ⟨ret_bool (by unfold digb; rw [Bool.eq_iff_iff]; simp; try omega), rfl⟩)

set_option maxHeartbeats 1600000 in
theorem pName_any (s : ByteArray) (w : World) :
    Calls Tryz.prog 172 #[.string s] w fun e w' => e = .returned (.bool (nameB s)) ∧ w = w' := by
  by_cases hz : s.size = 0
  · rw [nameB_none hz]
    have hs0 := str_none hz
    go_enter Tryz.func172, Tryz.ntmps172
    go_wp2_with fail
    go_ret
    exact ⟨rfl, rfl⟩
  have hs0 := str_some hz
  by_cases hl : 32 < (s.size : Int)
  · rw [nameB_long (by omega)]
    go_enter Tryz.func172, Tryz.ntmps172
    go_wp2_with fail
    go_ret
    exact ⟨rfl, rfl⟩
  have hp : 0 < s.size := by omega
  rw [nameB_some hp (by omega)]
  obtain ⟨r, hr⟩ : ∃ r, s.data.toList.all nmc = r := ⟨_, rfl⟩
  rw [hr]
  have C1 := Lib.hid (fun W => pCap_any s[0] W)
  generalize lett s[0] = p at C1 ⊢
  have HE := Lib.hid (all_end (P := nmc) (s := s))
  cases p with
  | false =>
    go_enter Tryz.func172, Tryz.ntmps172
    go_wp2_with fail
    refine (C1.out _).mono ?_
    rintro e w' ⟨rfl, rfl⟩
    go_wp2_with fail
    go_ret
    exact ⟨rfl, rfl⟩
  | true =>
    go_enter Tryz.func172, Tryz.ntmps172
    go_wp2_with fail
    refine (C1.out _).mono ?_
    rintro e w' ⟨rfl, rfl⟩
    go_wp2_with fail
    go_loop [19] (fun iv => ∃ k : Nat, iv = .int .i64 k ∧ k ≤ s.size ∧ Hid ((s.data.toList.drop k).all nmc = r)) (fun iv => s.size - (intOf iv).toNat)
    case atStart => exact ⟨0, rfl, Nat.zero_le _, Lib.hid (by rw [List.drop_zero]; exact hr)⟩
    case round =>
      obtain ⟨k, rfl, hk, HK⟩ := hrel
      clear hr C1
      by_cases hlt : k < s.size
      · have HN := Lib.hid (all_no (P := nmc) hlt)
        have HY := Lib.hid (all_yes (P := nmc) hlt)
        have C2 := Lib.hid (fun W => pCap_any s[k] W)
        have C3 := Lib.hid (fun W => pDig_any s[k] W)
        obtain ⟨c, hc⟩ : ∃ c : UInt8, s[k] = c := ⟨_, rfl⟩
        have hb := c.toNat_lt
        have HU := Lib.hid (show nmc c = (lett c || digb c || decide ((c.toNat : Int) = 45)) from rfl)
        rw [hc] at HN HY C2 C3
        generalize lett c = q at C2 HU
        generalize digb c = d at C3 HU
        cases q with
        | true =>
          have HK' := Lib.hid ((HY.out (by rw [HU.out]; rfl)).symm.trans HK.out)
          go_wp2_with fail
          refine (C2.out _).mono ?_
          rintro e w' ⟨rfl, rfl⟩
          go_wp2_with fail
          go_round
          case rel => exact ⟨k + 1, by go_num, by omega, HK'⟩
          case measure => simp [intOf]; omega
        | false =>
          cases d with
          | true =>
            have HK' := Lib.hid ((HY.out (by rw [HU.out]; rfl)).symm.trans HK.out)
            go_wp2_with fail
            refine (C2.out _).mono ?_
            rintro e w' ⟨rfl, rfl⟩
            go_wp2_with fail
            refine (C3.out _).mono ?_
            rintro e w' ⟨rfl, rfl⟩
            go_wp2_with fail
            go_round
            case rel => exact ⟨k + 1, by go_num, by omega, HK'⟩
            case measure => simp [intOf]; omega
          | false =>
            by_cases h3 : (c.toNat : Int) = 45
            · have h4 : ((c.toNat : Int) != 45) = false := by rw [h3]; rfl
              have HK' := Lib.hid ((HY.out (by rw [HU.out, decide_eq_true h3]; rfl)).symm.trans HK.out)
              clear h3
              go_wp2_with fail
              refine (C2.out _).mono ?_
              rintro e w' ⟨rfl, rfl⟩
              go_wp2_with fail
              refine (C3.out _).mono ?_
              rintro e w' ⟨rfl, rfl⟩
              go_wp2_with fail
              go_round
              case rel => exact ⟨k + 1, by go_num, by omega, HK'⟩
              case measure => simp [intOf]; omega
            · have h4 : ((c.toNat : Int) != 45) = true := bne_iff_ne.2 h3
              obtain rfl : false = r := by rw [← HK.out]; exact (HN.out (by rw [HU.out, decide_eq_false h3]; rfl)).symm
              clear h3
              go_wp2_with fail
              refine (C2.out _).mono ?_
              rintro e w' ⟨rfl, rfl⟩
              go_wp2_with fail
              refine (C3.out _).mono ?_
              rintro e w' ⟨rfl, rfl⟩
              go_wp2_with fail
              go_ret
              exact ⟨rfl, rfl⟩
      · obtain rfl : k = s.size := by omega
        obtain rfl : true = r := by rw [← HK.out]; exact HE.out.symm
        go_wp2_with fail
        go_ret
        exact ⟨rfl, rfl⟩
end Go.Proofs.YtjgfbicllgalkaaGreatDoor.Pp

namespace Go.Proofs.YtjgfbicllgalkaaGreatDoor.Pp
open Go.RowKit

/-- The first parameter of the name, from place k on. -/
def getP : List (ByteArray × ByteArray) → ByteArray → Option ByteArray
  | [], _ => none
  | p :: r, s => if (p.1.toList == s.toList) = true then some p.2 else getP r s
def getV (ps : List (ByteArray × ByteArray)) (s : ByteArray) : ByteArray := (getP ps s).getD ⟨#[]⟩
def getB (ps : List (ByteArray × ByteArray)) (s : ByteArray) : Bool := (getP ps s).isSome
theorem getP_yes {l : List (ByteArray × ByteArray)} {s : ByteArray} {k : Nat} (h : k < l.length) (he : (l[k].1.toList == s.toList) = true) : getP (l.drop k) s = some l[k].2 := by
  rw [List.drop_eq_getElem_cons h, getP, if_pos he]
theorem getP_no {l : List (ByteArray × ByteArray)} {s : ByteArray} {k : Nat} (h : k < l.length) (he : (l[k].1.toList == s.toList) = false) : getP (l.drop k) s = getP (l.drop (k + 1)) s := by
  rw [List.drop_eq_getElem_cons h, getP, if_neg (by rw [he]; simp)]

set_option maxHeartbeats 400000 in
theorem rGet_any (g n : ByteArray) (pv : Value) (v : ByteArray) (av : Value) (s : ByteArray) (ps : List (ByteArray × ByteArray)) (w : World) (hps : Ps w w.heap.size pv ps) (hl : ps.length ≤ 1099511627776) :
    Calls Tryz.prog 148 #[prV g n pv v av, .string s] w fun e w' => e = .returned (.tuple #[.string (getV ps s), .bool (getB ps s)]) ∧ Below w.heap.size w w' := by
  obtain ⟨pa, pc, rfl⟩ := hps.shape
  unfold prV getV getB
  obtain ⟨r, hr⟩ : ∃ r, getP ps s = r := ⟨_, rfl⟩
  rw [hr]
  have HB : Below w.heap.size w (w.alloc (.cells #[.string g, .string n, .slice pa ps.length pc, .string v, av] 56)) := (Below.refl _ _).alloc (Nat.le_refl _) _
  go_enter Tryz.func148, Tryz.ntmps148
  go_wp2_with fail
  go_loopw [6] (fun iv wr => ∃ k : Nat, k ≤ ps.length ∧ iv = .int .i64 k ∧ PrAt wr w.heap.size g n (.slice pa ps.length pc) v av ∧ Below w.heap.size w wr ∧ Hid (getP (ps.drop k) s = r)) (fun iv _ => ps.length - (intOf iv).toNat)
  case atStart => exact ⟨0, Nat.zero_le _, rfl, heap_alloc_new w _, HB, Lib.hid hr⟩
  case round =>
    obtain ⟨k, hk, rfl, hcell, hbel, HK⟩ := hrel
    have k2 := hcell.c2
    clear hr
    by_cases hlt : k < ps.length
    · obtain ⟨b, o, cap, hv1, hbB, hc0, hc1⟩ := (hps.below hbel).at_ hlt
      simp only [Value.slice.injEq, true_and] at hv1
      obtain ⟨rfl, rfl⟩ := hv1
      have HN := Lib.hid (getP_no (s := s) hlt)
      have HY := Lib.hid (getP_yes (s := s) hlt)
      generalize ps[k] = x at hc0 hc1 HN HY
      obtain ⟨n', v'⟩ := x
      simp only at HN HY hc0 hc1
      cases he : (n'.toList == s.toList)
      · have HK' := Lib.hid ((HN.out he).symm.trans HK.out)
        go_wp2_with fail
        go_roundw
        case rel => exact ⟨k + 1, by omega, by go_num, hcell, hbel, HK'⟩
        case measure => simp [intOf]; omega
      · obtain rfl : some v' = r := by rw [← HK.out]; exact (HY.out he).symm
        go_wp2_with fail
        go_ret2
        exact ⟨rfl, hbel⟩
    · obtain rfl : k = ps.length := by omega
      obtain rfl : none = r := by rw [← HK.out, List.drop_length]; rfl
      go_wp2_with fail
      go_ret2
      exact ⟨rfl, hbel⟩
end Go.Proofs.YtjgfbicllgalkaaGreatDoor.Pp

namespace Go.Proofs.YtjgfbicllgalkaaGreatDoor.Pp
open Go.RowKit

set_option maxHeartbeats 800000 in
theorem pGet_any (g n : ByteArray) (pv : Value) (v : ByteArray) (av : Value) (s : ByteArray) (ps : List (ByteArray × ByteArray)) (w : World) (hps : Ps w w.heap.size pv ps) (hl : ps.length ≤ 1099511627776) :
    Calls Tryz.prog 198 #[prV g n pv v av, .string s] w fun e w' => e = .returned (.tuple #[.string (getV ps s), .bool (getB ps s)]) ∧ Below w.heap.size w w' := by
  obtain ⟨pa, pc, rfl⟩ := hps.shape
  unfold prV getV getB
  obtain ⟨r, hr⟩ : ∃ r, getP ps s = r := ⟨_, rfl⟩
  rw [hr]
  have HB : Below w.heap.size w (w.alloc (.cells #[.string g, .string n, .slice pa ps.length pc, .string v, av] 56)) := (Below.refl _ _).alloc (Nat.le_refl _) _
  have HA : PrAt (w.alloc (.cells #[.string g, .string n, .slice pa ps.length pc, .string v, av] 56)) w.heap.size g n (.slice pa ps.length pc) v av := heap_alloc_new w _
  have k2 := HA.c2
  go_enter Tryz.func198, Tryz.ntmps198
  go_wp2_with fail
  clear k2
  go_loopw [11] (fun iv wr => ∃ k : Nat, k ≤ ps.length ∧ iv = .int .i64 k ∧ Below w.heap.size w wr ∧ Hid (getP (ps.drop k) s = r)) (fun iv _ => ps.length - (intOf iv).toNat)
  case atStart => exact ⟨0, Nat.zero_le _, rfl, HB, Lib.hid hr⟩
  case round =>
    obtain ⟨k, hk, rfl, hbel, HK⟩ := hrel
    clear hr
    by_cases hlt : k < ps.length
    · obtain ⟨b, o, cap, hv1, hbB, hc0, hc1⟩ := (hps.below hbel).at_ hlt
      simp only [Value.slice.injEq, true_and] at hv1
      obtain ⟨rfl, rfl⟩ := hv1
      have HN := Lib.hid (getP_no (s := s) hlt)
      have HY := Lib.hid (getP_yes (s := s) hlt)
      generalize ps[k] = x at hc0 hc1 HN HY
      obtain ⟨n', v'⟩ := x
      simp only at HN HY hc0 hc1
      have B2 : Below w.heap.size w (wr.alloc (.cells #[.string n', .string v'] 58)) := hbel.alloc hbel.size _
      cases he : (n'.toList == s.toList)
      · have HK' := Lib.hid ((HN.out he).symm.trans HK.out)
        go_wp2_with fail
        go_roundw
        case rel => exact ⟨k + 1, by omega, by go_num, B2, HK'⟩
        case measure => simp [intOf]; omega
      · obtain rfl : some v' = r := by rw [← HK.out]; exact (HY.out he).symm
        go_wp2_with fail
        go_ret2
        exact ⟨rfl, B2⟩
    · obtain rfl : k = ps.length := by omega
      obtain rfl : none = r := by rw [← HK.out, List.drop_length]; rfl
      go_wp2_with fail
      go_ret2
      exact ⟨rfl, hbel⟩
end Go.Proofs.YtjgfbicllgalkaaGreatDoor.Pp

namespace Go.Proofs.YtjgfbicllgalkaaGreatDoor.Ln

/-- A line without the carriage return at its end. -/
def trimR (t : List UInt8) : List UInt8 := if t.getLast? = some 13 then t.dropLast else t
/-- The lines of a text, t of the first one being there already. -/
def spl : List UInt8 → List UInt8 → List (List UInt8)
  | t, [] => if t = [] then [] else [t]
  | t, b :: r => if b = 10 then trimR t :: spl [] r else spl (t ++ [b]) r
def split (l : List UInt8) : List (List UInt8) := spl [] l
theorem split_nil : split [] = [] := rfl
theorem idx_cons (b : UInt8) (r : List UInt8) (h : ¬ b = 10) : (b :: r).idxOf 10 = r.idxOf 10 + 1 := by
  rw [List.idxOf_cons]; have : (b == 10) = false := by simpa using h
  rw [this]; rfl
theorem spl_yes : ∀ (t l : List UInt8), l.idxOf 10 < l.length → spl t l = trimR (t ++ l.take (l.idxOf 10)) :: spl [] (l.drop (l.idxOf 10 + 1))
  | _, [], h => by simp at h
  | t, b :: r, h => by
    by_cases hb : b = 10
    · subst hb; simp [spl]
    · rw [idx_cons b r hb] at h ⊢
      have ih := spl_yes (t ++ [b]) r (by simpa using h)
      rw [spl, if_neg hb, ih]
      simp
theorem spl_no : ∀ (t l : List UInt8), ¬ l.idxOf 10 < l.length → spl t l = if t ++ l = [] then [] else [t ++ l]
  | t, [], _ => by simp [spl]
  | t, b :: r, h => by
    by_cases hb : b = 10
    · subst hb; simp at h
    · rw [idx_cons b r hb] at h
      have ih := spl_no (t ++ [b]) r (by simpa using h)
      rw [spl, if_neg hb, ih]
      simp
theorem split_yes {l : List UInt8} (h : l.idxOf 10 < l.length) : split l = trimR (l.take (l.idxOf 10)) :: split (l.drop (l.idxOf 10 + 1)) := by
  unfold split; rw [spl_yes [] l h]; simp
theorem split_no {l : List UInt8} (h : ¬ l.idxOf 10 < l.length) (hl : l ≠ []) : split l = [l] := by
  unfold split; rw [spl_no [] l h]; simp [hl]
theorem trimR_length (t : List UInt8) : (trimR t).length ≤ t.length := by unfold trimR; split <;> simp
theorem spl_length : ∀ (t l : List UInt8), (spl t l).length ≤ (if t = [] then 0 else 1) + l.length
  | t, [] => by unfold spl; by_cases h : t = [] <;> simp [h]
  | t, b :: r => by
    unfold spl
    by_cases hb : b = 10
    · rw [if_pos hb]; have := spl_length [] r; simp at this ⊢; omega
    · rw [if_neg hb]; have := spl_length (t ++ [b]) r; simp at this ⊢; omega
theorem split_length (l : List UInt8) : (split l).length ≤ l.length := by have := spl_length [] l; unfold split; simpa using this
/-- All of a list's texts, one behind the other. -/
def bytes (l : List (List UInt8)) : Nat := l.flatten.length
theorem bytes_cons (x : List UInt8) (l : List (List UInt8)) : bytes (x :: l) = x.length + bytes l := by simp [bytes]
theorem bytes_append (l r : List (List UInt8)) : bytes (l ++ r) = bytes l + bytes r := by simp [bytes]
theorem spl_bytes : ∀ (t l : List UInt8), bytes (spl t l) ≤ t.length + l.length
  | t, [] => by unfold spl; by_cases h : t = [] <;> simp [h, bytes]
  | t, b :: r => by
    unfold spl
    by_cases hb : b = 10
    · rw [if_pos hb, bytes_cons]; have h1 := spl_bytes [] r; have h2 := trimR_length t; simp at h1 ⊢; omega
    · rw [if_neg hb]; have := spl_bytes (t ++ [b]) r; simp at this ⊢; omega
theorem split_bytes (l : List UInt8) : bytes (split l) ≤ l.length := by have := spl_bytes [] l; unfold split; simpa using this

/-- Lines with their numbers. -/
def num : Nat → List (List UInt8) → List (Nat × List UInt8)
  | _, [] => []
  | k, x :: r => (k, x) :: num (k + 1) r
theorem num_length : ∀ (k : Nat) (l : List (List UInt8)), (num k l).length = l.length
  | _, [] => rfl
  | k, x :: r => by simp [num, num_length (k + 1) r]
theorem num_snd : ∀ (k : Nat) (l : List (List UInt8)), (num k l).map (·.2) = l
  | _, [] => rfl
  | k, x :: r => by simp [num, num_snd (k + 1) r]
theorem num_get : ∀ (k : Nat) (l : List (List UInt8)) (i : Nat) (h : i < l.length), (num k l)[i]? = some (k + i, l[i])
  | k, x :: r, 0, _ => rfl
  | k, x :: r, i + 1, h => by
    have := num_get (k + 1) r i (by simpa using h)
    simp only [num, List.getElem?_cons_succ, this, List.getElem_cons_succ]
    congr 2; omega
theorem num_drop (k : Nat) (l : List (List UInt8)) (i : Nat) (h : i < l.length) : (num k l).drop i = (k + i, l[i]) :: (num k l).drop (i + 1) := by
  have hl : i < (num k l).length := by rw [num_length]; exact h
  rw [List.drop_eq_getElem_cons hl]
  congr 1
  have := num_get k l i h
  rw [List.getElem?_eq_getElem hl] at this
  simpa using this

/-- Does a line go on with the one ahead? -/
def goes : List UInt8 → Bool
  | b :: _ => b == 32 || b == 9
  | [] => false
/-- Lines, each with those that go on with it; st: the one that is not at its end yet. -/
def unf : Option (Nat × List UInt8) → List (Nat × List UInt8) → List (Nat × List UInt8)
  | none, [] => []
  | some p, [] => [p]
  | none, x :: r => unf (some x) r
  | some p, x :: r => if goes x.2 then unf (some (p.1, p.2 ++ x.2)) r else p :: unf (some x) r
theorem unf_same : ∀ (r r' : List (Nat × List UInt8)) (st st' : Option (Nat × List UInt8)), r.map (·.2) = r'.map (·.2) → st.map (·.2) = st'.map (·.2) → (unf st r).map (·.2) = (unf st' r').map (·.2)
  | [], [], none, none, _, _ => rfl
  | [], [], some p, some q, _, h => by simpa [unf] using h
  | [], [], none, some q, _, h => by simp at h
  | [], [], some q, none, _, h => by simp at h
  | [], x :: r, _, _, h, _ => by simp at h
  | x :: r, [], _, _, h, _ => by simp at h
  | x :: r, y :: r', none, some q, _, h => by simp at h
  | x :: r, y :: r', some q, none, _, h => by simp at h
  | x :: r, y :: r', none, none, h, _ => by
    simp only [List.map_cons, List.cons.injEq] at h
    unfold unf
    exact unf_same r r' (some x) (some y) h.2 (by simp [h.1])
  | x :: r, y :: r', some p, some q, h, hs => by
    simp only [List.map_cons, List.cons.injEq] at h
    have hs' : p.2 = q.2 := by simpa using hs
    unfold unf
    rw [h.1]
    by_cases hg : goes y.2 = true
    · rw [if_pos hg, if_pos hg]
      exact unf_same r r' _ _ h.2 (by simp [hs'])
    · rw [if_neg hg, if_neg hg, List.map_cons, List.map_cons, unf_same r r' (some x) (some y) h.2 (by simp [h.1]), hs']
def unfold (l : List (List UInt8)) : List (List UInt8) := (unf none (num 1 l)).map (·.2)
theorem unfold_any (k : Nat) (l : List (List UInt8)) : (unf none (num k l)).map (·.2) = unfold l := unf_same _ _ _ _ (by rw [num_snd, num_snd]) rfl
theorem unf_length : ∀ (st : Option (Nat × List UInt8)) (r : List (Nat × List UInt8)), (unf st r).length ≤ st.toList.length + r.length
  | none, [] => by simp [unf]
  | some p, [] => by simp [unf]
  | none, x :: r => by have := unf_length (some x) r; simp [unf] at this ⊢; omega
  | some p, x :: r => by
    unfold unf
    by_cases hg : goes x.2 = true
    · rw [if_pos hg]; have := unf_length (some (p.1, p.2 ++ x.2)) r; simp at this ⊢; omega
    · rw [if_neg hg]; have := unf_length (some x) r; simp at this ⊢; omega

/-- Lines as a text. -/
def join : List (List UInt8) → List UInt8
  | [] => []
  | x :: r => x ++ ([13, 10] ++ join r)
theorem join_length : ∀ l : List (List UInt8), (join l).length = bytes l + 2 * l.length
  | [] => rfl
  | x :: r => by have := join_length r; simp [join, bytes_cons]; omega

def blank (l : List UInt8) (i : Nat) : Bool := match l[i]? with | some b => b == 32 || b == 9 | none => false
theorem blank_at {l : List UInt8} {i : Nat} (h : i < l.length) : blank l i = (l[i] == 32 || l[i] == 9) := by unfold blank; rw [List.getElem?_eq_getElem h]
theorem blank_off {l : List UInt8} {i : Nat} (h : ¬ i < l.length) : blank l i = false := by unfold blank; rw [List.getElem?_eq_none (by omega)]
theorem goes_blank (l : List UInt8) : goes l = blank l 0 := by cases l <;> rfl
/-- The last of the places 1 to i at which a blank stands; 0: none. -/
def last (l : List UInt8) : Nat → Nat
  | 0 => 0
  | i + 1 => if blank l (i + 1) then i + 1 else last l i
theorem last_le (l : List UInt8) : ∀ i, last l i ≤ i
  | 0 => Nat.le_refl _
  | i + 1 => by unfold last; split; exact Nat.le_refl _; have := last_le l i; omega
def place (k : Nat) (l : List UInt8) : Nat := if l.length ≤ k then 0 else last l k
theorem place_lt {k : Nat} {l : List UInt8} (h : place k l ≠ 0) : place k l < l.length ∧ k < l.length := by
  unfold place at h ⊢
  by_cases hl : l.length ≤ k
  · rw [if_pos hl] at h; exact absurd rfl h
  · rw [if_neg hl]; have := last_le l k; omega
def fold (k : Nat) (l : List UInt8) : List (List UInt8) := if h : place k l = 0 then [l] else have _ := h; l.take (place k l) :: fold k (l.drop (place k l))
termination_by l.length
decreasing_by rw [List.length_drop]; have := place_lt h; omega
theorem fold_end {k : Nat} {l : List UInt8} (h : place k l = 0) : fold k l = [l] := by rw [fold, dif_pos h]
theorem fold_more {k : Nat} {l : List UInt8} (h : place k l ≠ 0) : fold k l = l.take (place k l) :: fold k (l.drop (place k l)) := by rw [fold, dif_neg h]
end Go.Proofs.YtjgfbicllgalkaaGreatDoor.Ln

namespace Go.Proofs.YtjgfbicllgalkaaGreatDoor.Laws

theorem run_equalIn_func_nil {P : Program} (w : World) (d : Nat) (t : TypeId) (ps rs : Array TypeId) (vd : Bool) (fn : Fn) (fi ca : Array Value) (h : P.underlying t = some (.func ps rs vd)) :
    (Op.equalIn (d + 1) t (.func fn fi ca) .nilFunc).run P w = .ok false w := by
  simp [Op.equalIn, run_underlying h]
/-- A function value is not nil. -/
theorem run_eql_func_nil {P : Program} (w : World) (t : TypeId) (ps rs : Array TypeId) (vd : Bool) (fn : Fn) (fi ca : Array Value) (h : P.underlying t = some (.func ps rs vd)) :
    (binOp .eql t (.func fn fi ca) .nilFunc).run P w = .ok (.bool false) w := by
  simp only [binOp]
  simp [Op.equal, Op.maxDepth, run_equalIn_func_nil w 9999 t ps rs vd fn fi ca h]
end Go.Proofs.YtjgfbicllgalkaaGreatDoor.Laws

namespace Go.Proofs.YtjgfbicllgalkaaGreatDoor.Pp
open Go.RowKit

/-- A line with one parameter more. -/
def withP (acc : ByteArray) (p : ByteArray × ByteArray) : ByteArray := (if p.1.size = 0 then acc ++ ⟨#[59]⟩ else acc ++ ⟨#[59]⟩ ++ p.1 ++ ⟨#[61]⟩) ++ p.2
def headL (g n : ByteArray) : ByteArray := if g.size = 0 then n else g ++ ⟨#[46]⟩ ++ n
def lineB (g n : ByteArray) (ps : List (ByteArray × ByteArray)) (v : ByteArray) : ByteArray := ps.foldl withP (headL g n) ++ ⟨#[58]⟩ ++ v
def prt (g n : ByteArray) (ps : List (ByteArray × ByteArray)) (v : ByteArray) (e : Int) : ByteArray := if e = 0 then lineB g n ps v else ⟨#[]⟩
theorem fold_step {l : List (ByteArray × ByteArray)} {k : Nat} (h : k < l.length) (acc : ByteArray) : (l.drop k).foldl withP acc = (l.drop (k + 1)).foldl withP (withP acc l[k]) := by
  rw [List.drop_eq_getElem_cons h]; rfl

theorem nameB_le {s : ByteArray} (h : nameB s = true) : s.size ≤ 32 := by
  by_cases hl : s.size ≤ 32
  · exact hl
  · rw [nameB_long hl] at h; cases h
theorem valB_le {s : ByteArray} (h : valB s = true) : s.size ≤ 32 := by
  by_cases hl : s.size ≤ 32
  · exact hl
  · rw [valB_long hl] at h; cases h
/-- A property in which nothing is wrong. -/
theorem chk_ok {g n v : ByteArray} {ps : List (ByteArray × ByteArray)} {m : Nat} (h : chk g n ps v m = 0) : goodNames g n = true ∧ ps.length ≤ 6 ∧ goodPs ps = true ∧ m = 0 ∧ v.size ≤ 2400 ∧ goodV v = true := by
  unfold chk at h
  split at h
  · cases h
  split at h
  · cases h
  split at h
  · cases h
  split at h
  · cases h
  split at h
  · cases h
  split at h
  · cases h
  refine ⟨by simp_all, by omega, by simp_all, by omega, by omega, by simp_all⟩
theorem goodNames_le {g n : ByteArray} (h : goodNames g n = true) : g.size ≤ 32 ∧ n.size ≤ 32 := by
  unfold goodNames at h
  rw [Bool.and_eq_true, Bool.or_eq_true] at h
  refine ⟨?_, nameB_le h.2⟩
  rcases h.1 with h1 | h1
  · have := of_decide_eq_true h1; omega
  · exact nameB_le h1
theorem goodPs_le {ps : List (ByteArray × ByteArray)} (h : goodPs ps = true) {k : Nat} (hk : k < ps.length) : ps[k].1.size ≤ 32 ∧ ps[k].2.size ≤ 32 := by
  unfold goodPs at h
  rw [List.all_eq_true] at h
  have hp := h ps[k] (List.getElem_mem hk)
  unfold paramB at hp
  rw [Bool.and_eq_true, Bool.or_eq_true] at hp
  refine ⟨?_, valB_le hp.2⟩
  rcases hp.1 with h1 | h1
  · have := of_decide_eq_true h1; omega
  · exact nameB_le h1
theorem size_1 (c : UInt8) : (⟨#[c]⟩ : ByteArray).size = 1 := rfl
end Go.Proofs.YtjgfbicllgalkaaGreatDoor.Pp
