/-
Texts joined in one file, each with its own conditions: Small words of the document's cards: ways of writing, frames' names, plain and blank texts. Conditions: a text has at most 2^47 bytes. · What is wrong with a card, in plain words. No program in it, no conditions. · The document's reader of a card's lines: the next line that counts. Conditions: at most 2^40 lines, each of at most 2^47 bytes. · How a property says that it is written, as the document asks it. Conditions: at most 2^40 parameters, whose values have at most 2^47 bytes. · What the library's capital letters need of the world: three tables of Go's own, as the rows list them; that they stay; strings.ToUpper over them. Conditions: the tables hold what the rows list. · Plain functions on bytes: what two digits of either case say, through the library's capital letters. No program in it, no conditions. · Plain functions on bytes: what letters say ('dec'). No program in it, no conditions. · Rows of parameters of a call's own; the law's copy of a property. Conditions: at most 2^30 parameters, below the caller's blocks. · The law's copy of a property: its parameters lie in a row of the call's own. Conditions: at most 2^30 parameters, below the caller's blocks. · A property's line read, in plain words; how its variable and its result lie in memory meanwhile. No conditions of its own. · A property that came in: its texts, its parameters behind their slice, its list of cards as a slice. Conditions: none but the row's own. · The closed facts of the row VcardLines: none of them speaks of a run. No conditions.
-/
import Derived.Test.YtpdodknldhbbhaaGreatDoorJ02
import Derived.Laws.DeepStrings4
import Derived.Test.YtpdodknldhbbhaaGreatDoorJ04
import Derived.Test.YtpdodknldhbbhaaGreatDoorJ06
import Derived.Deep.LoopGhost
import Derived.BigQuiet
import Derived.Test.YtpdodknldhbbhaaGreatDoorRows
import Derived.Test.YtpdodknldhbbhaaGreatDoorShelf
import Derived.Lib.LaidCase
import Derived.Lib.LaidU8T
import Derived.PinnedBridge
import Derived.MakeChecks
import Derived.Lib.Hide
import Derived.Test.YtpdodknldhbbhaaGreatDoorJ03
import Derived.Lib.MapLaws
import Derived.Shelf.Strings.CaseAny
import Derived.Shelf.Abstract
import Derived.OwnWalkIn
import Derived.OpenShut
import Derived.Lib.BufferRead
import Derived.Laws.AppendOwn
import Derived.Laws.AppendOwnNone
import Derived.Deep.AppendLies
import Derived.ProofKit
import Derived.ChangeOld
import Derived.Deep.SlicePairs
import Derived.Carry
import Derived.WalkKit
import Derived.SevenTiedAt
import Derived.LaidOnce
import Derived.Stop.Joined
import Derived.LaidMore
namespace Go.Proofs.YtpdodknldhbbhaaGreatDoor.Vc
open Go.RowKit Pp

/-- Is a text, without a name, a way of writing? -/
def how (s : ByteArray) : Bool := decide (s.toList = [81, 85, 79, 84, 69, 68, 45, 80, 82, 73, 78, 84, 65, 66, 76, 69]) || decide (s.toList = [66, 65, 83, 69, 54, 52]) || decide (s.toList = [56, 66, 73, 84]) || decide (s.toList = [55, 66, 73, 84])
def framed (s : ByteArray) : Bool := decide (s.toList = [66, 69, 71, 73, 78]) || decide (s.toList = [69, 78, 68]) || decide (s.toList = [86, 69, 82, 83, 73, 79, 78])

theorem list_size (t : ByteArray) : t.data.toList.length = t.size := by rw [Array.length_toList]; rfl
theorem drop_at (t : ByteArray) (k : Nat) (h : k < t.size) : t.data.toList.drop k = t[k] :: t.data.toList.drop (k + 1) := by
  rw [List.drop_eq_getElem_cons (by rw [list_size]; exact h)]; rfl
theorem drop_end (t : ByteArray) (k : Nat) (h : ¬ k < t.size) : t.data.toList.drop k = [] := List.drop_eq_nil_of_le (by rw [list_size]; omega)
/-- Does a value stay as it is? -/
def plainB (c : UInt8) : Bool := decide (32 ≤ c.toNat) && decide (c.toNat ≤ 126)
def plain (l : List UInt8) : Bool := l.all plainB
def blankB (c : UInt8) : Bool := c == 32 || c == 9
def blank (l : List UInt8) : Bool := l.all blankB
theorem all_yes {f : UInt8 → Bool} {t : ByteArray} {k : Nat} {q : Bool} (h : k < t.size) (hf : f t[k] = true) (hq : (t.data.toList.drop k).all f = q) : (t.data.toList.drop (k + 1)).all f = q := by
  rw [drop_at t k h, List.all_cons, hf, Bool.true_and] at hq; exact hq
theorem all_no {f : UInt8 → Bool} {t : ByteArray} {k : Nat} {q : Bool} (h : k < t.size) (hf : f t[k] = false) (hq : (t.data.toList.drop k).all f = q) : q = false := by
  rw [drop_at t k h, List.all_cons, hf, Bool.false_and] at hq; exact hq.symm
theorem all_end {f : UInt8 → Bool} {t : ByteArray} {k : Nat} {q : Bool} (h : ¬ k < t.size) (hq : (t.data.toList.drop k).all f = q) : q = true := by
  rw [drop_end t k h] at hq; exact hq.symm

end Go.Proofs.YtpdodknldhbbhaaGreatDoor.Vc

namespace Go.Proofs.YtpdodknldhbbhaaGreatDoor.Vc
set_option maxRecDepth 100000
open Go.RowKit Pp

def encL : List UInt8 := [69, 78, 67, 79, 68, 73, 78, 71]
def chsL : List UInt8 := [67, 72, 65, 82, 83, 69, 84]
def agtL : List UInt8 := [65, 71, 69, 78, 84]
/-- A parameter that no card's property may have. -/
def oddP (x : ByteArray × ByteArray) : Bool := (x.1.toList == encL) || (x.1.toList == chsL) || (decide (x.1.size = 0) && (how x.2 || !((⟨(up x.2.data.toList).toArray⟩ : ByteArray).toList == x.2.toList)))
/-- Is it AGENT with anything but just one card and no value, or another one with a card? -/
def badA (p : Pd) (m : Nat) : Bool := decide (1 < m) || ((p.n.toList == agtL) != decide (m = 1)) || (decide (m = 1) && !decide (p.v.size = 0))
/-- What is wrong with a property but for its card. -/
def pflt (p : Pd) (m : Nat) : Int :=
  if chk p.g p.n p.ps ⟨#[]⟩ 0 ≠ 0 then chk p.g p.n p.ps ⟨#[]⟩ 0 else if 4 < p.ps.length then 4 else if p.ps.any oddP = true then 3 else if framed p.n = true then 14 else if 600 < p.v.size then 8 else if badA p m = true then 5 else 0
def chkP (f : Crd → Int) (p : Pd × List Crd) : Int :=
  if pflt p.1 p.2.length ≠ 0 then pflt p.1 p.2.length else match p.2 with
  | [a] => f a
  | _ => 0
def chkL (f : Crd → Int) : List (Pd × List Crd) → Int
  | [] => 0
  | p :: r => if chkP f p ≠ 0 then chkP f p else chkL f r
/-- What is wrong with a card but for how deep it is and how long its text. -/
def chkC : Nat → Crd → Int
  | 0, _ => 0
  | k + 1, t => if 24 < t.ps.length then 4 else chkL (chkC k) t.ps
theorem chkL_bad {f : Crd → Int} {l : List (Pd × List Crd)} {i : Nat} (h : i < l.length) (he : chkP f l[i] ≠ 0) : chkL f (l.drop i) = chkP f l[i] := by
  rw [List.drop_eq_getElem_cons h, chkL, if_pos he]
theorem chkL_ok {f : Crd → Int} {l : List (Pd × List Crd)} {i : Nat} (h : i < l.length) (he : chkP f l[i] = 0) : chkL f (l.drop i) = chkL f (l.drop (i + 1)) := by
  rw [List.drop_eq_getElem_cons h, chkL, if_neg (fun h => h he)]
theorem any_yes {f : ByteArray × ByteArray → Bool} {l : List (ByteArray × ByteArray)} {i : Nat} (h : i < l.length) (he : f l[i] = true) : (l.drop i).any f = true := by
  rw [List.drop_eq_getElem_cons h, List.any_cons, he, Bool.true_or]
theorem any_no {f : ByteArray × ByteArray → Bool} {l : List (ByteArray × ByteArray)} {i : Nat} (h : i < l.length) (he : f l[i] = false) : (l.drop i).any f = (l.drop (i + 1)).any f := by
  rw [List.drop_eq_getElem_cons h, List.any_cons, he, Bool.false_or]
/-- A property that is right but for its card: how many cards it has. -/
theorem pflt_cards {p : Pd} {m : Nat} (h : pflt p m = 0) : m ≤ 1 := by
  unfold pflt at h
  split at h
  · rename_i h1; exact absurd h h1
  split at h
  · cases h
  split at h
  · cases h
  split at h
  · cases h
  split at h
  · cases h
  split at h
  · cases h
  · rename_i hb
    unfold badA at hb
    by_cases hm : 1 < m
    · simp [hm] at hb
    · omega
theorem chkP_none {f : Crd → Int} {p : Pd × List Crd} (h : pflt p.1 p.2.length = 0) (h0 : p.2.length = 0) : chkP f p = 0 := by
  unfold chkP
  rw [if_neg (fun e => e h), List.eq_nil_of_length_eq_zero h0]
theorem chkP_one {f : Crd → Int} {p : Pd × List Crd} {a : Crd} (h : pflt p.1 p.2.length = 0) (h1 : p.2 = [a]) : chkP f p = f a := by
  unfold chkP
  rw [if_neg (fun e => e h), h1]
theorem chkP_bad {f : Crd → Int} {p : Pd × List Crd} (h : pflt p.1 p.2.length ≠ 0) : chkP f p = pflt p.1 p.2.length := by
  unfold chkP
  rw [if_pos h]
end Go.Proofs.YtpdodknldhbbhaaGreatDoor.Vc

namespace Go.Proofs.YtpdodknldhbbhaaGreatDoor.Vc
open Go.RowKit Pp

section
variable {w w' : World} {b i : Nat} {nv lv : Value}
end
/-- The lines, with their numbers, in two rows below block b. -/
def LsAt (w : World) (b : Nat) (nv lv : Value) (l : List (Nat × ByteArray)) : Prop :=
  ∃ na nc la lc, nv = .slice na l.length nc ∧ lv = .slice la l.length lc ∧ ∀ k (h : k < l.length), ∃ nb no lb lo, na = some ⟨nb, no, none⟩ ∧ la = some ⟨lb, lo, none⟩ ∧ nb < b ∧ lb < b ∧ w.cell? ⟨nb, no + k, none⟩ = some (.int .i64 (l[k].1 : Int)) ∧ w.cell? ⟨lb, lo + k, none⟩ = some (.string l[k].2)
theorem grown_cell {w w' : World} {b : Nat} (h : w.grownBy w' (some b)) (hb : b ≤ w.heap.size) {k o : Nat} (hk : k < b) : w'.cell? ⟨k, o, none⟩ = w.cell? ⟨k, o, none⟩ := by
  unfold World.cell?
  rw [h.block k (by omega) (by intro e; injection e with e; omega)]
theorem LsAt.grown {w w' : World} {b : Nat} {nv lv : Value} {l : List (Nat × ByteArray)} (h : LsAt w b nv lv l) (hg : w.grownBy w' (some b)) (hb : b ≤ w.heap.size) : LsAt w' b nv lv l := by
  obtain ⟨na, nc, la, lc, h1, h2, h3⟩ := h
  refine ⟨na, nc, la, lc, h1, h2, fun k hk => ?_⟩
  obtain ⟨nb, no, lb, lo, e1, e2, l1, l2, c1, c2⟩ := h3 k hk
  exact ⟨nb, no, lb, lo, e1, e2, l1, l2, (grown_cell hg hb l1).trans c1, (grown_cell hg hb l2).trans c2⟩
end Go.Proofs.YtpdodknldhbbhaaGreatDoor.Vc

namespace Go.Proofs.YtpdodknldhbbhaaGreatDoor.Vc
open Go.RowKit Pp Cs

/-- Does a parameter say how its property is written? -/
def tells (x : ByteArray × ByteArray) : Bool := decide (x.1.toList = [69, 78, 67, 79, 68, 73, 78, 71]) || (decide (x.1.size = 0) && how x.2)
def wayP : List (ByteArray × ByteArray) → Option ByteArray
  | [] => none
  | p :: r => if tells p = true then some ⟨(up p.2.data.toList).toArray⟩ else wayP r
def wayV (ps : List (ByteArray × ByteArray)) : ByteArray := (wayP ps).getD ⟨#[56, 66, 73, 84]⟩
theorem wayP_yes {l : List (ByteArray × ByteArray)} {k : Nat} (h : k < l.length) (he : tells l[k] = true) : wayP (l.drop k) = some ⟨(up l[k].2.data.toList).toArray⟩ := by
  rw [List.drop_eq_getElem_cons h, wayP, if_pos he]
theorem wayP_no {l : List (ByteArray × ByteArray)} {k : Nat} (h : k < l.length) (he : tells l[k] = false) : wayP (l.drop k) = wayP (l.drop (k + 1)) := by
  rw [List.drop_eq_getElem_cons h, wayP, if_neg (by rw [he]; simp)]

end Go.Proofs.YtpdodknldhbbhaaGreatDoor.Vc

namespace Go.Proofs.YtpdodknldhbbhaaGreatDoor.Qu
set_option maxRecDepth 100000
open Go.RowKit Go.Lib Go.Shelf

def Tabs (w : World) : Prop := CaseVar 3 caseA w ∧ Lib.Utf8Tabs 1 2 w
theorem Tabs.below {w w' : World} (h : Tabs w) (hb : Below w.heap.size w w') : Tabs w' := by
  have k : ∀ {a : Addr} {v : Value}, w.cell? a = some v → w'.cell? a = some v := fun {a v} hc => (hb.cell (World.block_lt_of_cell? w a hc)).trans hc
  exact ⟨CaseVar_below h.1 hb, fun c hc => k (h.2.1 c hc), fun i hi => ⟨k (h.2.2 i hi).1, k (h.2.2 i hi).2⟩⟩
theorem upper_any (s : ByteArray) (w : World) (hs : s.size < 35184372088832) (T : Tabs w) :
    Calls Tryz.prog 189 #[.string s] w fun e w' => e = .returned (.string ⟨(Lib.toUpperD s.data.toList).toArray⟩) ∧ Below w.heap.size w w' :=
  Tryz.strings_ToUpper_any s w hs T.1 T.2

theorem caseX : CaseExtra Tryz.prog Tryz.lays158_ren := ⟨by kernel_rfl, by kernel_rfl, by kernel_rfl, by kernel_rfl, by kernel_rfl, by kernel_rfl⟩
theorem u8X : U8Extra Tryz.prog Tryz.lays158_ren := ⟨by kernel_rfl, by kernel_rfl, by kernel_rfl, by kernel_rfl, by kernel_rfl, by kernel_rfl, by kernel_rfl⟩
theorem accept_eq : (Rows.laid_unicode_utf8_acceptRanges : DataW Unit) = acceptData := by kernel_rfl

theorem tabs_of_laid {W : World} (hL : laidMetH Tryz.prog [("unicode/utf8.acceptRanges", Rows.laid_unicode_utf8_acceptRanges), ("unicode.CaseRanges", Rows.laid_unicode_CaseRanges), ("unicode/utf8.first", Rows.laid_unicode_utf8_first)] W) : Tabs W := by
  rw [MakeChecks.laidMetH_plain _ _ _ (by kernel_rfl)] at hL
  have r1 := Lib.laidMet.reads hL (.head _)
  have r2 := Lib.laidMet.reads hL (.tail _ (.head _))
  have r3 := Lib.laidMet.reads hL (.tail _ (.tail _ (.head _)))
  rw [accept_eq] at r1
  rw [show (Rows.laid_unicode_CaseRanges) = caseData from Pinned.caseRanges_eq] at r2
  rw [show (Rows.laid_unicode_utf8_first) = firstData from Pinned.utf8First_eq] at r3
  exact ⟨caseVar_of_reads { Tryz.lays158 with } Tryz.lays158.t206 caseX r2, utf8Tabs_of_readsT { Tryz.lays158 with } u8X r3 r1⟩
end Go.Proofs.YtpdodknldhbbhaaGreatDoor.Qu

namespace Go.Proofs.YtpdodknldhbbhaaGreatDoor.Qu
set_option maxRecDepth 100000
open Go.RowKit Fig

/-- What a digit of either case counts; -1: it is none. -/
def half (c : UInt8) : Int := if 97 ≤ (c.toNat : Int) ∧ (c.toNat : Int) ≤ 102 then (c.toNat : Int) - 87 else hv c
theorem hv_upper_fin : ∀ i : Fin 128, hv (Lib.upperB (UInt8.ofNat i.val)) = half (UInt8.ofNat i.val) := by decide
theorem hv_upper (c : UInt8) (h : c.toNat < 128) : hv (Lib.upperB c) = half c := by
  have := hv_upper_fin ⟨c.toNat, h⟩
  simpa using this
theorem hv_high (c : UInt8) (h : 128 ≤ c.toNat) : hv c < 0 := by
  unfold hv; rw [hvI_no (by omega) (by omega)]; decide
theorem half_high (c : UInt8) (h : 128 ≤ c.toNat) : half c < 0 := by
  unfold half; rw [if_neg (by omega)]; exact hv_high c h

theorem unhex_has {l : List UInt8} {c : UInt8} (h : c ∈ l) (hc : hv c < 0) : unhex l = ([], 3) := by
  unfold unhex; rw [if_pos]
  rw [List.any_eq_true]; exact ⟨c, h, by simpa using hc⟩

/-- A capital that is asked of a rune from 128 on is one from 128 on, or I, or S. -/
def rowHigh (x : Lib.CaseRow) : Bool :=
  decide (x.2.1 < 128) || (decide (128 ≤ x.1) && (decide (x.delta 0 > 1114111) || decide (128 ≤ (x.1 : Int) + x.delta 0) || (decide (x.1 = x.2.1) && (decide ((x.1 : Int) + x.delta 0 = 73) || decide ((x.1 : Int) + x.delta 0 = 83)))))
set_option maxRecDepth 1000000 in
theorem rowsHigh : Lib.caseT.all rowHigh = true := by decide
theorem caseA_high (i : Nat) (hi : i < Lib.caseA.size) : rowHigh (Lib.caseA.getD i (0, 0, 0, 0, 0)) = true := by
  have hm : Lib.caseA.getD i (0, 0, 0, 0, 0) ∈ Lib.caseT := by
    unfold Lib.caseA at hi ⊢
    simp only [List.size_toArray] at hi
    simp [Array.getD, hi]
  exact List.all_eq_true.1 rowsHigh _ hm
theorem upper_high (r : Nat) (h : 128 ≤ r) : 128 ≤ Lib.toUpperU r ∨ Lib.toUpperU r = 73 ∨ Lib.toUpperU r = 83 := by
  unfold Lib.toUpperU
  rw [if_neg (by omega)]
  unfold Lib.toR Lib.lookupGo
  cases hi : Lib.lookupIdx Lib.caseA r (Lib.caseA.size + 1) 0 Lib.caseA.size with
  | none => left; show (128 : Int) ≤ r; omega
  | some i =>
    obtain ⟨hil, hlo, hhi⟩ := Lib.lookupIdx_some Lib.caseA r _ _ _ i hi
    have hr := caseA_high i hil
    show 128 ≤ Lib.convertR 0 r (Lib.caseA.getD i (0, 0, 0, 0, 0)) ∨ _ = _ ∨ _ = _
    change (_ ∨ Lib.convertR 0 r (Lib.caseA.getD i (0, 0, 0, 0, 0)) = 73 ∨ Lib.convertR 0 r (Lib.caseA.getD i (0, 0, 0, 0, 0)) = 83)
    generalize Lib.caseA.getD i (0, 0, 0, 0, 0) = x at hr hlo hhi
    simp only [rowHigh, Bool.or_eq_true, Bool.and_eq_true, decide_eq_true_eq] at hr
    unfold Lib.convertR
    rcases hr with hr | ⟨h1, (hr | hr) | ⟨he, hr⟩⟩
    · omega
    · rw [if_pos hr]; left; omega
    · split <;> (left; omega)
    · split
      · left; omega
      · rcases hr with hr | hr
        · right; left; omega
        · right; right; omega

theorem encode_high (u : Int) (h : 128 ≤ u ∨ u = 73 ∨ u = 83) : ∃ c ∈ Lib.encodeRune u, hv c < 0 := by
  have key : ∀ z : Int, z ∈ Lib.encodeRuneZ u → (192 ≤ z ∧ z < 256) → ∃ c ∈ Lib.encodeRune u, hv c < 0 := fun z hz hb => by
    refine ⟨z.toNat.toUInt8, List.mem_map.2 ⟨z, hz, rfl⟩, hv_high _ ?_⟩
    simp; omega
  rcases h with h | h | h
  · by_cases h2 : u ≤ 2047
    · exact key (192 + u / 64) (by rw [Lib.encodeRuneZ_two h h2]; simp) (by omega)
    · by_cases h3 : (2048 ≤ u ∧ u < 55296) ∨ (57343 < u ∧ u ≤ 65535)
      · exact key (224 + u / 4096) (by rw [Lib.encodeRuneZ_three h3]; simp) (by omega)
      · by_cases h4 : 65536 ≤ u ∧ u ≤ 1114111
        · exact key (240 + u / 262144) (by rw [Lib.encodeRuneZ_four h4.1 h4.2]; simp) (by omega)
        · exact key 239 (by rw [Lib.encodeRuneZ_bad (by omega)]; simp) (by omega)
  · subst h; exact ⟨73, by decide, by decide⟩
  · subst h; exact ⟨83, by decide, by decide⟩

theorem decode_high (c : UInt8) (t : List UInt8) (h : 128 ≤ c.toNat) : 128 ≤ (Lib.decodeL (c :: t)).1 := by
  rw [Lib.decodeL_N]
  rcases Lib.decodeN_shape (c :: t).length ((c :: t).getD 0 0).toNat ((c :: t).getD 1 0).toNat ((c :: t).getD 2 0).toNat ((c :: t).getD 3 0).toNat with ⟨h1, e⟩ | ⟨_, _, _, h1, e⟩ | ⟨_, _, _, _, h1, _, e⟩ | ⟨_, _, _, _, _, h1, _, e⟩ | e
  · exfalso; simp at h1; omega
  · rw [e]; exact h1
  · rw [e]; show 128 ≤ _; omega
  · rw [e]; show 128 ≤ _; omega
  · rw [e]; decide

/-- From a byte from 128 on there comes what is no digit. -/
theorem upperD_high (c : UInt8) (t : List UInt8) (h : 128 ≤ c.toNat) : ∃ x ∈ Lib.toUpperD (c :: t), hv x < 0 := by
  have hu := upper_high _ (decode_high c t h)
  obtain ⟨x, hx, hn⟩ := encode_high _ hu
  refine ⟨x, ?_, hn⟩
  unfold Lib.toUpperD
  rw [Lib.mapD_step _ _ (by simp), if_pos (Lib.toUpperU_range _ (Lib.decodeL_rune _)).1]
  exact List.mem_append_left _ hx

theorem said1 (x : UInt8) : unhex (Lib.toUpperD [x]) = if half x < 0 then ([], 3) else ([], 1) := by
  by_cases h : x.toNat < 128
  · rw [Lib.toUpperD_ascii [x] (by simpa using h)]
    unfold Lib.toUpperA unhex
    simp [hv_upper x h]
  · obtain ⟨c, hc, hn⟩ := upperD_high x [] (by omega)
    rw [unhex_has hc hn, if_pos (half_high x (by omega))]
theorem said2 (x y : UInt8) : unhex (Lib.toUpperD [x, y]) = if half x < 0 ∨ half y < 0 then ([], 3) else ([UInt8.ofNat (16 * half x + half y).toNat], 0) := by
  by_cases h : x.toNat < 128
  · by_cases h' : y.toNat < 128
    · rw [Lib.toUpperD_ascii [x, y] (by simp; exact ⟨h, h'⟩)]
      unfold Lib.toUpperA unhex
      simp [hv_upper x h, hv_upper y h', pairs]
    · obtain ⟨c, hc, hn⟩ := upperD_high y [] (by omega)
      rw [if_pos (.inr (half_high y (by omega)))]
      refine unhex_has (c := c) ?_ hn
      unfold Lib.toUpperD at hc ⊢
      rw [Lib.mapD_step _ _ (by simp), Lib.decodeL_ascii x [y] h]
      exact List.mem_append_right _ hc
  · obtain ⟨c, hc, hn⟩ := upperD_high x [y] (by omega)
    rw [unhex_has hc hn, if_pos (.inl (half_high x (by omega)))]
end Go.Proofs.YtpdodknldhbbhaaGreatDoor.Qu

namespace Go.Proofs.YtpdodknldhbbhaaGreatDoor.Qu
set_option maxRecDepth 100000
open Go.RowKit Fig

/-- What a mark says by what stands behind it: bytes, and an error's number (0: none). -/
def behind : List UInt8 → List UInt8 × Nat
  | [] => ([], 1)
  | [x] => if x = 13 then ([], 1) else if half x < 0 then ([], 3) else ([], 1)
  | x :: y :: _ => if x = 13 ∧ y = 10 then ([], 0) else if half x < 0 ∨ half y < 0 then ([], 3) else ([UInt8.ofNat (16 * half x + half y).toNat], 0)
/-- A byte that says itself. -/
def lit (c : UInt8) : Bool := ink c || blank c
def pre (b : List UInt8) (p : List UInt8 × Nat) : List UInt8 × Nat := if p.2 = 0 then (b ++ p.1, 0) else ([], p.2)
def dec : List UInt8 → List UInt8 × Nat
  | [] => ([], 0)
  | [c] => if lit c then ([c], 0) else if c = 61 then ([], 1) else ([], 3)
  | [c, x] => if lit c then pre [c] (dec [x]) else if c = 61 then ([], (behind [x]).2) else ([], 3)
  | c :: x :: y :: r => if lit c then pre [c] (dec (x :: y :: r)) else if c = 61 then (if (behind (x :: y :: r)).2 = 0 then pre (behind (x :: y :: r)).1 (dec r) else ([], (behind (x :: y :: r)).2)) else ([], 3)

theorem behind_few {r : List UInt8} (h : (behind r).2 = 0) : 2 ≤ r.length := by
  match r with
  | [] => simp [behind] at h
  | [x] =>
    exfalso
    revert h
    show (if x = 13 then ([], 1) else if half x < 0 then ([], 3) else ([], 1) : List UInt8 × Nat).2 = 0 → False
    by_cases h1 : x = 13
    · rw [if_pos h1]; decide
    · rw [if_neg h1]
      by_cases h2 : half x < 0
      · rw [if_pos h2]; decide
      · rw [if_neg h2]; decide
  | _ :: _ :: _ => simp
theorem dec_cons (c : UInt8) (r : List UInt8) :
    dec (c :: r) = if lit c then pre [c] (dec r) else if c = 61 then (if (behind r).2 = 0 then pre (behind r).1 (dec (r.drop 2)) else ([], (behind r).2)) else ([], 3) := by
  match r with
  | [] => simp [dec, behind, pre]
  | [x] =>
    have : (behind [x]).2 ≠ 0 := fun h => by have := behind_few h; simp at this
    simp only [dec]
    rw [if_neg this]
  | x :: y :: r => simp only [dec, List.drop_succ_cons, List.drop_zero]
theorem pre_nil (p : List UInt8 × Nat) (h : p.2 = 0 ∨ p.1 = []) : pre [] p = p := by
  obtain ⟨a, b⟩ := p
  unfold pre; split
  · rename_i h0; simp at h0; simp [h0]
  · rcases h with h | h
    · rename_i h0; exact absurd h h0
    · simp at h; simp [h]
theorem pre_pre (a b : List UInt8) (p : List UInt8 × Nat) : pre a (pre b p) = pre (a ++ b) p := by
  unfold pre
  by_cases h : p.2 = 0
  · simp [h]
  · simp [h]
theorem pre_err {a : List UInt8} {e : Nat} (h : e ≠ 0) : pre a ([], e) = ([], e) := by unfold pre; rw [if_neg h]
theorem dec_form (l : List UInt8) : (dec l).2 = 0 ∨ (dec l).1 = [] := by
  match l with
  | [] => left; rfl
  | c :: r =>
    rw [dec_cons]
    have hp : ∀ a p, (pre a p).2 = 0 ∨ (pre a p).1 = [] := fun a p => by unfold pre; split <;> simp
    split
    · exact hp _ _
    · split
      · split
        · exact hp _ _
        · right; rfl
      · right; rfl
theorem pre_dec (l : List UInt8) : pre [] (dec l) = dec l := pre_nil _ (dec_form l)
theorem behind_take (r : List UInt8) : behind (r.take 2) = behind r := by
  match r with
  | [] => rfl
  | [x] => rfl
  | x :: y :: r => simp [behind]
theorem behind_length (r : List UInt8) : (behind r).1.length ≤ 1 := by
  unfold behind; split
  · simp
  · split <;> (try split) <;> simp
  · split <;> (try split) <;> simp

/-! At a place of a text. -/
theorem dec_lit {s : ByteArray} {k : Nat} {l : List UInt8} (hk : k < s.size) (h : lit s[k] = true) (hl : pre l (dec (s.data.toList.drop k)) = dec s.data.toList) :
    pre (l ++ [s[k]]) (dec (s.data.toList.drop (k + 1))) = dec s.data.toList := by
  rw [drop_at s k hk, dec_cons, if_pos h, pre_pre] at hl; exact hl
theorem dec_mark {s : ByteArray} {k : Nat} {l b : List UInt8} (hk : k < s.size) (h : lit s[k] = false) (hc : s[k] = 61) (hb : behind (s.data.toList.drop (k + 1)) = (b, 0)) (hl : pre l (dec (s.data.toList.drop k)) = dec s.data.toList) :
    pre (l ++ b) (dec (s.data.toList.drop (k + 3))) = dec s.data.toList := by
  rw [drop_at s k hk, dec_cons, h, if_neg (by decide), if_pos hc, hb, if_pos rfl, pre_pre, List.drop_drop] at hl; exact hl
theorem dec_bad {s : ByteArray} {k e : Nat} {l b : List UInt8} (hk : k < s.size) (h : lit s[k] = false) (hc : s[k] = 61) (hb : behind (s.data.toList.drop (k + 1)) = (b, e)) (he : e ≠ 0) (hl : pre l (dec (s.data.toList.drop k)) = dec s.data.toList) :
    dec s.data.toList = ([], e) := by
  rw [drop_at s k hk, dec_cons, h, if_neg (by decide), if_pos hc, hb, if_neg he, pre_err he] at hl; exact hl.symm
theorem dec_other {s : ByteArray} {k : Nat} {l : List UInt8} (hk : k < s.size) (h : lit s[k] = false) (hc : ¬ s[k] = 61) (hl : pre l (dec (s.data.toList.drop k)) = dec s.data.toList) :
    dec s.data.toList = ([], 3) := by
  rw [drop_at s k hk, dec_cons, h, if_neg (by decide), if_neg hc, pre_err (by decide)] at hl; exact hl.symm
theorem dec_end {s : ByteArray} {k : Nat} {l : List UInt8} (hk : ¬ k < s.size) (hl : pre l (dec (s.data.toList.drop k)) = dec s.data.toList) : dec s.data.toList = (l, 0) := by
  rw [drop_end s hk] at hl; rw [← hl]; simp [dec, pre]
theorem behind_size {s : ByteArray} {k : Nat} {b : List UInt8} (hb : behind (s.data.toList.drop (k + 1)) = (b, 0)) : k + 3 ≤ s.size := by
  have := behind_few (r := s.data.toList.drop (k + 1)) (by rw [hb])
  simp at this; omega
theorem retD {a : List UInt8} {b : Nat} {p : List UInt8 × Nat} (h : p = (a, b)) : Ending.returned (.tuple #[.string ⟨a.toArray⟩, .int .i64 (b : Int)]) = Ending.returned (.tuple #[.string ⟨p.1.toArray⟩, .int .i64 (p.2 : Int)]) := by rw [h]
end Go.Proofs.YtpdodknldhbbhaaGreatDoor.Qu

namespace Go.Proofs.YtpdodknldhbbhaaGreatDoor.Pp
open Go.RowKit

/-- The cells of parameters. -/
def pcells : List (ByteArray × ByteArray) → List Value
  | [] => []
  | p :: r => .string p.1 :: .string p.2 :: pcells r
theorem pcells_length : ∀ l : List (ByteArray × ByteArray), (pcells l).length = l.length * 2
  | [] => rfl
  | p :: r => by rw [pcells, List.length_cons, List.length_cons, pcells_length r, List.length_cons]; omega
theorem pcells_append : ∀ l r : List (ByteArray × ByteArray), pcells (l ++ r) = pcells l ++ pcells r
  | [], _ => rfl
  | p :: l, r => by rw [List.cons_append, pcells, pcells_append l r]; rfl
theorem pcells_at : ∀ (l : List (ByteArray × ByteArray)) (i : Nat) (h : i < l.length), (pcells l)[i * 2]? = some (.string l[i].1) ∧ (pcells l)[i * 2 + 1]? = some (.string l[i].2)
  | p :: r, 0, _ => ⟨rfl, rfl⟩
  | p :: r, i + 1, h => by
    have ih := pcells_at r i (by simpa using h)
    have e : (i + 1) * 2 = i * 2 + 1 + 1 := by omega
    rw [e, pcells]
    exact ⟨by simpa using ih.1, by simpa using ih.2⟩
theorem pcells_one {l : List (ByteArray × ByteArray)} : ∀ u ∈ pcells l, u.oneCell' = true := by
  induction l with
  | nil => intro u hu; cases hu
  | cons p r ih =>
    intro u hu
    rw [pcells] at hu
    rcases List.mem_cons.1 hu with rfl | hu
    · rfl
    · rcases List.mem_cons.1 hu with rfl | hu
      · rfl
      · exact ih u hu
/-- A cell of them, by its place. -/
theorem pcells_get {l : List (ByteArray × ByteArray)} {j : Nat} {u : Value} (h : (pcells l)[j]? = some u) : ∃ i, ∃ h : i < l.length, (j = i * 2 ∧ u = .string l[i].1) ∨ (j = i * 2 + 1 ∧ u = .string l[i].2) := by
  have hj : j < l.length * 2 := by rw [← pcells_length]; exact (List.getElem?_eq_some_iff.1 h).1
  have hi : j / 2 < l.length := by omega
  have hp := pcells_at l (j / 2) hi
  refine ⟨j / 2, hi, ?_⟩
  rcases (by omega : j = j / 2 * 2 ∨ j = j / 2 * 2 + 1) with e | e
  · rw [← e, h] at hp
    exact .inl ⟨e, Option.some.inj hp.1⟩
  · rw [← e, h] at hp
    exact .inr ⟨e, Option.some.inj hp.2⟩

/-- The slice v holds the parameters ps, in a row of the call's own (blocks from base on). -/
def Own (w : World) (base : Nat) (v : Value) (ps : List (ByteArray × ByteArray)) : Prop := w.ownsRow base 66 2 v ps.length (pcells ps)
theorem infoP : (Tryz.prog.info? 66).map (fun i => (i.zero, i.size, i.bytes)) = some (some (.agg #[.string .empty, .string .empty]), 2, 32) := by kernel_rfl
/-- It may be read. -/
theorem Own.ps {w : World} {base : Nat} {v : Value} {ps : List (ByteArray × ByteArray)} (h : Own w base v ps) : Ps w w.heap.size v ps := by
  obtain ⟨_, ⟨rfl, h0⟩ | ⟨g, cap, cur, rfl, _, hg, h1, _, _, ht⟩⟩ := h
  · exact .inl ⟨List.eq_nil_of_length_eq_zero h0, .inl rfl⟩
  · refine .inr ⟨g, 0, cap, rfl, (Array.getElem?_eq_some_iff.1 hg).1, fun i hi => ?_⟩
    obtain ⟨p1, p2⟩ := pcells_at ps i hi
    rw [← ht] at p1 p2
    have q1 := Lib.cells_of_row hg _ _ _ p1
    have q2 := Lib.cells_of_row hg _ _ _ p2
    rw [Lib.addr_add] at q1 q2
    exact ⟨q1, by rw [Nat.add_assoc]; exact q2⟩
end Go.Proofs.YtpdodknldhbbhaaGreatDoor.Pp

namespace Go.Proofs.YtpdodknldhbbhaaGreatDoor.Pp
open Go.RowKit

/-- Parameters that came in: none, or cells behind an address. -/
theorem Ps.src {w : World} {B : Nat} {v : Value} {ps : List (ByteArray × ByteArray)} (h : Ps w B v ps) :
    (v = .slice none 0 0 ∧ ps = []) ∨ ∃ ad pc, v = .slice (some ad) ps.length pc ∧ ∀ j u, (pcells ps)[j]? = some u → w.cell? (ad.add j) = some u := by
  rcases h with ⟨rfl, rfl | ⟨ad, cap, rfl⟩⟩ | ⟨b, o, cap, rfl, h2, h3⟩
  · exact .inl ⟨rfl, rfl⟩
  · exact .inr ⟨ad, cap, rfl, fun j u hu => by simp [pcells] at hu⟩
  · refine .inr ⟨_, cap, rfl, fun j u hu => ?_⟩
    obtain ⟨i, hi, ⟨rfl, rfl⟩ | ⟨rfl, rfl⟩⟩ := pcells_get hu
    · rw [Lib.addr_add]; exact (h3 i hi).1
    · rw [Lib.addr_add, ← Nat.add_assoc]; exact (h3 i hi).2

theorem own_low {w : World} {b b' : Nat} {v : Value} {ps : List (ByteArray × ByteArray)} (hb : b' ≤ b) (h : Own w b v ps) : Own w b' v ps := by
  obtain ⟨h0, h⟩ := h
  refine ⟨h0, ?_⟩
  rcases h with h | ⟨g, cap, cur, h1, h2, h3⟩
  · exact .inl h
  · exact .inr ⟨g, cap, cur, h1, by omega, h3⟩
theorem Own.set {w : World} {base : Nat} {v : Value} {ps : List (ByteArray × ByteArray)} (h : Own w base v ps) {a : Addr} (ha : a.block < base) (u : Value) : Own (w.setCell a u) base v ps := ownsRow_setCell_below h ha u
theorem shapeP {w : World} {base n : Nat} {v : Value} {xs : List Value} (h : w.ownsRow base 66 2 v n xs) : ∃ a cap, v = .slice a n cap := by
  obtain ⟨_, ⟨rfl, rfl⟩ | ⟨g, cap, cur, rfl, _⟩⟩ := h
  · exact ⟨none, 0, rfl⟩
  · exact ⟨_, cap, rfl⟩

theorem Own.nil (w : World) (base : Nat) : Own w base (.slice none 0 0) [] := World.ownsRow_nil _ _ _ _
theorem Own.snoc {w : World} {base : Nat} {v : Value} {l : List (ByteArray × ByteArray)} {p : ByteArray × ByteArray} (h : w.ownsRow base 66 2 v (l.length + 1) (pcells l ++ [.string p.1, .string p.2])) : Own w base v (l ++ [p]) := by
  unfold Own; rw [pcells_append, List.length_append]; exact h
end Go.Proofs.YtpdodknldhbbhaaGreatDoor.Pp

namespace Go.Proofs.YtpdodknldhbbhaaGreatDoor.Pp
open Go.RowKit

/-- What reading a line answers. -/
structure Par where
  g : ByteArray
  n : ByteArray
  ps : List (ByteArray × ByteArray)
  v : ByteArray
  at_ : Nat
  err : Int
def errP (a : Nat) (e : Int) : Par := ⟨⟨#[]⟩, ⟨#[]⟩, [], ⟨#[]⟩, a, e⟩
/-- Capitals of a piece. -/
def upB (s : ByteArray) : ByteArray := ⟨(up s.data.toList).toArray⟩
def find (s : ByteArray) (a z : Nat) (c : UInt8) : Nat := findN s.data.toList a z c
theorem find_ge {s : ByteArray} {a z : Nat} {c : UInt8} : a ≤ find s a z c := findN_ge
/-- The value, behind the place z of the : -/
def tailP (s : ByteArray) (z : Nat) (g n : ByteArray) (ps : List (ByteArray × ByteArray)) : Par :=
  let v := s.extract (z + 1) s.size
  if 2400 < v.size then errP (z + 1) 8 else if v.data.toList.findIdx oddb < v.size then errP (z + 1 + v.data.toList.findIdx oddb) 3 else ⟨g, n, ps, v, 0, 0⟩
/-- A parameter in the piece from a to t, its = at q. -/
def parOf (s : ByteArray) (a t q : Nat) : ByteArray × ByteArray := if q < t then (upB (s.extract a q), s.extract (q + 1) t) else (⟨#[]⟩, upB (s.extract a t))
/-- The parameters, from the ; at 'stop' on. -/
def parsP (s : ByteArray) (z : Nat) (g n : ByteArray) (stop : Nat) (ps : List (ByteArray × ByteArray)) : Par :=
  if _h : stop < z then
    let t := find s (stop + 1) z 59
    let q := find s (stop + 1) t 61
    if ps.length = 6 then errP (stop + 1) 4
    else if paramB (parOf s (stop + 1) t q).1 (parOf s (stop + 1) t q).2 = false ∨ q = stop + 1 then errP (stop + 1) 3
    else parsP s z g n t (ps ++ [parOf s (stop + 1) t q])
  else tailP s z g n ps
termination_by z - stop
decreasing_by
  have := find_ge (s := s) (a := stop + 1) (z := z) (c := 59)
  omega
def nameP (s : ByteArray) (z stop : Nat) (g : ByteArray) (a : Nat) : Par :=
  if nameB (upB (s.extract a stop)) = false then errP a 14 else parsP s z g (upB (s.extract a stop)) stop []
def groupP (s : ByteArray) (z : Nat) : Par :=
  let stop := find s 0 z 59
  let dot := find s 0 stop 46
  if dot < stop then (if nameB (upB (s.extract 0 dot)) = false then errP 0 14 else nameP s z stop (upB (s.extract 0 dot)) (dot + 1)) else nameP s z stop ⟨#[]⟩ 0
def parse (s : ByteArray) : Par :=
  let z := find s 0 s.size 58
  if z = s.size then errP s.size 1 else groupP s z

section
variable {w wr w1 : World} {b : Nat} {g n v : ByteArray} {pv av : Value}
theorem heap_set {W : World} {b i : Nat} {cs : Array Value} {t : TypeId} {fr : Nat × Nat} (h : W.heap[b]? = some (.cells cs t fr)) (u : Value) : (W.setCell ⟨b, i, none⟩ u).heap[b]? = some (.cells (cs.setIfInBounds i u) t fr) := by
  simp [World.setCell, Array.getElem?_modify, h]
theorem PrAt.set0 (h : PrAt w b g n pv v av) (x : ByteArray) : PrAt (w.setCell ⟨b, 0, none⟩ (.string x)) b x n pv v av := heap_set h _
theorem PrAt.set1 (h : PrAt w b g n pv v av) (x : ByteArray) : PrAt (w.setCell ⟨b, 1, none⟩ (.string x)) b g x pv v av := heap_set h _
theorem PrAt.set2 (h : PrAt w b g n pv v av) (x : Value) : PrAt (w.setCell ⟨b, 2, none⟩ x) b g n x v av := heap_set h _
theorem PrAt.set3 (h : PrAt w b g n pv v av) (x : ByteArray) : PrAt (w.setCell ⟨b, 3, none⟩ (.string x)) b g n pv x av := heap_set h _
theorem PrAt.other (h : PrAt w b g n pv v av) {a : Addr} (ha : b ≠ a.block) (u : Value) : PrAt (w.setCell a u) b g n pv v av := (Below.heap_setCell w a u b ha).trans h
theorem PrAt.f (h : PrAt w b g n pv v av) (j : Nat) : w.frozen? ⟨b, j, none⟩ = false := frozen_of_row _ _ _ _ _ h

/-- The result at its first value, the variable behind it. -/
structure St (w wr : World) (g n : ByteArray) (pv : Value) (v : ByteArray) : Prop where
  p : PrAt wr (w.heap.size + 1) g n pv v (.slice none 0 0)
  r : PrAt wr w.heap.size ⟨#[]⟩ ⟨#[]⟩ (.slice none 0 0) ⟨#[]⟩ (.slice none 0 0)
  size : w.heap.size + 1 + 1 ≤ wr.heap.size
  bel : Below w.heap.size w wr
theorem St.below (h : St w wr g n pv v) (hb : Below wr.heap.size wr w1) : St w w1 g n pv v := ⟨h.p.below hb, h.r.below hb, by have := h.size; have := hb.size; omega, h.bel.trans (hb.mono (by have := h.size; omega))⟩
theorem St.far (h : St w wr g n pv v) {a : Addr} (ha : w.heap.size + 1 < a.block) (u : Value) : St w (wr.setCell a u) g n pv v := ⟨h.p.other (by omega) u, h.r.other (by omega) u, by rw [World.size_setCell]; exact h.size, h.bel.setCell (by omega) u⟩
theorem St.set0 (h : St w wr g n pv v) (x : ByteArray) : St w (wr.setCell ⟨w.heap.size + 1, 0, none⟩ (.string x)) x n pv v := ⟨h.p.set0 x, h.r.other (by simp) _, by rw [World.size_setCell]; exact h.size, h.bel.setCell (by simp) _⟩
theorem St.set1 (h : St w wr g n pv v) (x : ByteArray) : St w (wr.setCell ⟨w.heap.size + 1, 1, none⟩ (.string x)) g x pv v := ⟨h.p.set1 x, h.r.other (by simp) _, by rw [World.size_setCell]; exact h.size, h.bel.setCell (by simp) _⟩
theorem St.set2 (h : St w wr g n pv v) (x : Value) : St w (wr.setCell ⟨w.heap.size + 1, 2, none⟩ x) g n x v := ⟨h.p.set2 x, h.r.other (by simp) _, by rw [World.size_setCell]; exact h.size, h.bel.setCell (by simp) _⟩
theorem St.set3 (h : St w wr g n pv v) (x : ByteArray) : St w (wr.setCell ⟨w.heap.size + 1, 3, none⟩ (.string x)) g n pv x := ⟨h.p.set3 x, h.r.other (by simp) _, by rw [World.size_setCell]; exact h.size, h.bel.setCell (by simp) _⟩
end
theorem Own.below {w w' : World} {base : Nat} {v : Value} {ps : List (ByteArray × ByteArray)} (h : Own w base v ps) (hb : Below w.heap.size w w') : Own w' base v ps := by
  obtain ⟨h0, h⟩ := h
  refine ⟨h0, ?_⟩
  rcases h with h | ⟨g, cap, cur, h1, h2, h3, h4⟩
  · exact .inl h
  · exact .inr ⟨g, cap, cur, h1, h2, (hb.block g (Array.getElem?_eq_some_iff.1 h3).1).trans h3, h4⟩
theorem Own.setNe {w : World} {base : Nat} {v : Value} {ps : List (ByteArray × ByteArray)} (h : Own w base v ps) {a : Addr} (hne : ∀ k, v.ownBlock = some k → k < a.block) (u : Value) : Own (w.setCell a u) base v ps := by
  obtain ⟨h0, h⟩ := h
  refine ⟨h0, ?_⟩
  rcases h with h | ⟨g, cap, cur, rfl, h2, h3, h4⟩
  · exact .inl h
  · exact .inr ⟨g, cap, cur, rfl, h2, (Below.heap_setCell w a u g (Nat.ne_of_lt (hne g rfl))).trans h3, h4⟩
/-- What the call hands back. -/
def Told (w : World) (r : Par) (e : Ending) (w' : World) : Prop := ∃ pv, e = .returned (.tuple #[prV r.g r.n pv r.v (.slice none 0 0), .int .i64 r.at_, .int .i64 r.err]) ∧ Own w' w.heap.size pv r.ps ∧ Below w.heap.size w w'
theorem told_err {w wr : World} {a : Nat} {e : Int} (h : Below w.heap.size w wr) : Told w (errP a e) (.returned (.tuple #[.agg #[.string ⟨#[]⟩, .string ⟨#[]⟩, .slice none 0 0, .string ⟨#[]⟩, .slice none 0 0], .int .i64 (a : Int), .int .i64 e])) wr := ⟨_, rfl, Own.nil _ _, h⟩
end Go.Proofs.YtpdodknldhbbhaaGreatDoor.Pp

namespace Go.Proofs.YtpdodknldhbbhaaGreatDoor.Pp
open Go.ChangeShapes Go.WideShapes Go.ChangeAt Go.RowKit Go.Deep

theorem laidOut : laidOutB Tryz.prog = true := by kernel_rfl
theorem cellsProp : Tryz.prog.cellsOf 53 = 5 := by kernel_rfl
theorem cellsParam : Tryz.prog.cellsOf 66 = 2 := by kernel_rfl
theorem cellsStr : Tryz.prog.cellsOf 9 = 1 := by kernel_rfl
theorem cellsPs : Tryz.prog.cellsOf 51 = 1 := by kernel_rfl
theorem cellsCs : Tryz.prog.cellsOf 49 = 1 := by kernel_rfl

section
variable {H : Type} {enc : TypeId × Value → H} {W : World}
/-- Parameters that came in. -/
theorem open_ps {fuel : Nat} {u : Value} {x : DataW H × List MemPlace} (h : DataW.trod enc Tryz.prog W 0 (fun _ => true) true fuel 51 [u] = some x) : ∃ ps, Ps W W.heap.size u ps ∧ ps.length ≤ maxLen := by
  rcases open_slice_pairs Tryz.underlying51 Tryz.underlying66 cellsParam rfl rfl cellsStr cellsStr h with ⟨hc, hx⟩ | ⟨a, len, cap, m, k, V0, V1, D0, D1, P0, P1, hc, _, hl, hm, hmm, hx, hall⟩
  · simp only [List.cons.injEq, and_true] at hc
    exact ⟨[], .inl ⟨rfl, .inl hc⟩, Nat.zero_le _⟩
  · simp only [List.cons.injEq, and_true] at hc
    subst hc
    simp only [if_true] at hmm
    subst hmm
    rcases Nat.eq_zero_or_pos len with rfl | hpos
    · exact ⟨[], .inl ⟨rfl, .inr ⟨a, _, rfl⟩⟩, Nat.zero_le _⟩
    obtain ⟨sb, so, spot⟩ := a
    have hspot : spot = none := by simpa [Addr.add] using World.cell?_spot (hall 0 (by omega)).1
    subst hspot
    have each : ∀ i, i < len → ∃ q : ByteArray × ByteArray, W.cell? ⟨sb, so + i * 2, none⟩ = some (.string q.1) ∧ W.cell? ⟨sb, so + i * 2 + 1, none⟩ = some (.string q.2) := by
      intro i hi
      obtain ⟨g0, g1, h2, h3⟩ := hall i (by omega)
      obtain ⟨A, hA, _, _⟩ := DataW.trod_string Tryz.underlying9 h2
      obtain ⟨B, hB, _, _⟩ := DataW.trod_string Tryz.underlying9 h3
      simp only [List.cons.injEq, and_true] at hA hB
      rw [add_plain, hA] at g0
      rw [add_plain, hB] at g1
      exact ⟨(A, B), g0, g1⟩
    obtain ⟨q, hq⟩ := choose_lt each
    have hlt : sb < W.heap.size := World.block_lt_of_cell? W _ (hq 0 hpos).1
    refine ⟨(List.range len).map q, .inr ⟨sb, so, _, by rw [List.length_map, List.length_range], hlt, fun i hi => ?_⟩, by rw [List.length_map, List.length_range]; omega⟩
    have hi' : i < len := by rw [List.length_map, List.length_range] at hi; exact hi
    simp only [List.getElem_map, List.getElem_range]
    exact hq i hi'

end
end Go.Proofs.YtpdodknldhbbhaaGreatDoor.Pp

namespace Go.Proofs.YtpdodknldhbbhaaGreatDoor.vcardLines
set_option maxRecDepth 100000
open Go.ChangeShapes Go.WideShapes Go.ChangeAt Go.RowKit
theorem fact_named : Tryz.pinned.checked.prog.funcNamed Rows.vcardLinesRow.func = some 6 := by kernel_rfl
theorem fact_closed : joinedFacts Tryz.pinned.checked.prog 6 Tryz.f6 Rows.vcardLinesSpec Rows.vcardLinesRow = true := by kernel_rfl
end Go.Proofs.YtpdodknldhbbhaaGreatDoor.vcardLines
