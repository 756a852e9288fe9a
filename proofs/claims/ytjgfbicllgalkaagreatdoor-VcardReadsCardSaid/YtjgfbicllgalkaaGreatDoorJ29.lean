/-
Texts joined in one file, each with its own conditions: Words of the program's reader of cards: blank lines, a mark at a value's end, how a property is written. Conditions: texts have at most 2^47 bytes, at most 2^40 parameters. · A property with the value that is meant, and without the parameters that say how it is written: the program's asMeant. Conditions: at most 100 parameters, in a row that the caller made; the value has at most 2^20 bytes; the library's tables hold what the rows list. · The program's reader of cards in memory: its block, the cards that are open, the card that has ended; what leaves it as it is. No conditions. · What the program's reader does to its open cards: one more is opened, one gets a property, one ends. No conditions but those that each theorem states. · What a reading by descent can give: few properties, few parameters, at most one card in a property, few within one another; such a card is the same as itself. No program in it. No conditions. · What the document's reader of cards lays in memory: its lines, a card's properties in a row of its own, what a property holds. No conditions but those that each theorem states. · The program's reader: the innermost card, and its end. Conditions: the reader lies in memory as the plain machine's state. · append of a property to a card under way, in the document's reader. No conditions but those that each theorem states.
-/
import Derived.Test.YtjgfbicllgalkaaGreatDoorJ18
import Derived.Test.YtjgfbicllgalkaaGreatDoorShelf
import Derived.Test.YtjgfbicllgalkaaGreatDoorJ03
import Derived.Test.YtjgfbicllgalkaaGreatDoorJ22
import Derived.Test.YtjgfbicllgalkaaGreatDoorJ19
import Derived.Test.YtjgfbicllgalkaaGreatDoorJ01
import Derived.Test.YtjgfbicllgalkaaGreatDoorJ20
import Derived.Test.YtjgfbicllgalkaaGreatDoorJ09
import Derived.Test.YtjgfbicllgalkaaGreatDoorJ10
import Derived.Test.YtjgfbicllgalkaaGreatDoorJ23
import Derived.Test.YtjgfbicllgalkaaGreatDoorJ25
import Derived.Test.YtjgfbicllgalkaaGreatDoorJ26
import Derived.Test.YtjgfbicllgalkaaGreatDoorJ28
import Derived.BigQuiet
import Derived.Deep.QuietTactic
import Derived.RegionTactic
namespace Go.Proofs.YtjgfbicllgalkaaGreatDoor.Vc
set_option maxRecDepth 100000
open Go.RowKit Pp Go.Shelf

theorem trimS_nil (l : List UInt8) : (Lib.trimS l [32, 9]).isEmpty = blank l := by
  have hp : ∀ x : UInt8, List.contains [32, 9] x = blankB x := fun x => by
    unfold blankB
    simp
    rfl
  have h1 : ∀ r : List UInt8, (r.dropWhile fun x => List.contains [32, 9] x) = [] ↔ r.all blankB = true := fun r => by
    induction r with
    | nil => exact ⟨fun _ => rfl, fun _ => rfl⟩
    | cons a r ih =>
      rw [List.dropWhile_cons, List.all_cons, hp]
      cases blankB a
      · exact ⟨fun h => absurd h (by simp), fun h => by simp at h⟩
      · rw [if_pos rfl, Bool.true_and]; exact ih
  rw [Bool.eq_iff_iff, List.isEmpty_iff]
  show Lib.trimLeftS (Lib.trimRightS l [32, 9]) [32, 9] = [] ↔ l.all blankB = true
  unfold Lib.trimLeftS
  rw [h1]
  unfold Lib.trimRightS
  refine ⟨fun h => ?_, fun h => ?_⟩
  · rw [List.all_reverse] at h
    by_cases hd : (l.reverse.dropWhile fun x => List.contains [32, 9] x) = []
    · have := (h1 l.reverse).1 hd; rwa [List.all_reverse] at this
    · exfalso
      have hne := List.head_dropWhile_not (fun x => List.contains [32, 9] x) hd
      have hm := List.all_eq_true.1 h _ (List.head_mem hd)
      rw [← hp] at hm
      rw [hm] at hne
      exact absurd hne (by simp)
  · rw [(h1 l.reverse).2 (by rw [List.all_reverse]; exact h)]; rfl
theorem blank_trim (s : ByteArray) : ((⟨(Lib.trimS s.data.toList [32, 9]).toArray⟩ : ByteArray).toList == []) = blank s.data.toList := by
  rw [← trimS_nil]
  have : (⟨(Lib.trimS s.data.toList [32, 9]).toArray⟩ : ByteArray).toList = Lib.trimS s.data.toList [32, 9] := by rw [ByteArray.toList_eq]
  rw [this]
  cases Lib.trimS s.data.toList [32, 9] <;> rfl
theorem trim_any (s : ByteArray) (w : World) (hs : s.size ≤ 9223372036854775807) :
    Calls Tryz.prog 80 #[.string s, .string ⟨#[32, 9]⟩] w fun e w' => e = .returned (.string ⟨(Lib.trimS s.data.toList [32, 9]).toArray⟩) ∧ Below w.heap.size w w' :=
  Any.strings_Trim_laid Tryz.lays160 (by kernel_rfl) s ⟨#[32, 9]⟩ w hs (by decide) (by
    intro j b hj
    match j with
    | 0 => obtain rfl : 32 = b := Option.some.inj hj; decide
    | 1 => obtain rfl : 9 = b := Option.some.inj hj; decide
    | j + 2 => cases hj)

/-- Does a value end with the mark? -/
def markB (v : ByteArray) : Bool := decide (v.data.toList.getLast? = some 61)
/-- What is ahead of the mark. -/
def cutM (v : ByteArray) : ByteArray := ⟨v.data.toList.dropLast.toArray⟩
theorem suffix_mark (l : List UInt8) : Lib.hasSuffix l [61] = decide (l.getLast? = some 61) := by
  unfold Lib.hasSuffix
  rw [Bool.eq_iff_iff, decide_eq_true_eq, List.isSuffixOf_iff_suffix]
  refine ⟨fun ⟨t, ht⟩ => by rw [← ht]; simp, fun h => ?_⟩
  obtain ⟨t, rfl⟩ := List.getLast?_eq_some_iff.1 h
  exact ⟨t, rfl⟩
theorem cutMark_any (s : ByteArray) (w : World) (hs : s.size ≤ 9223372036854775807) :
    Calls Tryz.prog 132 #[.string s, .string ⟨#[61]⟩] w fun e w' => e = .returned (.tuple #[.string (if markB s then cutM s else s), .bool (markB s)]) ∧ w = w' := by
  refine (Tryz.strings_CutSuffix s ⟨#[61]⟩ w hs).mono ?_
  rintro e w' ⟨rfl, rfl⟩
  refine ⟨?_, rfl⟩
  have h1 : Lib.hasSuffix s.data.toList [61] = markB s := suffix_mark _
  have h2 : (⟨(Lib.trimSuffix s.data.toList [61]).toArray⟩ : ByteArray) = if markB s then cutM s else s := by
    unfold Lib.trimSuffix
    rw [h1]
    by_cases hm : markB s = true
    · rw [if_pos hm, if_pos hm]
      unfold cutM
      rw [List.dropLast_eq_take]; rfl
    · rw [if_neg hm, if_neg hm]
  show Ending.returned (.tuple #[.string ⟨(Lib.trimSuffix s.data.toList [61]).toArray⟩, .bool (Lib.hasSuffix s.data.toList [61])]) = _
  rw [h1, h2]

set_option maxHeartbeats 800000 in
/-- The first parameter that says how a value is written, or -1. -/
theorem indexEnc_any (pv : Value) (ps : List (ByteArray × ByteArray)) (w : World) (hps : Ps w w.heap.size pv ps) (hl : ps.length ≤ 1099511627776) :
    Calls Tryz.prog 175 #[pv, .func (.func 206) #[] #[]] w fun e w' =>
      ((e = .returned (.int .i64 (-1)) ∧ wayP ps = none) ∨ ∃ k : Nat, ∃ h : k < ps.length, e = .returned (.int .i64 k) ∧ wayP ps = some ⟨(up ps[k].2.data.toList).toArray⟩) ∧ Below w.heap.size w w' := by
  obtain ⟨pa, pc, rfl⟩ := hps.shape
  have CD := Lib.hid (fun n v W => saysEnc_any n v W)
  obtain ⟨r, hr⟩ : ∃ r, wayP ps = r := ⟨_, rfl⟩
  rw [hr]
  go_enter Tryz.func175, Tryz.ntmps175
  go_wp2_with fail
  go_loopw [8] (fun iv wr => ∃ k : Nat, k ≤ ps.length ∧ iv = .int .i64 k ∧ Below w.heap.size w wr ∧ Hid (wayP (ps.drop k) = r)) (fun iv _ => ps.length - (intOf iv).toNat)
  case atStart => exact ⟨0, Nat.zero_le _, rfl, Below.refl _ _, Lib.hid hr⟩
  case round =>
    obtain ⟨k, hk, rfl, hbel, HK⟩ := hrel
    clear hr
    by_cases hlt2 : k < ps.length
    · obtain ⟨b', o, cap, hv1, hbB, hc0, hc1⟩ := (hps.below hbel).at_ hlt2
      simp only [Value.slice.injEq, true_and] at hv1
      obtain ⟨rfl, rfl⟩ := hv1
      have HN := Lib.hid (wayP_no hlt2)
      have HY := Lib.hid (wayP_yes hlt2)
      obtain ⟨x, hx⟩ : ∃ x, ps[k] = x := ⟨_, rfl⟩
      rw [hx] at hc0 hc1 HN HY
      have HXX := Lib.hid hx
      clear hx
      obtain ⟨n', v'⟩ := x
      simp only at HN HY hc0 hc1
      have C := Lib.hid (CD.out n' v' wr)
      cases hp : tells (n', v') <;> rw [hp] at C
      · have HK' := Lib.hid ((HN.out hp).symm.trans HK.out)
        clear hp
        go_wp2_with fail
        refine C.out.mono ?_
        rintro e w2 ⟨rfl, b2⟩
        go_wp2_with fail
        go_roundw
        case rel => exact ⟨k + 1, by omega, by go_num, hbel.trans (b2.mono hbel.size), HK'⟩
        case measure => simp [intOf]; omega
      · have HK' := Lib.hid (HK.out.symm.trans (HY.out hp))
        clear hp
        go_wp2_with fail
        refine C.out.mono ?_
        rintro e w2 ⟨rfl, b2⟩
        go_wp2_with fail
        go_ret
        exact ⟨.inr ⟨k, hlt2, rfl, by rw [HXX.out]; exact HK'.out⟩, hbel.trans (b2.mono hbel.size)⟩
    · obtain rfl : k = ps.length := by omega
      have HE := Lib.hid HK.out
      go_wp2_with fail
      go_ret
      exact ⟨.inl ⟨rfl, by have h := HE.out; rw [List.drop_length] at h; exact h.symm⟩, hbel⟩

set_option maxHeartbeats 800000 in
theorem encodingOf_any (g n : ByteArray) (pv : Value) (v : ByteArray) (av : Value) (ps : List (ByteArray × ByteArray)) (w : World) (hps : Ps w w.heap.size pv ps) (hl : ps.length ≤ 1099511627776) (hv : ∀ x ∈ ps, x.2.size ≤ 140737488355328) :
    Calls Tryz.prog 143 #[prV g n pv v av] w fun e w' => e = .returned (.string (wayV ps)) ∧ Below w.heap.size w w' := by
  obtain ⟨pa, pc, rfl⟩ := hps.shape
  unfold prV wayV
  obtain ⟨r, hr⟩ : ∃ r, wayP ps = r := ⟨_, rfl⟩
  have HB : Below w.heap.size w (w.alloc (.cells #[.string g, .string n, .slice pa ps.length pc, .string v, av] 56)) := (Below.refl _ _).alloc (Nat.le_refl _) _
  have HA : PrAt (w.alloc (.cells #[.string g, .string n, .slice pa ps.length pc, .string v, av] 56)) w.heap.size g n (.slice pa ps.length pc) v av := heap_alloc_new w _
  have k2 := HA.c2
  have CI := Lib.hid (indexEnc_any (.slice pa ps.length pc) ps (w.alloc (.cells #[.string g, .string n, .slice pa ps.length pc, .string v, av] 56)) ((hps.below HB).up HB.size) hl)
  rw [hr] at CI ⊢
  clear hr
  have HPS := Lib.hid hps
  have HHA := Lib.hid HA
  have HHB := Lib.hid HB
  have HV := Lib.hid hv
  clear HA HB hps hv
  go_enter Tryz.func143, Tryz.ntmps143
  go_wp2_with fail
  refine CI.out.mono ?_
  rintro e w1 ⟨⟨rfl, rfl⟩ | ⟨k, hk, rfl, hw⟩, b1⟩
  · skip
    go_wp2_with fail
    go_ret
    exact ⟨rfl, HHB.out.trans (b1.mono HHB.out.size)⟩
  · skip
    have hbb := HHB.out.trans (b1.mono HHB.out.size)
    obtain ⟨b', o, cap, hv1, hbB, hc0, hc1⟩ := (HPS.out.below hbb).at_ hk
    simp only [Value.slice.injEq, true_and] at hv1
    obtain ⟨rfl, rfl⟩ := hv1
    have m2 := (HHA.out.below b1).c2
    have hs := HV.out _ (List.getElem_mem hk)
    generalize ps[k] = x at hc0 hc1 hs hw
    have HW := Lib.hid hw
    clear hw
    have hkz : (k : Int) < (ps.length : Int) := by omega
    have hk0 : ¬ (k : Int) < 0 := by omega
    have CC := Lib.hid (pCaps_any x.2 w1 hs)
    have HBB := Lib.hid hbb
    clear hbb
    go_wp2_with fail
    refine CC.out.mono ?_
    rintro e w2 ⟨rfl, b2⟩
    go_wp2_with fail
    go_ret
    exact ⟨by rw [HW.out]; rfl, HBB.out.trans (b2.mono HBB.out.size)⟩
end Go.Proofs.YtjgfbicllgalkaaGreatDoor.Vc

namespace Go.Proofs.YtjgfbicllgalkaaGreatDoor.Vc
set_option maxRecDepth 100000
open Go.RowKit Pp

def chsB : ByteArray := ⟨#[67, 72, 65, 82, 83, 69, 84]⟩
/-- The letters of a value, by the charset that its parameters name. -/
def setC (ps : List (ByteArray × ByteArray)) (d : ByteArray) : ByteArray × Int := if getB ps chsB = true then letC (getV ps chsB) d else (d, 0)
def nilP : Pd := ⟨⟨#[]⟩, ⟨#[]⟩, [], ⟨#[]⟩⟩
def restP (g n : ByteArray) (ps : List (ByteArray × ByteArray)) (v : ByteArray) : Int × Pd :=
  if 600 < v.size then (8, nilP) else if 4 < (drp ps).length then (4, nilP) else if framed n = true then (14, nilP) else (0, ⟨g, n, drp ps, v⟩)
/-- What a property means: an error, or what it is. -/
def meanW (m g n : ByteArray) (ps : List (ByteArray × ByteArray)) (v : ByteArray) : Int × Pd :=
  if (decW m v).2 ≠ 0 then ((decW m v).2, nilP) else
  if (setC ps (decW m v).1).2 ≠ 0 then ((setC ps (decW m v).1).2, nilP) else restP g n ps (setC ps (decW m v).1).1

/-- What is handed back. -/
def Meant (w : World) (pv : Value) (r : Int × Pd) (e : Ending) (w' : World) : Prop :=
  ∃ pv', e = .returned (.tuple #[prV r.2.g r.2.n pv' r.2.v (.slice none 0 0), .int .i64 r.1]) ∧ Ps w' w'.heap.size pv' r.2.ps ∧ (∀ k, pv'.ownBlock = some k → pv.ownBlock = some k) ∧ w.grownBy w' pv.ownBlock
theorem ps_far {w : World} {B : Nat} {v : Value} {ps : List (ByteArray × ByteArray)} (h : Ps w B v ps) {a : Addr} (hd : ∀ k, v.ownBlock = some k → k ≠ a.block) (u : Value) : Ps (w.setCell a u) B v ps := by
  rcases h with h | ⟨b', o, cap, rfl, h2, h3⟩
  · exact .inl h
  · refine .inr ⟨b', o, cap, rfl, h2, fun j hj => ?_⟩
    have E : ∀ o', (w.setCell a u).cell? ⟨b', o', none⟩ = w.cell? ⟨b', o', none⟩ := fun o' => World.cell?_of_block (a := ⟨b', o', none⟩) (Below.heap_setCell w a u b' (hd b' rfl))
    exact ⟨(E _).trans (h3 j hj).1, (E _).trans (h3 j hj).2⟩
theorem ps_nil (w : World) (B : Nat) : Ps w B (.slice none 0 0) [] := .inl ⟨rfl, .inl rfl⟩
theorem grown_below {w W W' : World} {r : Option Nat} (h : w.grownBy W r) (hz : w.heap.size ≤ W.heap.size) (hb : Below w.heap.size W W') : w.grownBy W' r :=
  ⟨hb.os.trans h.os, hb.tape.trans h.tape, hb.output.trans h.output, Nat.le_trans hz hb.size, fun k hk hne => (hb.block k hk).trans (h.block k hk hne)⟩
/-- Five cells of the result's block. -/
theorem set5 {w W : World} {r : Option Nat} {Z : Nat} (h : w.grownBy W r) (hZ : w.heap.size ≤ Z) (u0 u1 u2 u3 u4 : Value) : w.grownBy (((((W.setCell ⟨Z, 0, none⟩ u0).setCell ⟨Z, 1, none⟩ u1).setCell ⟨Z, 2, none⟩ u2).setCell ⟨Z, 3, none⟩ u3).setCell ⟨Z, 4, none⟩ u4) r :=
  grown_below h h.size (((((Below.refl _ W).setCell (p := ⟨Z, 0, none⟩) hZ _).setCell (p := ⟨Z, 1, none⟩) hZ _).setCell (p := ⟨Z, 2, none⟩) hZ _).setCell (p := ⟨Z, 3, none⟩) hZ _ |>.setCell (p := ⟨Z, 4, none⟩) hZ _)
theorem ps5 {W : World} {v : Value} {ps : List (ByteArray × ByteArray)} {Z : Nat} (h : Ps W W.heap.size v ps) (hd : ∀ k, v.ownBlock = some k → k ≠ Z) (u0 u1 u2 u3 u4 : Value) : Ps (((((W.setCell ⟨Z, 0, none⟩ u0).setCell ⟨Z, 1, none⟩ u1).setCell ⟨Z, 2, none⟩ u2).setCell ⟨Z, 3, none⟩ u3).setCell ⟨Z, 4, none⟩ u4) (((((W.setCell ⟨Z, 0, none⟩ u0).setCell ⟨Z, 1, none⟩ u1).setCell ⟨Z, 2, none⟩ u2).setCell ⟨Z, 3, none⟩ u3).setCell ⟨Z, 4, none⟩ u4).heap.size v ps :=
  (ps_far (ps_far (ps_far (ps_far (ps_far h (a := ⟨Z, 0, none⟩) hd u0) (a := ⟨Z, 1, none⟩) hd u1) (a := ⟨Z, 2, none⟩) hd u2) (a := ⟨Z, 3, none⟩) hd u3) (a := ⟨Z, 4, none⟩) hd u4).up (by simp only [World.size_setCell]; exact Nat.le_refl _)

theorem getV_size {ps : List (ByteArray × ByteArray)} {s : ByteArray} (h : ∀ x ∈ ps, x.2.size ≤ 1048576) : (getV ps s).size ≤ 1048576 := by
  unfold getV
  induction ps with
  | nil => exact Nat.zero_le _
  | cons p r ih =>
    rw [getP]
    split
    · exact h p (List.mem_cons_self ..)
    · exact ih (fun x hx => h x (List.mem_cons_of_mem _ hx))
theorem own_blk {w : World} {base : Nat} {v : Value} {ps : List (ByteArray × ByteArray)} (h : Pp.Own w base v ps) : ∀ k, v.ownBlock = some k → base ≤ k ∧ k < w.heap.size := Sq.own_lt h
/-- asMeant under way: the property's box, the result's. -/
structure Mo (w W : World) (g n : ByteArray) (pv : Value) (v : ByteArray) (ps : List (ByteArray × ByteArray)) (base : Nat) : Prop where
  p : PrAt W w.heap.size g n pv v (.slice none 0 0)
  r : PrAt W (w.heap.size + 1) ⟨#[]⟩ ⟨#[]⟩ (.slice none 0 0) ⟨#[]⟩ (.slice none 0 0)
  o : Pp.Own W base pv ps
  b : Below w.heap.size w W
theorem Mo.below {w W W' : World} {g n v : ByteArray} {pv : Value} {ps : List (ByteArray × ByteArray)} {base : Nat} (h : Mo w W g n pv v ps base) (hb : Below W.heap.size W W') : Mo w W' g n pv v ps base :=
  ⟨h.p.below hb, h.r.below hb, h.o.below hb, h.b.trans (hb.mono h.b.size)⟩

set_option maxHeartbeats 4000000 in
/-- From the value's letters on: the tail of asMeant is walked where it stands. -/
theorem asMeant_any (m g n : ByteArray) (pv : Value) (v : ByteArray) (ps : List (ByteArray × ByteArray)) (base : Nat) (w : World) (hown : Pp.Own w base pv ps) (hl : ps.length ≤ 100) (hv : v.size ≤ 1048576) (hpv : ∀ x ∈ ps, x.2.size ≤ 1048576) (T : Qu.Tabs w) (hd1 : (decW m v).1.size ≤ 1048576) :
    Calls Tryz.prog 133 #[prV g n pv v (.slice none 0 0), .string m] w (Meant w pv (meanW m g n ps v)) := by
  have hps := hown.ps
  obtain ⟨pa, pc, rfl⟩ := hps.shape
  unfold prV
  have hb1 : Below w.heap.size w (w.alloc (.cells #[.string g, .string n, .slice pa ps.length pc, .string v, .slice none 0 0] 56)) := (Below.refl _ _).alloc (Nat.le_refl _) _
  have z1 : (w.alloc (.cells #[.string g, .string n, .slice pa ps.length pc, .string v, .slice none 0 0] 56)).heap.size = w.heap.size + 1 := World.size_alloc _ _
  obtain ⟨w1, hw1⟩ : ∃ x, w.alloc (.cells #[.string g, .string n, .slice pa ps.length pc, .string v, .slice none 0 0] 56) = x := ⟨_, rfl⟩
  have hp1 : PrAt w1 w.heap.size g n (.slice pa ps.length pc) v (.slice none 0 0) := by rw [← hw1]; exact heap_alloc_new w _
  rw [hw1] at hb1 z1
  have hb2 : Below w1.heap.size w1 (w1.alloc (.cells #[.string ⟨#[]⟩, .string ⟨#[]⟩, .slice none 0 0, .string ⟨#[]⟩, .slice none 0 0] 56)) := (Below.refl _ _).alloc (Nat.le_refl _) _
  obtain ⟨w2, hw2⟩ : ∃ x, w1.alloc (.cells #[.string ⟨#[]⟩, .string ⟨#[]⟩, .slice none 0 0, .string ⟨#[]⟩, .slice none 0 0] 56) = x := ⟨_, rfl⟩
  have hr2 : PrAt w2 (w.heap.size + 1) ⟨#[]⟩ ⟨#[]⟩ (.slice none 0 0) ⟨#[]⟩ (.slice none 0 0) := by rw [← hw2, ← z1]; exact heap_alloc_new w1 _
  rw [hw2] at hb2
  have hM2 : Mo w w2 g n (.slice pa ps.length pc) v ps base := ⟨hp1.below hb2, hr2, (hown.below hb1).below hb2, hb1.trans (hb2.mono hb1.size)⟩
  have T2 := T.below hM2.b
  have CDC := Lib.hid (decoded_any m v w2 hv T2)
  have CG : Hid (∀ W, Ps W W.heap.size (.slice pa ps.length pc) ps → Calls Tryz.prog 198 #[.agg #[.string g, .string n, .slice pa ps.length pc, .string v, .slice none 0 0], .string ⟨#[67, 72, 65, 82, 83, 69, 84]⟩] W fun e w' => e = .returned (.tuple #[.string (getV ps chsB), .bool (getB ps chsB)]) ∧ Below W.heap.size W w') := Lib.hid (fun W h => pGet_any g n (.slice pa ps.length pc) v (.slice none 0 0) chsB ps W h (by omega))
  have CLT := Lib.hid (fun d W h1 h2 h3 => lettersOf_any (getV ps chsB) d W h1 h2 h3)
  have CDH := Lib.hid (fun W h => delHow_any (.slice pa ps.length pc) ps base W h hl)
  have CLN := Lib.hid (fun W => lineName_any n W)
  have HOB := Lib.hid (own_blk hown)
  have c3 := hM2.p.c3
  have r0 := hM2.r.f 0
  have HM := Lib.hid hM2
  have HT := Lib.hid T2
  have HPV := Lib.hid hpv
  have HD1 := Lib.hid hd1
  have hv0 : v.size ≤ 1048576 := hv
  unfold meanW
  obtain ⟨⟨d, de⟩, hd⟩ : ∃ x, decW m v = x := ⟨_, rfl⟩
  rw [hd] at CDC HD1 ⊢
  simp only at CDC HD1 ⊢
  obtain ⟨R, hR⟩ : ∃ R, (if de ≠ 0 then (de, nilP) else if (setC ps d).2 ≠ 0 then ((setC ps d).2, nilP) else restP g n ps (setC ps d).1) = R := ⟨_, rfl⟩
  rw [hR]
  have HR := Lib.hid hR
  clear hR
  clear hd hM2 T2 hps hown hl hpv T hd1 hb1 hb2 hp1 hr2 z1 hv r0
  subst hw1 hw2
  go_enter Tryz.func133, Tryz.ntmps133
  go_wp2_with fail
  refine CDC.out.mono ?_
  rintro e w3 ⟨rfl, b3⟩
  have hM := HM.out.below b3
  have T3 := HT.out.below b3
  by_cases hde : de = 0
  rotate_left
  · have hdb : (de == 0) = false := by simpa using hde
    have HE : Hid (R = (de, nilP)) := Lib.hid (by rw [← HR.out, if_pos hde])
    clear CG CLT CDH CLN HT T3 c3 b3 HM HPV HD1 HR
    have q0 := hM.r.c0
    have q1 := hM.r.c1
    have q2 := hM.r.c2
    have q3 := hM.r.c3
    have q4 := hM.r.c4
    have s0 := hM.r.f 0
    have s1 := hM.r.f 1
    have s2 := hM.r.f 2
    have s3 := hM.r.f 3
    have s4 := hM.r.f 4
    have HMM := Lib.hid hM
    clear hM
    go_wp2_with fail
    exact bodyPost_ret (v := .tuple #[.agg #[.string ⟨#[]⟩, .string ⟨#[]⟩, .slice none 0 0, .string ⟨#[]⟩, .slice none 0 0], .int .i64 de]) (by simp [results, Tryz.results133, go_sem, q0, q1, q2, q3, q4]) rfl (by rw [HE.out]; exact ⟨.slice none 0 0, rfl, ps_nil _ _, fun k e => by simp [Value.ownBlock] at e, set5 (gOf HMM.out.b) (by omega) _ _ _ _ _⟩)
  subst hde
  have HR1 : Hid ((if (setC ps d).2 ≠ 0 then ((setC ps d).2, nilP) else restP g n ps (setC ps d).1) = R) := Lib.hid (by have h := HR.out; rw [if_neg (fun h => h rfl)] at h; exact h)
  clear HR
  have p0 := hM.p.c0
  have p1 := hM.p.c1
  have p2 := hM.p.c2
  have p3 := hM.p.c3
  have p4 := hM.p.c4
  have CG3 := Lib.hid (CG.out w3 ((hM.o.ps)))
  have HM3 := Lib.hid hM
  have HT3 := Lib.hid T3
  clear CG HM HT T3 c3 b3 hM
  cases hg : getB ps chsB
  · rw [hg] at CG3
    have HR2 : Hid (restP g n ps d = R) := Lib.hid (by have h := HR1.out; rw [show setC ps d = (d, 0) by unfold setC; rw [hg, if_neg (by simp)], if_neg (fun h => h rfl)] at h; exact h)
    clear hg CLT HPV HR1
    go_wp2_with fail
    refine CG3.out.mono ?_
    rintro e w4 ⟨rfl, b4⟩
    have hM := HM3.out.below b4
    clear CG3 HM3 HT3 b4 p0 p1 p2 p3 p4
    clear HD1
    have c3 := hM.p.c3
    have f3 := hM.p.f 3
    have hP1 := hM.p.set3 d
    have hR1 := hM.r.other (a := ⟨w.heap.size, 3, none⟩) (by show w.heap.size + 1 ≠ w.heap.size; omega) (.string d)
    have hO1 := Pp.Own.setNe hM.o (a := ⟨w.heap.size, 3, none⟩) (fun k e => (HOB.out k e).2) (.string d)
    have hB1 := hM.b.setCell (p := ⟨w.heap.size, 3, none⟩) (Nat.le_refl _) (.string d)
    have CX := Lib.hid (CDH.out _ hO1)
    have k2 := hP1.c2
    have HX := Lib.hid (And.intro hP1 (And.intro hR1 hB1))
    clear hM hP1 hR1 hO1 hB1 CDH
    go_wp2_with fail
    refine CX.out.mono ?_
    rintro e w6 ⟨v', rfl, hP, hob, hgr⟩
    obtain ⟨xa, xc, rfl⟩ := hP.shape
    obtain ⟨hP1, hR1, hB1⟩ := HX.out
    have hfar : ∀ k, (Value.slice xa (drp ps).length xc).ownBlock = some k → k < w.heap.size := fun k e => (HOB.out k (hob ▸ e)).2
    have hP6 : PrAt w6 w.heap.size g n (.slice pa ps.length pc) d (.slice none 0 0) := (hgr.block _ hP1.lt (fun e => by have := HOB.out _ e.symm; omega)).trans hP1
    have hR6 : PrAt w6 (w.heap.size + 1) ⟨#[]⟩ ⟨#[]⟩ (.slice none 0 0) ⟨#[]⟩ (.slice none 0 0) := (hgr.block _ hR1.lt (fun e => by have := HOB.out _ e.symm; omega)).trans hR1
    have hG6 : w.grownBy w6 (Value.slice pa ps.length pc).ownBlock := ⟨hgr.os.trans hB1.os, hgr.tape.trans hB1.tape, hgr.output.trans hB1.output, Nat.le_trans hB1.size hgr.size, fun k hk hne => (hgr.block k (Nat.lt_of_lt_of_le hk hB1.size) hne).trans (hB1.block k hk)⟩
    have d2 := hP6.c2
    have f2 := hP6.f 2
    have hP7 := hP6.set2 (.slice xa (drp ps).length xc)
    have hR7 := hR6.other (a := ⟨w.heap.size, 2, none⟩) (by show w.heap.size + 1 ≠ w.heap.size; omega) (.slice xa (drp ps).length xc)
    have hPs7 := ps_far hP (a := ⟨w.heap.size, 2, none⟩) (fun k e => by have := hfar k e; show k ≠ w.heap.size; omega) (.slice xa (drp ps).length xc)
    have hG7 := grown_below hG6 hG6.size ((Below.refl w.heap.size w6).setCell (p := ⟨w.heap.size, 2, none⟩) (Nat.le_refl _) (.slice xa (drp ps).length xc))
    have hz7 : w6.heap.size = (w6.setCell ⟨w.heap.size, 2, none⟩ (.slice xa (drp ps).length xc)).heap.size := by rw [World.size_setCell]
    rw [hz7] at hPs7
    have e1 := hP7.c1
    have e2 := hP7.c2
    have e3 := hP7.c3
    have e0 := hP7.c0
    have e4 := hP7.c4
    have q0 := hR7.c0
    have q1 := hR7.c1
    have q2 := hR7.c2
    have q3 := hR7.c3
    have q4 := hR7.c4
    have s0 := hR7.f 0
    have s1 := hR7.f 1
    have s2 := hR7.f 2
    have s3 := hR7.f 3
    have s4 := hR7.f 4
    have HA := Lib.hid (And.intro hPs7 (And.intro hG7 (And.intro hfar hob)))
    have hdl := Lib.hid (drp_len ps)
    have HR3 : Hid ((if 600 < d.size then (8, nilP) else if 4 < (drp ps).length then (4, nilP) else if framed n = true then (14, nilP) else (0, ⟨g, n, drp ps, d⟩)) = R) := Lib.hid HR2.out
    clear HR2
    clear CX HX hP hgr hP1 hR1 hB1 hP6 hR6 hG6 hP7 hR7 hPs7 hG7 hz7 hfar hob
    generalize (drp ps).length = N at *
    by_cases h6 : 600 < d.size
    · have h6z : (600 : Int) < (d.size : Int) := by omega
      have HE : Hid (R = (8, nilP)) := Lib.hid (by rw [← HR3.out, if_pos h6])
      clear HR3
      go_wp2_with fail
      exact bodyPost_ret (v := .tuple #[.agg #[.string ⟨#[]⟩, .string ⟨#[]⟩, .slice none 0 0, .string ⟨#[]⟩, .slice none 0 0], .int .i64 8]) (by simp [results, Tryz.results133, go_sem, q0, q1, q2, q3, q4]) rfl (by rw [HE.out]; exact ⟨.slice none 0 0, rfl, ps_nil _ _, fun k e => by simp [Value.ownBlock] at e, set5 HA.out.2.1 (by omega) _ _ _ _ _⟩)
    · have h6z : ¬ (600 : Int) < (d.size : Int) := by omega
      by_cases h4 : 4 < N
      · have h4z : (4 : Int) < (N : Int) := by omega
        have HE : Hid (R = (4, nilP)) := Lib.hid (by rw [← HR3.out, if_neg h6, if_pos h4])
        clear HR3
        go_wp2_with fail
        exact bodyPost_ret (v := .tuple #[.agg #[.string ⟨#[]⟩, .string ⟨#[]⟩, .slice none 0 0, .string ⟨#[]⟩, .slice none 0 0], .int .i64 4]) (by simp [results, Tryz.results133, go_sem, q0, q1, q2, q3, q4]) rfl (by rw [HE.out]; exact ⟨.slice none 0 0, rfl, ps_nil _ _, fun k e => by simp [Value.ownBlock] at e, set5 HA.out.2.1 (by omega) _ _ _ _ _⟩)
      · have h4z : ¬ (4 : Int) < (N : Int) := by omega
        cases hfr : framed n <;> rw [hfr] at CLN
        · have HE : Hid (R = (0, ⟨g, n, drp ps, d⟩)) := Lib.hid (by rw [← HR3.out, if_neg h6, if_neg h4, if_neg (by rw [hfr]; simp)])
          clear HR3 hfr
          go_wp2_with fail
          refine (CLN.out _).mono ?_
          rintro e w8 ⟨rfl, rfl⟩
          go_wp2_with fail
          exact bodyPost_ret (v := .tuple #[.agg #[.string g, .string n, .slice xa N xc, .string d, .slice none 0 0], .int .i64 0]) (by simp [results, Tryz.results133, go_sem, q0, q1, q2, q3, q4]) rfl (by rw [HE.out]; exact ⟨.slice xa N xc, rfl, ps5 HA.out.1 (fun k e => by have := HA.out.2.2.1 k e; omega) _ _ _ _ _, fun k e => HA.out.2.2.2 ▸ e, set5 HA.out.2.1 (by omega) _ _ _ _ _⟩)
        · have HE : Hid (R = (14, nilP)) := Lib.hid (by rw [← HR3.out, if_neg h6, if_neg h4, if_pos hfr])
          clear HR3 hfr
          go_wp2_with fail
          refine (CLN.out _).mono ?_
          rintro e w8 ⟨rfl, rfl⟩
          go_wp2_with fail
          exact bodyPost_ret (v := .tuple #[.agg #[.string ⟨#[]⟩, .string ⟨#[]⟩, .slice none 0 0, .string ⟨#[]⟩, .slice none 0 0], .int .i64 14]) (by simp [results, Tryz.results133, go_sem, q0, q1, q2, q3, q4]) rfl (by rw [HE.out]; exact ⟨.slice none 0 0, rfl, ps_nil _ _, fun k e => by simp [Value.ownBlock] at e, set5 HA.out.2.1 (by omega) _ _ _ _ _⟩)
  · rw [hg] at CG3
    have HRL : Hid ((if (letC (getV ps chsB) d).2 ≠ 0 then ((letC (getV ps chsB) d).2, nilP) else restP g n ps (letC (getV ps chsB) d).1) = R) := Lib.hid (by have h := HR1.out; rw [show setC ps d = letC (getV ps chsB) d by unfold setC; rw [hg, if_pos rfl]] at h; exact h)
    clear HR1
    have hsz : (getV ps chsB).size ≤ 1048576 := getV_size HPV.out
    have CL2 := Lib.hid (fun W h3 => CLT.out d W (by omega) HD1.out h3)
    clear hg CLT HPV hsz
    generalize getV ps chsB = cn at CG3 CL2 HRL
    generalize letC cn d = y at CL2 HRL
    obtain ⟨d, le⟩ := y
    simp only at CL2 HRL
    go_wp2_with fail
    refine CG3.out.mono ?_
    rintro e w4 ⟨rfl, b4⟩
    have CL3 := Lib.hid (CL2.out w4 ((HT3.out.below b4).2))
    go_wp2_with fail
    refine CL3.out.mono ?_
    rintro e w5 ⟨rfl, b5⟩
    have hM := (HM3.out.below b4).below b5
    clear CG3 HM3 HT3 b4 p0 p1 p2 p3 p4 CL2 CL3 b5
    clear HD1
    by_cases hle : le = 0
    rotate_left
    · have hlb : (le == 0) = false := by simpa using hle
      have HE : Hid (R = (le, nilP)) := Lib.hid (by rw [← HRL.out, if_pos hle])
      clear CDH CLN HRL
      have q0 := hM.r.c0
      have q1 := hM.r.c1
      have q2 := hM.r.c2
      have q3 := hM.r.c3
      have q4 := hM.r.c4
      have s0 := hM.r.f 0
      have s1 := hM.r.f 1
      have s2 := hM.r.f 2
      have s3 := hM.r.f 3
      have s4 := hM.r.f 4
      have HMM := Lib.hid hM
      clear hM
      go_wp2_with fail
      exact bodyPost_ret (v := .tuple #[.agg #[.string ⟨#[]⟩, .string ⟨#[]⟩, .slice none 0 0, .string ⟨#[]⟩, .slice none 0 0], .int .i64 le]) (by simp [results, Tryz.results133, go_sem, q0, q1, q2, q3, q4]) rfl (by rw [HE.out]; exact ⟨.slice none 0 0, rfl, ps_nil _ _, fun k e => by simp [Value.ownBlock] at e, set5 (gOf HMM.out.b) (by omega) _ _ _ _ _⟩)
    subst hle
    have HR2 : Hid (restP g n ps d = R) := Lib.hid (by have h := HRL.out; rw [if_neg (fun h => h rfl)] at h; exact h)
    clear HRL
    have c3 := hM.p.c3
    have f3 := hM.p.f 3
    have hP1 := hM.p.set3 d
    have hR1 := hM.r.other (a := ⟨w.heap.size, 3, none⟩) (by show w.heap.size + 1 ≠ w.heap.size; omega) (.string d)
    have hO1 := Pp.Own.setNe hM.o (a := ⟨w.heap.size, 3, none⟩) (fun k e => (HOB.out k e).2) (.string d)
    have hB1 := hM.b.setCell (p := ⟨w.heap.size, 3, none⟩) (Nat.le_refl _) (.string d)
    have CX := Lib.hid (CDH.out _ hO1)
    have k2 := hP1.c2
    have HX := Lib.hid (And.intro hP1 (And.intro hR1 hB1))
    clear hM hP1 hR1 hO1 hB1 CDH
    go_wp2_with fail
    refine CX.out.mono ?_
    rintro e w6 ⟨v', rfl, hP, hob, hgr⟩
    obtain ⟨xa, xc, rfl⟩ := hP.shape
    obtain ⟨hP1, hR1, hB1⟩ := HX.out
    have hfar : ∀ k, (Value.slice xa (drp ps).length xc).ownBlock = some k → k < w.heap.size := fun k e => (HOB.out k (hob ▸ e)).2
    have hP6 : PrAt w6 w.heap.size g n (.slice pa ps.length pc) d (.slice none 0 0) := (hgr.block _ hP1.lt (fun e => by have := HOB.out _ e.symm; omega)).trans hP1
    have hR6 : PrAt w6 (w.heap.size + 1) ⟨#[]⟩ ⟨#[]⟩ (.slice none 0 0) ⟨#[]⟩ (.slice none 0 0) := (hgr.block _ hR1.lt (fun e => by have := HOB.out _ e.symm; omega)).trans hR1
    have hG6 : w.grownBy w6 (Value.slice pa ps.length pc).ownBlock := ⟨hgr.os.trans hB1.os, hgr.tape.trans hB1.tape, hgr.output.trans hB1.output, Nat.le_trans hB1.size hgr.size, fun k hk hne => (hgr.block k (Nat.lt_of_lt_of_le hk hB1.size) hne).trans (hB1.block k hk)⟩
    have d2 := hP6.c2
    have f2 := hP6.f 2
    have hP7 := hP6.set2 (.slice xa (drp ps).length xc)
    have hR7 := hR6.other (a := ⟨w.heap.size, 2, none⟩) (by show w.heap.size + 1 ≠ w.heap.size; omega) (.slice xa (drp ps).length xc)
    have hPs7 := ps_far hP (a := ⟨w.heap.size, 2, none⟩) (fun k e => by have := hfar k e; show k ≠ w.heap.size; omega) (.slice xa (drp ps).length xc)
    have hG7 := grown_below hG6 hG6.size ((Below.refl w.heap.size w6).setCell (p := ⟨w.heap.size, 2, none⟩) (Nat.le_refl _) (.slice xa (drp ps).length xc))
    have hz7 : w6.heap.size = (w6.setCell ⟨w.heap.size, 2, none⟩ (.slice xa (drp ps).length xc)).heap.size := by rw [World.size_setCell]
    rw [hz7] at hPs7
    have e1 := hP7.c1
    have e2 := hP7.c2
    have e3 := hP7.c3
    have e0 := hP7.c0
    have e4 := hP7.c4
    have q0 := hR7.c0
    have q1 := hR7.c1
    have q2 := hR7.c2
    have q3 := hR7.c3
    have q4 := hR7.c4
    have s0 := hR7.f 0
    have s1 := hR7.f 1
    have s2 := hR7.f 2
    have s3 := hR7.f 3
    have s4 := hR7.f 4
    have HA := Lib.hid (And.intro hPs7 (And.intro hG7 (And.intro hfar hob)))
    have hdl := Lib.hid (drp_len ps)
    have HR3 : Hid ((if 600 < d.size then (8, nilP) else if 4 < (drp ps).length then (4, nilP) else if framed n = true then (14, nilP) else (0, ⟨g, n, drp ps, d⟩)) = R) := Lib.hid HR2.out
    clear HR2
    clear CX HX hP hgr hP1 hR1 hB1 hP6 hR6 hG6 hP7 hR7 hPs7 hG7 hz7 hfar hob
    generalize (drp ps).length = N at *
    by_cases h6 : 600 < d.size
    · have h6z : (600 : Int) < (d.size : Int) := by omega
      have HE : Hid (R = (8, nilP)) := Lib.hid (by rw [← HR3.out, if_pos h6])
      clear HR3
      go_wp2_with fail
      exact bodyPost_ret (v := .tuple #[.agg #[.string ⟨#[]⟩, .string ⟨#[]⟩, .slice none 0 0, .string ⟨#[]⟩, .slice none 0 0], .int .i64 8]) (by simp [results, Tryz.results133, go_sem, q0, q1, q2, q3, q4]) rfl (by rw [HE.out]; exact ⟨.slice none 0 0, rfl, ps_nil _ _, fun k e => by simp [Value.ownBlock] at e, set5 HA.out.2.1 (by omega) _ _ _ _ _⟩)
    · have h6z : ¬ (600 : Int) < (d.size : Int) := by omega
      by_cases h4 : 4 < N
      · have h4z : (4 : Int) < (N : Int) := by omega
        have HE : Hid (R = (4, nilP)) := Lib.hid (by rw [← HR3.out, if_neg h6, if_pos h4])
        clear HR3
        go_wp2_with fail
        exact bodyPost_ret (v := .tuple #[.agg #[.string ⟨#[]⟩, .string ⟨#[]⟩, .slice none 0 0, .string ⟨#[]⟩, .slice none 0 0], .int .i64 4]) (by simp [results, Tryz.results133, go_sem, q0, q1, q2, q3, q4]) rfl (by rw [HE.out]; exact ⟨.slice none 0 0, rfl, ps_nil _ _, fun k e => by simp [Value.ownBlock] at e, set5 HA.out.2.1 (by omega) _ _ _ _ _⟩)
      · have h4z : ¬ (4 : Int) < (N : Int) := by omega
        cases hfr : framed n <;> rw [hfr] at CLN
        · have HE : Hid (R = (0, ⟨g, n, drp ps, d⟩)) := Lib.hid (by rw [← HR3.out, if_neg h6, if_neg h4, if_neg (by rw [hfr]; simp)])
          clear HR3 hfr
          go_wp2_with fail
          refine (CLN.out _).mono ?_
          rintro e w8 ⟨rfl, rfl⟩
          go_wp2_with fail
          exact bodyPost_ret (v := .tuple #[.agg #[.string g, .string n, .slice xa N xc, .string d, .slice none 0 0], .int .i64 0]) (by simp [results, Tryz.results133, go_sem, q0, q1, q2, q3, q4]) rfl (by rw [HE.out]; exact ⟨.slice xa N xc, rfl, ps5 HA.out.1 (fun k e => by have := HA.out.2.2.1 k e; omega) _ _ _ _ _, fun k e => HA.out.2.2.2 ▸ e, set5 HA.out.2.1 (by omega) _ _ _ _ _⟩)
        · have HE : Hid (R = (14, nilP)) := Lib.hid (by rw [← HR3.out, if_neg h6, if_neg h4, if_pos hfr])
          clear HR3 hfr
          go_wp2_with fail
          refine (CLN.out _).mono ?_
          rintro e w8 ⟨rfl, rfl⟩
          go_wp2_with fail
          exact bodyPost_ret (v := .tuple #[.agg #[.string ⟨#[]⟩, .string ⟨#[]⟩, .slice none 0 0, .string ⟨#[]⟩, .slice none 0 0], .int .i64 14]) (by simp [results, Tryz.results133, go_sem, q0, q1, q2, q3, q4]) rfl (by rw [HE.out]; exact ⟨.slice none 0 0, rfl, ps_nil _ _, fun k e => by simp [Value.ownBlock] at e, set5 HA.out.2.1 (by omega) _ _ _ _ _⟩)
end Go.Proofs.YtjgfbicllgalkaaGreatDoor.Vc

namespace Go.Proofs.YtjgfbicllgalkaaGreatDoor.Vc
set_option maxRecDepth 100000
open Go.RowKit Pp Sq

/-- How cards are read: the program's and the document's words for it. -/
def upS (s : ByteArray) : List UInt8 := up s.data.toList
abbrev G : Vm.Lang where
  P := Pd
  Q := Par
  bl s := blank s.data.toList
  isB s := decide (upS s = [66, 69, 71, 73, 78, 58, 86, 67, 65, 82, 68])
  isV s := decide (upS s = [86, 69, 82, 83, 73, 79, 78, 58, 50, 46, 49])
  isE s := decide (upS s = [69, 78, 68, 58, 86, 67, 65, 82, 68])
  rd s := ((parse s).err, parse s)
  on q := if (wayV q.ps).toList = [81, 85, 79, 84, 69, 68, 45, 80, 82, 73, 78, 84, 65, 66, 76, 69] ∧ markB q.v = true then some { q with v := cutM q.v } else none
  put q t := { q with v := q.v ++ t }
  mean q := meanW (wayV q.ps) q.g q.n q.ps q.v
  agent p := decide (p.n.toList = [65, 71, 69, 78, 84])
  hasV p := !decide (p.v.size = 0)
abbrev Fr := List (Pd × List Crd)

/-- The reader's block. -/
def RdC (w : World) (b : Nat) (wa nu : Int) (ov cv : Value) (g n : ByteArray) (pv : Value) (v : ByteArray) (av : Value) (en : ByteArray) (on : Bool) : Prop :=
  w.heap[b]? = some (.cells #[.int .i64 wa, .int .i64 nu, ov, cv, .string g, .string n, pv, .string v, av, .string en, .bool on] 67 (0, 0))
section
variable {w w' : World} {b : Nat} {wa nu : Int} {ov cv : Value} {g n : ByteArray} {pv : Value} {v : ByteArray} {av : Value} {en : ByteArray} {on : Bool}
theorem RdC.lt (h : RdC w b wa nu ov cv g n pv v av en on) : b < w.heap.size := (Array.getElem?_eq_some_iff.1 h).1
theorem RdC.c0 (h : RdC w b wa nu ov cv g n pv v av en on) : w.cell? ⟨b, 0, none⟩ = some (.int .i64 wa) := cell_of_row w b 0 _ _ _ h
theorem RdC.c1 (h : RdC w b wa nu ov cv g n pv v av en on) : w.cell? ⟨b, 1, none⟩ = some (.int .i64 nu) := cell_of_row w b 1 _ _ _ h
theorem RdC.c2 (h : RdC w b wa nu ov cv g n pv v av en on) : w.cell? ⟨b, 2, none⟩ = some ov := cell_of_row w b 2 _ _ _ h
theorem RdC.c3 (h : RdC w b wa nu ov cv g n pv v av en on) : w.cell? ⟨b, 3, none⟩ = some cv := cell_of_row w b 3 _ _ _ h
theorem RdC.c4 (h : RdC w b wa nu ov cv g n pv v av en on) : w.cell? ⟨b, 4, none⟩ = some (.string g) := cell_of_row w b 4 _ _ _ h
theorem RdC.c5 (h : RdC w b wa nu ov cv g n pv v av en on) : w.cell? ⟨b, 5, none⟩ = some (.string n) := cell_of_row w b 5 _ _ _ h
theorem RdC.c6 (h : RdC w b wa nu ov cv g n pv v av en on) : w.cell? ⟨b, 6, none⟩ = some pv := cell_of_row w b 6 _ _ _ h
theorem RdC.c7 (h : RdC w b wa nu ov cv g n pv v av en on) : w.cell? ⟨b, 7, none⟩ = some (.string v) := cell_of_row w b 7 _ _ _ h
theorem RdC.c8 (h : RdC w b wa nu ov cv g n pv v av en on) : w.cell? ⟨b, 8, none⟩ = some av := cell_of_row w b 8 _ _ _ h
theorem RdC.c9 (h : RdC w b wa nu ov cv g n pv v av en on) : w.cell? ⟨b, 9, none⟩ = some (.string en) := cell_of_row w b 9 _ _ _ h
theorem RdC.c10 (h : RdC w b wa nu ov cv g n pv v av en on) : w.cell? ⟨b, 10, none⟩ = some (.bool on) := cell_of_row w b 10 _ _ _ h
theorem RdC.f (h : RdC w b wa nu ov cv g n pv v av en on) (j : Nat) : w.frozen? ⟨b, j, none⟩ = false := frozen_of_row _ _ _ _ _ h
theorem RdC.set0 (h : RdC w b wa nu ov cv g n pv v av en on) (x : Int) : RdC (w.setCell ⟨b, 0, none⟩ (.int .i64 x)) b x nu ov cv g n pv v av en on := heap_set h _
theorem RdC.set1 (h : RdC w b wa nu ov cv g n pv v av en on) (x : Int) : RdC (w.setCell ⟨b, 1, none⟩ (.int .i64 x)) b wa x ov cv g n pv v av en on := heap_set h _
theorem RdC.set2 (h : RdC w b wa nu ov cv g n pv v av en on) (x : Value) : RdC (w.setCell ⟨b, 2, none⟩ x) b wa nu x cv g n pv v av en on := heap_set h _
theorem RdC.set3 (h : RdC w b wa nu ov cv g n pv v av en on) (x : Value) : RdC (w.setCell ⟨b, 3, none⟩ x) b wa nu ov x g n pv v av en on := heap_set h _
theorem RdC.set4 (h : RdC w b wa nu ov cv g n pv v av en on) (x : ByteArray) : RdC (w.setCell ⟨b, 4, none⟩ (.string x)) b wa nu ov cv x n pv v av en on := heap_set h _
theorem RdC.set5 (h : RdC w b wa nu ov cv g n pv v av en on) (x : ByteArray) : RdC (w.setCell ⟨b, 5, none⟩ (.string x)) b wa nu ov cv g x pv v av en on := heap_set h _
theorem RdC.set6 (h : RdC w b wa nu ov cv g n pv v av en on) (x : Value) : RdC (w.setCell ⟨b, 6, none⟩ x) b wa nu ov cv g n x v av en on := heap_set h _
theorem RdC.set7 (h : RdC w b wa nu ov cv g n pv v av en on) (x : ByteArray) : RdC (w.setCell ⟨b, 7, none⟩ (.string x)) b wa nu ov cv g n pv x av en on := heap_set h _
theorem RdC.set8 (h : RdC w b wa nu ov cv g n pv v av en on) (x : Value) : RdC (w.setCell ⟨b, 8, none⟩ x) b wa nu ov cv g n pv v x en on := heap_set h _
theorem RdC.set9 (h : RdC w b wa nu ov cv g n pv v av en on) (x : ByteArray) : RdC (w.setCell ⟨b, 9, none⟩ (.string x)) b wa nu ov cv g n pv v av x on := heap_set h _
theorem RdC.set10 (h : RdC w b wa nu ov cv g n pv v av en on) (x : Bool) : RdC (w.setCell ⟨b, 10, none⟩ (.bool x)) b wa nu ov cv g n pv v av en x := heap_set h _
theorem RdC.kept (h : RdC w b wa nu ov cv g n pv v av en on) (hb : w'.heap[b]? = w.heap[b]?) : RdC w' b wa nu ov cv g n pv v av en on := hb.trans h
end

/-- A card that is open: a row of properties of the reader's own, what it holds in the blocks F. -/
def FrAt (w : World) (base : Nat) (F : Nat → Prop) (k : Nat) (v : Value) (f : Fr) : Prop :=
  ∃ cs, w.ownsRow base 56 5 v f.length cs ∧ cs.length = f.length * 5 ∧ ∀ j (hj : j < f.length), ∃ c0 c1 c2 c3 c4,
    cs[j * 5]? = some c0 ∧ cs[j * 5 + 1]? = some c1 ∧ cs[j * 5 + 2]? = some c2 ∧ cs[j * 5 + 3]? = some c3 ∧ cs[j * 5 + 4]? = some c4 ∧ PcF w F (CAf w F k) f[j] c0 c1 c2 c3 c4
/-- The cards that are open, the innermost first; X: blocks that are something else. -/
def FrsAt (w : World) (base : Nat) (F X : Nat → Prop) : List Fr → List Value → Prop
  | [], [] => True
  | f :: os, v :: vs => FrAt w base F (2 - os.length) v f ∧ (∀ g, v.ownBlock = some g → ¬ F g ∧ ¬ X g ∧ ∀ u ∈ vs, u.ownBlock ≠ some g) ∧ FrsAt w base F X os vs
  | _, _ => False
theorem FrsAt.len {w : World} {base : Nat} {F X : Nat → Prop} : ∀ {os : List Fr} {vs : List Value}, FrsAt w base F X os vs → vs.length = os.length
  | [], [], _ => rfl
  | _ :: _, _ :: _, h => by simp [FrsAt.len h.2.2]
  | [], _ :: _, h => h.elim
  | _ :: _, [], h => h.elim
theorem row_stays {w w' : World} {base : Nat} {e : TypeId} {size : Nat} {v : Value} {n : Nat} {xs : List Value} (h : w.ownsRow base e size v n xs) (hs : ∀ g, v.ownBlock = some g → w'.heap[g]? = w.heap[g]?) : w'.ownsRow base e size v n xs := by
  obtain ⟨h0, hr⟩ := h
  refine ⟨h0, ?_⟩
  rcases hr with hr | ⟨g, cap, cur, rfl, hg, hh, rest⟩
  · exact .inl hr
  · exact .inr ⟨g, cap, cur, rfl, hg, (hs g (by simp [Value.ownBlock])).trans hh, rest⟩
theorem FrAt.move {w w' : World} {base : Nat} {F F' : Nat → Prop} {k : Nat} {v : Value} {f : Fr} (h : FrAt w base F k v f) (hs : Stays (fun k => F k ∧ k < w.heap.size) w w') (hF : ∀ b, F b → b < w.heap.size → F' b) (hv : ∀ g, v.ownBlock = some g → w'.heap[g]? = w.heap[g]?) : FrAt w' base F' k v f := by
  obtain ⟨cs, h1, hl, h2⟩ := h
  refine ⟨cs, row_stays h1 hv, hl, fun j hj => ?_⟩
  obtain ⟨c0, c1, c2, c3, c4, e0, e1, e2, e3, e4, hp⟩ := h2 j hj
  exact ⟨c0, c1, c2, c3, c4, e0, e1, e2, e3, e4, hp.move hs hF (fun _ _ h => h.move hs hF)⟩
theorem FrAt.lt {w : World} {base : Nat} {F : Nat → Prop} {k : Nat} {v : Value} {f : Fr} (h : FrAt w base F k v f) (g : Nat) (hg : v.ownBlock = some g) : base ≤ g ∧ g < w.heap.size := by
  obtain ⟨cs, h1, _⟩ := h
  exact own_lt h1 g hg
theorem FrsAt.lt {w : World} {base : Nat} {F X : Nat → Prop} : ∀ {os : List Fr} {vs : List Value}, FrsAt w base F X os vs → ∀ u ∈ vs, ∀ g, u.ownBlock = some g → base ≤ g ∧ g < w.heap.size
  | [], [], _, u, hu, _, _ => by cases hu
  | _ :: _, _ :: _, h, u, hu, g, hg => by
    rcases List.mem_cons.1 hu with rfl | hu
    · exact h.1.lt g hg
    · exact FrsAt.lt h.2.2 u hu g hg
  | [], _ :: _, h, _, _, _, _ => h.elim
  | _ :: _, [], h, _, _, _, _ => h.elim
theorem FrsAt.move {w w' : World} {base : Nat} {F F' X X' : Nat → Prop} : ∀ {os : List Fr} {vs : List Value}, FrsAt w base F X os vs → Stays (fun k => F k ∧ k < w.heap.size) w w' → (∀ b, F b → b < w.heap.size → F' b) → (∀ u ∈ vs, ∀ g, u.ownBlock = some g → w'.heap[g]? = w.heap[g]?) → (∀ u ∈ vs, ∀ g, u.ownBlock = some g → ¬ F' g ∧ ¬ X' g) → FrsAt w' base F' X' os vs
  | [], [], _, _, _, _, _ => trivial
  | _ :: _, v :: _, h, hs, hF, hv, hX => ⟨h.1.move hs hF (hv v (List.mem_cons_self ..)), fun g hg => ⟨(hX v (List.mem_cons_self ..) g hg).1, (hX v (List.mem_cons_self ..) g hg).2, (h.2.1 g hg).2.2⟩, FrsAt.move h.2.2 hs hF (fun u hu => hv u (List.mem_cons_of_mem _ hu)) (fun u hu => hX u (List.mem_cons_of_mem _ hu))⟩
  | [], _ :: _, h, _, _, _, _ => h.elim
  | _ :: _, [], h, _, _, _, _ => h.elim

theorem FrsAt.notX {w : World} {base : Nat} {F X : Nat → Prop} : ∀ {os : List Fr} {vs : List Value}, FrsAt w base F X os vs → ∀ u ∈ vs, ∀ g, u.ownBlock = some g → ¬ F g ∧ ¬ X g
  | [], [], _, u, hu, _, _ => by cases hu
  | _ :: _, _ :: _, h, u, hu, g, hg => by
    rcases List.mem_cons.1 hu with rfl | hu
    · exact ⟨(h.2.1 g hg).1, (h.2.1 g hg).2.1⟩
    · exact FrsAt.notX h.2.2 u hu g hg
  | [], _ :: _, h, _, _, _, _ => h.elim
  | _ :: _, [], h, _, _, _, _ => h.elim

/-- The reader's open cards, in a row of cards; M: all blocks that the reader may call its own; X: blocks of it that are something else. -/
def OpAt (w : World) (rb base : Nat) (M X : Nat → Prop) (os : List Fr) (ov : Value) : Prop :=
  ∃ F vs, w.ownsRow base 24 1 ov os.length vs.reverse ∧ FrsAt w base F (fun k => k = rb ∨ ov.ownBlock = some k ∨ X k) os vs ∧
    (∀ k, F k → M k ∧ k ≠ rb ∧ ov.ownBlock ≠ some k ∧ ¬ X k) ∧ (∀ k, ov.ownBlock = some k → M k ∧ k ≠ rb ∧ ¬ X k) ∧ (∀ u ∈ vs, ∀ k, u.ownBlock = some k → M k)
theorem OpAt.move {w w' : World} {rb base : Nat} {M M' X X' : Nat → Prop} {os : List Fr} {ov : Value} (h : OpAt w rb base M X os ov) (hs : Stays (fun k => M k ∧ k ≠ rb ∧ ¬ X k ∧ k < w.heap.size) w w') (hM : ∀ k, M k → k < w.heap.size → M' k) (hX : ∀ k, X' k → X k ∨ w.heap.size ≤ k) : OpAt w' rb base M' X' os ov := by
  obtain ⟨F, vs, h1, h2, h3, h4, h5⟩ := h
  have hov : ∀ g, ov.ownBlock = some g → w'.heap[g]? = w.heap[g]? := fun g hg => hs.block g ⟨(h4 g hg).1, (h4 g hg).2.1, (h4 g hg).2.2, (own_lt h1 g hg).2⟩
  have hsF : Stays (fun k => F k ∧ k < w.heap.size) w w' := hs.mono fun k hk => ⟨(h3 k hk.1).1, (h3 k hk.1).2.1, (h3 k hk.1).2.2.2, hk.2⟩
  have hlt := h2.lt
  have hX2 := h2.notX
  refine ⟨fun k => F k ∧ k < w.heap.size, vs, row_stays h1 hov, h2.move hsF (fun b hb hl => ⟨hb, hl⟩) (fun u hu g hg => hs.block g ?_) (fun u hu g hg => ⟨fun h => (hX2 u hu g hg).1 h.1, ?_⟩), fun k hk => ?_, fun k hk => ?_, fun u hu k hk => hM k (h5 u hu k hk) (hlt u hu k hk).2⟩
  · exact ⟨h5 u hu g hg, fun e => (hX2 u hu g hg).2 (.inl e), fun e => (hX2 u hu g hg).2 (.inr (.inr e)), (hlt u hu g hg).2⟩
  · rintro (e | e | e)
    · exact (hX2 u hu g hg).2 (.inl e)
    · exact (hX2 u hu g hg).2 (.inr (.inl e))
    · rcases hX g e with e | e
      · exact (hX2 u hu g hg).2 (.inr (.inr e))
      · have := (hlt u hu g hg).2; omega
  · obtain ⟨a, b, c, d⟩ := h3 k hk.1
    exact ⟨hM k a hk.2, b, c, fun e => (hX k e).elim d (fun e => by have := hk.2; omega)⟩
  · obtain ⟨a, b, c⟩ := h4 k hk
    have hl := (own_lt h1 k hk).2
    exact ⟨hM k a hl, b, fun e => (hX k e).elim c (fun e => by omega)⟩

/-- What is known of a state, whatever the lines. -/
def Good (N : Nat) : Vm.St G → Prop
  | .at_ wa os _ => os.length ≤ 3 ∧ (∀ f ∈ os, f.length ≤ 24) ∧ (∀ f ∈ os.tail, f ≠ []) ∧ (wa = 0 → os.length ≤ 2 ∧ ∀ f ∈ os, f ≠ []) ∧ (wa = 1 ∨ wa = 2 → os ≠ []) ∧ wa ≤ 3
  | .on _ os _ q => os.length ≤ 3 ∧ (∀ f ∈ os, f.length ≤ 24) ∧ (∀ f ∈ os.tail, f ≠ []) ∧ os ≠ [] ∧ (os.headD []).length < 24 ∧ q.v.size ≤ N ∧ q.ps.length ≤ 100 ∧ ∀ x ∈ q.ps, x.2.size ≤ 1048576

/-- The reader in memory, at a state of the plain machine. -/
def RdAt (w : World) (rb base : Nat) (M : Nat → Prop) : Vm.St G → Prop
  | .at_ wa os c => ∃ nu ov cv g n pv v av en, RdC w rb wa nu ov cv g n pv v av en false ∧ M rb ∧ OpAt w rb base M (fun _ => False) os ov ∧ (wa = 3 → CAf w (fun k => M k ∧ k ≠ rb ∧ ov.ownBlock ≠ some k) 3 c cv)
  | .on k os _ q => ∃ ov cv pv, RdC w rb 2 k ov cv q.g q.n pv q.v (.slice none 0 0) (wayV q.ps) true ∧ M rb ∧ Pp.Own w base pv q.ps ∧ (∀ g, pv.ownBlock = some g → M g ∧ g ≠ rb) ∧ OpAt w rb base M (fun k => pv.ownBlock = some k) os ov
end Go.Proofs.YtjgfbicllgalkaaGreatDoor.Vc

namespace Go.Proofs.YtjgfbicllgalkaaGreatDoor.Vc
set_option maxRecDepth 100000
open Go.RowKit Pp Sq

/-- A row with one more element. -/
theorem row_form {w : World} {base : Nat} {e : TypeId} {size : Nat} {v : Value} {n : Nat} {xs : List Value} (h : w.ownsRow base e size v n xs) (hn : 0 < n) :
    ∃ g cap cur, v = .slice (some ⟨g, 0, none⟩) n cap ∧ base ≤ g ∧ w.heap[g]? = some (.cells cur e (0, 0)) ∧ n ≤ cap ∧ cap ≤ maxLen ∧ cur.size = cap * size ∧ cur.toList.take (n * size) = xs := by
  obtain ⟨_, ⟨_, h0⟩ | ⟨g, cap, cur, rfl, hb, hg, hn, hm, hc, ht⟩⟩ := h
  · omega
  · exact ⟨g, cap, cur, rfl, hb, hg, hn, hm, hc, ht⟩
theorem Addr.add_block0 {b j : Nat} : (⟨b, 0, none⟩ : Addr).add j = ⟨b, j, none⟩ := by rw [Lib.addr_add, Nat.zero_add]
theorem row_len {w : World} {base : Nat} {e : TypeId} {size : Nat} {v : Value} {n : Nat} {xs : List Value} (h : w.ownsRow base e size v n xs) : xs.length = n * size := h.1
theorem row_shape {w : World} {base : Nat} {e : TypeId} {size : Nat} {v : Value} {n : Nat} {xs : List Value} (h : w.ownsRow base e size v n xs) : ∃ a c, v = .slice a n c := by
  obtain ⟨_, ⟨rfl, rfl⟩ | ⟨g, cap, cur, rfl, _⟩⟩ := h
  · exact ⟨_, _, rfl⟩
  · exact ⟨_, _, rfl⟩
/-- The innermost card's cell. -/
theorem OpAt.top {w : World} {rb base : Nat} {M X : Nat → Prop} {f : Fr} {os : List Fr} {ov : Value} (h : OpAt w rb base M X (f :: os) ov) :
    ∃ og oc a c, ov = .slice (some ⟨og, 0, none⟩) (os.length + 1) oc ∧ w.cell? ⟨og, os.length, none⟩ = some (.slice a f.length c) ∧ w.frozen? ⟨og, os.length, none⟩ = false ∧ og < w.heap.size ∧ og ≠ rb ∧ ((os.length + 1 : Nat) : Int) ≤ (oc : Int) ∧ oc ≤ maxLen := by
  obtain ⟨F, vs, h1, h2, h3, h4, h5⟩ := h
  cases vs with
  | nil => exact h2.elim
  | cons v vs =>
    have hl := h2.2.2.len
    obtain ⟨og, oc, cur, rfl, hb, hg, hn, hm, hc, ht⟩ := row_form h1 (by simp)
    obtain ⟨cs, hr, _, _⟩ := h2.1
    obtain ⟨a, c, rfl⟩ := row_shape hr
    have hx : cur[os.length]? = some (.slice a f.length c) := by
      have : cur.toList[os.length]? = some (.slice a f.length c) := by
        rw [← List.getElem?_take_of_lt (show os.length < (f :: os).length * 1 by simp), ht, List.reverse_cons, List.getElem?_append_right (by simp [hl]), List.length_reverse, hl, Nat.sub_self]
        rfl
      simpa using this
    refine ⟨og, oc, a, c, rfl, ?_, ?_, (Array.getElem?_eq_some_iff.1 hg).1, (h4 og rfl).2.1, by simp at hn; omega, hm⟩
    · simp [World.cell?, hg, hx]
    · simp [World.frozen?, hg]
theorem OpAt.shape {w : World} {rb base : Nat} {M X : Nat → Prop} {os : List Fr} {ov : Value} (h : OpAt w rb base M X os ov) : ∃ a c, ov = .slice a os.length c := by
  obtain ⟨F, vs, h1, _⟩ := h
  exact row_shape h1
theorem heap_row {w : World} {g k : Nat} {cur : Array Value} {e : TypeId} {u : Value} (hg : w.heap[g]? = some (.cells cur e (0, 0))) : (w.setCell ⟨g, k, none⟩ u).heap[g]? = some (.cells (cur.setIfInBounds k u) e (0, 0)) := heap_set hg u
/-- The last element of a row is another one. -/
theorem row_last {w : World} {base g n cap : Nat} {e : TypeId} {xs : List Value} {a u : Value} (h : w.ownsRow base e 1 (.slice (some ⟨g, 0, none⟩) (n + 1) cap) (n + 1) (xs ++ [a])) : (w.setCell ⟨g, n, none⟩ u).ownsRow base e 1 (.slice (some ⟨g, 0, none⟩) (n + 1) cap) (n + 1) (xs ++ [u]) := by
  obtain ⟨h0, ⟨hv, _⟩ | ⟨g', cap', cur, hv, hb, hg, hn, hm, hc, ht⟩⟩ := h
  · cases hv
  · cases hv
    have hxs : xs.length = n := by simp at h0; exact h0
    refine ⟨by simpa using h0, .inr ⟨g, cap, cur.setIfInBounds n u, rfl, hb, heap_row hg, hn, hm, by simpa using hc, ?_⟩⟩
    rw [Array.toList_setIfInBounds]
    have : (cur.toList.set n u).take ((n + 1) * 1) = (cur.toList.take ((n + 1) * 1)).set n u := by rw [List.take_set]
    rw [this, ht, List.set_append_right _ _ (by omega), hxs, Nat.sub_self]
    rfl
/-- A row without its last element. -/
theorem row_short {w : World} {base g n cap : Nat} {e : TypeId} {xs : List Value} {a : Value} (h : w.ownsRow base e 1 (.slice (some ⟨g, 0, none⟩) (n + 1) cap) (n + 1) (xs ++ [a])) : w.ownsRow base e 1 (.slice (some ⟨g, 0, none⟩) n cap) n xs := by
  obtain ⟨h0, ⟨hv, _⟩ | ⟨g', cap', cur, hv, hb, hg, hn, hm, hc, ht⟩⟩ := h
  · cases hv
  · cases hv
    have hxs : xs.length = n := by simp at h0; exact h0
    refine ⟨by simpa using hxs, .inr ⟨g, cap, cur, rfl, hb, hg, by omega, hm, hc, ?_⟩⟩
    have : (cur.toList.take ((n + 1) * 1)).take (n * 1) = xs := by rw [ht, List.take_append_of_le_length (by omega), List.take_of_length_le (by omega)]
    rwa [List.take_take, Nat.min_eq_left (by omega)] at this
/-- One more card is open. -/
theorem OpAt.push {w w' : World} {rb base : Nat} {M X : Nat → Prop} {os : List Fr} {ov ov' : Value} {F : Nat → Prop} {vs : List Value} (h2 : FrsAt w base F (fun k => k = rb ∨ ov.ownBlock = some k ∨ X k) os vs)
    (h3 : ∀ k, F k → M k ∧ k ≠ rb ∧ ov.ownBlock ≠ some k ∧ ¬ X k) (h4 : ∀ k, ov.ownBlock = some k → M k ∧ k ≠ rb ∧ ¬ X k) (h5 : ∀ u ∈ vs, ∀ k, u.ownBlock = some k → M k)
    (hrb : rb < w.heap.size) (hXl : ∀ k, X k → k < w.heap.size) (hown : w'.ownsRow base 24 1 ov' (os.length + 1) (vs.reverse ++ [.slice none 0 0])) (hg : w.grownBy w' ov.ownBlock) (hp : ∀ g, ov'.ownBlock = some g → ov.ownBlock = some g ∨ w.heap.size ≤ g) :
    OpAt w' rb base (fun k => M k ∨ w.heap.size ≤ k) X ([] :: os) ov' := by
  have hlt := h2.lt
  have hX := h2.notX
  have hsF : Stays (fun k => (F k ∧ k < w.heap.size) ∧ k < w.heap.size) w w' := ⟨hg.os, hg.tape, hg.output, hg.size, fun k hk => hg.block k hk.2 (fun e => (h3 k hk.1.1).2.2.1 e.symm)⟩
  refine ⟨fun k => F k ∧ k < w.heap.size, .slice none 0 0 :: vs, by rw [List.reverse_cons]; exact hown, ⟨⟨[], World.ownsRow_nil _ _ _ _, rfl, fun j hj => by simp at hj⟩, fun g e => by simp [Value.ownBlock] at e, ?_⟩, fun k hk => ?_, fun k hk => ?_, fun u hu k hk => ?_⟩
  · refine FrsAt.move h2 (hsF.mono fun k hk => ⟨hk, hk.2⟩) (fun b hb hl => ⟨hb, hl⟩) (fun u hu g hgo => hg.block g (hlt u hu g hgo).2 (fun e => (hX u hu g hgo).2 (.inr (.inl e.symm)))) (fun u hu g hgo => ⟨fun h => (hX u hu g hgo).1 h.1, ?_⟩)
    rintro (e | e | e)
    · exact (hX u hu g hgo).2 (.inl e)
    · rcases hp g e with e | e
      · exact (hX u hu g hgo).2 (.inr (.inl e))
      · have := (hlt u hu g hgo).2; omega
    · exact (hX u hu g hgo).2 (.inr (.inr e))
  · obtain ⟨a, b, c, d⟩ := h3 k hk.1
    exact ⟨.inl a, b, fun e => (hp k e).elim c (fun e => by have := hk.2; omega), d⟩
  · rcases hp k hk with e | e
    · obtain ⟨a, b, c⟩ := h4 k e; exact ⟨.inl a, b, c⟩
    · exact ⟨.inr e, by omega, fun h => by have := hXl k h; omega⟩
  · rcases List.mem_cons.1 hu with rfl | hu
    · simp [Value.ownBlock] at hk
    · exact .inl (h5 u hu k hk)
/-- The cells of an own row. -/
theorem row_cell {w : World} {base g n cap size : Nat} {e : TypeId} {xs : List Value} (h : w.ownsRow base e size (.slice (some ⟨g, 0, none⟩) n cap) n xs) {j : Nat} {u : Value} (hj : xs[j]? = some u) : w.cell? ⟨g, j, none⟩ = some u := by
  obtain ⟨h0, ⟨hv, _⟩ | ⟨g', cap', cur, hv, hb, hg, hn, hm, hc, ht⟩⟩ := h
  · cases hv
  · cases hv
    have hlt : j < n * size := by rw [← h0]; exact (List.getElem?_eq_some_iff.1 hj).1
    have : cur.toList[j]? = some u := by rw [← List.getElem?_take_of_lt hlt, ht]; exact hj
    have h2 : cur[j]? = some u := by simpa using this
    simp [World.cell?, hg, h2]
/-- A cell of an own row is another one. -/
theorem row_set {w : World} {base g n cap size j : Nat} {e : TypeId} {xs : List Value} {u : Value} (h : w.ownsRow base e size (.slice (some ⟨g, 0, none⟩) n cap) n xs) (_hj : j < n * size) : (w.setCell ⟨g, j, none⟩ u).ownsRow base e size (.slice (some ⟨g, 0, none⟩) n cap) n (xs.set j u) := by
  obtain ⟨h0, ⟨hv, _⟩ | ⟨g', cap', cur, hv, hb, hg, hn, hm, hc, ht⟩⟩ := h
  · cases hv
  · cases hv
    refine ⟨by simpa using h0, .inr ⟨g, cap, cur.setIfInBounds j u, rfl, hb, heap_row hg, hn, hm, by simpa using hc, ?_⟩⟩
    rw [Array.toList_setIfInBounds, List.take_set, ht]
/-- A card that was open, as a card. -/
theorem FrAt.ca {w : World} {base : Nat} {F F' : Nat → Prop} {k : Nat} {v : Value} {f : Fr} (h : FrAt w base F k v f) (hF : ∀ b, F b → b < w.heap.size → F' b) (hv : ∀ g, v.ownBlock = some g → F' g) : CAf w F' (k + 1) (.node f) v := by
  obtain ⟨cs, hr, hl, hc⟩ := h
  obtain ⟨a, c, rfl⟩ := row_shape hr
  refine ⟨a, c, rfl, fun hne => ?_, fun b o e j hj => ?_⟩
  · obtain ⟨g, cap, cur, e, hb, hg, _⟩ := row_form hr (List.length_pos_iff.2 hne)
    simp only [Value.slice.injEq] at e
    obtain ⟨rfl, _, rfl⟩ := e
    exact ⟨g, 0, rfl, hv g rfl, (Array.getElem?_eq_some_iff.1 hg).1⟩
  · subst e
    have hj' : j < f.length := hj
    obtain ⟨g, cap, cur, e, hb, hg, _⟩ := row_form hr (by omega)
    simp only [Value.slice.injEq, Option.some.injEq, Addr.mk.injEq, and_true] at e
    obtain ⟨⟨rfl, rfl⟩, _, rfl⟩ := e
    obtain ⟨c0, c1, c2, c3, c4, e0, e1, e2, e3, e4, hp⟩ := hc j hj'
    simp only [Nat.zero_add]
    exact ⟨c0, c1, c2, c3, c4, row_cell hr e0, row_cell hr e1, row_cell hr e2, row_cell hr e3, row_cell hr e4, hp.move (Stays.refl _ _) hF (fun _ _ h => h.move (Stays.refl _ _) hF)⟩

/-- The innermost card gets a property without cards. -/
theorem OpAt.app {W W1 : World} {rb base og oc : Nat} {M X F : Nat → Prop} {f : Fr} {os : List Fr} {v v' pv : Value} {vs cs : List Value} {p : Pd}
    (h1 : W.ownsRow base 24 1 (.slice (some ⟨og, 0, none⟩) (os.length + 1) oc) (os.length + 1) (v :: vs).reverse)
    (hv : W.ownsRow base 56 5 v f.length cs) (hcl : cs.length = f.length * 5)
    (hcs : ∀ j (hj : j < f.length), ∃ c0 c1 c2 c3 c4, cs[j * 5]? = some c0 ∧ cs[j * 5 + 1]? = some c1 ∧ cs[j * 5 + 2]? = some c2 ∧ cs[j * 5 + 3]? = some c3 ∧ cs[j * 5 + 4]? = some c4 ∧ PcF W F (CAf W F (2 - os.length)) f[j] c0 c1 c2 c3 c4)
    (hvX : ∀ g, v.ownBlock = some g → ¬ F g ∧ ¬ (g = rb ∨ (Value.slice (some ⟨og, 0, none⟩) (os.length + 1) oc).ownBlock = some g ∨ X g) ∧ ∀ u ∈ vs, u.ownBlock ≠ some g)
    (h2 : FrsAt W base F (fun k => k = rb ∨ (Value.slice (some ⟨og, 0, none⟩) (os.length + 1) oc).ownBlock = some k ∨ X k) os vs)
    (h3 : ∀ k, F k → M k ∧ k ≠ rb ∧ (Value.slice (some ⟨og, 0, none⟩) (os.length + 1) oc).ownBlock ≠ some k ∧ ¬ X k)
    (h4 : ∀ k, (Value.slice (some ⟨og, 0, none⟩) (os.length + 1) oc).ownBlock = some k → M k ∧ k ≠ rb ∧ ¬ X k) (h5 : ∀ u ∈ v :: vs, ∀ k, u.ownBlock = some k → M k)
    (hrb : rb < W.heap.size) (hX : ∀ k, X k → M k ∧ k ≠ rb ∧ k < W.heap.size)
    (hown : W1.ownsRow base 56 5 v' (f.length + 1) (cs ++ [.string p.g, .string p.n, pv, .string p.v, .slice none 0 0])) (hg : W.grownBy W1 v.ownBlock) (hp : ∀ g, v'.ownBlock = some g → v.ownBlock = some g ∨ W.heap.size ≤ g)
    (hps : Ps W W.heap.size pv p.ps) (hpv : ∀ g, pv.ownBlock = some g → X g) :
    OpAt (W1.setCell ⟨og, os.length, none⟩ v') rb base (fun k => M k ∨ W.heap.size ≤ k) (fun _ => False) ((f ++ [(p, [])]) :: os) (.slice (some ⟨og, 0, none⟩) (os.length + 1) oc) := by
  have hogs : (Value.slice (some ⟨og, 0, none⟩) (os.length + 1) oc).ownBlock = some og := rfl
  have hogW := (own_lt h1 og rfl).2
  have hog := h4 og rfl
  have hvlt := own_lt hv
  have hlt := h2.lt
  have hnX := h2.notX
  have hvog : ∀ g, v.ownBlock = some g → g ≠ og := fun g e h => (hvX g e).2.1 (.inr (.inl (by rw [h]; rfl)))
  have hS2 : ∀ k, k ≠ og → (W1.setCell ⟨og, os.length, none⟩ v').heap[k]? = W1.heap[k]? := fun k hk => Below.heap_setCell W1 ⟨og, os.length, none⟩ v' k hk
  have hkeep : ∀ k, k < W.heap.size → k ≠ og → v.ownBlock ≠ some k → (W1.setCell ⟨og, os.length, none⟩ v').heap[k]? = W.heap[k]? := fun k hk ho hn => (hS2 k ho).trans (hg.block k hk (fun e => hn e.symm))
  have hsz : W.heap.size ≤ (W1.setCell ⟨og, os.length, none⟩ v').heap.size := by rw [World.size_setCell]; exact hg.size
  have hFv : ∀ k, F k ∨ X k → k < W.heap.size → k ≠ og ∧ v.ownBlock ≠ some k := fun k hk hl => by
    rcases hk with hk | hk
    · exact ⟨fun e => (h3 k hk).2.2.1 (by rw [e]; rfl), fun e => (hvX k e).1 hk⟩
    · exact ⟨fun e => hog.2.2 (e ▸ hk), fun e => (hvX k e).2.1 (.inr (.inr hk))⟩
  have hsF : Stays (fun k => (F k ∨ X k) ∧ k < W.heap.size) W (W1.setCell ⟨og, os.length, none⟩ v') :=
    ⟨hg.os, hg.tape, hg.output, hsz, fun k hk => hkeep k hk.2 (hFv k hk.1 hk.2).1 (hFv k hk.1 hk.2).2⟩
  have hsF1 : Stays (fun k => F k ∧ k < W.heap.size) W (W1.setCell ⟨og, os.length, none⟩ v') := hsF.mono fun k hk => ⟨.inl hk.1, hk.2⟩
  have hF' : ∀ b, F b → b < W.heap.size → (F b ∨ X b) ∧ b < W.heap.size := fun b hb hl => ⟨.inl hb, hl⟩
  have hv'og : ∀ g, v'.ownBlock = some g → g ≠ og := fun g e h => by
    rcases hp g e with e | e
    · exact hvog g e h
    · omega
  have hnews : ∀ i, i < 5 → (cs ++ [Value.string p.g, .string p.n, pv, .string p.v, .slice none 0 0])[f.length * 5 + i]? = [Value.string p.g, .string p.n, pv, .string p.v, .slice none 0 0][i]? := fun i hi => by
    rw [List.getElem?_append_right (by omega), hcl, Nat.add_sub_cancel_left]
  refine ⟨fun k => (F k ∨ X k) ∧ k < W.heap.size, v' :: vs, ?_, ⟨⟨cs ++ [.string p.g, .string p.n, pv, .string p.v, .slice none 0 0], ?_, by simp [hcl]; omega, fun j hj => ?_⟩, fun g e => ⟨fun h => ?_, ?_, ?_⟩, ?_⟩, fun k hk => ?_, fun k hk => ?_, fun u hu k hk => ?_⟩
  · have h1' : W1.ownsRow base 24 1 (.slice (some ⟨og, 0, none⟩) (os.length + 1) oc) (os.length + 1) (vs.reverse ++ [v]) := by
      rw [List.reverse_cons] at h1
      exact row_stays h1 (fun g e => hg.block g (own_lt h1 g e).2 (fun e' => hvog g e'.symm (Option.some.inj e).symm))
    show World.ownsRow _ base _ 1 _ (os.length + 1) _
    rw [List.reverse_cons]
    exact row_last h1'
  · show World.ownsRow _ base _ 5 v' (f ++ [(p, [])]).length _
    rw [List.length_append]
    exact row_stays hown (fun g e => hS2 g (hv'og g e))
  · by_cases hjl : j < f.length
    · obtain ⟨c0, c1, c2, c3, c4, e0, e1, e2, e3, e4, hq⟩ := hcs j hjl
      refine ⟨c0, c1, c2, c3, c4, ?_, ?_, ?_, ?_, ?_, ?_⟩
      · rw [List.getElem?_append_left (by omega)]; exact e0
      · rw [List.getElem?_append_left (by omega)]; exact e1
      · rw [List.getElem?_append_left (by omega)]; exact e2
      · rw [List.getElem?_append_left (by omega)]; exact e3
      · rw [List.getElem?_append_left (by omega)]; exact e4
      · rw [List.getElem_append_left hjl]
        exact hq.move hsF1 hF' (fun _ _ h => h.move hsF1 hF')
    · have hj' : j = f.length := by simp at hj; omega
      subst hj'
      refine ⟨_, _, _, _, _, (hnews 0 (by omega)), (hnews 1 (by omega)), (hnews 2 (by omega)), (hnews 3 (by omega)), (hnews 4 (by omega)), ?_⟩
      rw [List.getElem_append_right (Nat.le_refl _)]
      simp only [Nat.sub_self, List.getElem_cons_zero]
      refine ⟨rfl, rfl, rfl, ?_, AgF.nil⟩
      rcases hps with h | ⟨b, o, cap, rfl, hb, hc⟩
      · exact .inl h
      · have hXb := hpv b rfl
        have hk := hsF.block b ⟨.inr hXb, hb⟩
        exact .inr ⟨b, o, cap, rfl, ⟨.inr hXb, hb⟩, Nat.lt_of_lt_of_le hb hsz, fun i hi => ⟨(World.cell?_of_block (a := ⟨b, o + i * 2, none⟩) hk).trans (hc i hi).1, (World.cell?_of_block (a := ⟨b, o + i * 2 + 1, none⟩) hk).trans (hc i hi).2⟩⟩
  · rcases hp g e with e | e
    · rcases h.1 with h | h
      · exact (hvX g e).1 h
      · exact (hvX g e).2.1 (.inr (.inr h))
    · have := h.2; omega
  · rintro (h | h | h)
    · rcases hp g e with e | e
      · exact (hvX g e).2.1 (.inl h)
      · omega
    · exact hv'og g e (Option.some.inj h).symm
    · exact h
  · intro u hu hue
    rcases hp g e with e | e
    · exact (hvX g e).2.2 u hu hue
    · have := (hlt u hu g hue).2; omega
  · refine FrsAt.move h2 hsF1 hF' (fun u hu g hgo => hkeep g (hlt u hu g hgo).2 (fun h => (hnX u hu g hgo).2 (.inr (.inl (by rw [h]; rfl)))) (fun h => (hvX g h).2.2 u hu hgo)) (fun u hu g hgo => ⟨fun h => ?_, ?_⟩)
    · rcases h.1 with h | h
      · exact (hnX u hu g hgo).1 h
      · exact (hnX u hu g hgo).2 (.inr (.inr h))
    · rintro (h | h | h)
      · exact (hnX u hu g hgo).2 (.inl h)
      · exact (hnX u hu g hgo).2 (.inr (.inl h))
      · exact h
  · rcases hk.1 with h | h
    · obtain ⟨a, b, c, _⟩ := h3 k h; exact ⟨.inl a, b, c, id⟩
    · obtain ⟨a, b, _⟩ := hX k h; exact ⟨.inl a, b, fun e => (hFv k (.inr h) hk.2).1 (Option.some.inj e).symm, id⟩
  · obtain ⟨a, b, _⟩ := h4 k hk; exact ⟨.inl a, b, id⟩
  · rcases List.mem_cons.1 hu with rfl | hu
    · rcases hp k hk with e | e
      · exact .inl (h5 v (List.mem_cons_self ..) k e)
      · exact .inr e
    · exact .inl (h5 u (List.mem_cons_of_mem _ hu) k hk)

theorem infoPr : (Tryz.prog.info? 56).map (fun i => (i.zero, i.size, i.bytes)) = some (some (.agg #[.string .empty, .string .empty, .slice none 0 0, .string .empty, .slice none 0 0]), 5, 96) := by kernel_rfl
theorem infoCd : (Tryz.prog.info? 24).map (fun i => (i.zero, i.size, i.bytes)) = some (some (.agg #[.slice none 0 0]), 1, 24) := by kernel_rfl

/-- append of a property to the innermost card's: where it lies, and what the reader's cards are behind the store. -/
theorem OpAt.grow {U : World} {rb base og oc : Nat} {M X : Nat → Prop} {f : Fr} {os : List Fr} {v pv : Value} {p : Pd}
    (h : OpAt U rb base M X (f :: os) (.slice (some ⟨og, 0, none⟩) (os.length + 1) oc)) (t : U.cell? ⟨og, os.length, none⟩ = some v) (hf : f.length < 24) (hps : Ps U U.heap.size pv p.ps) (hpc : pv.oneCell' = true) (hpv : ∀ g, pv.ownBlock = some g → X g)
    (hrb : rb < U.heap.size) (hX : ∀ k, X k → M k ∧ k ≠ rb ∧ k < U.heap.size) (hbase : base ≤ U.heap.size) :
    ∃ v' w', (∀ ty, (Builtin.append_ #[22, 22] ty #[v, .slice (some ⟨U.heap.size, 0, none⟩) 1 1]).run Tryz.prog (U.alloc (.cells #[.string p.g, .string p.n, pv, .string p.v, .slice none 0 0] 56)).drew = .ok v' w') ∧
      OpAt (w'.setCell ⟨og, os.length, none⟩ v') rb base (fun k => M k ∨ U.heap.size ≤ k) (fun _ => False) ((f ++ [(p, [])]) :: os) (.slice (some ⟨og, 0, none⟩) (os.length + 1) oc) ∧
      Stays (fun k => k < U.heap.size ∧ v.ownBlock ≠ some k) U w' ∧ (∃ a c, v' = .slice a (f.length + 1) c) ∧ M og ∧ og ≠ rb ∧ og < U.heap.size ∧ v.ownBlock ≠ some og ∧ v.ownBlock ≠ some rb ∧ (∀ g, v.ownBlock = some g → M g) ∧ w'.frozen? ⟨og, os.length, none⟩ = false := by
  have hogU : og < U.heap.size := by
    obtain ⟨F, vs, h1, _⟩ := h
    exact (own_lt h1 og rfl).2
  have hfz : U.frozen? ⟨og, os.length, none⟩ = false := by
    obtain ⟨og', oc', a, c, e, _, hz, _⟩ := h.top
    simp only [Value.slice.injEq, Option.some.injEq, Addr.mk.injEq, and_true] at e
    obtain ⟨rfl, _⟩ := e
    exact hz
  have hS : Stays (fun k => k < U.heap.size) U (U.alloc (.cells #[.string p.g, .string p.n, pv, .string p.v, .slice none 0 0] 56)).drew := ((Stays.refl _ U).alloc _ (fun k hk => hk)).drew
  obtain ⟨F, vs, h1, h2, h3, h4, h5⟩ := h
  match vs, h2, h1, h5 with
  | [], h2, _, _ => exact h2.elim
  | v0 :: vs, h2, h1, h5 =>
    have hvl := h2.2.2.len
    have c1 := row_cell h1 (j := os.length) (u := v0) (by rw [List.reverse_cons, List.getElem?_append_right (by simp [hvl])]; simp [hvl])
    rw [t] at c1
    cases c1
    have hlz := h2.lt
    have hnX := h2.notX
    have hS1 : Stays (fun k => F k ∧ k < U.heap.size) U (U.alloc (.cells #[.string p.g, .string p.n, pv, .string p.v, .slice none 0 0] 56)).drew := hS.mono fun k hk => hk.2
    have h2' := FrsAt.move (F' := fun k => F k ∧ k < U.heap.size) (X' := fun k => k = rb ∨ (Value.slice (some ⟨og, 0, none⟩) (os.length + 1) oc).ownBlock = some k ∨ X k) h2 hS1 (fun b hb hlt => ⟨hb, hlt⟩) (fun w hw k hk => hS.block k (hlz w hw k hk).2) (fun w hw k hk => ⟨fun e => (hnX w hw k hk).1 e.1, (hnX w hw k hk).2⟩)
    have h1' := row_stays h1 (w' := (U.alloc (.cells #[.string p.g, .string p.n, pv, .string p.v, .slice none 0 0] 56)).drew) (fun k hk => hS.block k (own_lt h1 k hk).2)
    obtain ⟨⟨cs, hr, hcl, hcc⟩, hvX, hrest⟩ := h2'
    obtain ⟨i0, hi, hz0, hz1, hz2⟩ := info_parts infoPr
    have hb : (U.alloc (.cells #[.string p.g, .string p.n, pv, .string p.v, .slice none 0 0] 56)).drew.heap[U.heap.size]? = some (.cells #[.string p.g, .string p.n, pv, .string p.v, .slice none 0 0] 56 (0, 0)) := heap_alloc_new U _
    have hzs : (U.alloc (.cells #[.string p.g, .string p.n, pv, .string p.v, .slice none 0 0] 56)).drew.heap.size = U.heap.size + 1 := by show (U.alloc _).heap.size = _; rw [World.size_alloc]
    obtain ⟨v', w', hrun, hown, hgr, hpl⟩ := App.run_append_where (P := Tryz.prog) _ base 22 0 56 i0 _ 5 96 Tryz.underlying22 hi hz0 hz1 hz2 rfl (by decide) v f.length cs hr ⟨U.heap.size, 0, none⟩ 1 1 [.string p.g, .string p.n, pv, .string p.v, .slice none 0 0] rfl
      (fun j u hj => by
        have hj5 : j < 5 := by have := (List.getElem?_eq_some_iff.1 hj).1; simpa using this
        have := cell_of_row _ U.heap.size j _ _ _ hb
        rw [Addr.add_block0, this]
        have e : (#[Value.string p.g, .string p.n, pv, .string p.v, .slice none 0 0] : Array Value)[j]? = [Value.string p.g, .string p.n, pv, .string p.v, .slice none 0 0][j]? := by simp
        rw [e]; exact hj)
      (fun u hu => by
        simp only [List.mem_cons, List.not_mem_nil, or_false] at hu
        rcases hu with rfl | rfl | rfl | rfl | rfl
        · rfl
        · rfl
        · exact hpc
        · rfl
        · rfl) (by unfold maxLen; omega) (by omega) (by rw [hzs]; omega) (by decide)
    have hp : ∀ g, v'.ownBlock = some g → v.ownBlock = some g ∨ U.heap.size ≤ g := fun g e => by
      rcases hpl with h | h
      · exact .inl (h ▸ e)
      · rw [e] at h; cases h; right; rw [hzs]; omega
    have hps' : Ps (U.alloc (.cells #[.string p.g, .string p.n, pv, .string p.v, .slice none 0 0] 56)).drew (U.alloc (.cells #[.string p.g, .string p.n, pv, .string p.v, .slice none 0 0] 56)).drew.heap.size pv p.ps := (hps.below (w' := (U.alloc (.cells #[.string p.g, .string p.n, pv, .string p.v, .slice none 0 0] 56)).drew) ((Below.refl _ U).alloc (Nat.le_refl _) _).drew).up (by rw [hzs]; omega)
    have hO := OpAt.app (M := M) (X := X) (F := fun k => F k ∧ k < U.heap.size) h1' hr hcl hcc hvX hrest (fun k hk => h3 k hk.1) h4 h5 (by rw [hzs]; omega) (fun k hk => ⟨(hX k hk).1, (hX k hk).2.1, by rw [hzs]; have := (hX k hk).2.2; omega⟩) hown hgr (fun g e => by
      rcases hpl with h | h
      · exact .inl (h ▸ e)
      · rw [e] at h; cases h; exact .inr (Nat.le_refl _)) hps' hpv
    have hvog : v.ownBlock ≠ some og := fun e => (hvX og e).2.1 (.inr (.inl rfl))
    refine ⟨v', w', fun ty => hrun, ?_, ⟨hgr.os.trans hS.os, hgr.tape.trans hS.tape, hgr.output.trans hS.output, Nat.le_trans hS.size hgr.size, fun k hk => (hgr.block k (by rw [hzs]; have := hk.1; omega) (fun e => hk.2 e.symm)).trans (hS.block k hk.1)⟩, row_shape hown, (h4 og rfl).1, (h4 og rfl).2.1, hogU, hvog, fun e => (hvX rb e).2.1 (.inl rfl), fun g e => h5 v (List.mem_cons_self ..) g e, ?_⟩
    · obtain ⟨F2, vs2, a1, a2, a3, a4, a5⟩ := hO
      refine ⟨F2, vs2, a1, a2, fun k hk => ⟨(a3 k hk).1.imp id (fun e => by rw [hzs] at e; omega), (a3 k hk).2⟩, fun k hk => ⟨(a4 k hk).1.imp id (fun e => by rw [hzs] at e; omega), (a4 k hk).2⟩, fun u hu k hk => (a5 u hu k hk).imp id (fun e => by rw [hzs] at e; omega)⟩
    · have hb2 : w'.heap[og]? = U.heap[og]? := (hgr.block og (by rw [hzs]; omega) (fun e => hvog e.symm)).trans (hS.block og hogU)
      unfold World.frozen? at hfz ⊢
      rw [hb2]; exact hfz
/-- The last property gets a card. -/
def setF (g : Fr) (c : Crd) : Fr :=
  match g.getLast? with
  | none => []
  | some p => g.dropLast ++ [(p.1, [c])]
/-- The innermost card ends: it is the card of the last property of the one around it. -/
theorem OpAt.agent {W : World} {rb base og oc gb gc ab : Nat} {M : Nat → Prop} {F : Nat → Prop} {f g : Fr} {os : List Fr} {v : Value} {vs : List Value} {z : Nat}
    (h1 : W.ownsRow base 24 1 (.slice (some ⟨og, 0, none⟩) (os.length + 2) oc) (os.length + 2) (v :: .slice (some ⟨gb, 0, none⟩) g.length gc :: vs).reverse)
    (h2 : FrsAt W base F (fun k => k = rb ∨ (Value.slice (some ⟨og, 0, none⟩) (os.length + 2) oc).ownBlock = some k ∨ False) (f :: g :: os) (v :: .slice (some ⟨gb, 0, none⟩) g.length gc :: vs))
    (h3 : ∀ k, F k → M k ∧ k ≠ rb ∧ (Value.slice (some ⟨og, 0, none⟩) (os.length + 2) oc).ownBlock ≠ some k ∧ ¬ False)
    (h4 : ∀ k, (Value.slice (some ⟨og, 0, none⟩) (os.length + 2) oc).ownBlock = some k → M k ∧ k ≠ rb ∧ ¬ False) (h5 : ∀ u ∈ v :: .slice (some ⟨gb, 0, none⟩) g.length gc :: vs, ∀ k, u.ownBlock = some k → M k)
    (hos : os.length ≤ 1) (hg0 : g ≠ []) (hab : W.heap[ab]? = some (.cells #[v] 24 (0, 0))) (hz : z ≤ ab) (hrb : rb < z) (hogz : og < z) (hlz : ∀ u ∈ v :: .slice (some ⟨gb, 0, none⟩) g.length gc :: vs, ∀ k, u.ownBlock = some k → k < z) :
    OpAt (W.setCell ⟨gb, (g.length - 1) * 5 + 4, none⟩ (.slice (some ⟨ab, 0, none⟩) 1 1)) rb base (fun k => M k ∨ z ≤ k) (fun _ => False) (setF g (.node f) :: os) (.slice (some ⟨og, 0, none⟩) (os.length + 1) oc) := by
  have habW : ab < W.heap.size := (Array.getElem?_eq_some_iff.1 hab).1
  obtain ⟨hfv, hfX, hgu, hgX, hrest⟩ := h2
  have hgbog : gb ≠ og := fun h => (hgX gb rfl).2.1 (.inr (.inl (by rw [h]; rfl)))
  have hgbab : gb ≠ ab := by have := hlz _ (List.mem_cons_of_mem _ (List.mem_cons_self ..)) gb rfl; omega
  have hvgb : ∀ k, v.ownBlock = some k → k ≠ gb := fun k e h => (hfX k e).2.2 _ (List.mem_cons_self ..) (by rw [h]; rfl)
  have hS2 : ∀ k, k ≠ gb → (W.setCell ⟨gb, (g.length - 1) * 5 + 4, none⟩ (.slice (some ⟨ab, 0, none⟩) 1 1)).heap[k]? = W.heap[k]? := fun k hk => Below.heap_setCell W ⟨gb, _, none⟩ _ k hk
  have hFgb : ∀ k, F k → k ≠ gb := fun k hk h => (hgX gb rfl).1 (h ▸ hk)
  have hsF' : Stays (fun k => k ≠ gb) W (W.setCell ⟨gb, (g.length - 1) * 5 + 4, none⟩ (.slice (some ⟨ab, 0, none⟩) 1 1)) := ⟨rfl, rfl, rfl, by rw [World.size_setCell]; exact Nat.le_refl _, fun k hk => hS2 k hk⟩
  have hsF : Stays (fun k => F k ∧ k < W.heap.size) W (W.setCell ⟨gb, (g.length - 1) * 5 + 4, none⟩ (.slice (some ⟨ab, 0, none⟩) 1 1)) := hsF'.mono fun k hk => hFgb k hk.1
  have hF' : ∀ b, F b → b < W.heap.size → (F b ∨ v.ownBlock = some b ∨ b = ab) ∧ b < W.heap.size := fun b hb hl => ⟨.inl hb, hl⟩
  have hca : CAf W (fun k => (F k ∨ v.ownBlock = some k ∨ k = ab) ∧ k < W.heap.size) (2 - os.length) (.node f) v := by
    have h := hfv.ca hF' (fun k e => ⟨.inr (.inl e), (hfv.lt k e).2⟩)
    have e : 2 - (g :: os).length + 1 = 2 - os.length := by simp; omega
    rwa [e] at h
  have hsC : Stays (fun k => ((F k ∨ v.ownBlock = some k ∨ k = ab) ∧ k < W.heap.size) ∧ k < W.heap.size) W (W.setCell ⟨gb, (g.length - 1) * 5 + 4, none⟩ (.slice (some ⟨ab, 0, none⟩) 1 1)) := hsF'.mono fun k hk => by
    rcases hk.1.1 with h | h | h
    · exact hFgb k h
    · exact hvgb k h
    · rw [h]; exact fun e => hgbab e.symm
  have hca2 := hca.move hsC (fun b hb _ => hb)
  obtain ⟨cs, hgr, hgl, hgc⟩ := hgu
  have hsetA : setF g (.node f) = g.dropLast ++ [((g.getLast hg0).1, [.node f])] := by
    unfold setF
    rw [List.getLast?_eq_some_getLast hg0]
  have hlen : (setF g (.node f)).length = g.length := by rw [hsetA]; have := List.length_pos_iff.2 hg0; simp; omega
  have hgpos := List.length_pos_iff.2 hg0
  refine ⟨fun k => (F k ∨ v.ownBlock = some k ∨ k = ab) ∧ k < W.heap.size, .slice (some ⟨gb, 0, none⟩) g.length gc :: vs, ?_, ⟨⟨cs.set ((g.length - 1) * 5 + 4) (.slice (some ⟨ab, 0, none⟩) 1 1), ?_, by rw [List.length_set, hgl, hlen], fun j hj => ?_⟩, fun k e => ⟨fun h => ?_, ?_, (hgX k e).2.2⟩, ?_⟩, fun k hk => ?_, fun k hk => ?_, fun u hu k hk => ?_⟩
  · have h1' := row_short (by rw [List.reverse_cons] at h1; exact h1)
    exact row_stays h1' (fun k e => hS2 k (by rw [← Option.some.inj e]; exact fun h => hgbog h.symm))
  · rw [hlen]
    exact row_set hgr (by omega)
  · rw [hlen] at hj
    obtain ⟨c0, c1, c2, c3, c4, e0, e1, e2, e3, e4, hq⟩ := hgc j hj
    by_cases hjl : j = g.length - 1
    · subst hjl
      refine ⟨c0, c1, c2, c3, .slice (some ⟨ab, 0, none⟩) 1 1, ?_, ?_, ?_, ?_, ?_, ?_⟩
      · rw [List.getElem?_set_ne (by omega)]; exact e0
      · rw [List.getElem?_set_ne (by omega)]; exact e1
      · rw [List.getElem?_set_ne (by omega)]; exact e2
      · rw [List.getElem?_set_ne (by omega)]; exact e3
      · rw [List.getElem?_set_self (by omega)]
      · have e5 : (setF g (.node f))[g.length - 1]'(by rw [hlen]; exact hj) = (g[g.length - 1].1, [.node f]) := by
          have e6 : g.getLast hg0 = g[g.length - 1] := List.getLast_eq_getElem hg0
          simp only [hsetA, e6]
          rw [List.getElem_append_right (by simp)]
          simp
        rw [e5]
        obtain ⟨r0, r1, r3, r2, _⟩ := hq
        refine ⟨r0, r1, r3, r2.move hsF hF', some ⟨ab, 0, none⟩, 1, rfl, fun _ => ⟨ab, 0, rfl, ⟨.inr (.inr rfl), habW⟩, by rw [World.size_setCell]; exact habW⟩, fun b o e i hi => ?_⟩
        simp only [Option.some.injEq, Addr.mk.injEq, and_true] at e
        obtain ⟨rfl, rfl⟩ := e
        have hi0 : i = 0 := by simp at hi; exact hi
        subst hi0
        refine ⟨v, ?_, hca2⟩
        have hb : (W.setCell ⟨gb, (g.length - 1) * 5 + 4, none⟩ (.slice (some ⟨ab, 0, none⟩) 1 1)).heap[ab]? = W.heap[ab]? := hS2 ab (fun e => hgbab e.symm)
        simp [World.cell?, hb, hab]
    · have hjd : j < g.dropLast.length := by simp; omega
      refine ⟨c0, c1, c2, c3, c4, ?_, ?_, ?_, ?_, ?_, ?_⟩
      · rw [List.getElem?_set_ne (by omega)]; exact e0
      · rw [List.getElem?_set_ne (by omega)]; exact e1
      · rw [List.getElem?_set_ne (by omega)]; exact e2
      · rw [List.getElem?_set_ne (by omega)]; exact e3
      · rw [List.getElem?_set_ne (by omega)]; exact e4
      · have e5 : (setF g (.node f))[j]'(by rw [hlen]; exact hj) = g[j] := by
          simp only [hsetA]
          rw [List.getElem_append_left hjd, List.getElem_dropLast]
        rw [e5]
        exact hq.move hsF hF' (fun _ _ h => h.move hsF hF')
  · obtain rfl : gb = k := Option.some.inj e
    rcases h.1 with h | h | h
    · exact (hgX gb rfl).1 h
    · exact hvgb gb h rfl
    · exact hgbab h
  · rintro (h | h | h)
    · exact (hgX k e).2.1 (.inl h)
    · exact (hgX k e).2.1 (.inr (.inl h))
    · exact h
  · refine FrsAt.move hrest hsF hF' (fun u hu k hk => hS2 k (fun h => (hgX gb rfl).2.2 u hu (by rw [← h]; exact hk))) (fun u hu k hk => ⟨fun h => ?_, ?_⟩)
    · rcases h.1 with h | h | h
      · exact (hrest.notX u hu k hk).1 h
      · exact (hfX k h).2.2 u (List.mem_cons_of_mem _ hu) hk
      · have := hlz u (List.mem_cons_of_mem _ (List.mem_cons_of_mem _ hu)) k hk; omega
    · rintro (h | h | h)
      · exact (hrest.notX u hu k hk).2 (.inl h)
      · exact (hrest.notX u hu k hk).2 (.inr (.inl h))
      · exact h
  · rcases hk.1 with h | h | h
    · obtain ⟨a, b, c, _⟩ := h3 k h; exact ⟨.inl a, b, c, id⟩
    · exact ⟨.inl (h5 v (List.mem_cons_self ..) k h), fun e => (hfX k h).2.1 (.inl e), fun e => (hfX k h).2.1 (.inr (.inl e)), id⟩
    · exact ⟨.inr (by omega), by omega, fun e => by have e2 : og = k := Option.some.inj e; omega, id⟩
  · obtain ⟨a, b, _⟩ := h4 k hk; exact ⟨.inl a, b, id⟩
  · exact .inl (h5 u (List.mem_cons_of_mem _ hu) k hk)
end Go.Proofs.YtjgfbicllgalkaaGreatDoor.Vc

namespace Go.Proofs.YtjgfbicllgalkaaGreatDoor.Vm
set_option maxRecDepth 100000
/-- A card that may be read: at most d within one another. -/
def Nice {P : Type} (Q : P → Prop) : Nat → Tr P → Prop
  | 0, _ => False
  | d + 1, t => t.ps.length ≤ 24 ∧ ∀ p ∈ t.ps, Q p.1 ∧ p.2.length ≤ 1 ∧ ∀ a ∈ p.2, Nice Q d a
variable {G : Lang}
theorem tail_nice {Q : G.P → Prop} {C : Tr G.P → Prop} (hQ : ∀ q, (G.mean q).1 = 0 → Q (G.mean q).2) {card : Ls → Res (Tr G.P)} {d : Bool} (hc : ∀ l t r, card l = .ok t r → d = false → C t) {k : Nat} {q : G.Q} {r r' : Ls} {p : G.P × List (Tr G.P)} (h : tailR G card d k q r = .ok p r') : Q p.1 ∧ p.2.length ≤ 1 ∧ ∀ a ∈ p.2, d = false ∧ C a := by
  unfold tailR at h
  by_cases hm : (G.mean q).1 = 0
  · rw [if_neg (fun h => h hm)] at h
    split at h
    · cases h; exact ⟨hQ q hm, Nat.zero_le _, fun a ha => by cases ha⟩
    · split at h
      · cases h
      · split at h
        · cases h
        · rename_i hd
          cases hq : card r with
          | end_ => rw [hq] at h; cases h
          | bad k e => rw [hq] at h; cases h
          | ok c r2 =>
            rw [hq] at h
            cases h
            have hd : d = false := by simpa using hd
            exact ⟨hQ q hm, Nat.le_refl _, fun a ha => by rcases List.mem_singleton.1 ha with rfl; exact ⟨hd, hc _ _ _ hq hd⟩⟩
  · rw [if_pos hm] at h; cases h
theorem prop_nice {Q : G.P → Prop} {C : Tr G.P → Prop} (hQ : ∀ q, (G.mean q).1 = 0 → Q (G.mean q).2) {card : Ls → Res (Tr G.P)} {d : Bool} (hc : ∀ l t r, card l = .ok t r → d = false → C t) {s : ByteArray} {k : Nat} {r r' : Ls} {p : G.P × List (Tr G.P)} (h : propR G card d s k r = .ok p r') : Q p.1 ∧ p.2.length ≤ 1 ∧ ∀ a ∈ p.2, d = false ∧ C a := by
  unfold propR at h
  split at h
  · cases h
  · split at h
    · cases h
    · exact tail_nice hQ hc h
theorem body_nice {X : G.P × List (Tr G.P) → Prop} {pr : ByteArray → Nat → Ls → Res (G.P × List (Tr G.P))} (hp : ∀ s k l p r, pr s k l = .ok p r → X p) : ∀ (n : Nat) (f : List (G.P × List (Tr G.P))) (l : Ls) (t : Tr G.P) (r : Ls), f.length ≤ 24 → (∀ p ∈ f, X p) → bodyR G pr n f l = .ok t r → t.ps.length ≤ 24 ∧ ∀ p ∈ t.ps, X p
  | 0, f, l, t, r, _, _, h => by unfold bodyR at h; cases h
  | n + 1, f, l, t, r, hf, hX, h => by
    unfold bodyR at h
    cases hn : next G l with
    | none => rw [hn] at h; cases h
    | some x =>
      obtain ⟨x, r0⟩ := x
      rw [hn] at h
      simp only at h
      split at h
      · cases h; exact ⟨hf, hX⟩
      · split at h
        · cases h
        · rename_i h24
          cases hq : pr x.2 x.1 r0 with
          | end_ => rw [hq] at h; cases h
          | bad k e => rw [hq] at h; cases h
          | ok p r' =>
            rw [hq] at h
            have h1 := hp _ _ _ _ _ hq
            refine body_nice hp n _ _ _ _ (by simp; omega) (fun p' hp' => ?_) h
            rcases List.mem_append.1 hp' with hp' | hp'
            · exact hX p' hp'
            · rcases List.mem_singleton.1 hp' with rfl; exact h1
/-- What a card's lines give may be read. -/
theorem card_nice {Q : G.P → Prop} (hQ : ∀ q, (G.mean q).1 = 0 → Q (G.mean q).2) (N : Nat) : ∀ (d : Nat) (l : Ls) (t : Tr G.P) (r : Ls), cardR G N d l = .ok t r → Nice Q d t
  | 0, l, t, r, h => by unfold cardR at h; cases h
  | d + 1, l, t, r, h => by
    unfold cardR at h
    cases hn : next G l with
    | none => rw [hn] at h; cases h
    | some x =>
      obtain ⟨x, r0⟩ := x
      rw [hn] at h
      simp only at h
      split at h
      · cases h
      · cases hn2 : next G r0 with
        | none => rw [hn2] at h; cases h
        | some y =>
          obtain ⟨y, r1⟩ := y
          rw [hn2] at h
          simp only at h
          split at h
          · cases h
          · have hb := body_nice (G := G) (X := fun p => Q p.1 ∧ p.2.length ≤ 1 ∧ ∀ a ∈ p.2, (d == 0) = false ∧ Nice Q d a) (fun s k l p r hq => prop_nice hQ (fun l t r hc _ => card_nice hQ N d l t r hc) hq) N [] r1 t r (Nat.zero_le _) (fun p hp => by cases hp) h
            exact ⟨hb.1, fun p hp => ⟨(hb.2 p hp).1, (hb.2 p hp).2.1, fun a ha => ((hb.2 p hp).2.2 a ha).2⟩⟩
theorem tail_bad {card : Ls → Res (Tr G.P)} {d : Bool} (hc : ∀ l k e, card l = .bad k e → e ≠ 0) {k k' : Nat} {e : Int} {q : G.Q} {r : Ls} (h : tailR G card d k q r = .bad k' e) : e ≠ 0 := by
  unfold tailR at h
  split at h
  · rename_i hm; cases h; exact hm
  · split at h
    · cases h
    · split at h
      · cases h; decide
      · split at h
        · cases h; decide
        · cases hq : card r with
          | end_ => rw [hq] at h; cases h
          | bad k e => rw [hq] at h; cases h; exact hc _ _ _ hq
          | ok c r2 => rw [hq] at h; cases h
theorem prop_bad {card : Ls → Res (Tr G.P)} {d : Bool} (hc : ∀ l k e, card l = .bad k e → e ≠ 0) {s : ByteArray} {k k' : Nat} {e : Int} {r : Ls} (h : propR G card d s k r = .bad k' e) : e ≠ 0 := by
  unfold propR at h
  split at h
  · rename_i hm; cases h; exact hm
  · split at h
    · cases h
    · exact tail_bad hc h
theorem body_bad {pr : ByteArray → Nat → Ls → Res (G.P × List (Tr G.P))} (hp : ∀ s k l a e, pr s k l = .bad a e → e ≠ 0) : ∀ (n : Nat) (f : List (G.P × List (Tr G.P))) (l : Ls) (k : Nat) (e : Int), bodyR G pr n f l = .bad k e → e ≠ 0
  | 0, f, l, k, e, h => by unfold bodyR at h; cases h
  | n + 1, f, l, k, e, h => by
    unfold bodyR at h
    cases hn : next G l with
    | none => rw [hn] at h; cases h
    | some x =>
      obtain ⟨x, r0⟩ := x
      rw [hn] at h
      simp only at h
      split at h
      · cases h
      · split at h
        · cases h; decide
        · cases hq : pr x.2 x.1 r0 with
          | end_ => rw [hq] at h; cases h
          | bad k e => rw [hq] at h; cases h; exact hp _ _ _ _ _ hq
          | ok p r' => rw [hq] at h; exact body_bad hp n _ _ _ _ h
/-- A fault has an error. -/
theorem card_bad {N : Nat} : ∀ (d : Nat) (l : Ls) (k : Nat) (e : Int), cardR G N d l = .bad k e → e ≠ 0
  | 0, l, k, e, h => by unfold cardR at h; cases h
  | d + 1, l, k, e, h => by
    unfold cardR at h
    cases hn : next G l with
    | none => rw [hn] at h; cases h
    | some x =>
      obtain ⟨x, r0⟩ := x
      rw [hn] at h
      simp only at h
      split at h
      · cases h; decide
      · cases hn2 : next G r0 with
        | none => rw [hn2] at h; cases h
        | some y =>
          obtain ⟨y, r1⟩ := y
          rw [hn2] at h
          simp only at h
          split at h
          · cases h; decide
          · exact body_bad (fun s k l a e hq => prop_bad (fun l k e hc => card_bad d l k e hc) hq) _ _ _ _ _ h
/-- What is read may be read. -/
theorem parse_nice {Q : G.P → Prop} (hQ : ∀ q, (G.mean q).1 = 0 → Q (G.mean q).2) (N : Nat) (l : Ls) : Nice Q 3 (parseR G N l).2.2 := by
  have h0 : Nice Q 3 (.node []) := ⟨Nat.zero_le _, fun p hp => by cases hp⟩
  unfold parseR
  cases hc : cardR G N 3 l with
  | end_ => exact h0
  | bad k e => exact h0
  | ok t r =>
    simp only
    cases hn : next G r with
    | none => exact card_nice hQ N 3 l t r hc
    | some x => exact h0
end Go.Proofs.YtjgfbicllgalkaaGreatDoor.Vm
namespace Go.Proofs.YtjgfbicllgalkaaGreatDoor.Vc
set_option maxRecDepth 100000
open Go.RowKit Pp

/-- A property as it may be read. -/
def Okp (p : Pd) : Prop := p.ps.length ≤ 4 ∧ p.v.size ≤ 600
theorem mean_okp (q : Par) (h : (G.mean q).1 = 0) : Okp (G.mean q).2 := by
  have h : (meanW (wayV q.ps) q.g q.n q.ps q.v).1 = 0 := h
  show Okp (meanW (wayV q.ps) q.g q.n q.ps q.v).2
  unfold meanW at h ⊢
  split at h
  · rename_i h1; exact absurd h h1
  · rename_i h1
    rw [if_neg h1]
    split at h
    · rename_i h2; exact absurd h h2
    · rename_i h2
      rw [if_neg h2]
      unfold restP at h ⊢
      split at h
      · cases h
      · rename_i h3
        rw [if_neg h3]
        split at h
        · cases h
        · rename_i h4
          rw [if_neg h4]
          split at h
          · cases h
          · rename_i h5
            rw [if_neg h5]
            exact ⟨by simp only; omega, by simp only; omega⟩
theorem nice_fits : ∀ {d : Nat} {t : Crd}, Vm.Nice Okp d t → Fits d t
  | 0, _, _ => trivial
  | d + 1, t, h => ⟨by have := h.1; omega, fun p hp => ⟨⟨by have := (h.2 p hp).1.1; omega, by have := (h.2 p hp).2.1; omega⟩, fun a ha => nice_fits ((h.2 p hp).2.2 a ha)⟩⟩
theorem all_zip_self {α : Type} {f : α × α → Bool} : ∀ {l : List α}, (∀ x ∈ l, f (x, x) = true) → (l.zip l).all f = true
  | [], _ => rfl
  | x :: l, h => by
    rw [List.zip_cons_cons, List.all_cons, h x (List.mem_cons_self ..), Bool.true_and]
    exact all_zip_self fun y hy => h y (List.mem_cons_of_mem _ hy)
theorem sameP_self (p : Pd) (m : Nat) : sameP p p m m = true := by
  unfold sameP
  simp [all_zip_self]
/-- A card that is not too deep is the same as itself. -/
theorem sameC_self {Q : Pd → Prop} : ∀ {d m : Nat} {t : Crd}, Vm.Nice Q d t → d ≤ m → sameC m t t = true
  | 0, _, _, h, _ => h.elim
  | d + 1, 0, _, _, h => by omega
  | d + 1, m + 1, t, h, hm => by
    unfold sameC
    rw [decide_eq_true rfl, Bool.true_and]
    refine all_zip_self fun p hp => ?_
    rw [sameP_self, Bool.true_and]
    exact all_zip_self fun a ha => sameC_self ((h.2 p hp).2.2 a ha) (by omega)
/-- The next line that is not blank. -/
theorem nextL_next : ∀ (l : List (Nat × ByteArray)), nextL false l = Vm.next G l
  | [] => rfl
  | x :: r => by
    unfold nextL Vm.next
    show (if (false || !blank x.2.data.toList) = true then _ else _) = if blank x.2.data.toList = true then _ else _
    cases blank x.2.data.toList
    · rfl
    · exact nextL_next r
theorem nextL_head (x : Nat × ByteArray) (r : List (Nat × ByteArray)) : nextL true (x :: r) = some (x, r) := rfl
end Go.Proofs.YtjgfbicllgalkaaGreatDoor.Vc

namespace Go.Proofs.YtjgfbicllgalkaaGreatDoor.Vc
set_option maxRecDepth 100000
open Go.RowKit Pp Sq

/-- A numbered line with its bytes. -/
def lnB (x : Nat × List UInt8) : Nat × ByteArray := (x.1, ⟨x.2.toArray⟩)
/-- Numbered's two rows are a reader's lines. -/
theorem ls_of_rows {w : World} {base b : Nat} {v v' : Value} {l : List (Nat × List UInt8)} (h1 : Ln.Ints w base v (l.map (·.1))) (h2 : Strs.Strs w base v' (l.map (·.2))) (hb : w.heap.size ≤ b) : LsAt w b v v' (l.map lnB) := by
  obtain ⟨a, cap, rfl, ha⟩ := Ln.Ints.at_ h1
  obtain ⟨a', cap', rfl, ha'⟩ := Ln.strs_at h2
  refine ⟨a, cap, a', cap', by simp, by simp, fun k hk => ?_⟩
  have hk0 : k < l.length := by simpa using hk
  obtain ⟨g, rfl, hg, hc⟩ := ha k (by simpa using hk)
  obtain ⟨g', rfl, hg', hc'⟩ := ha' k (by simpa using hk)
  refine ⟨g, 0, g', 0, rfl, rfl, by omega, by omega, ?_, ?_⟩
  · rw [Nat.zero_add]; simpa [lnB] using hc
  · rw [Nat.zero_add]; simpa [lnB] using hc'
theorem LsAt.below {w w' : World} {b : Nat} {nv lv : Value} {l : List (Nat × ByteArray)} (h : LsAt w b nv lv l) (hb : Below b w w') : LsAt w' b nv lv l := by
  obtain ⟨na, nc, la, lc, h1, h2, h3⟩ := h
  refine ⟨na, nc, la, lc, h1, h2, fun k hk => ?_⟩
  obtain ⟨nb, no, lb, lo, e1, e2, l1, l2, c1, c2⟩ := h3 k hk
  exact ⟨nb, no, lb, lo, e1, e2, l1, l2, (hb.cell (p := ⟨nb, no + k, none⟩) l1).trans c1, (hb.cell (p := ⟨lb, lo + k, none⟩) l2).trans c2⟩

/-- The blocks that a card under way may hold: made by the call, and not the row itself. -/
def Out (w : World) (base : Nat) (v : Value) : Nat → Prop := fun k => base ≤ k ∧ k < w.heap.size ∧ v.ownBlock ≠ some k
/-- A card under way: a row of properties of the call's own. -/
def FrO (w : World) (base k : Nat) (v : Value) (f : Fr) : Prop := FrAt w base (Out w base v) k v f
theorem FrO.nil (w : World) (base k : Nat) : FrO w base k (.slice none 0 0) [] := ⟨[], World.ownsRow_nil _ _ _ _, rfl, fun j hj => by cases hj⟩
theorem FrO.keep {w w' : World} {base k b : Nat} {v : Value} {f : Fr} (h : FrO w base k v f) (hg : w.grownBy w' (some b)) (hb : b < base) : FrO w' base k v f :=
  FrAt.move h ⟨hg.os, hg.tape, hg.output, hg.size, fun j hj => hg.block j hj.2 (fun e => by have := hj.1.1; injection e with e; omega)⟩ (fun _ hj _ => ⟨hj.1, Nat.lt_of_lt_of_le hj.2.1 hg.size, hj.2.2⟩) (fun g e => by
    obtain ⟨h1, h2⟩ := h.lt g e
    exact hg.block g h2 (fun e' => by injection e' with e'; omega))
theorem FrO.stays {w w' : World} {base k : Nat} {v : Value} {f : Fr} (h : FrO w base k v f) (hb : Below w.heap.size w w') : FrO w' base k v f :=
  FrAt.move h ⟨hb.os, hb.tape, hb.output, hb.size, fun _ hj => hb.block _ hj.2⟩ (fun _ hj _ => ⟨hj.1, Nat.lt_of_lt_of_le hj.2.1 hb.size, hj.2.2⟩) (fun g e => hb.block g (h.lt g e).2)
/-- One property more. -/
theorem FrO.snoc {W W1 : World} {base k : Nat} {v v' c0 c1 c2 c3 c4 : Value} {f : Fr} {p : Pd × List Crd} {cs : List Value}
    (hcl : cs.length = f.length * 5) (hcs : ∀ j (hj : j < f.length), ∃ c0 c1 c2 c3 c4, cs[j * 5]? = some c0 ∧ cs[j * 5 + 1]? = some c1 ∧ cs[j * 5 + 2]? = some c2 ∧ cs[j * 5 + 3]? = some c3 ∧ cs[j * 5 + 4]? = some c4 ∧ PcF W (Out W base v) (CAf W (Out W base v) k) f[j] c0 c1 c2 c3 c4)
    (hp : PcF W (Out W base v) (CAf W (Out W base v) k) p c0 c1 c2 c3 c4)
    (hown : W1.ownsRow base 56 5 v' (f.length + 1) (cs ++ [c0, c1, c2, c3, c4])) (hg : W.grownBy W1 v.ownBlock) (hv' : ∀ g, v'.ownBlock = some g → v.ownBlock = some g ∨ W.heap.size ≤ g) : FrO W1 base k v' (f ++ [p]) := by
  have hS : Stays (fun j => Out W base v j ∧ j < W.heap.size) W W1 := ⟨hg.os, hg.tape, hg.output, hg.size, fun j hj => hg.block j hj.2 (fun e => hj.1.2.2 e.symm)⟩
  have hF : ∀ b, Out W base v b → b < W.heap.size → Out W1 base v' b := fun b hb hl => ⟨hb.1, Nat.lt_of_lt_of_le hl hg.size, fun e => by
    rcases hv' b e with h | h
    · exact hb.2.2 h
    · omega⟩
  have hnews : ∀ i, i < 5 → (cs ++ [c0, c1, c2, c3, c4])[f.length * 5 + i]? = [c0, c1, c2, c3, c4][i]? := fun i hi => by
    rw [List.getElem?_append_right (by omega), hcl, Nat.add_sub_cancel_left]
  refine ⟨cs ++ [c0, c1, c2, c3, c4], by rw [List.length_append]; exact hown, by simp [hcl]; omega, fun j hj => ?_⟩
  by_cases hjl : j < f.length
  · obtain ⟨d0, d1, d2, d3, d4, e0, e1, e2, e3, e4, hq⟩ := hcs j hjl
    refine ⟨d0, d1, d2, d3, d4, ?_, ?_, ?_, ?_, ?_, ?_⟩
    · rw [List.getElem?_append_left (by omega)]; exact e0
    · rw [List.getElem?_append_left (by omega)]; exact e1
    · rw [List.getElem?_append_left (by omega)]; exact e2
    · rw [List.getElem?_append_left (by omega)]; exact e3
    · rw [List.getElem?_append_left (by omega)]; exact e4
    · rw [List.getElem_append_left hjl]
      exact hq.move hS hF (fun _ _ h => h.move hS hF)
  · have hj' : j = f.length := by simp at hj; omega
    subst hj'
    refine ⟨_, _, _, _, _, (hnews 0 (by omega)), (hnews 1 (by omega)), (hnews 2 (by omega)), (hnews 3 (by omega)), (hnews 4 (by omega)), ?_⟩
    rw [List.getElem_append_right (Nat.le_refl _)]
    simp only [Nat.sub_self, List.getElem_cons_zero]
    exact hp.move hS hF (fun _ _ h => h.move hS hF)
/-- A card that has ended: what it holds the call made. -/
theorem FrO.ca {w : World} {base k : Nat} {v : Value} {f : Fr} (h : FrO w base k v f) : CAf w (fun j => base ≤ j) (k + 1) (.node f) v :=
  FrAt.ca h (fun _ hb _ => hb.1) (fun g e => (h.lt g e).1)
/-- What a property holds that an inner call made may go into the card. -/
theorem pc_out {W : World} {base B k : Nat} {v : Value} {p : Pd × List Crd} {c0 c1 c2 c3 c4 : Value} (h : PcF W (fun j => B ≤ j) (CAf W (fun j => B ≤ j) k) p c0 c1 c2 c3 c4) (hB : base ≤ B) (hv : ∀ g, v.ownBlock = some g → g < B) : PcF W (Out W base v) (CAf W (Out W base v) k) p c0 c1 c2 c3 c4 := by
  have hF : ∀ b, B ≤ b → b < W.heap.size → Out W base v b := fun b hb hl => ⟨by omega, hl, fun e => by have := hv b e; omega⟩
  exact h.move (Stays.refl _ W) hF (fun _ _ h => h.move (Stays.refl _ W) hF)

/-- What the document's card answers, from a place in the lines. -/
def CardAns (w : World) (b : Nat) (nv lv : Value) (l : List (Nat × ByteArray)) (k : Nat) (R : Vm.Res Crd) (e : Ending) (w' : World) : Prop :=
  w.grownBy w' (some b) ∧ match R with
  | .end_ => e = .returned (.tuple #[.agg #[.slice none 0 0], .int .i64 0, .int .i64 1])
  | .bad a er => e = .returned (.tuple #[.agg #[.slice none 0 0], .int .i64 (a : Int), .int .i64 er])
  | .ok t r => ∃ sv, e = .returned (.tuple #[.agg #[sv], .int .i64 0, .int .i64 0]) ∧ CAf w' (fun j => w.heap.size ≤ j) k t sv ∧ ∃ i, i ≤ l.length ∧ Rdr w' b nv lv i ∧ l.drop i = r
/-- What the document's prop answers. -/
def PropAns (w : World) (b : Nat) (nv lv : Value) (l : List (Nat × ByteArray)) (k : Nat) (R : Vm.Res (Pd × List Crd)) (e : Ending) (w' : World) : Prop :=
  w.grownBy w' (some b) ∧ match R with
  | .end_ => e = .returned (.tuple #[.agg #[.string ⟨#[]⟩, .string ⟨#[]⟩, .slice none 0 0, .string ⟨#[]⟩, .slice none 0 0], .int .i64 0, .int .i64 1])
  | .bad a er => e = .returned (.tuple #[.agg #[.string ⟨#[]⟩, .string ⟨#[]⟩, .slice none 0 0, .string ⟨#[]⟩, .slice none 0 0], .int .i64 (a : Int), .int .i64 er])
  | .ok p r => ∃ c0 c1 c2 c3 c4, e = .returned (.tuple #[.agg #[c0, c1, c2, c3, c4], .int .i64 0, .int .i64 0]) ∧ PcF w' (fun j => w.heap.size ≤ j) (CAf w' (fun j => w.heap.size ≤ j) k) p c0 c1 c2 c3 c4 ∧ ∃ i, i ≤ l.length ∧ Rdr w' b nv lv i ∧ l.drop i = r
/-- The bytes of some lines. -/
def tot (l : List (Nat × ByteArray)) : Nat := (l.map fun x => x.2.size).sum
/-- The document's card does as the plain descent, with d more within one another. -/
def CardOk (N d : Nat) : Prop := ∀ (w : World) (b i : Nat) (nv lv : Value) (l : List (Nat × ByteArray)), Rdr w b nv lv i → LsAt w b nv lv l → i ≤ l.length → l.length < N → N ≤ 1048576 → tot l ≤ 1048576 →
  Calls Tryz.prog 50 #[.pointer (some ⟨b, 0, none⟩), .int .i64 (4 - (d : Int))] w (CardAns w b nv lv l d (Vm.cardR G N d (l.drop i)))
/-- The document's prop does as the plain descent, with d more within one another. -/
def PropOk (N d : Nat) : Prop := ∀ (w : World) (b i : Nat) (nv lv : Value) (l : List (Nat × ByteArray)) (s : ByteArray) (k : Nat), Rdr w b nv lv i → LsAt w b nv lv l → i ≤ l.length → l.length < N → N ≤ 1048576 → tot l ≤ 1048576 → s.size + tot (l.drop i) ≤ 1048576 →
  Calls Tryz.prog 86 #[.pointer (some ⟨b, 0, none⟩), .string s, .int .i64 (k : Int), .int .i64 (3 - (d : Int))] w (PropAns w b nv lv l d (Vm.propR G (Vm.cardR G N d) (d == 0) s k (l.drop i)))
theorem tot_drop : ∀ (l : List (Nat × ByteArray)) (i : Nat), tot (l.drop i) ≤ tot l
  | [], i => by simp [tot]
  | x :: l, 0 => Nat.le_refl _
  | x :: l, i + 1 => by
    have := tot_drop l i
    rw [List.drop_succ_cons]
    unfold tot at this ⊢
    rw [List.map_cons, List.sum_cons]
    omega
theorem le_tot : ∀ {l : List (Nat × ByteArray)} {x : Nat × ByteArray}, x ∈ l → x.2.size ≤ tot l
  | y :: l, x, h => by
    unfold tot
    rw [List.map_cons, List.sum_cons]
    rcases List.mem_cons.1 h with rfl | h
    · omega
    · have := le_tot h; unfold tot at this; omega
theorem next_tot : ∀ {l : List (Nat × ByteArray)} {x : Nat × ByteArray} {r : List (Nat × ByteArray)}, Vm.next G l = some (x, r) → x.2.size + tot r ≤ tot l
  | y :: l, x, r, h => by
    have hc : tot (y :: l) = y.2.size + tot l := by unfold tot; rw [List.map_cons, List.sum_cons]
    unfold Vm.next at h
    by_cases hb : G.bl y.2 = true
    · rw [if_pos hb] at h; have := next_tot h; omega
    · rw [if_neg hb] at h; cases h; omega
end Go.Proofs.YtjgfbicllgalkaaGreatDoor.Vc

namespace Go.Proofs.YtjgfbicllgalkaaGreatDoor.Vc
set_option maxRecDepth 100000
open Go.RowKit Pp Sq

theorem inner_any (rb og n oc : Nat) (w : World) (h : w.cell? ⟨rb, 2, none⟩ = some (.slice (some ⟨og, 0, none⟩) (n + 1) oc)) (hn : n ≤ 1099511627776) :
    Calls Tryz.prog 134 #[.pointer (some ⟨rb, 0, none⟩)] w fun e w' => e = .returned (.pointer (some ⟨og, n, none⟩)) ∧ ∃ q, w' = w.drewN q := by
  have h1 : ((n + 1 : Nat) : Int) - 1 = (n : Int) := by omega
  have h2 : (n : Int) < ((n + 1 : Nat) : Int) := by omega
  have hlt := World.block_lt_of_cell? w _ h
  go_enter Tryz.func134, Tryz.ntmps134
  go_wp2_with fail
  go_quiet (fail)
  go_wp2_with fail
  go_ret
  exact ⟨by simp, _, rfl⟩

/-- Only the reader's own blocks have turned. -/
def Fin (M : Nat → Prop) (w w' : World) : Prop := Stays (fun k => k < w.heap.size ∧ ¬ M k) w w'

theorem drew_all (w : World) (q : Nat) : Stays (fun _ => True) w (w.drewN q) := ⟨rfl, rfl, rfl, Nat.le_refl _, fun _ _ => rfl⟩
/-- append at a step of a region that draws, by what it is known to do. -/
theorem step_run {P : Program} {ops : Array Oper} {o : Oper} {a : Act} {w w' : World} {K : Act → World → Prop} {Q : Exit → Act → World → Prop} {E : Prop} (hgd : o.guard = none) (s x : Operand) (t : TypeId)
    (ho : o.op = .call { callee := .builtin .append, args := #[s, x], argTypes := #[t, t] }) (v xv v' : Value) (hs : a.eval s = v) (hx : a.eval x = xv) (hr : ∀ ty, (Builtin.append_ #[t, t] ty #[v, xv]).run P w = .ok v' w') (h : K (a.put o.dst v') w') :
    if Region.wanted o (yielded ops a.tmps) = true then Oper.wp P o a w K Q else E := by
  have hw : Region.wanted o (yielded ops a.tmps) = true := by simp [Region.wanted, hgd]
  rw [if_pos hw]
  unfold Oper.wp execOp
  simp only [ho, resolve, invoke, builtin, Sem.run_bind, Sem.run_pure, Result.andThen_ok, List.map_toArray, List.map_cons, List.map_nil, hs, hx, hr]
  exact h
/-- .. in a plain region's list. -/
theorem list_run {P : Program} {ops : Array Oper} {rest : List Oper} {o : Oper} {a : Act} {w w' : World} {Q : Exit → Act → World → Prop} (hgd : o.guard = none) (s x : Operand) (t : TypeId)
    (ho : o.op = .call { callee := .builtin .append, args := #[s, x], argTypes := #[t, t] }) (v xv v' : Value) (hs : a.eval s = v) (hx : a.eval x = xv) (hr : ∀ ty, (Builtin.append_ #[t, t] ty #[v, xv]).run P w = .ok v' w') (h : wpList P ops Q rest (a.put o.dst v') w') :
    wpList P ops Q (o :: rest) a w := by
  refine wpList_plain hgd fun K hK => ?_
  unfold Oper.wp execOp
  simp only [ho, resolve, invoke, builtin, Sem.run_bind, Sem.run_pure, Result.andThen_ok, List.map_toArray, List.map_cons, List.map_nil, hs, hx, hr]
  exact hK _ _ h
theorem push_modify {α : Type} (a : Array α) (i : Nat) (f : α → α) (o : α) (h : i < a.size) : (a.modify i f).push o = (a.push o).modify i f := by
  apply Array.ext
  · simp
  · intro j h1 h2
    simp only [Array.getElem_push, Array.getElem_modify, Array.size_modify]
    split
    · split <;> rfl
    · rename_i hj
      rw [if_neg (by omega)]
/-- A cell that is written ahead of a new block, or behind it. -/
theorem set_alloc {U : World} {o : Obj} {a : Addr} {x : Value} (h : a.block < U.heap.size) : (U.setCell a x).alloc o = (U.alloc o).setCell a x := by
  unfold World.setCell World.alloc
  simp only [push_modify _ _ _ _ h]
theorem stays_set {O : Nat → Prop} {A B : World} {a : Addr} {u : Value} (h : Stays O A B) (hb : ¬ O a.block) : Stays O A (B.setCell a u) :=
  h.trans ⟨rfl, rfl, rfl, by rw [World.size_setCell]; exact Nat.le_refl _, fun k hk => Below.heap_setCell B a u k (fun e => hb (e ▸ hk))⟩
theorem boxed_new (W : World) (t : TypeId) (u : Value) {z : Nat} (hz : W.heap.size = z) : Boxed (W.alloc (.cells #[u] t)).drew z t u := by subst hz; exact Boxed.new W t u
theorem close_one {W : World} {rb base og oc : Nat} {M : Nat → Prop} {f : Fr} (h : OpAt W rb base M (fun _ => False) [f] (.slice (some ⟨og, 0, none⟩) 1 oc)) :
    OpAt W rb base M (fun _ => False) [] (.slice (some ⟨og, 0, none⟩) 0 oc) ∧ ∀ u, W.cell? ⟨og, 0, none⟩ = some u → CAf W (fun k => M k ∧ k ≠ rb ∧ (Value.slice (some ⟨og, 0, none⟩) 0 oc).ownBlock ≠ some k) 3 (.node f) u := by
  obtain ⟨F, vs, h1, h2, h3, h4, h5⟩ := h
  match vs, h2, h1, h5 with
  | [], h2, _, _ => exact h2.elim
  | v :: _ :: _, h2, _, _ => exact h2.2.2.elim
  | [v], h2, h1, h5 =>
    have hc := row_cell h1 (j := 0) (u := v) rfl
    refine ⟨⟨F, [], row_short (n := 0) (a := v) (xs := []) h1, trivial, h3, h4, fun u hu => by cases hu⟩, fun u hu => ?_⟩
    rw [hc] at hu
    cases hu
    exact h2.1.ca (fun k hk _ => ⟨(h3 k hk).1, (h3 k hk).2.1, (h3 k hk).2.2.1⟩) (fun k hk => ⟨h5 v (List.mem_cons_self ..) k hk, fun e => (h2.2.1 k hk).2.1 (.inl e), fun e => (h2.2.1 k hk).2.1 (.inr (.inl e))⟩)
theorem end_one (rb base : Nat) (M : Nat → Prop) (f : Fr) (c : Crd) (w : World) (h : RdAt w rb base M (.at_ 2 [f] c)) :
    Calls Tryz.prog 82 #[.pointer (some ⟨rb, 0, none⟩)] w fun e w' => (∃ v, e = .returned v) ∧ RdAt w' rb base (fun k => M k ∨ w.heap.size ≤ k) (Vm.ended (G := G) [f] c) ∧ Fin M w w' := by
  obtain ⟨nu, ov, cv, g, n, pv, v, av, en, hR, hM, hO, _⟩ := h
  obtain ⟨og, oc, a, cp, rfl, htop, _, hog, hogr, hoc, hoc2⟩ := hO.top
  simp only [List.length_nil, Nat.zero_add] at htop hO hR hoc
  have hoc3 : oc ≤ 9223372036854775807 := Nat.le_trans hoc2 (by decide)
  have CI := Lib.hid (inner_any rb og 0 oc w hR.c2 (by omega))
  have c0 := hR.c0
  have c2 := hR.c2
  have c3 := hR.c3
  have f0 := hR.f 0
  have f2 := hR.f 2
  have f3 := hR.f 3
  have hrb := hR.lt
  have HR := Lib.hid hR
  have HO := Lib.hid hO
  have HOC := Lib.hid hoc3
  clear hR hO hoc2 hoc3
  go_enter Tryz.func82, Tryz.ntmps82
  go_wp2_with fail
  refine CI.out.mono ?_
  rintro e w1 ⟨rfl, q, rfl⟩
  obtain ⟨W, hWe⟩ : ∃ W, w.drewN q = W := ⟨_, rfl⟩
  have hS0 : Stays (fun _ => True) w W := by rw [← hWe]; exact drew_all w q
  have R1 := HR.out.kept (hS0.block rb trivial)
  have O1 := HO.out.move (hS0.mono fun _ _ => trivial) (fun k h _ => h) (fun k h => .inl h)
  have t1 : W.cell? ⟨og, 0, none⟩ = some (.slice a f.length cp) := (World.cell?_of_block (a := ⟨og, 0, none⟩) (hS0.block og trivial)).trans htop
  rw [hWe]
  clear c0 c2 c3 f0 f2 f3 htop hWe
  have c0 := R1.c0
  have c2 := R1.c2
  have c3 := R1.c3
  have f0 := R1.f 0
  have f2 := R1.f 2
  have f3 := R1.f 3
  have hrW := R1.lt
  have hw0 : IntKind.i64.wrap 0 = 0 := by decide
  have hocz : (0 : Int) ≤ (oc : Int) := by omega
  have S1 := Lib.hid hS0
  have HR1 := Lib.hid R1
  have HO1 := Lib.hid O1
  clear R1 O1 hS0
  go_wp2_with fail
  go_region
  obtain ⟨V, hV⟩ : ∃ V, ((W.setCell ⟨rb, 2, none⟩ (.slice (some ⟨og, 0, none⟩) 0 oc)).alloc (.cells #[.slice a f.length cp] 24)).drew = V := ⟨_, rfl⟩
  have hbx : Boxed V W.heap.size 24 (.slice a f.length cp) := by rw [← hV]; exact boxed_new _ _ _ (by simp)
  have hSV : Stays (fun k => k ≠ rb ∧ k < W.heap.size) W V := by
    rw [← hV]; exact ((stays_set (Stays.refl _ W) (fun h => h.1 rfl)).alloc _ (fun k hk => by rw [World.size_setCell]; exact hk.2)).drew
  have R2 : RdC V rb 2 nu (.slice (some ⟨og, 0, none⟩) 0 oc) cv g n pv v av en false := by
    rw [← hV]; exact (HR1.out.set2 _).kept (((Below.refl _ (W.setCell ⟨rb, 2, none⟩ (.slice (some ⟨og, 0, none⟩) 0 oc))).alloc (Nat.le_refl _) _).block rb (by rw [World.size_setCell]; exact hrW))
  rw [hV]
  have O2 := close_one HO1.out
  have O3 := O2.1.move (M' := fun k => M k ∨ W.heap.size ≤ k) (X' := fun _ => False) (hSV.mono fun k hk => ⟨hk.2.1, hk.2.2.2⟩) (fun k h _ => .inl h) (fun k h => .inl h)
  have C3 := (O2.2 _ t1).move (F' := fun k => (M k ∨ W.heap.size ≤ k) ∧ k ≠ rb ∧ (Value.slice (some ⟨og, 0, none⟩) 0 oc).ownBlock ≠ some k) (hSV.mono fun k hk => ⟨hk.1.2.1, hk.2⟩) (fun k h _ => ⟨.inl h.1, h.2⟩)
  have hcx := hbx.cell
  clear c0 c2 c3 f0 f2 f3
  have c0 := R2.c0
  have c2 := R2.c2
  have c3 := R2.c3
  have f0 := R2.f 0
  have f3 := R2.f 3
  have HF := Lib.hid (And.intro R2 (And.intro O3 (And.intro C3 (And.intro hSV hrW))))
  clear R2 O2 O3 C3 hSV hbx hV
  go_wp2_with fail
  obtain ⟨R2, O3, C3, hSV, hrW⟩ := HF.out
  have hS2 : Stays (fun k => k ≠ rb) V ((V.setCell ⟨rb, 3, none⟩ (.slice a f.length cp)).setCell ⟨rb, 0, none⟩ (.int .i64 3)) := stays_set (stays_set (Stays.refl _ V) (fun h => h rfl)) (fun h => h rfl)
  have hWw := S1.out.size
  refine bodyPost_ret (v := .tuple #[]) (by simp [results, Tryz.results82]) rfl ⟨⟨_, rfl⟩, ⟨nu, _, _, g, n, pv, v, av, en, (R2.set3 _).set0 3, .inl hM, O3.move (hS2.mono fun k hk => hk.2.1) (fun k h _ => h.imp id (fun h => Nat.le_trans hWw h)) (fun k h => .inl h), fun _ => C3.move (hS2.mono fun k hk => hk.1.2.1) (fun k h _ => ⟨h.1.imp id (fun h => Nat.le_trans hWw h), h.2⟩)⟩, ?_⟩
  exact ((S1.out.mono fun _ _ => trivial).trans (hSV.mono fun k hk => ⟨fun e => hk.2 (e ▸ hM), Nat.lt_of_lt_of_le hk.1 hWw⟩)).trans (hS2.mono fun k hk e => hk.2 (e ▸ hM))

theorem OpAt.low {w : World} {rb base og oc n : Nat} {M X : Nat → Prop} {os : List Fr} (h : OpAt w rb base M X os (.slice (some ⟨og, 0, none⟩) n oc)) : og < w.heap.size := by
  obtain ⟨F, vs, h1, _⟩ := h
  obtain ⟨_, h⟩ := row_shape h1
  simp only [Value.slice.injEq] at h
  obtain ⟨_, rfl, _⟩ := h
  exact (own_lt h1 og rfl).2
/-- The card around the innermost one. -/
theorem OpAt.snd {w : World} {rb base og oc m : Nat} {M : Nat → Prop} {f g : Fr} {os : List Fr} (h : OpAt w rb base M (fun _ => False) (f :: g :: os) (.slice (some ⟨og, 0, none⟩) (os.length + 2) oc)) (hg : g.length = m + 1) :
    ∃ gb gc x, w.cell? ⟨og, os.length, none⟩ = some (.slice (some ⟨gb, 0, none⟩) (m + 1) gc) ∧ w.cell? ⟨gb, m * 5 + 4, none⟩ = some x ∧ w.frozen? ⟨gb, m * 5 + 4, none⟩ = false ∧ gb < w.heap.size ∧ gb ≠ rb ∧ gb ≠ og ∧ M gb ∧ M og := by
  obtain ⟨F, vs, h1, h2, h3, h4, h5⟩ := h
  match vs, h2, h1, h5 with
  | [], h2, _, _ => exact h2.elim
  | [_], h2, _, _ => exact h2.2.2.elim
  | v :: u :: vs, h2, h1, h5 =>
    obtain ⟨_, _, h2⟩ := h2
    obtain ⟨⟨cs, hr, hl, _⟩, hX, hrest⟩ := h2
    obtain ⟨gb, gc, cur, rfl, hb, hgh, hn, _, hc, ht⟩ := row_form hr (by omega)
    have hvl := hrest.len
    have hc0 := row_cell h1 (j := os.length) (u := .slice (some ⟨gb, 0, none⟩) g.length gc) (by
      rw [List.reverse_cons, List.reverse_cons, List.append_assoc, List.getElem?_append_right (by simp [hvl])]
      simp [hvl])
    have hlt : m * 5 + 4 < cs.length := by omega
    have hx : cs[m * 5 + 4]? = some cs[m * 5 + 4] := List.getElem?_eq_getElem hlt
    refine ⟨gb, gc, cs[m * 5 + 4], by rw [hc0, hg], row_cell hr hx, by simp [World.frozen?, hgh], (Array.getElem?_eq_some_iff.1 hgh).1, fun e => (hX gb rfl).2.1 (.inl e), fun e => (hX gb rfl).2.1 (.inr (.inl (by rw [e]; rfl))), h5 _ (List.mem_cons_of_mem _ (List.mem_cons_self ..)) gb rfl, (h4 og rfl).1⟩

theorem OpAt.close2 {U : World} {rb base og oc gb gc m : Nat} {M : Nat → Prop} {f g : Fr} {os : List Fr} {v : Value} (h : OpAt U rb base M (fun _ => False) (f :: g :: os) (.slice (some ⟨og, 0, none⟩) (os.length + 2) oc)) (t : U.cell? ⟨og, os.length + 1, none⟩ = some v) (u : U.cell? ⟨og, os.length, none⟩ = some (.slice (some ⟨gb, 0, none⟩) (m + 1) gc)) (hm : g.length = m + 1) (hos : os.length ≤ 1) (hrb : rb < U.heap.size) :
    OpAt ((U.alloc (.cells #[v] 24)).setCell ⟨gb, m * 5 + 4, none⟩ (.slice (some ⟨U.heap.size, 0, none⟩) 1 1)) rb base (fun k => M k ∨ U.heap.size ≤ k) (fun _ => False) (setF g (.node f) :: os) (.slice (some ⟨og, 0, none⟩) (os.length + 1) oc) := by
  have hogU := h.low
  have hS : Stays (fun k => k < U.heap.size) U (U.alloc (.cells #[v] 24)) := (Stays.refl _ U).alloc _ (fun k hk => hk)
  have hl : ∀ (F X : Nat → Prop) vs, FrsAt U base F X (f :: g :: os) vs → ∀ w ∈ vs, ∀ k, w.ownBlock = some k → k < U.heap.size := fun F X vs h w hw k hk => (h.lt w hw k hk).2
  obtain ⟨F, vs, h1, h2, h3, h4, h5⟩ := h
  match vs, h2, h1, h5 with
  | [], h2, _, _ => exact h2.elim
  | [_], h2, _, _ => exact h2.2.2.elim
  | v' :: u' :: vs, h2, h1, h5 =>
    have hvl := h2.2.2.2.2.len
    have c1 := row_cell h1 (j := os.length + 1) (u := v') (by rw [List.reverse_cons, List.getElem?_append_right (by simp [hvl])]; simp [hvl])
    have c2 := row_cell h1 (j := os.length) (u := u') (by rw [List.reverse_cons, List.reverse_cons, List.append_assoc, List.getElem?_append_right (by simp [hvl])]; simp [hvl])
    rw [t] at c1
    rw [u, ← hm] at c2
    cases c1
    cases c2
    have hlz := hl _ _ _ h2
    have hS1 : Stays (fun k => F k ∧ k < U.heap.size) U (U.alloc (.cells #[v] 24)) := hS.mono fun k hk => hk.2
    have hnX := h2.notX
    have h2' := FrsAt.move (F' := fun k => F k ∧ k < U.heap.size) (X' := fun k => k = rb ∨ (Value.slice (some ⟨og, 0, none⟩) (os.length + 2) oc).ownBlock = some k ∨ False) h2 hS1 (fun b hb hlt => ⟨hb, hlt⟩) (fun w hw k hk => hS.block k (hlz w hw k hk)) (fun w hw k hk => ⟨fun e => (hnX w hw k hk).1 e.1, (hnX w hw k hk).2⟩)
    have h1' := row_stays h1 (w' := U.alloc (.cells #[v] 24)) (fun k hk => hS.block k (own_lt h1 k hk).2)
    have hm5 : m * 5 + 4 = (g.length - 1) * 5 + 4 := by rw [hm, Nat.add_sub_cancel]
    rw [hm5]
    exact OpAt.agent h1' h2' (fun k hk => h3 k hk.1) h4 h5 hos (fun e => by rw [e] at hm; simp at hm) (World.alloc_heap_new U _) (Nat.le_refl _) hrb hogU hlz

theorem setF_eq (g : Fr) (c : Crd) : setF g c = Vm.setA (G := G) g c := by
  unfold setF Vm.setA
  cases g.getLast? <;> rfl

set_option maxHeartbeats 800000 in
theorem end_two (rb base : Nat) (M : Nat → Prop) (f g : Fr) (os : List Fr) (c : Crd) (w : World) (h : RdAt w rb base M (.at_ 2 (f :: g :: os) c)) (hos : os.length ≤ 1) (hg0 : g ≠ []) (hgl : g.length ≤ 24) :
    Calls Tryz.prog 82 #[.pointer (some ⟨rb, 0, none⟩)] w fun e w' => (∃ v, e = .returned v) ∧ RdAt w' rb base (fun k => M k ∨ w.heap.size ≤ k) (Vm.ended (G := G) (f :: g :: os) c) ∧ Fin M w w' := by
  obtain ⟨nu, ov, cv, gg, n, pv, v, av, en, hR, hM, hO, _⟩ := h
  obtain ⟨og, oc, a, cp, rfl, htop, _, hog, hogr, hoc, hoc2⟩ := hO.top
  have e2 : (g :: os).length + 1 = os.length + 2 := by simp
  have e1 : (g :: os).length = os.length + 1 := by simp
  rw [e2] at hO hR hoc
  rw [e1] at htop
  obtain ⟨m, hm⟩ : ∃ m, g.length = m + 1 := ⟨g.length - 1, by have := List.length_pos_iff.2 hg0; omega⟩
  have hmb : m ≤ 23 := by omega
  have hoc3 : oc ≤ 9223372036854775807 := Nat.le_trans hoc2 (by decide)
  have CI := Lib.hid (inner_any rb og (os.length + 1) oc w hR.c2 (by omega))
  have c0 := hR.c0
  have c2 := hR.c2
  have c3 := hR.c3
  have f0 := hR.f 0
  have f2 := hR.f 2
  have f3 := hR.f 3
  have hrb := hR.lt
  have HR := Lib.hid hR
  have HO := Lib.hid hO
  have HOC := Lib.hid hoc3
  have HM := Lib.hid hm
  have HG := Lib.hid hg0
  clear hR hO hoc2 hoc3 hm hgl e1 e2 hg0
  go_enter Tryz.func82, Tryz.ntmps82
  go_wp2_with fail
  refine CI.out.mono ?_
  rintro e w1 ⟨rfl, q, rfl⟩
  obtain ⟨W, hWe⟩ : ∃ W, w.drewN q = W := ⟨_, rfl⟩
  have hS0 : Stays (fun _ => True) w W := by rw [← hWe]; exact drew_all w q
  have R1 := HR.out.kept (hS0.block rb trivial)
  have O1 := HO.out.move (hS0.mono fun _ _ => trivial) (fun k h _ => h) (fun k h => .inl h)
  have t1 : W.cell? ⟨og, os.length + 1, none⟩ = some (.slice a f.length cp) := (World.cell?_of_block (a := ⟨og, os.length + 1, none⟩) (hS0.block og trivial)).trans htop
  rw [hWe]
  clear c0 c2 c3 f0 f2 f3 htop hWe
  have c0 := R1.c0
  have c2 := R1.c2
  have c3 := R1.c3
  have f0 := R1.f 0
  have f2 := R1.f 2
  have f3 := R1.f 3
  have hrW := R1.lt
  have hone : ((os.length + 2 : Nat) : Int) - 1 = ((os.length + 1 : Nat) : Int) := by omega
  have hocz : ((os.length + 1 : Nat) : Int) ≤ (oc : Int) := by omega
  have hnz : ((os.length : Int) + 1 == 0) = false := by simp; omega
  have S1 := Lib.hid hS0
  have HR1 := Lib.hid R1
  have HO1 := Lib.hid O1
  clear R1 O1 hS0
  go_wp2_with fail
  go_region
  obtain ⟨V, hV⟩ : ∃ V, ((W.setCell ⟨rb, 2, none⟩ (.slice (some ⟨og, 0, none⟩) (os.length + 1) oc)).alloc (.cells #[.slice a f.length cp] 24)).drew = V := ⟨_, rfl⟩
  have hbx : Boxed V W.heap.size 24 (.slice a f.length cp) := by rw [← hV]; exact boxed_new _ _ _ (by simp)
  have hSV : Stays (fun k => k ≠ rb ∧ k < W.heap.size) W V := by
    rw [← hV]; exact ((stays_set (Stays.refl _ W) (fun h => h.1 rfl)).alloc _ (fun k hk => by rw [World.size_setCell]; exact hk.2)).drew
  have hzV : V.heap.size = W.heap.size + 1 := by rw [← hV]; simp
  have R2 : RdC V rb 2 nu (.slice (some ⟨og, 0, none⟩) (os.length + 1) oc) cv gg n pv v av en false := by
    rw [← hV]; exact (HR1.out.set2 _).kept (((Below.refl _ (W.setCell ⟨rb, 2, none⟩ (.slice (some ⟨og, 0, none⟩) (os.length + 1) oc))).alloc (Nat.le_refl _) _).block rb (by rw [World.size_setCell]; exact hrW))
  rw [hV]
  have O2 := HO1.out.move (M' := M) (X' := fun _ => False) (hSV.mono fun k hk => ⟨hk.2.1, hk.2.2.2⟩) (fun k h _ => h) (fun k h => .inl h)
  have hcx := hbx.cell
  obtain ⟨gb, gc, x, s1, s2, s3, hgbV, hgbr, hgbo, hMgb, hMog⟩ := O2.snd HM.out
  have hlow := O2.low
  have t2 : V.cell? ⟨og, os.length + 1, none⟩ = some (.slice a f.length cp) := (World.cell?_of_block (a := ⟨og, os.length + 1, none⟩) (hSV.block og ⟨hogr, HO1.out.low⟩)).trans t1
  clear c0 c2 c3 f0 f2 f3 hV t1
  have c0 := R2.c0
  have c2 := R2.c2
  have c3 := R2.c3
  have f0 := R2.f 0
  have f3 := R2.f 3
  have CI2 := Lib.hid (inner_any rb og os.length oc V R2.c2 (by omega))
  have HF := Lib.hid (And.intro R2 (And.intro O2 (And.intro hSV (And.intro hbx (And.intro HO1.out.low t2)))))
  have hm1 : ((m + 1 : Nat) : Int) - 1 = (m : Int) := by omega
  have hm2 : (m : Int) < ((m + 1 : Nat) : Int) := by omega
  clear R2 O2 hSV hbx hlow t2
  go_wp2_with fail
  refine CI2.out.mono ?_
  rintro e w1 ⟨rfl, q2, rfl⟩
  obtain ⟨U, hUe⟩ : ∃ U, V.drewN q2 = U := ⟨_, rfl⟩
  have hSU : Stays (fun _ => True) V U := by rw [← hUe]; exact drew_all V q2
  rw [hUe]
  obtain ⟨R2, O2, hSV, hbx, hlo, t2⟩ := HF.out
  have R3 := R2.kept (hSU.block rb trivial)
  have O3 := O2.move (M' := M) (X' := fun _ => False) (hSU.mono fun _ _ => trivial) (fun k h _ => h) (fun k h => .inl h)
  have hbx3 : Boxed U W.heap.size 24 (.slice a f.length cp) := (hSU.block _ trivial).trans hbx
  have u1 : U.cell? ⟨og, os.length, none⟩ = _ := (World.cell?_of_block (a := ⟨og, os.length, none⟩) (hSU.block og trivial)).trans s1
  have u2 : U.cell? ⟨gb, m * 5 + 4, none⟩ = _ := (World.cell?_of_block (a := ⟨gb, m * 5 + 4, none⟩) (hSU.block gb trivial)).trans s2
  have u3 : U.frozen? ⟨gb, m * 5 + 4, none⟩ = false := by rw [← hUe]; exact s3
  have u4 := hbx3.cell
  have hgbU : gb < U.heap.size := Nat.lt_of_lt_of_le hgbV hSU.size
  have HF2 := Lib.hid (And.intro R3 (And.intro O3 (And.intro hSV (And.intro hSU (And.intro hlo t2)))))
  clear R2 O2 hSV hbx t2 R3 O3 hSU hbx3 s1 s2 s3 c0 c2 c3 f0 f3 hcx hUe hlo
  go_wp2_with fail
  obtain ⟨R3, O3, hSV, hSU, hlo, t2⟩ := HF2.out
  have hWw := S1.out.size
  have hrU : rb < U.heap.size := R3.lt
  have t3 : U.cell? ⟨og, os.length + 1, none⟩ = some (.slice a f.length cp) := (World.cell?_of_block (a := ⟨og, os.length + 1, none⟩) (hSU.block og trivial)).trans t2
  have O4 := O3.close2 t3 u1 HM.out hos hrU
  rw [setF_eq] at O4
  have hS2 : Stays (fun k => k ≠ gb ∧ k < U.heap.size) U ((U.alloc (.cells #[.slice a f.length cp] 24)).setCell ⟨gb, m * 5 + 4, none⟩ (.slice (some ⟨U.heap.size, 0, none⟩) 1 1)) := stays_set ((Stays.refl _ U).alloc _ (fun k hk => hk.2)) (fun h => h.1 rfl)
  rw [set_alloc (a := ⟨gb, m * 5 + 4, none⟩) hgbU]
  have hUW : W.heap.size ≤ U.heap.size := Nat.le_trans hSV.size hSU.size
  have O5 := O4.move (M' := fun k => M k ∨ w.heap.size ≤ k) (X' := fun _ => False) (Stays.refl _ _) (fun k h _ => h.imp id (fun h => by omega)) (fun k h => .inl h)
  exact bodyPost_end (v := .tuple #[]) (by simp [results, Tryz.results82]) rfl ⟨⟨_, rfl⟩, ⟨nu, _, cv, gg, n, pv, v, av, en, R3.kept (hS2.block rb ⟨fun e => hgbr e.symm, hrU⟩), .inl hM, O5, fun h => by simp at h⟩, ((S1.out.mono fun _ _ => trivial).trans (hSV.mono fun k hk => ⟨fun e => hk.2 (e ▸ hM), Nat.lt_of_lt_of_le hk.1 hWw⟩)).trans ((hSU.mono fun _ _ => trivial).trans (hS2.mono fun k hk => ⟨fun e => hk.2 (e ▸ hMgb), by have := hk.1; omega⟩))⟩
end Go.Proofs.YtjgfbicllgalkaaGreatDoor.Vc

namespace Go.Proofs.YtjgfbicllgalkaaGreatDoor.Vc
set_option maxRecDepth 100000
open Go.RowKit Pp Sq

theorem FrO.grow {U : World} {base k : Nat} {f : Fr} {v c2 c4 : Value} {p : Pd × List Crd} (h : FrO U base k v f) (hf : f.length < 24) (h2 : c2.oneCell' = true) (h4 : c4.oneCell' = true)
    (hp : PcF U (Out U base v) (CAf U (Out U base v) k) p (.string p.1.g) (.string p.1.n) c2 (.string p.1.v) c4) (hbase : base ≤ U.heap.size) :
    ∃ v' w', (∀ ty, (Builtin.append_ #[22, 22] ty #[v, .slice (some ⟨U.heap.size, 0, none⟩) 1 1]).run Tryz.prog (U.alloc (.cells #[.string p.1.g, .string p.1.n, c2, .string p.1.v, c4] 56)) = .ok v' w') ∧
      FrO w' base k v' (f ++ [p]) ∧ Stays (fun k => k < U.heap.size ∧ v.ownBlock ≠ some k) U w' ∧ (∃ a c, v' = .slice a (f.length + 1) c) := by
  obtain ⟨V, hV⟩ : ∃ V, U.alloc (.cells #[.string p.1.g, .string p.1.n, c2, .string p.1.v, c4] 56) = V := ⟨_, rfl⟩
  have hb : V.heap[U.heap.size]? = some (.cells #[.string p.1.g, .string p.1.n, c2, .string p.1.v, c4] 56 (0, 0)) := by rw [← hV]; exact heap_alloc_new U _
  have hzs : V.heap.size = U.heap.size + 1 := by rw [← hV, World.size_alloc]
  have hBl : Below U.heap.size U V := by rw [← hV]; exact (Below.refl _ _).alloc (Nat.le_refl _) _
  have hS : Stays (fun j => Out U base v j ∧ j < U.heap.size) U V := ⟨hBl.os, hBl.tape, hBl.output, hBl.size, fun j hj => hBl.block j hj.2⟩
  have hF : ∀ b, Out U base v b → b < U.heap.size → Out V base v b := fun b hb hl => ⟨hb.1, by omega, hb.2.2⟩
  have h' : FrO V base k v f := h.stays hBl
  have hp' := hp.move hS hF (fun _ _ h => CAf.move hS hF h)
  rw [hV]
  obtain ⟨cs, hr, hcl, hcc⟩ := h'
  obtain ⟨i0, hi, hz0, hz1, hz2⟩ := info_parts infoPr
  obtain ⟨v', w', hrun, hown, hgr, hpl⟩ := App.run_append_where (P := Tryz.prog) V base 22 0 56 i0 _ 5 96 Tryz.underlying22 hi hz0 hz1 hz2 rfl (by decide) v f.length cs hr ⟨U.heap.size, 0, none⟩ 1 1 [.string p.1.g, .string p.1.n, c2, .string p.1.v, c4] rfl
    (fun j u hj => by
      have := cell_of_row _ U.heap.size j _ _ _ hb
      rw [Addr.add_block0, this]
      have e : (#[Value.string p.1.g, .string p.1.n, c2, .string p.1.v, c4] : Array Value)[j]? = [Value.string p.1.g, .string p.1.n, c2, .string p.1.v, c4][j]? := by simp
      rw [e]; exact hj)
    (fun u hu => by
      simp only [List.mem_cons, List.not_mem_nil, or_false] at hu
      rcases hu with rfl | rfl | rfl | rfl | rfl
      · rfl
      · rfl
      · exact h2
      · rfl
      · exact h4) (by unfold maxLen; omega) (by omega) (by omega) (by decide)
  refine ⟨v', w', fun ty => hrun, FrO.snoc hcl hcc hp' hown hgr (fun g e => by
      rcases hpl with h | h
      · exact .inl (h ▸ e)
      · rw [e] at h; cases h; exact .inr (Nat.le_refl _)), ?_, row_shape hown⟩
  exact ⟨hgr.os.trans hBl.os, hgr.tape.trans hBl.tape, hgr.output.trans hBl.output, Nat.le_trans hBl.size hgr.size, fun j hj => (hgr.block j (by omega) (fun e => hj.2 e.symm)).trans (hBl.block j hj.1)⟩
theorem FrO.set {w : World} {base k : Nat} {v : Value} {f : Fr} (h : FrO w base k v f) {a : Addr} (ha : a.block < base) (u : Value) : FrO (w.setCell a u) base k v f :=
  FrAt.move h (stays_set (Stays.refl _ w) (fun e => by have := e.1.1; omega)) (fun _ hj _ => ⟨hj.1, by rw [World.size_setCell]; exact hj.2.1, hj.2.2⟩) (fun g e => Below.heap_setCell w a u g (by have := (h.lt g e).1; omega))
/-- The cells of a property as it is handed back. -/
theorem PcF.shape {w : World} {F : Nat → Prop} {α : Type} {C : α → Value → Prop} {p : Pd × List α} {c0 c1 c2 c3 c4 : Value} (h : PcF w F C p c0 c1 c2 c3 c4) : c0 = .string p.1.g ∧ c1 = .string p.1.n ∧ c3 = .string p.1.v ∧ (∃ a n c, c2 = .slice a n c) ∧ ∃ a n c, c4 = .slice a n c := by
  refine ⟨h.1, h.2.1, h.2.2.1, ?_, ?_⟩
  · rcases h.2.2.2.1 with ⟨_, rfl | ⟨ad, cap, rfl⟩⟩ | ⟨b, o, cap, rfl, _⟩
    · exact ⟨_, _, _, rfl⟩
    · exact ⟨_, _, _, rfl⟩
    · exact ⟨_, _, _, rfl⟩
  · obtain ⟨a, c, rfl, _⟩ := h.2.2.2.2
    exact ⟨_, _, _, rfl⟩
end Go.Proofs.YtjgfbicllgalkaaGreatDoor.Vc
