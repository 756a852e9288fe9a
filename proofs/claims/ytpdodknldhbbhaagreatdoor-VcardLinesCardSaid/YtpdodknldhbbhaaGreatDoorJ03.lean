/-
Texts joined in one file, each with its own conditions: Properties that say the same are the same for the document's Same. Conditions: the parameters lie below the caller's blocks, at most 2^40 of them. · Whether two properties say the same, for the document's Same (their lists of cards by their lengths alone). Conditions: the parameters lie below the caller's blocks, at most 2^40 of them. · Is a card too much to be asked: in plain words. No program in it, no conditions. · Plain functions on bytes: capitals of ASCII alone, byte by byte; the names of charsets. No program in it, no conditions. · Plain functions on bytes: digits of bytes, and bytes of digits. No program in it, no conditions. · Plain functions on bytes: which bytes are plain, bytes as letters. No program in it, no conditions. · Plain functions on bytes: what digits say. No program in it, no conditions. · Plain functions on bytes: a text in pieces of so many bytes. No program in it, no conditions. · Plain functions on bytes: letters of six bits. No program in it, no conditions. · Plain functions on bytes: bytes as letters, piece by piece. No program in it, no conditions. · Where a byte is in a text, from a place on, ahead of an end: the document's answer, in plain words. Conditions: the end lies within the text, the place not behind the end.
-/
import Derived.Test.YtpdodknldhbbhaaGreatDoorJ02
import Derived.Laws.StructEq
import Derived.Deep.QuietTactic
import Derived.BigQuiet
import Derived.WalkKit
import Derived.Lib.Hide
import Derived.Laws.BitsAllLaws
namespace Go.Proofs.YtpdodknldhbbhaaGreatDoor.Pp
open Go.RowKit

theorem fieldsP : (Tryz.prog.fieldsOf 66).toList = [{ name := "Name", type := 9, offset := 0, embedded := false, tag := "", pkgPath := "", byteOffset := 0 }, { name := "Value", type := 9, offset := 1, embedded := false, tag := "", pkgPath := "", byteOffset := 16 }] := by kernel_rfl
theorem partP (xs : Array Value) (i : Nat) (s : ByteArray) (w : World) (h : xs[i]? = some (.string s)) : (part 9 xs i).run Tryz.prog w = .ok (.string s) w := by simp [part, go_sem, h]
theorem neqP (a b c d : ByteArray) (w : World) :
    (binOp .neq 66 (.agg #[.string a, .string b]) (.agg #[.string c, .string d])).run Tryz.prog w = .ok (.bool (!(a.toList == c.toList && b.toList == d.toList))) w := by
  have h1 := fun a b w => run_equalIn_string (P := Tryz.prog) w 9998 9 a b Tryz.underlying9
  have a0 := fun w => partP #[.string a, .string b] 0 a w rfl
  have a1 := fun w => partP #[.string a, .string b] 1 b w rfl
  have b0 := fun w => partP #[.string c, .string d] 0 c w rfl
  have b1 := fun w => partP #[.string c, .string d] 1 d w rfl
  rw [run_neq_struct, show (10000 : Nat) = 9998 + 1 + 1 from rfl, run_equalIn_struct _ _ _ _ _ (by kernel_rfl) (by kernel_rfl), fieldsP]
  cases e1 : a.toList == c.toList <;> cases e2 : b.toList == d.toList <;> simp [Op.eqFields, a0, a1, b0, b1, h1, e1, e2, Result.andThen, Sem.run_bind, Sem.run_pure]
end Go.Proofs.YtpdodknldhbbhaaGreatDoor.Pp

namespace Go.Proofs.YtpdodknldhbbhaaGreatDoor.Vc
open Go.RowKit Pp

/-- Do two properties say the same? -/
def sameP (p q : Pd) (m m' : Nat) : Bool := p.g.toList == q.g.toList && p.n.toList == q.n.toList && p.v.toList == q.v.toList && decide (p.ps.length = q.ps.length) && decide (m = m') && (p.ps.zip q.ps).all fun x => x.1.1.toList == x.2.1.toList && x.1.2.toList == x.2.2.toList
theorem zip_drop {l l' : List (ByteArray × ByteArray)} {k : Nat} {f : (ByteArray × ByteArray) × (ByteArray × ByteArray) → Bool} (h : k < l.length) (h' : k < l'.length) : ((l.drop k).zip (l'.drop k)).all f = (f (l[k], l'[k]) && ((l.drop (k + 1)).zip (l'.drop (k + 1))).all f) := by
  rw [List.drop_eq_getElem_cons h, List.drop_eq_getElem_cons h']; rfl

set_option maxHeartbeats 4000000 in
theorem refSameP_any (p q : Pd) (pv pv' : Value) (a1 a2 : Option Addr) (m m' c1 c2 : Nat) (w : World) (hps : Ps w w.heap.size pv p.ps) (hps' : Ps w w.heap.size pv' q.ps) (hl : p.ps.length ≤ 1099511627776) :
    Calls Tryz.prog 47 #[prV p.g p.n pv p.v (.slice a1 m c1), prV q.g q.n pv' q.v (.slice a2 m' c2)] w fun e w' => e = .returned (.bool (sameP p q m m')) ∧ Below w.heap.size w w' := by
  obtain ⟨g, n, ps, v⟩ := p
  obtain ⟨g', n', ps', v'⟩ := q
  obtain ⟨pa, pc, rfl⟩ := hps.shape
  obtain ⟨pa', pc', rfl⟩ := hps'.shape
  unfold prV sameP
  dsimp only at hps hps' hl ⊢
  have HA : PrAt (w.alloc (.cells #[.string g, .string n, .slice pa ps.length pc, .string v, .slice a1 m c1] 53)) w.heap.size g n (.slice pa ps.length pc) v (.slice a1 m c1) := heap_alloc_new w _
  have hz : (w.alloc (.cells #[.string g, .string n, .slice pa ps.length pc, .string v, .slice a1 m c1] 53)).heap.size = w.heap.size + 1 := by rw [World.size_alloc]
  have HBB : Below w.heap.size w ((w.alloc (.cells #[.string g, .string n, .slice pa ps.length pc, .string v, .slice a1 m c1] 53)).alloc (.cells #[.string g', .string n', .slice pa' ps'.length pc', .string v', .slice a2 m' c2] 53)) := ((Below.refl _ _).alloc (Nat.le_refl _) _).alloc (by omega) _
  have HA2 := HA.below ((Below.refl _ _).alloc (Nat.le_refl _) (.cells #[.string g', .string n', .slice pa' ps'.length pc', .string v', .slice a2 m' c2] 53))
  have HB2 : PrAt ((w.alloc (.cells #[.string g, .string n, .slice pa ps.length pc, .string v, .slice a1 m c1] 53)).alloc (.cells #[.string g', .string n', .slice pa' ps'.length pc', .string v', .slice a2 m' c2] 53)) (w.heap.size + 1) g' n' (.slice pa' ps'.length pc') v' (.slice a2 m' c2) := by rw [← hz]; exact heap_alloc_new _ _
  clear HA hz
  cases eg : (g.toList == g'.toList)
  · go_enter Tryz.func47, Tryz.ntmps47
    go_wp2_with fail
    go_ret
    exact ⟨rfl, HBB⟩
  cases en : (n.toList == n'.toList)
  · go_enter Tryz.func47, Tryz.ntmps47
    go_wp2_with fail
    go_ret
    exact ⟨rfl, HBB⟩
  cases ev : (v.toList == v'.toList)
  · go_enter Tryz.func47, Tryz.ntmps47
    go_wp2_with fail
    go_ret
    exact ⟨rfl, HBB⟩
  by_cases el : ps.length = ps'.length
  rotate_left
  · have el2 : ((ps.length : Int) == (ps'.length : Int)) = false := by simp; omega
    rw [decide_eq_false el]
    clear el
    go_enter Tryz.func47, Tryz.ntmps47
    go_wp2_with fail
    go_ret
    exact ⟨rfl, HBB⟩
  have el2 : ((ps.length : Int) == (ps'.length : Int)) = true := by simp; omega
  rw [decide_eq_true el]
  by_cases em : m = m'
  rotate_left
  · have em2 : ((m : Int) == (m' : Int)) = false := by simp; omega
    rw [decide_eq_false em]
    have el3 : (ps.length : Int) = (ps'.length : Int) := by omega
    have em3 : ¬ (m : Int) = (m' : Int) := by omega
    clear el em
    go_enter Tryz.func47, Tryz.ntmps47
    go_wp2_with fail
    go_ret
    exact ⟨rfl, HBB⟩
  have em2 : ((m : Int) == (m' : Int)) = true := by simp; omega
  rw [decide_eq_true em]
  obtain ⟨R, hR⟩ : ∃ R, ((ps.zip ps').all fun x => x.1.1.toList == x.2.1.toList && x.1.2.toList == x.2.2.toList) = R := ⟨_, rfl⟩
  have H0 := Lib.hid (show (((ps.drop 0).zip (ps'.drop 0)).all fun x => x.1.1.toList == x.2.1.toList && x.1.2.toList == x.2.2.toList) = R from hR)
  rw [hR]
  have HEL := Lib.hid el
  have el3 : (ps.length : Int) = (ps'.length : Int) := by omega
  have em3 : (m : Int) = (m' : Int) := by omega
  clear hR el em
  go_enter Tryz.func47, Tryz.ntmps47
  go_wp2_with fail
  clear el3 em3 el2 em2
  go_loopw [5] (fun iv wr => ∃ k : Nat, k ≤ ps.length ∧ iv = .int .i64 k ∧ Hid ((((ps.drop k).zip (ps'.drop k)).all fun x => x.1.1.toList == x.2.1.toList && x.1.2.toList == x.2.2.toList) = R) ∧ PrAt wr w.heap.size g n (.slice pa ps.length pc) v (.slice a1 m c1) ∧ PrAt wr (w.heap.size + 1) g' n' (.slice pa' ps'.length pc') v' (.slice a2 m' c2) ∧ Below w.heap.size w wr) (fun iv _ => ps.length - (intOf iv).toNat)
  case atStart => exact ⟨0, Nat.zero_le _, rfl, H0, HA2, HB2, HBB⟩
  case round =>
    obtain ⟨k, hk, rfl, hq, hA, hB, hbel⟩ := hrel
    have k2 := hA.c2
    have l2 := hB.c2
    by_cases hlt : k < ps.length
    · have hlt' : k < ps'.length := by rw [← HEL.out]; exact hlt
      have hlz : (k : Int) < (ps.length : Int) := by omega
      have hlz' : (k : Int) < (ps'.length : Int) := by omega
      obtain ⟨b, o, cap, hv1, hbB, hc0, hc1⟩ := (hps.below hbel).at_ hlt
      simp only [Value.slice.injEq, true_and] at hv1
      obtain ⟨rfl, rfl⟩ := hv1
      obtain ⟨b', o', cap', hv1, hbB', hd0, hd1⟩ := (hps'.below hbel).at_ hlt'
      simp only [Value.slice.injEq, true_and] at hv1
      obtain ⟨rfl, rfl⟩ := hv1
      have HQ := Lib.hid (by have h := hq.out; rw [zip_drop hlt hlt'] at h; exact h)
      generalize ps[k] = x at hc0 hc1 HQ
      generalize ps'[k] = y at hd0 hd1 HQ
      obtain ⟨xn, xv⟩ := x
      obtain ⟨yn, yv⟩ := y
      simp only at hc0 hc1 hd0 hd1
      have HN := neqP xn xv yn yv
      have HQ2 := Lib.hid HQ.out
      dsimp only at HQ2
      clear HQ hq
      cases hb : (xn.toList == yn.toList && xv.toList == yv.toList)
      · rw [hb] at HN HQ2
        simp only [Bool.not_false] at HN
        have HE : Hid (R = false) := Lib.hid (by rw [← HQ2.out, Bool.false_and])
        clear hb HQ2
        go_wp2_with fail
        go_quiet (fail)
        go_wp2_with fail
        go_ret
        exact ⟨by rw [HE.out]; rfl, ⟨hbel.os, hbel.tape, hbel.output, hbel.size, hbel.block⟩⟩
      · rw [hb] at HN HQ2
        simp only [Bool.not_true] at HN
        have HQ3 := Lib.hid (by have h := HQ2.out; rw [Bool.true_and] at h; exact h)
        clear hb HQ2
        go_wp2_with fail
        go_quiet (fail)
        go_wp2_with fail
        go_roundw
        case rel => exact ⟨k + 1, by omega, by go_num, HQ3, hA, hB, ⟨hbel.os, hbel.tape, hbel.output, hbel.size, hbel.block⟩⟩
        case measure => simp [intOf]; omega
    · have hlz : ¬ (k : Int) < (ps.length : Int) := by omega
      have HE : Hid (R = true) := Lib.hid (by have h := hq.out; rw [List.drop_eq_nil_of_le (by omega)] at h; exact h.symm)
      go_wp2_with fail
      go_ret
      exact ⟨by rw [HE.out]; rfl, hbel⟩
end Go.Proofs.YtpdodknldhbbhaaGreatDoor.Vc

namespace Go.Proofs.YtpdodknldhbbhaaGreatDoor.Vc
set_option maxRecDepth 100000
open Go.RowKit Pp

def wgA (f : Crd → Int → Int × Bool) : List Crd → Int → Int × Bool
  | [], r => (r, false)
  | a :: t, r => if (f a r).2 = true then (0, true) else wgA f t (f a r).1
def wgP (f : Crd → Int → Int × Bool) : List (Pd × List Crd) → Int → Int × Bool
  | [], r => (r, false)
  | p :: t, r => if 20 < p.1.ps.length ∨ 4 < p.2.length ∨ r < (p.1.v.size : Int) then (0, true) else
    if (wgA f p.2 (r - p.1.v.size - 20)).2 = true ∨ (wgA f p.2 (r - p.1.v.size - 20)).1 < 0 then (0, true) else wgP f t (wgA f p.2 (r - p.1.v.size - 20)).1
def wgC : Nat → Crd → Int → Int × Bool
  | 0, _, _ => (0, true)
  | d + 1, t, r => if 60 < t.ps.length then (0, true) else wgP (wgC d) t.ps r
def Bd (r : Int) : Prop := -20 ≤ r ∧ r ≤ 6000
theorem wgA_bd {f : Crd → Int → Int × Bool} (hf : ∀ a r, Bd r → Bd (f a r).1) : ∀ (l : List Crd) (r : Int), Bd r → Bd (wgA f l r).1
  | [], _, h => h
  | a :: t, r, h => by
    unfold wgA
    split
    · exact ⟨by decide, by decide⟩
    · exact wgA_bd hf t _ (hf a r h)
theorem wgP_bd {f : Crd → Int → Int × Bool} (hf : ∀ a r, Bd r → Bd (f a r).1) : ∀ (l : List (Pd × List Crd)) (r : Int), Bd r → Bd (wgP f l r).1
  | [], _, h => h
  | p :: t, r, h => by
    unfold wgP
    split
    · exact ⟨by decide, by decide⟩
    rename_i h1
    split
    · exact ⟨by decide, by decide⟩
    · exact wgP_bd hf t _ (wgA_bd hf _ _ ⟨by omega, by have := h.2; omega⟩)
theorem wgC_bd : ∀ (d : Nat) (t : Crd) (r : Int), Bd r → Bd (wgC d t r).1
  | 0, _, _, _ => by unfold wgC; exact ⟨by decide, by decide⟩
  | d + 1, t, r, h => by
    unfold wgC
    split
    · exact ⟨by decide, by decide⟩
    · exact wgP_bd (fun a r h => wgC_bd d a r h) _ _ h
theorem wgA_drop {f : Crd → Int → Int × Bool} {l : List Crd} {i : Nat} {r : Int} (h : i < l.length) : wgA f (l.drop i) r = if (f l[i] r).2 = true then (0, true) else wgA f (l.drop (i + 1)) (f l[i] r).1 := by
  rw [List.drop_eq_getElem_cons h]; rfl
theorem wgP_drop {f : Crd → Int → Int × Bool} {l : List (Pd × List Crd)} {i : Nat} {r : Int} (h : i < l.length) : wgP f (l.drop i) r = if 20 < l[i].1.ps.length ∨ 4 < l[i].2.length ∨ r < (l[i].1.v.size : Int) then (0, true) else
    if (wgA f l[i].2 (r - l[i].1.v.size - 20)).2 = true ∨ (wgA f l[i].2 (r - l[i].1.v.size - 20)).1 < 0 then (0, true) else wgP f (l.drop (i + 1)) (wgA f l[i].2 (r - l[i].1.v.size - 20)).1 := by
  rw [List.drop_eq_getElem_cons h]; rfl
def great (t : Crd) : Bool := (wgC 12 t 6000).2
end Go.Proofs.YtpdodknldhbbhaaGreatDoor.Vc

namespace Go.Proofs.YtpdodknldhbbhaaGreatDoor.Cs
open Go.RowKit

/-- A to Z for a to z. -/
def cap1 (c : UInt8) : UInt8 := if 97 ≤ c.toNat ∧ c.toNat ≤ 122 then UInt8.ofNat (c.toNat - 32) else c
theorem cap1_yes {c : UInt8} (h : 97 ≤ (c.toNat : Int)) (h' : (c.toNat : Int) ≤ 122) : ((cap1 c).toNat : Int) = (c.toNat : Int) - 32 := by
  unfold cap1
  rw [if_pos ⟨by omega, by omega⟩, UInt8.toNat_ofNat', Nat.mod_eq_of_lt (by omega)]
  omega
theorem cap1_no {c : UInt8} (h : ¬ (97 ≤ (c.toNat : Int) ∧ (c.toNat : Int) ≤ 122)) : cap1 c = c := by
  unfold cap1
  rw [if_neg (by omega)]
/-- The first k bytes in capitals. -/
def capK (l : List UInt8) (k : Nat) : List UInt8 := (l.take k).map cap1 ++ l.drop k
theorem capK_zero (l : List UInt8) : capK l 0 = l := by simp [capK]
theorem capK_all {l : List UInt8} {k : Nat} (h : l.length ≤ k) : capK l k = l.map cap1 := by
  unfold capK; rw [List.take_of_length_le h, List.drop_eq_nil_of_le h, List.append_nil]
theorem capK_length (l : List UInt8) (k : Nat) : (capK l k).length = l.length := by
  unfold capK; rw [List.length_append, List.length_map, List.length_take, List.length_drop]; omega
theorem capK_at {l : List UInt8} {k : Nat} (h : k < l.length) : (capK l k)[k]? = some l[k] := by
  unfold capK
  rw [List.getElem?_append_right (by rw [List.length_map, List.length_take]; omega), List.length_map, List.length_take, List.getElem?_drop, show k + (k - min k l.length) = k by omega, List.getElem?_eq_getElem h]
theorem capK_set {l : List UInt8} {k : Nat} (h : k < l.length) : (capK l k).set k (cap1 l[k]) = capK l (k + 1) := by
  unfold capK
  rw [List.set_append_right _ _ (by rw [List.length_map, List.length_take]; omega), List.length_map, List.length_take, show k - min k l.length = 0 by omega, List.drop_eq_getElem_cons h, List.set_cons_zero, List.take_succ_eq_append_getElem h, List.map_append, List.append_assoc]
  rfl
theorem capK_same {l : List UInt8} {k : Nat} (h : k < l.length) (hs : cap1 l[k] = l[k]) : capK l (k + 1) = capK l k := by
  rw [← capK_set h, hs]
  have hk := capK_at h
  apply List.ext_getElem?
  intro i
  rw [List.getElem?_set]
  split
  · subst_vars
    rw [hk]; split
    · rfl
    · rw [capK_length] at *; omega
  · rfl

/-- A charset's name. -/
def nm (k : Int) : ByteArray := if k = 1 then ⟨#[85, 83, 45, 65, 83, 67, 73, 73]⟩ else if k = 2 then ⟨#[73, 83, 79, 45, 56, 56, 53, 57, 45, 49]⟩ else if k = 3 then ⟨#[85, 84, 70, 45, 56]⟩ else ⟨#[]⟩
/-- Which of them a text in capitals is. -/
def whichN (u : ByteArray) : Int := if (u.toList == (nm 1).toList) = true then 1 else if (u.toList == (nm 2).toList) = true then 2 else if (u.toList == (nm 3).toList) = true then 3 else 0
def named (l : List UInt8) : Int := whichN ⟨(l.map cap1).toArray⟩
end Go.Proofs.YtpdodknldhbbhaaGreatDoor.Cs

namespace Go.Proofs.YtpdodknldhbbhaaGreatDoor.Fig
open Go.RowKit

/-- The digit of a number below 16. -/
def hexd (n : Nat) : UInt8 := if n < 10 then UInt8.ofNat (48 + n) else UInt8.ofNat (55 + n)
/-- Two digits for each byte. -/
def hexOf (l : List UInt8) : List UInt8 := l.flatMap fun c => [hexd (c.toNat / 16), hexd (c.toNat % 16)]

theorem hexd_toNat (n : Nat) (h : n < 16) : (hexd n).toNat = if n < 10 then 48 + n else 55 + n := by
  unfold hexd; split <;> simp <;> omega
theorem hexOf_length (l : List UInt8) : (hexOf l).length = 2 * l.length := by
  induction l with
  | nil => rfl
  | cons c r ih => simp [hexOf] at ih ⊢; omega
theorem hexOf_snoc (l : List UInt8) (c : UInt8) : hexOf (l ++ [c]) = hexOf l ++ [hexd (c.toNat / 16), hexd (c.toNat % 16)] := by
  simp [hexOf]
theorem take_snoc (s : ByteArray) (k : Nat) (h : k < s.size) : s.data.toList.take (k + 1) = s.data.toList.take k ++ [s[k]] := by
  rw [List.take_succ_eq_append_getElem (by simpa using h)]; rfl
theorem hexOf_step (s : ByteArray) (k : Nat) (h : k < s.size) : hexOf (s.data.toList.take (k + 1)) = hexOf (s.data.toList.take k) ++ [hexd (s[k].toNat / 16), hexd (s[k].toNat % 16)] := by
  rw [take_snoc s k h, hexOf_snoc]
theorem hexOf_take_length (s : ByteArray) (k : Nat) (h : k ≤ s.size) : (hexOf (s.data.toList.take k)).length = 2 * k := by
  rw [hexOf_length, List.length_take]; simp; omega
end Go.Proofs.YtpdodknldhbbhaaGreatDoor.Fig

namespace Go.Proofs.YtpdodknldhbbhaaGreatDoor.Qu
open Go.RowKit Fig

def ink (c : UInt8) : Bool := decide (32 < (c.toNat : Int)) && decide ((c.toNat : Int) ≤ 126) && decide ((c.toNat : Int) ≠ 61)
def blank (c : UInt8) : Bool := decide ((c.toNat : Int) = 32) || decide ((c.toNat : Int) = 9)
def plainB (c : UInt8) (more : Bool) : Bool := ink c || (blank c && more)
/-- A byte's letters: itself, or a mark and two digits. -/
def unit (c : UInt8) (more : Bool) : List UInt8 := if plainB c more then [c] else 61 :: hexOf [c]
def enc : List UInt8 → List UInt8
  | [] => []
  | c :: r => unit c (!r.isEmpty) ++ enc r

theorem unit_plain {c : UInt8} {m : Bool} (h : plainB c m = true) : unit c m = [c] := by unfold unit; rw [if_pos h]
theorem unit_not {c : UInt8} {m : Bool} (h : ¬ plainB c m = true) : unit c m = [61] ++ hexOf [c] := by unfold unit; rw [if_neg h]; rfl
theorem unit_length (c : UInt8) (m : Bool) : (unit c m).length ≤ 3 := by
  unfold unit; split
  · simp
  · simp [hexOf]
theorem enc_length (l : List UInt8) : (enc l).length ≤ 3 * l.length := by
  induction l with
  | nil => simp [enc]
  | cons c r ih => have := unit_length c (!r.isEmpty); simp [enc]; omega

/-! At a place of a text. -/
theorem drop_at (s : ByteArray) (k : Nat) (h : k < s.size) : s.data.toList.drop k = s[k] :: s.data.toList.drop (k + 1) := by
  rw [List.drop_eq_getElem_cons (by simpa using h)]; rfl
theorem more_at (s : ByteArray) (k : Nat) : (!(s.data.toList.drop (k + 1)).isEmpty) = decide (k + 1 < s.size) := by
  by_cases h : k + 1 < s.size
  · have : (s.data.toList.drop (k + 1)).isEmpty = false := by
      rw [List.isEmpty_eq_false_iff]; intro e; have := congrArg List.length e; simp at this; omega
    rw [this]; simp [h]
  · have : s.data.toList.drop (k + 1) = [] := List.drop_eq_nil_of_le (by simp; omega)
    rw [this]; simp [h]
theorem enc_at (s : ByteArray) (k : Nat) (h : k < s.size) : enc (s.data.toList.drop k) = unit s[k] (decide (k + 1 < s.size)) ++ enc (s.data.toList.drop (k + 1)) := by
  rw [drop_at s k h, enc, more_at]
theorem drop_end (s : ByteArray) {k : Nat} (h : ¬ k < s.size) : s.data.toList.drop k = [] := List.drop_eq_nil_of_le (by simp; omega)
/-- The text of the one byte at a place. -/
theorem one_at (s : ByteArray) (k : Nat) (h : k < s.size) : (s.extract k (k + 1)).data.toList = [s[k]] := by
  rw [ByteArray.data_extract, Array.toList_extract, List.extract_eq_take_drop]
  have := drop_at s k h
  rw [this]; simp
end Go.Proofs.YtpdodknldhbbhaaGreatDoor.Qu

namespace Go.Proofs.YtpdodknldhbbhaaGreatDoor.Fig
open Go.RowKit

/-- What a digit counts; -1: it is none. -/
def hvI (x : Int) : Int := if 48 ≤ x ∧ x ≤ 57 then x - 48 else if 65 ≤ x ∧ x ≤ 70 then x - 55 else -1
theorem hvI_dec {x : Int} (h : 48 ≤ x ∧ x ≤ 57) : hvI x = x - 48 := by unfold hvI; rw [if_pos h]
theorem hvI_alpha {x : Int} (h : 65 ≤ x ∧ x ≤ 70) : hvI x = x - 55 := by unfold hvI; rw [if_neg (by omega), if_pos h]
theorem hvI_no {x : Int} (h : ¬ (48 ≤ x ∧ x ≤ 57)) (h' : ¬ (65 ≤ x ∧ x ≤ 70)) : hvI x = -1 := by unfold hvI; rw [if_neg h, if_neg h']
theorem hvI_bd (x : Int) : -1 ≤ hvI x ∧ hvI x ≤ 15 := by
  by_cases h : 48 ≤ x ∧ x ≤ 57
  · rw [hvI_dec h]; omega
  · by_cases h' : 65 ≤ x ∧ x ≤ 70
    · rw [hvI_alpha h']; omega
    · rw [hvI_no h h']; omega
def hv (c : UInt8) : Int := hvI (c.toNat : Int)
theorem hv_bd (c : UInt8) : -1 ≤ hv c ∧ hv c ≤ 15 := hvI_bd _

/-- The bytes that pairs of digits say. -/
def pairs : List UInt8 → List UInt8
  | a :: b :: r => UInt8.ofNat (16 * hv a + hv b).toNat :: pairs r
  | _ => []
/-- A text of digits as bytes, with its error. -/
def unhex (l : List UInt8) : List UInt8 × Nat :=
  if l.any (fun c => decide (hv c < 0)) then ([], 3) else if l.length % 2 = 1 then ([], 1) else (pairs l, 0)

theorem unhex_field {l : List UInt8} {k : Nat} (h : k < l.length) (hc : hv l[k] < 0) : unhex l = ([], 3) := by
  unfold unhex; rw [if_pos]
  rw [List.any_eq_true]; exact ⟨l[k], List.getElem_mem h, by simpa using hc⟩
theorem any_false {l : List UInt8} (h : ∀ i (hi : i < l.length), 0 ≤ hv l[i]) : l.any (fun c => decide (hv c < 0)) = false := by
  rw [List.any_eq_false]
  intro c hc
  obtain ⟨i, hi, rfl⟩ := List.mem_iff_getElem.1 hc
  have := h i hi
  simp; omega
theorem unhex_short {l : List UInt8} (h : ∀ i (hi : i < l.length), 0 ≤ hv l[i]) (ho : l.length % 2 = 1) : unhex l = ([], 1) := by
  unfold unhex; rw [any_false h, if_neg (by decide), if_pos ho]
theorem unhex_ok {l : List UInt8} (h : ∀ i (hi : i < l.length), 0 ≤ hv l[i]) (ho : l.length % 2 = 0) : unhex l = (pairs l, 0) := by
  unfold unhex; rw [any_false h, if_neg (by decide), if_neg (by omega)]

theorem pairs_even : ∀ (l : List UInt8) (a b : UInt8), l.length % 2 = 0 → pairs (l ++ [a, b]) = pairs l ++ [UInt8.ofNat (16 * hv a + hv b).toNat]
  | [], a, b, _ => rfl
  | [x], a, b, h => by simp at h
  | x :: y :: r, a, b, h => by
    have ih := pairs_even r a b (by simp at h; omega)
    show _ :: pairs (r ++ [a, b]) = _
    rw [ih]; rfl
theorem pairs_odd : ∀ (l : List UInt8) (a : UInt8), l.length % 2 = 0 → pairs (l ++ [a]) = pairs l
  | [], a, _ => rfl
  | [x], a, h => by simp at h
  | x :: y :: r, a, h => by
    have ih := pairs_odd r a (by simp at h; omega)
    show _ :: pairs (r ++ [a]) = _
    rw [ih]; rfl
theorem pairs_length : ∀ (l : List UInt8), (pairs l).length = l.length / 2
  | [] => rfl
  | [_] => by simp [pairs]
  | _ :: _ :: r => by
    have ih := pairs_length r
    simp [pairs, ih]; omega
theorem byte_of {x : Int} (h : 0 ≤ x ∧ x < 256) : ((UInt8.ofNat x.toNat).toNat : Int) = x := by
  simp; omega

theorem tk_snoc (s : ByteArray) (k : Nat) (h : k < s.size) : s.data.toList.take (k + 1) = s.data.toList.take k ++ [s[k]] := by
  rw [List.take_succ_eq_append_getElem (by simpa using h)]; rfl
theorem tk_len (s : ByteArray) (k : Nat) (h : k ≤ s.size) : (s.data.toList.take k).length = k := by
  rw [List.length_take]; simp; omega
theorem tk_pairs_odd (s : ByteArray) (k : Nat) (h : k < s.size) (he : k % 2 = 0) : pairs (s.data.toList.take (k + 1)) = pairs (s.data.toList.take k) := by
  rw [tk_snoc s k h, pairs_odd _ _ (by rw [tk_len s k (by omega)]; exact he)]
theorem tk_pairs_even (s : ByteArray) (k : Nat) (h : k + 1 < s.size) (he : k % 2 = 0) :
    pairs (s.data.toList.take (k + 2)) = pairs (s.data.toList.take k) ++ [UInt8.ofNat (16 * hv s[k] + hv s[k + 1]).toNat] := by
  rw [tk_snoc s (k + 1) h, tk_snoc s k (by omega), List.append_assoc]
  exact pairs_even _ _ _ (by rw [tk_len s k (by omega)]; exact he)

theorem or16 (a b : Int) (h0 : 0 ≤ a) (h1 : a < 16) (h2 : 0 ≤ b) (h3 : b < 16) : bits .or .u8 (a * 16) b = 16 * a + b := by
  obtain ⟨A, rfl⟩ := Int.eq_ofNat_of_zero_le h0
  obtain ⟨B, rfl⟩ := Int.eq_ofNat_of_zero_le h2
  have h := u8_or_nat (A * 16) B (by omega) (by omega)
  rw [show (((A * 16 : Nat)) : Int) = (A : Int) * 16 by omega] at h
  rw [h, Nat.mul_comm A 16, ← Nat.two_pow_add_eq_or_of_lt (i := 4) (by omega)]
  omega
theorem hvAll_data {s : ByteArray} (h : ∀ i (hi : i < s.size), 0 ≤ hv s[i]) : ∀ i (hi : i < s.data.toList.length), 0 ≤ hv s.data.toList[i] := fun i hi => h i (by simpa using hi)
theorem ux_field {s : ByteArray} {k : Nat} (h : k < s.size) (hc : hv s[k] < 0) : unhex s.data.toList = ([], 3) := unhex_field (k := k) (by simpa using h) hc
theorem ux_short {s : ByteArray} (h : ∀ i (hi : i < s.size), 0 ≤ hv s[i]) (ho : s.size % 2 = 1) : unhex s.data.toList = ([], 1) := unhex_short (hvAll_data h) (by simpa using ho)
theorem ux_ok {s : ByteArray} (h : ∀ i (hi : i < s.size), 0 ≤ hv s[i]) (ho : s.size % 2 = 0) : unhex s.data.toList = (pairs s.data.toList, 0) := unhex_ok (hvAll_data h) (by simpa using ho)
theorem retS {a : List UInt8} {b : Nat} {p : List UInt8 × Nat} (h : p = (a, b)) : Ending.returned (.tuple #[.string ⟨a.toArray⟩, .int .i64 (b : Int)]) = Ending.returned (.tuple #[.string ⟨p.1.toArray⟩, .int .i64 (p.2 : Int)]) := by rw [h]
end Go.Proofs.YtpdodknldhbbhaaGreatDoor.Fig

namespace Go.Proofs.YtpdodknldhbbhaaGreatDoor.Sx
open Go.RowKit

/-- A text in pieces of k bytes. -/
def cut (k : Nat) (l : List UInt8) : List (List UInt8) :=
  if _h : l = [] ∨ k = 0 then [] else l.take k :: cut k (l.drop k)
termination_by l.length
decreasing_by
  have : 0 < l.length := List.length_pos_iff.2 (fun e => _h (.inl e))
  rw [List.length_drop]; omega

theorem cut_nil (k : Nat) : cut k [] = [] := by rw [cut, dif_pos (.inl rfl)]
theorem cut_step {k : Nat} {l : List UInt8} (hk : 0 < k) (h : 0 < l.length) : cut k l = l.take k :: cut k (l.drop k) := by
  rw [cut, dif_neg]
  rintro (e | e)
  · subst e; simp at h
  · omega
theorem cut_induct {k : Nat} (hk : 0 < k) {P : List UInt8 → Prop} (h0 : P []) (h1 : ∀ l, 0 < l.length → P (l.drop k) → P l) : ∀ l, P l := by
  intro l
  obtain ⟨n, hn⟩ : ∃ n, l.length = n := ⟨_, rfl⟩
  induction n using Nat.strongRecOn generalizing l with
  | ind n ih =>
    by_cases h : 0 < l.length
    · exact h1 l h (ih _ (by rw [List.length_drop]; omega) _ rfl)
    · have : l = [] := List.eq_nil_of_length_eq_zero (by omega)
      subst this; exact h0
theorem cut_flat {k : Nat} (hk : 0 < k) : ∀ l, (cut k l).flatten = l :=
  cut_induct hk (by rw [cut_nil]; rfl) fun l h ih => by rw [cut_step hk h, List.flatten_cons, ih, List.take_append_drop]
theorem cut_length {k : Nat} (hk : 0 < k) : ∀ l, (cut k l).length ≤ l.length :=
  cut_induct hk (by rw [cut_nil]; exact Nat.le_refl _) fun l h ih => by
    rw [cut_step hk h, List.length_cons]; rw [List.length_drop] at ih; omega
/-- Each piece has a byte, and no more than k. -/
theorem cut_size {k : Nat} (hk : 0 < k) : ∀ l, ∀ x ∈ cut k l, 1 ≤ x.length ∧ x.length ≤ k :=
  cut_induct hk (by rw [cut_nil]; intro x hx; cases hx) fun l h ih => by
    rw [cut_step hk h]
    intro x hx
    rcases List.mem_cons.1 hx with rfl | hx
    · rw [List.length_take]; omega
    · exact ih x hx

/-- The width that counts. -/
def wid (n : Int) : Nat := if n < 1 then 1 else n.toNat
theorem wid_pos (n : Int) : 0 < wid n := by unfold wid; split <;> omega
theorem wid_max (n : Int) : max n 1 = (wid n : Int) := by unfold wid; split <;> omega

theorem ext_to (s : ByteArray) (n : Nat) : s.extract 0 n = ⟨(s.data.toList.take n).toArray⟩ := by
  apply ByteArray.ext
  rw [ByteArray.data_extract, ← Array.toList_inj, Array.toList_extract, List.extract_eq_take_drop]
  simp
theorem ext_from (s : ByteArray) (n : Nat) : (s.extract n s.size).data.toList = s.data.toList.drop n := by
  rw [ByteArray.data_extract, Array.toList_extract, List.extract_eq_take_drop, List.take_of_length_le]
  simp
theorem own_text {s : ByteArray} : s = ⟨s.data.toList.toArray⟩ := by cases s; simp
theorem list_size (s : ByteArray) : s.data.toList.length = s.size := by rw [Array.length_toList]; rfl
theorem ulen {u : List UInt8} {n : Nat} (h : u.length = n) : (⟨u.toArray⟩ : ByteArray).size = n := by
  show u.toArray.size = n
  simpa using h
theorem udata (u : List UInt8) : (⟨u.toArray⟩ : ByteArray).data.toList = u := rfl
end Go.Proofs.YtpdodknldhbbhaaGreatDoor.Sx

namespace Go.Proofs.YtpdodknldhbbhaaGreatDoor.Sx
open Go.RowKit

/-- The letters of 0 to 63. -/
def lts : List UInt8 := [65, 66, 67, 68, 69, 70, 71, 72, 73, 74, 75, 76, 77, 78, 79, 80, 81, 82, 83, 84, 85, 86, 87, 88, 89, 90, 97, 98, 99, 100, 101, 102, 103, 104, 105, 106, 107, 108, 109, 110, 111, 112, 113, 114, 115, 116, 117, 118, 119, 120, 121, 122, 48, 49, 50, 51, 52, 53, 54, 55, 56, 57, 43, 47]
def lt (n : Nat) : UInt8 := lts.getD n 0
end Go.Proofs.YtpdodknldhbbhaaGreatDoor.Sx

namespace Go.Proofs.YtpdodknldhbbhaaGreatDoor.Sx
open Go.RowKit

/-- The letters of three bytes (a missing one counts 0). -/
def four (l : List UInt8) : List UInt8 := [lt ((l.getD 0 0).toNat / 4), lt (((l.getD 0 0).toNat % 16 * 16 + (l.getD 1 0).toNat / 16) % 64), lt (((l.getD 1 0).toNat % 64 * 4 + (l.getD 2 0).toNat / 64) % 64), lt ((l.getD 2 0).toNat % 64)]
/-- The letters of a piece of one to three bytes. -/
def quad (l : List UInt8) : List UInt8 := (four l).take (l.length + 1) ++ List.replicate (3 - l.length) 61
/-- Bytes as letters. -/
def enc (l : List UInt8) : List UInt8 := ((cut 3 l).map quad).flatten
theorem quad_length {l : List UInt8} (h : 1 ≤ l.length ∧ l.length ≤ 3) : (quad l).length = 4 := by
  unfold quad four
  rw [List.length_append, List.length_take, List.length_replicate]
  simp only [List.length_cons, List.length_nil]
  omega
theorem quads_length {l : List (List UInt8)} (h : ∀ x ∈ l, 1 ≤ x.length ∧ x.length ≤ 3) : ((l.map quad).flatten).length = 4 * l.length := by
  induction l with
  | nil => rfl
  | cons x r ih =>
    rw [List.map_cons, List.flatten_cons, List.length_append, quad_length (h x (by simp)), ih (fun y hy => h y (by simp [hy])), List.length_cons]; omega
theorem enc_length (l : List UInt8) : (enc l).length = 4 * (cut 3 l).length := quads_length (cut_size (by decide) l)
end Go.Proofs.YtpdodknldhbbhaaGreatDoor.Sx

namespace Go.Proofs.YtpdodknldhbbhaaGreatDoor.Pp
open Go.RowKit

/-- Where byte c is in l from place a on, ahead of place z; z if nowhere. -/
def findN (l : List UInt8) (a z : Nat) (c : UInt8) : Nat := a + ((l.take z).drop a).idxOf c
theorem findN_ge {l : List UInt8} {a z : Nat} {c : UInt8} : a ≤ findN l a z c := by unfold findN; omega
end Go.Proofs.YtpdodknldhbbhaaGreatDoor.Pp
