/-
Texts joined in one file, each with its own conditions: Maps whose keys are pointers, of which nothing is asked but that they go on being such maps: what is looked up is some number. Conditions: the keys point at cells that are not frozen. · Rows of strings: those of a call's own, and those that came in; what they hold, and what leaves them as they are. No conditions of its own. · spans.fresh hands on numbers of members, whatever its map says. Conditions: the list has at most 2^40 members, whose cells are not frozen. · Names and values of properties in plain words, over lists of bytes. No program in it, no conditions. · The document's small questions about bytes, names and values: their answers are the plain functions'. No conditions. · Names and parameters' values, as the document says them: the answers are the plain functions'. No conditions. · A parameter, as the document asks it; a property's parameters as cells that lie in a row. No conditions. · Cards as plain data of some depth, and how they lie in memory. No conditions. · A property as a value, its cells, and what is wrong with it in plain words. No conditions.
-/
import Derived.Test.YtpdodknldhbbhaaGreatDoorRows
import Derived.WalkKit
import Derived.ProofKit
import Derived.LaidEqlPtr
import Derived.MapKept
import Derived.ChangeMaps3
import Derived.Deep.Draws
import Derived.Lib.Hide
import Derived.Test.YtpdodknldhbbhaaGreatDoorJ01
import Derived.Shelf.Abstract
import Derived.OwnWalkIn
import Derived.Maps.AppendAt
import Derived.OpenShut
import Derived.Lib.BufferRead
import Derived.LoopIn
import Derived.RegionTactic
import Derived.IntWalk
import Derived.Below
namespace Go.Proofs.YtpdodknldhbbhaaGreatDoor.Dp
set_option maxRecDepth 100000
set_option linter.unusedSimpArgs false
open Go.RowKit

/-- An address of cells, and not a frozen one. -/
structure Ka (w : World) (a : Addr) : Prop where
  c : ∃ cs t fr, w.heap[a.block]? = some (.cells cs t fr)
  f : w.frozen? a = false
theorem Ka.kept {w w' : World} {a : Addr} (h : Ka w a) (hb : w'.heap[a.block]? = w.heap[a.block]?) : Ka w' a := by
  obtain ⟨⟨cs, t, fr, hc⟩, hf⟩ := h
  refine ⟨⟨cs, t, fr, hb.trans hc⟩, ?_⟩
  unfold World.frozen? at hf ⊢
  rw [hb]; exact hf

section
variable {P : Program}
theorem str_any (w : World) (a : Addr) : ∃ s, (stringish a).run P w = .ok s w := by
  unfold stringish
  cases h1 : w.frozen? a
  · cases h2 : w.shape? a.block with
    | none => exact ⟨false, by simp [h1, h2, Result.andThen]⟩
    | some x => exact ⟨w.frozen? ⟨a.block, x.2, none⟩, by simp [h1, h2, Result.andThen]⟩
  · exact ⟨true, by simp [h1, Result.andThen]⟩
theorem may_any (w : World) (a b : Addr) : ∃ m, (mayBeOne a b).run P w = .ok m w := by
  obtain ⟨s, hs⟩ := str_any (P := P) w a
  obtain ⟨s', hs'⟩ := str_any (P := P) w b
  unfold mayBeOne
  simp only [Sem.run_bind, hs, hs', Result.andThen_ok]
  cases s <;> cases s' <;> simp [Result.andThen]
theorem noView_any {w : World} {a : Addr} (h : ∃ cs t fr, w.heap[a.block]? = some (.cells cs t fr)) : (noView a).run P w = .ok () w := by
  obtain ⟨cs, t, fr, h⟩ := h
  simp [noView, viewAt, World.shape?, h, Result.andThen]
theorem addr_any {w : World} {a b : Addr} (ha : Ka w a) (hb : Ka w b) : ∃ r q, (sameAddr a b).run P w = .ok r (w.drewN q) := by
  by_cases hbl : a.block = b.block
  · exact ⟨a == b, 0, by simp [sameAddr, hbl, World.drewN]⟩
  · obtain ⟨m, hm⟩ := may_any (P := P) w a b
    have h1 := noView_any (P := P) ha.c
    have h2 := noView_any (P := P) hb.c
    cases m
    · exact ⟨false, 0, by simp [sameAddr, hbl, ha.f, h1, h2, hm, Result.andThen, World.drewN]⟩
    · have e : (sameAddr a b).run P w = .ok ((Question.extern "sameAddr.stringBytes" 2).cut (w.tape w.drawn (.extern "sameAddr.stringBytes" 2)) == 1) w.drew := by
        simp [sameAddr, hbl, ha.f, h1, h2, hm, Result.andThen, Question.forced]
      exact ⟨_, 1, e⟩

/-- How a program's map of pointers is typed. -/
structure Pt (P : Program) (T K E N : TypeId) (j : TypeInfo) : Prop where
  t : P.underlying T = some (.map K N)
  k : P.underlying K = some (.pointer E)
  e : P.info? E = some j
  s : j.size ≠ 0
  z : ∀ w, (zeroValue N).run P w = .ok (.int .i64 0) w
theorem drew_drewN (w : World) (a b : Nat) : (w.drewN a).drewN b = w.drewN (a + b) := by simp [World.drewN, Nat.add_assoc]
theorem ka_drewN {w : World} {a : Addr} {q : Nat} (h : Ka w a) : Ka (w.drewN q) a := ⟨h.c, h.f⟩
section
variable {T K E N : TypeId} {j : TypeInfo} {Kb : Nat → Prop}
theorem equal_any (H : Pt P T K E N j) {w : World} {a b : Addr} (ha : Ka w a) (hb : Ka w b) : ∃ r q, (Op.equal K (.pointer (some a)) (.pointer (some b))).run P w = .ok r (w.drewN q) := by
  obtain ⟨r, q, h⟩ := addr_any (P := P) ha hb
  refine ⟨r, q, ?_⟩
  have hs := H.s
  have h1 : ∀ d : Nat, (Op.equalIn (d + 1) K (.pointer (some a)) (.pointer (some b))).run P w = .ok r (w.drewN q) := fun d => by
    simp [Op.equalIn, run_underlying H.k, sizeOf, typeInfo, H.e, hs, h]
  simp [Op.equal, Op.maxDepth, h1 9999]
/-- Entries of such a map. -/
def Ens (w : World) (Kb : Nat → Prop) (es : List MapEntry) : Prop := ∀ e ∈ es, (∃ a, e.key = .pointer (some a) ∧ Ka w a ∧ Kb a.block) ∧ ∃ n : Int, e.val = .int .i64 n ∧ 0 ≤ n ∧ n ≤ 1099511627776
theorem Ens.drewN {w : World} {Kb : Nat → Prop} {es : List MapEntry} {q : Nat} (h : Ens w Kb es) : Ens (w.drewN q) Kb es := fun e he => by
  obtain ⟨⟨a, h1, h2, h4⟩, h3⟩ := h e he
  exact ⟨⟨a, h1, ka_drewN h2, h4⟩, h3⟩
theorem asking_any (H : Pt P T K E N j) {a : Addr} : ∀ (es : List MapEntry) (i : Nat) (w : World), Ka w a → Ens w Kb es →
    ∃ q, (Instr.findAsking K (.pointer (some a)) es i).run P w = .ok none (w.drewN q) ∨ ∃ m e, (Instr.findAsking K (.pointer (some a)) es i).run P w = .ok (some (i + m, e.val)) (w.drewN q) ∧ es[m]? = some e
  | [], i, w, _, _ => ⟨0, .inl rfl⟩
  | x :: es, i, w, ha, hes => by
    obtain ⟨⟨b, hk, hb, _⟩, _⟩ := hes x (List.mem_cons_self ..)
    obtain ⟨r, q, hr⟩ := equal_any H ha hb
    rw [← hk] at hr
    cases r
    · obtain ⟨q2, h | ⟨m, e, h, hm⟩⟩ := asking_any H es (i + 1) (w.drewN q) (ka_drewN ha) (Ens.drewN (fun e he => hes e (List.mem_cons_of_mem _ he)))
      · exact ⟨q + q2, .inl (by unfold Instr.findAsking; simp [hr, h, drew_drewN, Result.andThen])⟩
      · exact ⟨q + q2, .inr ⟨m + 1, e, by unfold Instr.findAsking; simp [hr, h, drew_drewN, Result.andThen]; omega, by simpa using hm⟩⟩
    · exact ⟨q, .inr ⟨0, x, by unfold Instr.findAsking; simp [hr, Result.andThen], rfl⟩⟩
theorem find_any (H : Pt P T K E N j) {a : Addr} {es : List MapEntry} {w : World} (ha : Ka w a) (hes : Ens w Kb es) :
    ∃ q, (Instr.findKey K (.pointer (some a)) es).run P w = .ok none (w.drewN q) ∨ ∃ m e, (Instr.findKey K (.pointer (some a)) es).run P w = .ok (some (m, e.val)) (w.drewN q) ∧ es[m]? = some e := by
  cases es with
  | nil => exact ⟨0, .inl (by simp [Instr.findKey, run_underlying H.k, Instr.findNow, Result.andThen, World.drewN])⟩
  | cons x r =>
    have hn : Instr.findNow (.pointer E) (.pointer (some a)) (x :: r) 0 = none := by simp [Instr.findNow, Instr.sameNow]
    obtain ⟨q, h | ⟨m, e, h, hm⟩⟩ := asking_any H (x :: r) 0 w ha hes
    · exact ⟨q, .inl (by simp only [Instr.findKey, Sem.run_bind, run_underlying H.k, Result.andThen_ok, hn]; exact h)⟩
    · exact ⟨q, .inr ⟨m, e, by simp only [Instr.findKey, Sem.run_bind, run_underlying H.k, Result.andThen_ok, hn]; rw [Nat.zero_add] at h; exact h, hm⟩⟩
theorem check_any (H : Pt P T K E N j) (em : Bool) (a : Addr) (w : World) : (Instr.checkKey em 10000 K (.pointer (some a))).run P w = .ok () w := by
  rw [show (10000 : Nat) = 9999 + 1 from rfl]
  unfold Instr.checkKey
  simp [run_underlying H.k, Result.andThen]
/-- Block b is such a map. -/
def Pm (Kb : Nat → Prop) (w : World) (b : Nat) : Prop := ∃ es clock, w.heap[b]? = some (.map es clock) ∧ Ens w Kb es.toList
theorem Pm.lt {w : World} {b : Nat} (h : Pm Kb w b) : b < w.heap.size := by
  obtain ⟨es, cl, h, _⟩ := h
  exact (Array.getElem?_eq_some_iff.1 h).1
/-- 'm[p]': some number. -/
theorem Pm.look (H : Pt P T K E N j) {w : World} {b : Nat} {a : Addr} (h : Pm Kb w b) (ha : Ka w a) :
    ∃ (n : Int) (q : Nat), (Instr.lookup T (.map (some b)) (.pointer (some a)) false).run P w = .ok (.int .i64 n) (w.drewN q) ∧ 0 ≤ n ∧ n ≤ 1099511627776 := by
  obtain ⟨es, cl, hb, hes⟩ := h
  have hc := fun em => check_any H em a w
  obtain ⟨q, h | ⟨m, e, h, hm⟩⟩ := find_any H ha hes
  · exact ⟨0, q, by simp [Instr.lookup, run_underlying H.t, MapKept.run_getObj_map hb, hc, h, H.z, Result.andThen], by decide, by decide⟩
  · obtain ⟨_, n, hv, h0, h1⟩ := hes e (List.mem_of_getElem? hm)
    exact ⟨n, q, by simp [Instr.lookup, run_underlying H.t, MapKept.run_getObj_map hb, hc, h, hv, Result.andThen], h0, h1⟩
theorem stays_any (x a : Addr) (w : World) : ∃ k q, (Instr.keyThatStays (.pointer (some x)) (.pointer (some a))).run P w = .ok (.pointer (some k)) (w.drewN q) ∧ (k = x ∨ k = a) := by
  have hs : Instr.sameBits 10000 (.pointer (some x)) (.pointer (some a)) = ((some x : Option Addr) == some a) := by
    rw [show (10000 : Nat) = 9999 + 1 from rfl]; rfl
  cases hxa : ((some x : Option Addr) == some a)
  · by_cases hz : (Question.extern "map.whichKeyStays" 2).cut (w.tape w.drawn (.extern "map.whichKeyStays" 2)) = 0
    · exact ⟨a, 1, by simp [Instr.keyThatStays, hs, hxa, Result.andThen, Question.forced, hz]; rfl, .inr rfl⟩
    · exact ⟨x, 1, by simp [Instr.keyThatStays, hs, hxa, Result.andThen, Question.forced, hz]; rfl, .inl rfl⟩
  · exact ⟨a, 0, by simp [Instr.keyThatStays, hs, hxa, World.drewN], .inr rfl⟩
theorem set_block {w : World} {b q : Nat} {o o' : Obj} (hb : w.heap[b]? = some o) : w.grownBy { w.drewN q with heap := w.heap.setIfInBounds b o' } (some b) ∧ ({ w.drewN q with heap := w.heap.setIfInBounds b o' } : World).heap[b]? = some o' ∧ ({ w.drewN q with heap := w.heap.setIfInBounds b o' } : World).heap.size = w.heap.size := by
  have hbl := (Array.getElem?_eq_some_iff.1 hb).1
  refine ⟨⟨rfl, rfl, rfl, by simp, fun k hk hne => ?_⟩, ?_, by simp⟩
  · show (w.heap.setIfInBounds b o')[k]? = w.heap[k]?
    rw [Array.getElem?_setIfInBounds, if_neg (fun e => hne (by rw [e]))]
  · show (w.heap.setIfInBounds b o')[b]? = some o'
    rw [Array.getElem?_setIfInBounds, if_pos rfl, if_pos hbl]
theorem ka_set {w w' : World} {b : Nat} {es : Array MapEntry} {cl : Nat} (hb : w.heap[b]? = some (.map es cl)) (hg : w.grownBy w' (some b)) {a : Addr} (h : Ka w a) : Ka w' a := by
  obtain ⟨cs, t, fr, hc⟩ := h.c
  exact h.kept (hg.block a.block (Array.getElem?_eq_some_iff.1 hc).1 (fun e => by injection e with e; rw [e, hb] at hc; cases hc))
/-- 'm[p] = n'. -/
theorem Pm.store (H : Pt P T K E N j) {w : World} {b : Nat} {a : Addr} {n : Int} (h : Pm Kb w b) (ha : Ka w a) (hkb : Kb a.block) (h0 : 0 ≤ n) (h1 : n ≤ 1099511627776) :
    ∃ w', (Instr.mapUpdate T (.map (some b)) (.pointer (some a)) (.int .i64 n)).run P w = .ok () w' ∧ Pm Kb w' b ∧ w.grownBy w' (some b) ∧ w'.heap.size = w.heap.size := by
  obtain ⟨es, cl, hb, hes⟩ := h
  have hc := check_any H false a w
  obtain ⟨q, h | ⟨m, e, h, hm⟩⟩ := find_any H ha hes
  · have hb' : (w.drewN q).heap[b]? = some (.map es cl) := hb
    obtain ⟨hg, hn, hz⟩ := set_block (q := q) (o' := .map (es.push ⟨.pointer (some a), .int .i64 n, cl⟩) (cl + 1)) hb
    refine ⟨_, by simp [Instr.mapUpdate, run_underlying H.t, MapKept.run_getObj_map hb, hc, h, MapKept.run_setObj_map _ hb', Result.andThen], ⟨_, _, hn, fun x hx => ?_⟩, hg, hz⟩
    simp only [Array.toList_push, List.mem_append, List.mem_singleton] at hx
    rcases hx with hx | rfl
    · obtain ⟨⟨b2, k1, k2, k4⟩, k3⟩ := hes x hx
      exact ⟨⟨b2, k1, ka_set hb hg k2, k4⟩, k3⟩
    · exact ⟨⟨a, rfl, ka_set hb hg ha, hkb⟩, n, rfl, h0, h1⟩
  · obtain ⟨⟨x, hxk, hxa, hxb⟩, _⟩ := hes e (List.mem_of_getElem? hm)
    have hem : es[m]? = some e := by simpa using hm
    obtain ⟨k, q2, hst, hk⟩ := stays_any (P := P) x a (w.drewN q)
    have hka : Ka w k ∧ Kb k.block := by rcases hk with rfl | rfl <;> exact ⟨by assumption, by assumption⟩
    rw [drew_drewN] at hst
    have hb' : (w.drewN (q + q2)).heap[b]? = some (.map es cl) := hb
    obtain ⟨hg, hn, hz⟩ := set_block (q := q + q2) (o' := .map (es.modify m fun e => { e with key := .pointer (some k), val := .int .i64 n }) cl) hb
    refine ⟨_, by simp [Instr.mapUpdate, run_underlying H.t, MapKept.run_getObj_map hb, hc, h, hem, hxk, hst, MapKept.run_setObj_map _ hb', Result.andThen], ⟨_, _, hn, fun y hy => ?_⟩, hg, hz⟩
    rw [Array.toList_modify, ChangeMaps.modify_eq_set _ _ _ _ hm] at hy
    rcases List.mem_or_eq_of_mem_set hy with hy | rfl
    · obtain ⟨⟨b2, k1, k2, k4⟩, k3⟩ := hes y hy
      exact ⟨⟨b2, k1, ka_set hb hg k2, k4⟩, k3⟩
    · exact ⟨⟨k, rfl, ka_set hb hg hka.1, hka.2⟩, n, rfl, h0, h1⟩
theorem Pm.kept {w w' : World} {b : Nat} (h : Pm Kb w b) (hb : w'.heap[b]? = w.heap[b]?) (hk : ∀ k, Kb k → w'.heap[k]? = w.heap[k]?) : Pm Kb w' b := by
  obtain ⟨es, cl, h1, h2⟩ := h
  refine ⟨es, cl, hb.trans h1, fun e he => ?_⟩
  obtain ⟨⟨a, k1, k2, k4⟩, k3⟩ := h2 e he
  exact ⟨⟨a, k1, k2.kept (hk _ k4), k4⟩, k3⟩
theorem Pm.made (w : World) : Pm Kb (w.alloc (.map #[] 0)) w.heap.size := ⟨#[], 0, (MapKept.heap_alloc w _).1, fun e he => by simp at he⟩
end
end
end Go.Proofs.YtpdodknldhbbhaaGreatDoor.Dp

namespace Go.Proofs.YtpdodknldhbbhaaGreatDoor.Strs
open Go.RowKit Sq

theorem list_size (t : ByteArray) : t.data.toList.length = t.size := by rw [Array.length_toList]; rfl
theorem str_mk (t : ByteArray) : (⟨t.data.toList.toArray⟩ : ByteArray) = t := by apply ByteArray.ext; simp
theorem mk_list (l : List UInt8) : (⟨l.toArray⟩ : ByteArray).data.toList = l := by simp
theorem mk_size (l : List UInt8) : (⟨l.toArray⟩ : ByteArray).size = l.length := by rw [← list_size, mk_list]
theorem ext_to (t : ByteArray) (k : Nat) : t.extract 0 k = ⟨(t.data.toList.take k).toArray⟩ := by apply ByteArray.ext; rw [ByteArray.data_extract]; apply Array.ext'; simp
theorem ext_from (t : ByteArray) (k : Nat) : (t.extract k t.size).data.toList = t.data.toList.drop k := by
  rw [ByteArray.data_extract, Array.toList_extract, List.extract_eq_take_drop, List.take_of_length_le]
  rw [List.length_drop, list_size]; exact Nat.le_refl _
theorem str_full {t : ByteArray} (h : t.data.toList ≠ []) : (!t.toList.isEmpty) = true := by
  rw [ByteArray.toList_eq]; cases e : t.data.toList with | nil => exact absurd e h | cons a r => rfl
theorem str_none {t : ByteArray} (h : t.data.toList = []) : (!t.toList.isEmpty) = false := by rw [ByteArray.toList_eq, h]; rfl

def scells (l : List (List UInt8)) : List Value := l.map fun x => Value.string ⟨x.toArray⟩
theorem scells_length (l : List (List UInt8)) : (scells l).length = l.length := by simp [scells]
theorem scells_append (l r : List (List UInt8)) : scells (l ++ r) = scells l ++ scells r := by simp [scells]
theorem scells_snoc (l : List (List UInt8)) (x : List UInt8) : scells (l ++ [x]) = scells l ++ [.string ⟨x.toArray⟩] := by simp [scells]
/-- The slice v holds the texts l, in a row of the call's own (blocks from base on). -/
def Strs (w : World) (base : Nat) (v : Value) (l : List (List UInt8)) : Prop := w.ownsRow base 9 1 v l.length (scells l)
theorem infoStr : (Tryz.prog.info? 9).map (fun i => (i.zero, i.size, i.bytes)) = some (some (.string .empty), 1, 16) := by kernel_rfl

theorem Strs.nil (w : World) (base : Nat) : Strs w base (.slice none 0 0) [] := World.ownsRow_nil _ _ _ _
theorem ownsRow_low {w : World} {b b' n sz : Nat} {e : TypeId} {v : Value} {xs : List Value} (hb : b' ≤ b) (h : w.ownsRow b e sz v n xs) : w.ownsRow b' e sz v n xs := by
  obtain ⟨h0, h⟩ := h
  refine ⟨h0, ?_⟩
  rcases h with h | ⟨g, cap, cur, h1, h2, h3⟩
  · exact .inl h
  · exact .inr ⟨g, cap, cur, h1, by omega, h3⟩
theorem Strs.low {w : World} {b b' : Nat} {v : Value} {l : List (List UInt8)} (h : Strs w b v l) (hb : b' ≤ b) : Strs w b' v l := ownsRow_low hb h
theorem shape {w : World} {base n : Nat} {v : Value} {xs : List Value} (h : w.ownsRow base 9 1 v n xs) : ∃ a cap, v = .slice a n cap := by
  obtain ⟨_, ⟨rfl, rfl⟩ | ⟨g, cap, cur, rfl, _⟩⟩ := h
  · exact ⟨none, 0, rfl⟩
  · exact ⟨_, cap, rfl⟩
theorem below_put_p {B : Nat} {a w : World} (h : Below B a w) {D : Nat} {o : Obj} (hD : B ≤ D) (hk : w.heap[D]? = some o) (o' : Obj) : Below B a (w.putObj D o') :=
  h.grown (grownBy_putObj' w D o') (by have := (Array.getElem?_eq_some_iff.1 hk).1; omega) (fun k e => by cases e; exact hD)
theorem Strs.keep {w w' : World} {base : Nat} {v : Value} {l : List (List UInt8)} (h : Strs w base v l) (hb : Below w.heap.size w w') : Strs w' base v l :=
  (Stays.of_below (O := fun k => k < w.heap.size) hb (fun _ h => h)).row h (fun g e => (own_lt h g e).2)
theorem Strs.put {w : World} {base : Nat} {v : Value} {l : List (List UInt8)} (h : Strs w base v l) {D : Nat} {o : Obj} (o' : Obj) (hD : w.heap[D]? = some o) (ho : o.isCells = false) : Strs (w.putObj D o') base v l := ownsRow_putObj h o' hD ho
/-- Behind an append of one text. -/
theorem Strs.snoc {base : Nat} {l : List (List UInt8)} {x : List UInt8} {r : List (List UInt8)} (hr : r = l ++ [x]) {w' : World} {v' : Value} (hown : w'.ownsRow base 9 1 v' (l.length + 1) (scells l ++ [.string ⟨x.toArray⟩])) : Strs w' base v' r := by
  subst hr; unfold Strs; rw [scells_snoc, List.length_append]; exact hown
theorem Strs.below {a w w1 : World} {B : Nat} {v : Value} {l : List (List UInt8)} (h : Strs w B v l) (hb : Below B a w) (hB : B ≤ w.heap.size) (o : Obj) (hg : (w.alloc o).grownBy w1 v.ownBlock) : Below B a w1 :=
  (hb.alloc hB o).grown hg (by simp; omega) (fun k e => (World.ownsRow.lt h k e).1)

/-- A slice of texts, to be read: its texts lie behind its address. -/
def Reads (w : World) (v : Value) (l : List (List UInt8)) : Prop :=
  ∃ a cap, v = .slice a l.length cap ∧ l.length ≤ cap ∧ ∃ b o, (l ≠ [] → a = some ⟨b, o, none⟩ ∧ b < w.heap.size) ∧ ∀ i (hi : i < l.length), w.cell? ⟨b, o + i, none⟩ = some (.string ⟨l[i].toArray⟩)
theorem Reads.keep {w w' : World} {v : Value} {l : List (List UInt8)} (h : Reads w v l) {n : Nat} (hn : w.heap.size ≤ n) (hb : Below n w w') : Reads w' v l := by
  obtain ⟨a, cap, rfl, hc, b, o, h1, h2⟩ := h
  refine ⟨a, cap, rfl, hc, b, o, fun hl => ⟨(h1 hl).1, by have := (h1 hl).2; have := hb.size; omega⟩, fun i hi => ?_⟩
  have hb' := (h1 (fun e => by rw [e] at hi; simp at hi)).2
  exact (hb.cell (p := ⟨b, o + i, none⟩) (by show b < n; omega)).trans (h2 i hi)
theorem Reads.stays {O : Nat → Prop} {w w' : World} {v : Value} {l : List (List UInt8)} (h : Reads w v l) (hS : Stays O w w') (hv : ∀ g, v.ownBlock = some g → O g) : Reads w' v l := by
  obtain ⟨a, cap, rfl, hc, b, o, h1, h2⟩ := h
  refine ⟨a, cap, rfl, hc, b, o, fun hl => ⟨(h1 hl).1, by have := (h1 hl).2; have := hS.size; omega⟩, fun i hi => ?_⟩
  obtain ⟨rfl, hb'⟩ := h1 (fun e => by rw [e] at hi; simp at hi)
  exact (World.cell?_of_block (a := ⟨b, o + i, none⟩) (hS.block b (hv b rfl))).trans (h2 i hi)
theorem Reads.shape {w : World} {v : Value} {l : List (List UInt8)} (h : Reads w v l) : ∃ a cap, v = .slice a l.length cap := by obtain ⟨a, cap, rfl, _⟩ := h; exact ⟨a, cap, rfl⟩
/-- One text of a slice that is read. -/
theorem Reads.at_ {w : World} {a : Option Addr} {n cap : Nat} {l : List (List UInt8)} (h : Reads w (.slice a n cap) l) (i : Nat) (hi : i < l.length) : n = l.length ∧ ∃ b o, a = some ⟨b, o, none⟩ ∧ b < w.heap.size ∧ w.cell? ⟨b, o + i, none⟩ = some (.string ⟨l[i].toArray⟩) := by
  obtain ⟨a', cap', he, hc, b, o, h1, h2⟩ := h
  cases he
  obtain ⟨rfl, hb⟩ := h1 (fun e => by rw [e] at hi; simp at hi)
  exact ⟨rfl, b, o, rfl, hb, h2 i hi⟩
theorem Strs.reads {w : World} {base : Nat} {v : Value} {l : List (List UInt8)} (h : Strs w base v l) : Reads w v l := by
  obtain ⟨hl, ⟨rfl, h0⟩ | ⟨g, cap, cur, rfl, _, hg, h1, h2, _, ht⟩⟩ := h
  · have h0 := List.eq_nil_of_length_eq_zero h0
    subst h0
    exact ⟨none, 0, rfl, Nat.le_refl _, 0, 0, fun h => absurd rfl h, fun i hi => by simp at hi⟩
  · refine ⟨_, cap, rfl, h1, g, 0, fun _ => ⟨rfl, (Array.getElem?_eq_some_iff.1 hg).1⟩, fun i hi => ?_⟩
    have hn : (scells l)[i]? = some (.string ⟨l[i].toArray⟩) := by simp [scells, hi]
    rw [← ht] at hn
    have h2 := Lib.cells_of_row hg _ i _ hn
    rwa [Lib.addr_add] at h2
end Go.Proofs.YtpdodknldhbbhaaGreatDoor.Strs

namespace Go.Proofs.YtpdodknldhbbhaaGreatDoor.Dp
set_option maxRecDepth 100000
open Go.RowKit Sq
attribute [local go_sem] Oper.semAt_some

theorem zeroI (w : World) : (zeroValue 3).run Tryz.prog w = .ok (.int .i64 0) w := by kernel_rfl

theorem ptC : ∃ j, Pt Tryz.prog 99 75 24 3 j := by
  have h : (Tryz.prog.info? 24).map (fun i => decide (i.size ≠ 0)) = some true := by kernel_rfl
  obtain ⟨j, hj, hs⟩ := Option.map_eq_some_iff.1 h
  exact ⟨j, Tryz.underlying99, Tryz.underlying75, hj, of_decide_eq_true hs, zeroI⟩
theorem atC (i n c b o bl : Nat) (w : World) (hbl : w.cell? ⟨bl, 0, none⟩ = some (.slice (some ⟨b, o, none⟩) n c)) (hi : i < n) :
    Calls Tryz.prog 77 #[.int .i64 (i : Int), .pointer (some ⟨bl, 0, none⟩)] w fun e w' => e = .returned (.pointer (some ⟨b, o + i, none⟩)) ∧ w = w' := by
  have h0 : (0 : Int) ≤ (i : Int) := by omega
  have h1 : (i : Int) < (n : Int) := by omega
  go_enter Tryz.func77, Tryz.ntmps77
  go_wp2_with fail
  go_ret
  exact ⟨rfl, rfl⟩
theorem egC (args : Array Value) (w : World) : (callFunc 119 args).run Tryz.prog w = .ok (.enter 119 args) w := enters_of Tryz.func119 (by kernel_rfl) rfl args w
/-- spans.fresh: three boxes, and a closure over them. -/
theorem freshC (mb bl : Nat) (n : Int) (w : World) :
    Calls Tryz.prog 76 #[.map (some mb), .int .i64 n, .func (.func 77) #[] #[.pointer (some ⟨bl, 0, none⟩)]] w fun e w' =>
      e = .returned (.func (.func 119) #[] #[.pointer (some ⟨w.heap.size + 1, 0, none⟩), .pointer (some ⟨w.heap.size + 1 + 1, 0, none⟩), .pointer (some ⟨w.heap.size, 0, none⟩)]) ∧
      w' = ((w.alloc (.cells #[.map (some mb)] 99)).alloc (.cells #[.int .i64 n] 3)).alloc (.cells #[.func (.func 77) #[] #[.pointer (some ⟨bl, 0, none⟩)]] 103) := by
  go_enter Tryz.func76, Tryz.ntmps76
  go_wp2
  go_ret
  exact ⟨rfl, rfl⟩

/-- What the iterator reads. -/
structure RdC (w : World) (bc ba bs bl mb b o n c : Nat) : Prop where
  hc : Boxed w bc 3 (.int .i64 (n : Int))
  ha : Boxed w ba 103 (.func (.func 77) #[] #[.pointer (some ⟨bl, 0, none⟩)])
  hs : Boxed w bs 99 (.map (some mb))
  hl : 0 < n → Boxed w bl 49 (.slice (some ⟨b, o, none⟩) n c)
  hk : ∀ i, i < n → Ka w ⟨b, o + i, none⟩
theorem RdC.stays {R : Nat → Prop} {w w' : World} {bc ba bs bl mb b o n c : Nat} (h : RdC w bc ba bs bl mb b o n c) (hS : Stays R w w') (r1 : R bc) (r2 : R ba) (r3 : R bs) (r4 : R bl) (r5 : 0 < n → R b) : RdC w' bc ba bs bl mb b o n c :=
  ⟨hS.boxed r1 h.hc, hS.boxed r2 h.ha, hS.boxed r3 h.hs, fun hp => hS.boxed r4 (h.hl hp), fun i hi => (h.hk i hi).kept (hS.block b (r5 (by omega)))⟩

set_option maxHeartbeats 4000000 in
theorem smC (bc ba bs bl mb b o n c : Nat) (w : World) (hrd : RdC w bc ba bs bl mb b o n c) (hn : n ≤ 1099511627776) (R Kb : Nat → Prop) (hR : R bc ∧ R ba ∧ R bs ∧ R bl ∧ (0 < n → R b)) (hKR : ∀ k, Kb k → R k) (hkb : 0 < n → Kb b) (hmR : ¬ R mb) (hRw : ∀ k, R k → k < w.heap.size) :
    Sm.Sm Tryz.prog 119 #[.pointer (some ⟨bc, 0, none⟩), .pointer (some ⟨ba, 0, none⟩), .pointer (some ⟨bs, 0, none⟩)] (fun i : Nat => #[.int .i64 (i : Int)]) n (fun k => k = mb) R (fun W => Pm Kb W mb) w := by
  intro y J W hy hRW hT hJ hY hJ0
  obtain ⟨jj, hpt⟩ := ptC
  have HY := Lib.hid hY
  have HJ : Hid (∀ s, Sm.FootM (fun k => k = mb) W.heap.size (J s)) := Lib.hid hJ
  have HRD : Hid (∀ A, Stays R w A → RdC A bc ba bs bl mb b o n c) := Lib.hid (fun A hS => hrd.stays hS hR.1 hR.2.1 hR.2.2.1 hR.2.2.2.1 hR.2.2.2.2)
  have HL := Lib.hid (fun A (h : Pm Kb A mb) (hS : Stays R w A) i hi => h.look hpt (((HRD.out A hS).hk i hi)))
  have HST := Lib.hid (fun A (h : Pm Kb A mb) (hS : Stays R w A) i hi (z : Int) h0 h1 => h.store (n := z) hpt ((HRD.out A hS).hk i hi) (hkb (by omega)) h0 h1)
  have HAT := Lib.hid (fun A (hS : Stays R w A) i hi => atC i n c b o bl A ((HRD.out A hS).hl (by omega)).cell hi)
  have HRG : Hid (∀ A B, Stays R w A → A.grownBy B (some mb) → Stays R w B) := Lib.hid (fun A B hS hg => hS.grown hg (fun k hk => ⟨Nat.lt_of_lt_of_le (hRw k hk) hS.size, fun e => by injection e with e; exact hmR (e ▸ hk)⟩))
  have HJG : Hid (∀ s A B, J s (fun k => k = mb) A → A.grownBy B (some mb) → J s (fun k => k = mb) B) := Lib.hid (fun s A B h hg => hJ s (fun k => k = mb) (fun k => k = mb) A B h (fun k hk => .inl hk) ((Stays.refl _ _).grown hg (fun k hk => ⟨hk.1, fun e => hk.2 (by injection e)⟩)) (fun k hk => .inl hk))
  have HMR := Lib.hid (And.intro hmR (fun A B (h : Pm Kb A mb) (hS : Stays (fun k => k = mb ∨ R k) A B) => h.kept (hS.block mb (.inl rfl)) (fun k hk => hS.block k (.inr (hKR k hk)))))
  have hc0 := (HRD.out _ hRW).hc.cell
  have HRW := Lib.hid hRW
  have HT := Lib.hid hT
  clear hY hJ hrd hT hRW hpt hKR hkb hR hmR hRw
  refine (callsIn_wide (n := 5)).1 ?_
  refine callsIn_of_wp Tryz.func119 rfl trivial ?_ rfl
  simp only [Tryz.ntmps119, List.size_toArray, List.length_cons, List.length_nil, Nat.reduceAdd, Nat.reduceSub, Array.replicate_succ, Array.replicate_zero, List.push_toArray, List.append_toArray, List.nil_append, List.cons_append]
  rcases hy with ⟨l, rfl⟩ | ⟨g, ca, rfl, eg⟩
  all_goals
    gi_wp2_with fail
    clear hc0
    gi_loopw [5] (fun iv wr => ∃ (i s : Nat), iv = .int .i64 (i : Int) ∧ i ≤ 2199023255552 ∧ s ≤ i ∧ Hid (Stays R w wr) ∧ Hid (Pm Kb wr mb) ∧ Hid (W.heap.size ≤ wr.heap.size) ∧ Hid (J s (fun k => k = mb) wr)) (fun iv _ => n - (intOf iv).toNat)
    case atStart => exact ⟨0, 0, rfl, by omega, Nat.le_refl _, HRW, HT, Lib.hid (Nat.le_refl _), Lib.hid hJ0⟩
    case round =>
      obtain ⟨i, s, rfl, hi, hsi, hRr, hTr, hZr, hJr⟩ := hrel
      have hc0 := (HRD.out _ hRr.out).hc.cell
      have ha0 := (HRD.out _ hRr.out).ha.cell
      by_cases hlt : i < n
      · have hiz : (i : Int) < (n : Int) := by omega
        have hA := HAT.out wr hRr.out i hlt
        have hs0 := (HRD.out _ hRr.out).hs.cell
        obtain ⟨n0, q, hlook, hn0, hn1⟩ := HL.out wr hTr.out hRr.out i hlt
        have hSq : ∀ O : Nat → Prop, Stays O wr (wr.drewN q) := fun O => ⟨rfl, rfl, rfl, Nat.le_refl _, fun _ _ => rfl⟩
        have hRq := Lib.hid (hRr.out.trans (hSq R))
        have hTq := Lib.hid (HMR.out.2 _ _ hTr.out (hSq _))
        have hJq := Lib.hid (HJ.out s (fun k => k = mb) (fun k => k = mb) wr (wr.drewN q) hJr.out (fun k hk => .inl hk) (hSq _) (fun k hk => .inl hk))
        have hZq := Lib.hid (show W.heap.size ≤ (wr.drewN q).heap.size from hZr.out)
        have hcq := (HRD.out _ hRq.out).hc.cell
        have hsq := (HRD.out _ hRq.out).hs.cell
        have hw1 : IntKind.i64.wrap ((n : Int) - (i : Int)) = (n : Int) - (i : Int) := IntWalk.i64_in _ (by omega)
        clear hSq hRr hTr hZr hJr
        by_cases hz : n0 = 0
        · subst hz
          have T := HY.out s i (fun k => k = mb) _ hsi hlt hJq.out hTq.out hRq.out (fun k hk => ⟨.inl hk, by rw [hk]; exact hTq.out.lt⟩) (fun k hk => hk) hZq.out
          first | (obtain ⟨fn, tmps, assign, body, hy, hR⟩ := T.loop 4) | (have hR := (callsIn_wide (n := 4)).2 T.named)
          clear T
          gi_wp2_with (refine ⟨trivial, ?_⟩; gi_at_call 77; refine (callsIn_wide.2 hA).mono ?_; rintro e w1 ⟨rfl, rfl⟩)
          first | refine hR.mono ?_ | refine ⟨trivial, hR.mono ?_⟩
          rintro e W3 ⟨hS3, rfl, hJ3⟩
          have hR3 := hRq.out.trans (hS3.mono fun k hk => .inr hk)
          have hT3 := HMR.out.2 _ _ hTq.out hS3
          have hZ3 : W.heap.size ≤ W3.heap.size := Nat.le_trans hZq.out hS3.size
          obtain ⟨w4, hst, hT4, hg4, hz4⟩ := HST.out W3 hT3 hR3 i hlt ((n : Int) - (i : Int)) (by omega) (by omega)
          have hR4 := Lib.hid (HRG.out _ _ hR3 hg4)
          have hT4 := Lib.hid hT4
          have hJ4 := Lib.hid (HJG.out _ _ _ hJ3 hg4)
          have hZ4 : Hid (W.heap.size ≤ w4.heap.size) := Lib.hid (by omega)
          have hc3 := (HRD.out _ hR3).hc.cell
          have hs3 := (HRD.out _ hR3).hs.cell
          clear hR hT3 hR3 hZ3 hg4 hz4 hJ3 hS3 hA hRq hTq hJq hZq hc0 ha0 hs0 hcq hsq hlook
          try clear hy
          gi_wp2_with fail
          go_roundw
          case rel => exact ⟨i + 1, i + 1, by go_num, by omega, Nat.le_refl _, hR4, hT4, hZ4, hJ4⟩
          case measure => simp [intOf]; omega
        · have hzb : (n0 == 0) = false := by simpa using hz
          obtain ⟨w4, hst, hT4, hg4, hz4⟩ := HST.out _ hTq.out hRq.out i hlt ((n : Int) - (i : Int)) (by omega) (by omega)
          have hR4 := Lib.hid (HRG.out _ _ hRq.out hg4)
          have hT4 := Lib.hid hT4
          have hJ4 := Lib.hid (HJG.out _ _ _ hJq.out hg4)
          have hZ4 : Hid (W.heap.size ≤ w4.heap.size) := Lib.hid (by have := hZq.out; omega)
          obtain ⟨m0, rfl⟩ : ∃ m0 : Nat, n0 = (m0 : Int) := ⟨n0.toNat, by omega⟩
          have hmx : max (m0 : Int) 1 = (m0 : Int) := by omega
          have hm1 : ¬ (m0 : Int) < 1 := by omega
          have hw2 : IntKind.i64.wrap ((i : Int) + (m0 : Int)) = (i : Int) + (m0 : Int) := IntWalk.i64_in _ (by omega)
          have hmp : 0 < m0 := by omega
          clear hg4 hz4 hRq hTq hJq hZq hn0
          gi_wp2_with (refine ⟨trivial, ?_⟩; gi_at_call 77; refine (callsIn_wide.2 hA).mono ?_; rintro e w1 ⟨rfl, rfl⟩)
          refine ⟨fun _ h => (by cases h), ?_⟩
          gi_wp2_with fail
          go_roundw
          case rel => exact ⟨i + m0, s, by go_num, by omega, by omega, hR4, hT4, hZ4, hJ4⟩
          case measure => simp [intOf]; omega
      · have hiz : ¬ (i : Int) < (n : Int) := by omega
        have HP := Lib.hid (And.intro hRr.out (And.intro hTr.out (And.intro hZr.out hJr.out)))
        gi_wp2_with fail
        go_end0
        exact ⟨⟨_, rfl⟩, HP.out.1, HP.out.2.1, s, (fun k => k = mb), fun k hk => .inl hk, by first | exact fun k hk => hk | rfl, HP.out.2.2.2⟩

theorem ptP : ∃ j, Pt Tryz.prog 101 105 53 3 j := by
  have h : (Tryz.prog.info? 53).map (fun i => decide (i.size ≠ 0)) = some true := by kernel_rfl
  obtain ⟨j, hj, hs⟩ := Option.map_eq_some_iff.1 h
  exact ⟨j, Tryz.underlying101, Tryz.underlying105, hj, of_decide_eq_true hs, zeroI⟩
theorem atP (i n c b o bl : Nat) (w : World) (hbl : w.cell? ⟨bl, 0, none⟩ = some (.slice (some ⟨b, o, none⟩) n c)) (hi : i < n) :
    Calls Tryz.prog 79 #[.int .i64 (i : Int), .pointer (some ⟨bl, 0, none⟩)] w fun e w' => e = .returned (.pointer (some ⟨b, o + i * 5, none⟩)) ∧ w = w' := by
  have h0 : (0 : Int) ≤ (i : Int) := by omega
  have h1 : (i : Int) < (n : Int) := by omega
  go_enter Tryz.func79, Tryz.ntmps79
  go_wp2_with fail
  go_ret
  exact ⟨rfl, rfl⟩
theorem egP (args : Array Value) (w : World) : (callFunc 120 args).run Tryz.prog w = .ok (.enter 120 args) w := enters_of Tryz.func120 (by kernel_rfl) rfl args w
/-- spans.fresh: three boxes, and a closure over them. -/
theorem freshP (mb bl : Nat) (n : Int) (w : World) :
    Calls Tryz.prog 78 #[.map (some mb), .int .i64 n, .func (.func 79) #[] #[.pointer (some ⟨bl, 0, none⟩)]] w fun e w' =>
      e = .returned (.func (.func 120) #[] #[.pointer (some ⟨w.heap.size + 1, 0, none⟩), .pointer (some ⟨w.heap.size + 1 + 1, 0, none⟩), .pointer (some ⟨w.heap.size, 0, none⟩)]) ∧
      w' = ((w.alloc (.cells #[.map (some mb)] 101)).alloc (.cells #[.int .i64 n] 3)).alloc (.cells #[.func (.func 79) #[] #[.pointer (some ⟨bl, 0, none⟩)]] 106) := by
  go_enter Tryz.func78, Tryz.ntmps78
  go_wp2
  go_ret
  exact ⟨rfl, rfl⟩

/-- What the iterator reads. -/
structure RdP (w : World) (bc ba bs bl mb b o n c : Nat) : Prop where
  hc : Boxed w bc 3 (.int .i64 (n : Int))
  ha : Boxed w ba 106 (.func (.func 79) #[] #[.pointer (some ⟨bl, 0, none⟩)])
  hs : Boxed w bs 101 (.map (some mb))
  hl : 0 < n → Boxed w bl 22 (.slice (some ⟨b, o, none⟩) n c)
  hk : ∀ i, i < n → Ka w ⟨b, o + i * 5, none⟩
theorem RdP.stays {R : Nat → Prop} {w w' : World} {bc ba bs bl mb b o n c : Nat} (h : RdP w bc ba bs bl mb b o n c) (hS : Stays R w w') (r1 : R bc) (r2 : R ba) (r3 : R bs) (r4 : R bl) (r5 : 0 < n → R b) : RdP w' bc ba bs bl mb b o n c :=
  ⟨hS.boxed r1 h.hc, hS.boxed r2 h.ha, hS.boxed r3 h.hs, fun hp => hS.boxed r4 (h.hl hp), fun i hi => (h.hk i hi).kept (hS.block b (r5 (by omega)))⟩

set_option maxHeartbeats 4000000 in
theorem smP (bc ba bs bl mb b o n c : Nat) (w : World) (hrd : RdP w bc ba bs bl mb b o n c) (hn : n ≤ 1099511627776) (R Kb : Nat → Prop) (hR : R bc ∧ R ba ∧ R bs ∧ R bl ∧ (0 < n → R b)) (hKR : ∀ k, Kb k → R k) (hkb : 0 < n → Kb b) (hmR : ¬ R mb) (hRw : ∀ k, R k → k < w.heap.size) :
    Sm.Sm Tryz.prog 120 #[.pointer (some ⟨bc, 0, none⟩), .pointer (some ⟨ba, 0, none⟩), .pointer (some ⟨bs, 0, none⟩)] (fun i : Nat => #[.int .i64 (i : Int)]) n (fun k => k = mb) R (fun W => Pm Kb W mb) w := by
  intro y J W hy hRW hT hJ hY hJ0
  obtain ⟨jj, hpt⟩ := ptP
  have HY := Lib.hid hY
  have HJ : Hid (∀ s, Sm.FootM (fun k => k = mb) W.heap.size (J s)) := Lib.hid hJ
  have HRD : Hid (∀ A, Stays R w A → RdP A bc ba bs bl mb b o n c) := Lib.hid (fun A hS => hrd.stays hS hR.1 hR.2.1 hR.2.2.1 hR.2.2.2.1 hR.2.2.2.2)
  have HL := Lib.hid (fun A (h : Pm Kb A mb) (hS : Stays R w A) i hi => h.look hpt (((HRD.out A hS).hk i hi)))
  have HST := Lib.hid (fun A (h : Pm Kb A mb) (hS : Stays R w A) i hi (z : Int) h0 h1 => h.store (n := z) hpt ((HRD.out A hS).hk i hi) (hkb (by omega)) h0 h1)
  have HAT := Lib.hid (fun A (hS : Stays R w A) i hi => atP i n c b o bl A ((HRD.out A hS).hl (by omega)).cell hi)
  have HRG : Hid (∀ A B, Stays R w A → A.grownBy B (some mb) → Stays R w B) := Lib.hid (fun A B hS hg => hS.grown hg (fun k hk => ⟨Nat.lt_of_lt_of_le (hRw k hk) hS.size, fun e => by injection e with e; exact hmR (e ▸ hk)⟩))
  have HJG : Hid (∀ s A B, J s (fun k => k = mb) A → A.grownBy B (some mb) → J s (fun k => k = mb) B) := Lib.hid (fun s A B h hg => hJ s (fun k => k = mb) (fun k => k = mb) A B h (fun k hk => .inl hk) ((Stays.refl _ _).grown hg (fun k hk => ⟨hk.1, fun e => hk.2 (by injection e)⟩)) (fun k hk => .inl hk))
  have HMR := Lib.hid (And.intro hmR (fun A B (h : Pm Kb A mb) (hS : Stays (fun k => k = mb ∨ R k) A B) => h.kept (hS.block mb (.inl rfl)) (fun k hk => hS.block k (.inr (hKR k hk)))))
  have hc0 := (HRD.out _ hRW).hc.cell
  have HRW := Lib.hid hRW
  have HT := Lib.hid hT
  clear hY hJ hrd hT hRW hpt hKR hkb hR hmR hRw
  refine (callsIn_wide (n := 5)).1 ?_
  refine callsIn_of_wp Tryz.func120 rfl trivial ?_ rfl
  simp only [Tryz.ntmps120, List.size_toArray, List.length_cons, List.length_nil, Nat.reduceAdd, Nat.reduceSub, Array.replicate_succ, Array.replicate_zero, List.push_toArray, List.append_toArray, List.nil_append, List.cons_append]
  rcases hy with ⟨l, rfl⟩ | ⟨g, ca, rfl, eg⟩
  all_goals
    gi_wp2_with fail
    clear hc0
    gi_loopw [5] (fun iv wr => ∃ (i s : Nat), iv = .int .i64 (i : Int) ∧ i ≤ 2199023255552 ∧ s ≤ i ∧ Hid (Stays R w wr) ∧ Hid (Pm Kb wr mb) ∧ Hid (W.heap.size ≤ wr.heap.size) ∧ Hid (J s (fun k => k = mb) wr)) (fun iv _ => n - (intOf iv).toNat)
    case atStart => exact ⟨0, 0, rfl, by omega, Nat.le_refl _, HRW, HT, Lib.hid (Nat.le_refl _), Lib.hid hJ0⟩
    case round =>
      obtain ⟨i, s, rfl, hi, hsi, hRr, hTr, hZr, hJr⟩ := hrel
      have hc0 := (HRD.out _ hRr.out).hc.cell
      have ha0 := (HRD.out _ hRr.out).ha.cell
      by_cases hlt : i < n
      · have hiz : (i : Int) < (n : Int) := by omega
        have hA := HAT.out wr hRr.out i hlt
        have hs0 := (HRD.out _ hRr.out).hs.cell
        obtain ⟨n0, q, hlook, hn0, hn1⟩ := HL.out wr hTr.out hRr.out i hlt
        have hSq : ∀ O : Nat → Prop, Stays O wr (wr.drewN q) := fun O => ⟨rfl, rfl, rfl, Nat.le_refl _, fun _ _ => rfl⟩
        have hRq := Lib.hid (hRr.out.trans (hSq R))
        have hTq := Lib.hid (HMR.out.2 _ _ hTr.out (hSq _))
        have hJq := Lib.hid (HJ.out s (fun k => k = mb) (fun k => k = mb) wr (wr.drewN q) hJr.out (fun k hk => .inl hk) (hSq _) (fun k hk => .inl hk))
        have hZq := Lib.hid (show W.heap.size ≤ (wr.drewN q).heap.size from hZr.out)
        have hcq := (HRD.out _ hRq.out).hc.cell
        have hsq := (HRD.out _ hRq.out).hs.cell
        have hw1 : IntKind.i64.wrap ((n : Int) - (i : Int)) = (n : Int) - (i : Int) := IntWalk.i64_in _ (by omega)
        clear hSq hRr hTr hZr hJr
        by_cases hz : n0 = 0
        · subst hz
          have T := HY.out s i (fun k => k = mb) _ hsi hlt hJq.out hTq.out hRq.out (fun k hk => ⟨.inl hk, by rw [hk]; exact hTq.out.lt⟩) (fun k hk => hk) hZq.out
          first | (obtain ⟨fn, tmps, assign, body, hy, hR⟩ := T.loop 4) | (have hR := (callsIn_wide (n := 4)).2 T.named)
          clear T
          gi_wp2_with (refine ⟨trivial, ?_⟩; gi_at_call 79; refine (callsIn_wide.2 hA).mono ?_; rintro e w1 ⟨rfl, rfl⟩)
          first | refine hR.mono ?_ | refine ⟨trivial, hR.mono ?_⟩
          rintro e W3 ⟨hS3, rfl, hJ3⟩
          have hR3 := hRq.out.trans (hS3.mono fun k hk => .inr hk)
          have hT3 := HMR.out.2 _ _ hTq.out hS3
          have hZ3 : W.heap.size ≤ W3.heap.size := Nat.le_trans hZq.out hS3.size
          obtain ⟨w4, hst, hT4, hg4, hz4⟩ := HST.out W3 hT3 hR3 i hlt ((n : Int) - (i : Int)) (by omega) (by omega)
          have hR4 := Lib.hid (HRG.out _ _ hR3 hg4)
          have hT4 := Lib.hid hT4
          have hJ4 := Lib.hid (HJG.out _ _ _ hJ3 hg4)
          have hZ4 : Hid (W.heap.size ≤ w4.heap.size) := Lib.hid (by omega)
          have hc3 := (HRD.out _ hR3).hc.cell
          have hs3 := (HRD.out _ hR3).hs.cell
          clear hR hT3 hR3 hZ3 hg4 hz4 hJ3 hS3 hA hRq hTq hJq hZq hc0 ha0 hs0 hcq hsq hlook
          try clear hy
          gi_wp2_with fail
          go_roundw
          case rel => exact ⟨i + 1, i + 1, by go_num, by omega, Nat.le_refl _, hR4, hT4, hZ4, hJ4⟩
          case measure => simp [intOf]; omega
        · have hzb : (n0 == 0) = false := by simpa using hz
          obtain ⟨w4, hst, hT4, hg4, hz4⟩ := HST.out _ hTq.out hRq.out i hlt ((n : Int) - (i : Int)) (by omega) (by omega)
          have hR4 := Lib.hid (HRG.out _ _ hRq.out hg4)
          have hT4 := Lib.hid hT4
          have hJ4 := Lib.hid (HJG.out _ _ _ hJq.out hg4)
          have hZ4 : Hid (W.heap.size ≤ w4.heap.size) := Lib.hid (by have := hZq.out; omega)
          obtain ⟨m0, rfl⟩ : ∃ m0 : Nat, n0 = (m0 : Int) := ⟨n0.toNat, by omega⟩
          have hmx : max (m0 : Int) 1 = (m0 : Int) := by omega
          have hm1 : ¬ (m0 : Int) < 1 := by omega
          have hw2 : IntKind.i64.wrap ((i : Int) + (m0 : Int)) = (i : Int) + (m0 : Int) := IntWalk.i64_in _ (by omega)
          have hmp : 0 < m0 := by omega
          clear hg4 hz4 hRq hTq hJq hZq hn0
          gi_wp2_with (refine ⟨trivial, ?_⟩; gi_at_call 79; refine (callsIn_wide.2 hA).mono ?_; rintro e w1 ⟨rfl, rfl⟩)
          refine ⟨fun _ h => (by cases h), ?_⟩
          gi_wp2_with fail
          go_roundw
          case rel => exact ⟨i + m0, s, by go_num, by omega, by omega, hR4, hT4, hZ4, hJ4⟩
          case measure => simp [intOf]; omega
      · have hiz : ¬ (i : Int) < (n : Int) := by omega
        have HP := Lib.hid (And.intro hRr.out (And.intro hTr.out (And.intro hZr.out hJr.out)))
        gi_wp2_with fail
        go_end0
        exact ⟨⟨_, rfl⟩, HP.out.1, HP.out.2.1, s, (fun k => k = mb), fun k hk => .inl hk, by first | exact fun k hk => hk | rfl, HP.out.2.2.2⟩
end Go.Proofs.YtpdodknldhbbhaaGreatDoor.Dp

namespace Go.Proofs.YtpdodknldhbbhaaGreatDoor.Pp

theorem list_size (s : ByteArray) : s.data.toList.length = s.size := by rw [Array.length_toList]; rfl
/-- A capital. -/
def lett (c : UInt8) : Bool := decide (65 ≤ (c.toNat : Int) ∧ (c.toNat : Int) ≤ 90)
/-- A byte of a name. -/
def nmc (c : UInt8) : Bool := lett c || decide (48 ≤ (c.toNat : Int) ∧ (c.toNat : Int) ≤ 57) || decide ((c.toNat : Int) = 45)
/-- A byte of a parameter's value. -/
def valc (c : UInt8) : Bool := decide (33 ≤ (c.toNat : Int) ∧ (c.toNat : Int) ≤ 126 ∧ ¬ (c.toNat : Int) = 59 ∧ ¬ (c.toNat : Int) = 58 ∧ ¬ (c.toNat : Int) = 61)
/-- A byte that no value of a property has. -/
def oddb (c : UInt8) : Bool := decide ((c.toNat : Int) = 0 ∨ (c.toNat : Int) = 10 ∨ (c.toNat : Int) = 13)
def nameL (l : List UInt8) : Bool := match l with | [] => false | c :: r => decide ((c :: r).length ≤ 32) && lett c && (c :: r).all nmc
def valL (l : List UInt8) : Bool := match l with | [] => false | c :: r => decide ((c :: r).length ≤ 32) && (c :: r).all valc
def nameB (s : ByteArray) : Bool := nameL s.data.toList
def valB (s : ByteArray) : Bool := valL s.data.toList
def paramB (n v : ByteArray) : Bool := (decide (n.size = 0) || nameB n) && valB v

theorem str_none {t : ByteArray} (h : t.size = 0) : t.toList.isEmpty = true := by
  rw [ByteArray.toList_eq, List.isEmpty_iff]; exact List.eq_nil_of_length_eq_zero (by rw [list_size, h])
theorem str_some {t : ByteArray} (h : ¬ t.size = 0) : t.toList.isEmpty = false := by
  rw [ByteArray.toList_eq]; cases e : t.data.toList with
  | nil => have := list_size t; rw [e] at this; simp at this; omega
  | cons a r => rfl

theorem all_no {P : UInt8 → Bool} {s : ByteArray} {k : Nat} (h : k < s.size) (hp : P s[k] = false) : (s.data.toList.drop k).all P = false := by
  rw [List.drop_eq_getElem_cons (by rw [list_size]; exact h), List.all_cons]
  have : s.data.toList[k]'(by rw [list_size]; exact h) = s[k] := by simp; rfl
  rw [this, hp]; rfl
theorem all_yes {P : UInt8 → Bool} {s : ByteArray} {k : Nat} (h : k < s.size) (hp : P s[k] = true) : (s.data.toList.drop k).all P = (s.data.toList.drop (k + 1)).all P := by
  rw [List.drop_eq_getElem_cons (by rw [list_size]; exact h), List.all_cons]
  have : s.data.toList[k]'(by rw [list_size]; exact h) = s[k] := by simp; rfl
  rw [this, hp]; rfl
theorem all_end {P : UInt8 → Bool} {s : ByteArray} : (s.data.toList.drop s.size).all P = true := by
  rw [List.drop_eq_nil_of_le (by rw [list_size]; exact Nat.le_refl _)]; rfl

theorem nameB_none {s : ByteArray} (h : s.size = 0) : nameB s = false := by
  unfold nameB; rw [List.eq_nil_of_length_eq_zero (l := s.data.toList) (by rw [list_size, h])]; rfl
theorem nameB_long {s : ByteArray} (h : ¬ s.size ≤ 32) : nameB s = false := by
  unfold nameB nameL; rw [← list_size] at h
  cases e : s.data.toList with
  | nil => rfl
  | cons a r => rw [e] at h; simp only; rw [decide_eq_false h]; rfl
theorem nameB_some {s : ByteArray} (h : 0 < s.size) (h' : s.size ≤ 32) : nameB s = (lett s[0] && s.data.toList.all nmc) := by
  unfold nameB nameL
  have h0 : s.data.toList[0]'(by rw [list_size]; exact h) = s[0] := by simp; rfl
  have hl := list_size s
  cases e : s.data.toList with
  | nil => rw [e] at hl; simp at hl; omega
  | cons a r =>
    simp only [e, List.getElem_cons_zero] at h0
    rw [e] at hl
    simp only
    rw [decide_eq_true (by rw [hl]; exact h'), h0, Bool.true_and]
theorem valB_none {s : ByteArray} (h : s.size = 0) : valB s = false := by
  unfold valB; rw [List.eq_nil_of_length_eq_zero (l := s.data.toList) (by rw [list_size, h])]; rfl
theorem valB_long {s : ByteArray} (h : ¬ s.size ≤ 32) : valB s = false := by
  unfold valB valL; rw [← list_size] at h
  cases e : s.data.toList with
  | nil => rfl
  | cons a r => rw [e] at h; simp only; rw [decide_eq_false h]; rfl
theorem valB_some {s : ByteArray} (h : 0 < s.size) (h' : s.size ≤ 32) : valB s = s.data.toList.all valc := by
  unfold valB valL
  have hl := list_size s
  cases e : s.data.toList with
  | nil => rw [e] at hl; simp at hl; omega
  | cons a r =>
    rw [e] at hl
    simp only
    rw [decide_eq_true (by rw [hl]; exact h'), Bool.true_and]
end Go.Proofs.YtpdodknldhbbhaaGreatDoor.Pp

namespace Go.Proofs.YtpdodknldhbbhaaGreatDoor.Pp
open Go.RowKit

theorem ret_bool {a b : Bool} (h : a = b) : Ending.returned (.bool a) = .returned (.bool b) := by rw [h]

end Go.Proofs.YtpdodknldhbbhaaGreatDoor.Pp

namespace Go.Proofs.YtpdodknldhbbhaaGreatDoor.Pp
open Go.RowKit

end Go.Proofs.YtpdodknldhbbhaaGreatDoor.Pp

namespace Go.Proofs.YtpdodknldhbbhaaGreatDoor.Pp
open Go.RowKit

/-- The slice v, whose block lies below B, holds the parameters ps. -/
def Ps (w : World) (B : Nat) (v : Value) (ps : List (ByteArray × ByteArray)) : Prop :=
  (ps = [] ∧ (v = .slice none 0 0 ∨ ∃ ad cap, v = .slice (some ad) 0 cap)) ∨ ∃ b o cap, v = .slice (some ⟨b, o, none⟩) ps.length cap ∧ b < B ∧ ∀ i, (h : i < ps.length) → w.cell? ⟨b, o + i * 2, none⟩ = some (.string ps[i].1) ∧ w.cell? ⟨b, o + i * 2 + 1, none⟩ = some (.string ps[i].2)
theorem Ps.below {w w' : World} {B : Nat} {v : Value} {ps : List (ByteArray × ByteArray)} (h : Ps w B v ps) (hb : Below B w w') : Ps w' B v ps := by
  rcases h with h | ⟨b, o, cap, h1, h2, h3⟩
  · exact .inl h
  · exact .inr ⟨b, o, cap, h1, h2, fun i hi => ⟨(hb.cell (p := ⟨b, o + i * 2, none⟩) h2).trans (h3 i hi).1, (hb.cell (p := ⟨b, o + i * 2 + 1, none⟩) h2).trans (h3 i hi).2⟩⟩
theorem Ps.up {w : World} {B B' : Nat} {v : Value} {ps : List (ByteArray × ByteArray)} (h : Ps w B v ps) (hb : B ≤ B') : Ps w B' v ps := by
  rcases h with h | ⟨b, o, cap, h1, h2, h3⟩
  · exact .inl h
  · exact .inr ⟨b, o, cap, h1, Nat.lt_of_lt_of_le h2 hb, h3⟩
theorem Ps.shape {w : World} {B : Nat} {v : Value} {ps : List (ByteArray × ByteArray)} (h : Ps w B v ps) : ∃ a cap, v = .slice a ps.length cap := by
  rcases h with ⟨rfl, rfl | ⟨ad, cap, rfl⟩⟩ | ⟨b, o, cap, h1, _, _⟩
  · exact ⟨none, 0, rfl⟩
  · exact ⟨some ad, cap, rfl⟩
  · exact ⟨_, cap, h1⟩
/-- One of them: its cells. -/
theorem Ps.at_ {w : World} {B i : Nat} {v : Value} {ps : List (ByteArray × ByteArray)} (h : Ps w B v ps) (hi : i < ps.length) : ∃ b o cap, v = .slice (some ⟨b, o, none⟩) ps.length cap ∧ b < B ∧ w.cell? ⟨b, o + i * 2, none⟩ = some (.string ps[i].1) ∧ w.cell? ⟨b, o + i * 2 + 1, none⟩ = some (.string ps[i].2) := by
  rcases h with ⟨rfl, _⟩ | ⟨b, o, cap, h1, h2, h3⟩
  · simp at hi
  · exact ⟨b, o, cap, h1, h2, h3 i hi⟩
end Go.Proofs.YtpdodknldhbbhaaGreatDoor.Pp

namespace Go.Proofs.YtpdodknldhbbhaaGreatDoor.Vc
open Go.RowKit Pp

/-- A property but for its cards. -/
structure Pd where
  g : ByteArray
  n : ByteArray
  ps : List (ByteArray × ByteArray)
  v : ByteArray
/-- A card: properties, each with its cards. -/
abbrev Crd := Vm.Tr Pd

/-- A list of cards: the slice v, whose block lies below B. -/
def AgAt (w : World) (B : Nat) {α : Type} (C : α → Value → Prop) (l : List α) (v : Value) : Prop :=
  ∃ a c, v = .slice a l.length c ∧ (l ≠ [] → ∃ b o, a = some ⟨b, o, none⟩ ∧ b < B) ∧ ∀ b o, a = some ⟨b, o, none⟩ → ∀ i (hi : i < l.length), ∃ sv, w.cell? ⟨b, o + i, none⟩ = some sv ∧ C l[i] sv
/-- A list of properties. -/
def PlAt (w : World) (B : Nat) {α : Type} (C : α → Value → Prop) (l : List (Pd × List α)) (v : Value) : Prop :=
  ∃ a c, v = .slice a l.length c ∧ (l ≠ [] → ∃ b o, a = some ⟨b, o, none⟩ ∧ b < B) ∧ ∀ b o, a = some ⟨b, o, none⟩ → ∀ j (hj : j < l.length), ∃ pv av,
    w.cell? ⟨b, o + j * 5, none⟩ = some (.string l[j].1.g) ∧ w.cell? ⟨b, o + j * 5 + 1, none⟩ = some (.string l[j].1.n) ∧ w.cell? ⟨b, o + j * 5 + 2, none⟩ = some pv ∧ w.cell? ⟨b, o + j * 5 + 3, none⟩ = some (.string l[j].1.v) ∧ w.cell? ⟨b, o + j * 5 + 4, none⟩ = some av ∧ Ps w B pv l[j].1.ps ∧ AgAt w B C l[j].2 av
/-- A card: the value of its one field. -/
def CAt (w : World) (B : Nat) : Nat → Crd → Value → Prop
  | 0, _, _ => False
  | k + 1, c, sv => PlAt w B (CAt w B k) c.ps sv

theorem AgAt.move {w w' : World} {B B' : Nat} {α : Type} {C C' : α → Value → Prop} {l : List α} {v : Value} (h : AgAt w B C l v) (hc : ∀ b o, b < B → w'.cell? ⟨b, o, none⟩ = w.cell? ⟨b, o, none⟩) (hB : B ≤ B') (hC : ∀ a v, C a v → C' a v) : AgAt w' B' C' l v := by
  obtain ⟨a, c, rfl, h1, h2⟩ := h
  refine ⟨a, c, rfl, fun hl => ?_, fun b o e i hi => ?_⟩
  · obtain ⟨b, o, e, hb⟩ := h1 hl; exact ⟨b, o, e, Nat.lt_of_lt_of_le hb hB⟩
  · obtain ⟨b', o', e', hb⟩ := h1 (fun h => by rw [h] at hi; simp at hi)
    rw [e] at e'; cases e'
    obtain ⟨sv, c0, hs⟩ := h2 b o e i hi
    exact ⟨sv, (hc _ _ hb).trans c0, hC _ _ hs⟩
theorem PlAt.move {w w' : World} {B B' : Nat} {α : Type} {C C' : α → Value → Prop} {l : List (Pd × List α)} {v : Value} (h : PlAt w B C l v) (hc : ∀ b o, b < B → w'.cell? ⟨b, o, none⟩ = w.cell? ⟨b, o, none⟩) (hP : ∀ pv ps, Ps w B pv ps → Ps w' B' pv ps) (hB : B ≤ B') (hC : ∀ a v, C a v → C' a v) : PlAt w' B' C' l v := by
  obtain ⟨a, c, rfl, h1, h2⟩ := h
  refine ⟨a, c, rfl, fun hl => ?_, fun b o e j hj => ?_⟩
  · obtain ⟨b, o, e, hb⟩ := h1 hl; exact ⟨b, o, e, Nat.lt_of_lt_of_le hb hB⟩
  · obtain ⟨b', o', e', hb⟩ := h1 (fun h => by rw [h] at hj; simp at hj)
    rw [e] at e'; cases e'
    obtain ⟨pv, av, c0, c1, c2, c3, c4, hp, ha⟩ := h2 b o e j hj
    exact ⟨pv, av, (hc _ _ hb).trans c0, (hc _ _ hb).trans c1, (hc _ _ hb).trans c2, (hc _ _ hb).trans c3, (hc _ _ hb).trans c4, hP _ _ hp, ha.move hc hB hC⟩
theorem CAt.below {w w' : World} {B : Nat} (hb : Below B w w') : ∀ {k : Nat} {c : Crd} {v : Value}, CAt w B k c v → CAt w' B k c v := by
  intro k
  induction k with
  | zero => intro c v h; exact h.elim
  | succ k ih => intro c v h; exact PlAt.move h (fun b o hlt => hb.cell (p := ⟨b, o, none⟩) hlt) (fun _ _ h => h.below hb) (Nat.le_refl _) (fun a v h => ih h)
theorem CAt.up {w : World} {B B' : Nat} (hb : B ≤ B') : ∀ {k : Nat} {c : Crd} {v : Value}, CAt w B k c v → CAt w B' k c v := by
  intro k
  induction k with
  | zero => intro c v h; exact h.elim
  | succ k ih => intro c v h; exact PlAt.move h (fun _ _ _ => rfl) (fun _ _ h => h.up hb) hb (fun a v h => ih h)
/-- A card in a later world. -/
theorem CAt.on {w w' : World} (hb : Below w.heap.size w w') {k : Nat} {c : Crd} {v : Value} (h : CAt w w.heap.size k c v) : CAt w' w'.heap.size k c v := (h.below hb).up hb.size
theorem CAt.one {w : World} {B k : Nat} {c : Crd} {v : Value} (h : CAt w B k c v) : ∃ a n cp, v = .slice a n cp := by
  cases k with
  | zero => exact h.elim
  | succ k => obtain ⟨a, cp, rfl, _⟩ := h; exact ⟨_, _, _, rfl⟩
/-- One property of a card. -/
theorem PlAt.at_ {w : World} {B : Nat} {α : Type} {C : α → Value → Prop} {l : List (Pd × List α)} {a : Option Addr} {n cp : Nat} (h : PlAt w B C l (.slice a n cp)) {j : Nat} (hj : j < l.length) :
    ∃ b o pv av, a = some ⟨b, o, none⟩ ∧ b < B ∧ w.cell? ⟨b, o + j * 5, none⟩ = some (.string l[j].1.g) ∧ w.cell? ⟨b, o + j * 5 + 1, none⟩ = some (.string l[j].1.n) ∧ w.cell? ⟨b, o + j * 5 + 2, none⟩ = some pv ∧ w.cell? ⟨b, o + j * 5 + 3, none⟩ = some (.string l[j].1.v) ∧ w.cell? ⟨b, o + j * 5 + 4, none⟩ = some av ∧ Ps w B pv l[j].1.ps ∧ AgAt w B C l[j].2 av := by
  obtain ⟨a', c', e, h1, h2⟩ := h
  cases e
  obtain ⟨b, o, rfl, hb⟩ := h1 (fun h => by rw [h] at hj; simp at hj)
  obtain ⟨pv, av, h3⟩ := h2 b o rfl j hj
  exact ⟨b, o, pv, av, rfl, hb, h3⟩
theorem PlAt.len {w : World} {B : Nat} {α : Type} {C : α → Value → Prop} {l : List (Pd × List α)} {v : Value} (h : PlAt w B C l v) : ∃ a cp, v = .slice a l.length cp := by obtain ⟨a, cp, rfl, _⟩ := h; exact ⟨_, _, rfl⟩
/-- One card of a list. -/
theorem AgAt.at_ {w : World} {B : Nat} {α : Type} {C : α → Value → Prop} {l : List α} {a : Option Addr} {n cp : Nat} (h : AgAt w B C l (.slice a n cp)) {i : Nat} (hi : i < l.length) :
    ∃ b o sv, a = some ⟨b, o, none⟩ ∧ b < B ∧ w.cell? ⟨b, o + i, none⟩ = some sv ∧ C l[i] sv := by
  obtain ⟨a', c', e, h1, h2⟩ := h
  cases e
  obtain ⟨b, o, rfl, hb⟩ := h1 (fun h => by rw [h] at hi; simp at hi)
  obtain ⟨sv, h3⟩ := h2 b o rfl i hi
  exact ⟨b, o, sv, rfl, hb, h3⟩
theorem AgAt.len {w : World} {B : Nat} {α : Type} {C : α → Value → Prop} {l : List α} {v : Value} (h : AgAt w B C l v) : ∃ a cp, v = .slice a l.length cp := by obtain ⟨a, cp, rfl, _⟩ := h; exact ⟨_, _, rfl⟩
end Go.Proofs.YtpdodknldhbbhaaGreatDoor.Vc

namespace Go.Proofs.YtpdodknldhbbhaaGreatDoor.Pp
open Go.RowKit

/-- A property as a value. -/
def prV (g n : ByteArray) (pv : Value) (v : ByteArray) (av : Value) : Value := .agg #[.string g, .string n, pv, .string v, av]
/-- A property's cells in block b. -/
def PrAt (w : World) (b : Nat) (g n : ByteArray) (pv : Value) (v : ByteArray) (av : Value) : Prop := w.heap[b]? = some (.cells #[.string g, .string n, pv, .string v, av] 53 (0, 0))
section
variable {w w' : World} {b : Nat} {g n : ByteArray} {pv : Value} {v : ByteArray} {av : Value}
theorem PrAt.lt (h : PrAt w b g n pv v av) : b < w.heap.size := (Array.getElem?_eq_some_iff.1 h).1
theorem PrAt.c0 (h : PrAt w b g n pv v av) : w.cell? ⟨b, 0, none⟩ = some (.string g) := cell_of_row w b 0 _ _ _ h
theorem PrAt.c1 (h : PrAt w b g n pv v av) : w.cell? ⟨b, 1, none⟩ = some (.string n) := cell_of_row w b 1 _ _ _ h
theorem PrAt.c2 (h : PrAt w b g n pv v av) : w.cell? ⟨b, 2, none⟩ = some pv := cell_of_row w b 2 _ _ _ h
theorem PrAt.c3 (h : PrAt w b g n pv v av) : w.cell? ⟨b, 3, none⟩ = some (.string v) := cell_of_row w b 3 _ _ _ h
theorem PrAt.c4 (h : PrAt w b g n pv v av) : w.cell? ⟨b, 4, none⟩ = some av := cell_of_row w b 4 _ _ _ h
theorem PrAt.below (h : PrAt w b g n pv v av) (hb : Below w.heap.size w w') : PrAt w' b g n pv v av := (hb.block b h.lt).trans h
end
/-- What is wrong with it: the number of the error. -/
def goodNames (g n : ByteArray) : Bool := (decide (g.size = 0) || nameB g) && nameB n
def goodPs (ps : List (ByteArray × ByteArray)) : Bool := ps.all fun p => paramB p.1 p.2
def goodV (v : ByteArray) : Bool := v.data.toList.all fun c => !oddb c
def chk (g n : ByteArray) (ps : List (ByteArray × ByteArray)) (v : ByteArray) (m : Nat) : Int :=
  if goodNames g n = false then 14 else if 6 < ps.length then 4 else if goodPs ps = false then 3 else if 0 < m then 5 else if 2400 < v.size then 8 else if goodV v = false then 3 else 0
theorem ps_no {P : ByteArray × ByteArray → Bool} {l : List (ByteArray × ByteArray)} {k : Nat} (h : k < l.length) (hp : P l[k] = false) : (l.drop k).all P = false := by
  rw [List.drop_eq_getElem_cons h, List.all_cons, hp]; rfl
theorem ps_yes {P : ByteArray × ByteArray → Bool} {l : List (ByteArray × ByteArray)} {k : Nat} (h : k < l.length) (hp : P l[k] = true) : (l.drop k).all P = (l.drop (k + 1)).all P := by
  rw [List.drop_eq_getElem_cons h, List.all_cons, hp]; rfl
end Go.Proofs.YtpdodknldhbbhaaGreatDoor.Pp
