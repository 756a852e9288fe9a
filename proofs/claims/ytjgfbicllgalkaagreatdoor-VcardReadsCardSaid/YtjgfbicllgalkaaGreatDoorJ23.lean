/-
Texts joined in one file, each with its own conditions: append onto a row of the call's own: where the longer row lies. Conditions: those of the library's own law of append. · Rows of strings: those of a call's own, and those that came in; what they hold, and what leaves them as they are. No conditions of its own.
-/
import Derived.Test.YtjgfbicllgalkaaGreatDoorJ09
import Derived.Shelf.Abstract
import Derived.OwnWalkIn
import Derived.Maps.AppendAt
import Derived.OpenShut
import Derived.Lib.Hide
import Derived.Lib.BufferRead
namespace Go.Proofs.YtjgfbicllgalkaaGreatDoor.App
open Go.RowKit

/-- The longer row lies where the row lay, or in a new block. -/
theorem run_append_where {P : Program} (w : World) (base : Nat) (t ty e : TypeId) (i : TypeInfo) (z : Value) (size bytes : Nat) (ht : P.underlying t = some (.slice e)) (hi : P.info? e = some i) (hz : i.zero = some z)
    (hsize : i.size = size) (hby : i.bytes = bytes) (hzs : z.cells.size = size) (hsz : 0 < size)
    (v : Value) (n : Nat) (xs : List Value) (hown : w.ownsRow base e size v n xs)
    (a : Addr) (m c : Nat) (news : List Value) (hl : news.length = m * size) (hnews : ∀ j u, news[j]? = some u → w.cell? (a.add j) = some u) (h1 : ∀ u ∈ news, u.oneCell' = true)
    (h63 : n + m ≤ maxLen) (hbytes : (n + m) * bytes ≤ 140737488355328) (hbase : base ≤ w.heap.size) (hm : 0 < m) :
    ∃ v' w', (Builtin.append_ #[t, t] ty #[v, .slice (some a) m c]).run P w = .ok v' w' ∧ w'.ownsRow base e size v' (n + m) (xs ++ news) ∧ w.grownBy w' v.ownBlock ∧ (v'.ownBlock = v.ownBlock ∨ v'.ownBlock = some w.heap.size) := by
  obtain ⟨v', w', hrun, r1, r2, _⟩ := run_append_own (P := P) w base t ty e i z size bytes ht hi hz hsize hby hzs hsz v n xs hown a m c news hl hnews h1 h63 hbytes hbase
  refine ⟨v', w', hrun, r1, r2, ?_⟩
  subst hsize
  subst hby
  have hM : maxLen ≤ 9223372036854775807 := by decide
  rcases hown.2 with ⟨rfl, rfl⟩ | ⟨g, cap, cur, rfl, hbg, hg, hnc, hcm, hcs, htake⟩
  · have hr := run_append_nil (P := P) w t ty e i z ht hi hz a m c news hl hnews hm (by omega) (by have hb := hbytes; simp only [Nat.zero_add] at hb; omega)
    rw [hr] at hrun
    cases hrun
    exact .inr rfl
  · by_cases hroom : n + m ≤ cap
    · have hr := run_append_room (P := P) w t ty e i ht hi g n cap cur hg a m c news hl hnews h1 hroom (by rw [hl, hcs, ← Nat.add_mul]; exact Nat.mul_le_mul_right _ hroom)
      rw [hr] at hrun
      cases hrun
      exact .inl rfl
    · have hr := run_append_grow (P := P) w t ty e i z ht hi hz ⟨g, 0, none⟩ n cap xs hown.1 (hown.cells (g := g) rfl) a m c news hl hnews (by omega) (by omega) (growslice_fits (by omega) hbytes)
      rw [hr] at hrun
      cases hrun
      exact .inr rfl

/-- The walk over such an append. -/
theorem walk_append {F : Fence} {n : Nat} {P : Program} (w : World) {ops : Array Oper} {rest : List Oper} {o : Oper} {a : Act} {Q : Exit → Act → World → Prop}
    (hg : o.guard = none) (s x : Operand) (t : TypeId) (hop : o.op = Op.call { callee := Callee.builtin Builtin.append, args := #[s, x], argTypes := #[t, t] })
    (base : Nat) (e : TypeId) (i : TypeInfo) (z : Value) (size bytes : Nat) (h1 : P.underlying t = some (.slice e)) (h2 : P.info? e = some i) (h3 : i.zero = some z) (h4 : i.size = size) (h5 : i.bytes = bytes) (h6 : z.cells.size = size) (h7 : 0 < size)
    (v : Value) (k : Nat) (xs : List Value) (hs : a.eval s = v) (hown : w.ownsRow base e size v k xs) (ad : Addr) (m c : Nat) (news : List Value) (hx : a.eval x = .slice (some ad) m c) (hn : news.length = m * size)
    (hc : ∀ j u, news[j]? = some u → w.cell? (ad.add j) = some u) (h1c : ∀ u ∈ news, u.oneCell' = true) (b1 : k + m ≤ maxLen) (b2 : (k + m) * bytes ≤ 140737488355328) (b3 : base ≤ w.heap.size) (hm : 0 < m)
    (hK : ∀ v' w', w'.ownsRow base e size v' (k + m) (xs ++ news) → w.grownBy w' v.ownBlock → (v'.ownBlock = v.ownBlock ∨ v'.ownBlock = some w.heap.size) → wpListIn F n P ops Q rest (a.put o.dst v') w') :
    wpListIn F n P ops Q (o :: rest) a w := by
  obtain ⟨v', w', hrun, r1, r2, r3⟩ := run_append_where (P := P) w base t o.type e i z size bytes h1 h2 h3 h4 h5 h6 h7 v k xs hown ad m c news hn hc h1c b1 b2 b3 hm
  refine wpListIn_plain hg fun K hK' => ?_
  unfold Oper.wpIn
  rw [Oper.semAt_plain F _ _ (by rw [hop]; intro c hc'; cases hc')]
  refine ⟨?_, ?_⟩
  · simp [Oper.about, hop, resolve, Target.leads, Sem.run_pure]
  · simp only [execOp, hop, resolve, invoke, builtin, Sem.run_bind, Sem.run_pure, Result.andThen_ok, List.map_toArray, List.map_cons, List.map_nil, hs, hx, hrun]
    exact hK' _ _ (hK v' w' r1 r2 r3)

/-- 'out = append(out, ..)' where out lies in a box: behind the append, and behind the store. -/
theorem collect {V V1 : World} {n₀ B : Nat} {t e : TypeId} {size : Nat} {v v' : Value} {k m : Nat} {xs ys : List Value} {o : Obj} (hv : Boxed V B t v) (hte : t ≠ e) (hr : V.ownsRow n₀ e size v k xs)
    (hown : V1.ownsRow n₀ e size v' m ys) (hg : (V.alloc o).grownBy V1 v.ownBlock) (hw : v'.ownBlock = v.ownBlock ∨ v'.ownBlock = some (V.alloc o).heap.size) :
    Boxed V1 B t v ∧ Boxed (V1.setCell ⟨B, 0, none⟩ v') B t v' ∧ (V1.setCell ⟨B, 0, none⟩ v').ownsRow n₀ e size v' m ys ∧ (∀ g, v'.ownBlock = some g → v.ownBlock = some g ∨ V.heap.size ≤ g) ∧ Sq.Stays (fun k => k < V.heap.size ∧ k ≠ B ∧ some k ≠ v.ownBlock) V (V1.setCell ⟨B, 0, none⟩ v') := by
  have hne := hv.not_row hte hr
  have hS : Sq.Stays (fun k => k < V.heap.size ∧ some k ≠ v.ownBlock) V V1 := ((Sq.Stays.refl _ V).alloc o (fun k hk => hk.1)).grown hg (fun k hk => ⟨by have := hk.1; simp; omega, hk.2⟩)
  have b1 := hS.boxed (b := B) ⟨hv.lt, hne⟩ hv
  have hfresh : ∀ g, v'.ownBlock = some g → v.ownBlock = some g ∨ V.heap.size ≤ g := fun g e => by
    rcases hw with hw | hw
    · exact .inl (hw ▸ e)
    · rw [e] at hw; cases hw; right; simp
  have hS2 : Sq.Stays (fun k => k ≠ B) V1 (V1.setCell ⟨B, 0, none⟩ v') := (Sq.Stays.refl _ _).setCell _ _ (fun h => h rfl)
  refine ⟨b1, b1.set _, hS2.row hown (fun g e h => ?_), hfresh, (hS.mono fun k hk => ⟨hk.1, hk.2.2⟩).trans (hS2.mono fun k hk => hk.2.1)⟩
  subst h
  rcases hfresh g e with h | h
  · exact hne h.symm
  · have := hv.lt; omega
/-- .. in a round of a loop: what the speaker says of his row goes on. -/
theorem collect_round {V V2 : World} {B n₀ : Nat} {v v' : Value} {O R : Nat → Prop} {w : World} (hS : Sq.Stays (fun k => k < V.heap.size ∧ k ≠ B ∧ some k ≠ v.ownBlock) V V2) (hfresh : ∀ g, v'.ownBlock = some g → v.ownBlock = some g ∨ V.heap.size ≤ g)
    (hO : ∀ k, O k → k < V.heap.size ∧ k ≠ B) (hvO : ∀ g, v.ownBlock = some g → ¬ O g) (hR : ∀ k, R k → k < V.heap.size ∧ k ≠ B ∧ some k ≠ v.ownBlock) (hn : n₀ ≤ B) (hn2 : n₀ ≤ V.heap.size) (hv : ∀ g, v.ownBlock = some g → n₀ ≤ g) (hb : Below n₀ w V) :
    Sq.Stays (fun k => O k ∨ R k) V V2 ∧ (∀ g, v'.ownBlock = some g → ¬ O g) ∧ Below n₀ w V2 := by
  refine ⟨hS.mono fun k hk => ?_, fun g e ho => ?_, hb.trans (hS.below fun k hk => ⟨by omega, by omega, fun e => by have := hv k e.symm; omega⟩)⟩
  · rcases hk with hk | hk
    · exact ⟨(hO k hk).1, (hO k hk).2, fun e => hvO k e.symm hk⟩
    · exact hR k hk
  · rcases hfresh g e with h | h
    · exact hvO g h ho
    · have := (hO g ho).1; omega
end Go.Proofs.YtjgfbicllgalkaaGreatDoor.App

namespace Go.Proofs.YtjgfbicllgalkaaGreatDoor.Strs
open Go.RowKit Sq

theorem list_size (t : ByteArray) : t.data.toList.length = t.size := by rw [Array.length_toList]; rfl
theorem str_mk (t : ByteArray) : (⟨t.data.toList.toArray⟩ : ByteArray) = t := by apply ByteArray.ext; simp
theorem mk_list (l : List UInt8) : (⟨l.toArray⟩ : ByteArray).data.toList = l := by simp
theorem mk_size (l : List UInt8) : (⟨l.toArray⟩ : ByteArray).size = l.length := by rw [← list_size, mk_list]
theorem ext_to (t : ByteArray) (k : Nat) : t.extract 0 k = ⟨(t.data.toList.take k).toArray⟩ := by apply ByteArray.ext; rw [ByteArray.data_extract]; apply Array.ext'; simp
theorem ext_from (t : ByteArray) (k : Nat) : (t.extract k t.size).data.toList = t.data.toList.drop k := by
  rw [ByteArray.data_extract, Array.toList_extract, List.extract_eq_take_drop, List.take_of_length_le]
  rw [List.length_drop, list_size]; exact Nat.le_refl _
theorem ext_from' (t : ByteArray) (k : Nat) : t.extract k t.size = ⟨(t.data.toList.drop k).toArray⟩ := by rw [← ext_from, str_mk]
theorem str_full {t : ByteArray} (h : t.data.toList ≠ []) : (!t.toList.isEmpty) = true := by
  rw [ByteArray.toList_eq]; cases e : t.data.toList with | nil => exact absurd e h | cons a r => rfl
theorem str_none {t : ByteArray} (h : t.data.toList = []) : (!t.toList.isEmpty) = false := by rw [ByteArray.toList_eq, h]; rfl

def scells (l : List (List UInt8)) : List Value := l.map fun x => Value.string ⟨x.toArray⟩
theorem scells_length (l : List (List UInt8)) : (scells l).length = l.length := by simp [scells]
theorem scells_append (l r : List (List UInt8)) : scells (l ++ r) = scells l ++ scells r := by simp [scells]
theorem scells_snoc (l : List (List UInt8)) (x : List UInt8) : scells (l ++ [x]) = scells l ++ [.string ⟨x.toArray⟩] := by simp [scells]
/-- The slice v holds the texts l, in a row of the call's own (blocks from base on). -/
def Strs (w : World) (base : Nat) (v : Value) (l : List (List UInt8)) : Prop := w.ownsRow base 9 1 v l.length (scells l)
theorem infoStr : (Tryz.prog.info? 9).map (fun i => (i.zero, i.size, i.bytes)) = some (some (.string .empty), 1, 16) := by kernel_rfl

theorem Strs.nil (w : World) (base : Nat) : Strs w base (.slice none 0 0) [] := World.ownsRow_nil _ _ _ _
theorem ownsRow_low {w : World} {b b' n sz : Nat} {e : TypeId} {v : Value} {xs : List Value} (hb : b' ≤ b) (h : w.ownsRow b e sz v n xs) : w.ownsRow b' e sz v n xs := by
  obtain ⟨h0, h⟩ := h
  refine ⟨h0, ?_⟩
  rcases h with h | ⟨g, cap, cur, h1, h2, h3⟩
  · exact .inl h
  · exact .inr ⟨g, cap, cur, h1, by omega, h3⟩
theorem Strs.low {w : World} {b b' : Nat} {v : Value} {l : List (List UInt8)} (h : Strs w b v l) (hb : b' ≤ b) : Strs w b' v l := ownsRow_low hb h
theorem shape {w : World} {base n : Nat} {v : Value} {xs : List Value} (h : w.ownsRow base 9 1 v n xs) : ∃ a cap, v = .slice a n cap := by
  obtain ⟨_, ⟨rfl, rfl⟩ | ⟨g, cap, cur, rfl, _⟩⟩ := h
  · exact ⟨none, 0, rfl⟩
  · exact ⟨_, cap, rfl⟩
theorem below_put_p {B : Nat} {a w : World} (h : Below B a w) {D : Nat} {o : Obj} (hD : B ≤ D) (hk : w.heap[D]? = some o) (o' : Obj) : Below B a (w.putObj D o') :=
  h.grown (grownBy_putObj' w D o') (by have := (Array.getElem?_eq_some_iff.1 hk).1; omega) (fun k e => by cases e; exact hD)
theorem Strs.keep {w w' : World} {base : Nat} {v : Value} {l : List (List UInt8)} (h : Strs w base v l) (hb : Below w.heap.size w w') : Strs w' base v l :=
  (Stays.of_below (O := fun k => k < w.heap.size) hb (fun _ h => h)).row h (fun g e => (own_lt h g e).2)
theorem Strs.put {w : World} {base : Nat} {v : Value} {l : List (List UInt8)} (h : Strs w base v l) {D : Nat} {o : Obj} (o' : Obj) (hD : w.heap[D]? = some o) (ho : o.isCells = false) : Strs (w.putObj D o') base v l := ownsRow_putObj h o' hD ho
/-- Behind an append of one text. -/
theorem Strs.snoc {base : Nat} {l : List (List UInt8)} {x : List UInt8} {r : List (List UInt8)} (hr : r = l ++ [x]) {w' : World} {v' : Value} (hown : w'.ownsRow base 9 1 v' (l.length + 1) (scells l ++ [.string ⟨x.toArray⟩])) : Strs w' base v' r := by
  subst hr; unfold Strs; rw [scells_snoc, List.length_append]; exact hown
theorem Strs.snoc_row {w : World} {base n : Nat} {v : Value} {l : List (List UInt8)} {x : List UInt8} (h : w.ownsRow base 9 1 v n (scells l ++ [.string ⟨x.toArray⟩])) : w.ownsRow base 9 1 v n (scells (l ++ [x])) := by rw [scells_snoc]; exact h
theorem Strs.below {a w w1 : World} {B : Nat} {v : Value} {l : List (List UInt8)} (h : Strs w B v l) (hb : Below B a w) (hB : B ≤ w.heap.size) (o : Obj) (hg : (w.alloc o).grownBy w1 v.ownBlock) : Below B a w1 :=
  (hb.alloc hB o).grown hg (by simp; omega) (fun k e => (World.ownsRow.lt h k e).1)

/-- A slice of texts, to be read: its texts lie behind its address. -/
def Reads (w : World) (v : Value) (l : List (List UInt8)) : Prop :=
  ∃ a cap, v = .slice a l.length cap ∧ l.length ≤ cap ∧ ∃ b o, (l ≠ [] → a = some ⟨b, o, none⟩ ∧ b < w.heap.size) ∧ ∀ i (hi : i < l.length), w.cell? ⟨b, o + i, none⟩ = some (.string ⟨l[i].toArray⟩)
theorem Reads.keep {w w' : World} {v : Value} {l : List (List UInt8)} (h : Reads w v l) {n : Nat} (hn : w.heap.size ≤ n) (hb : Below n w w') : Reads w' v l := by
  obtain ⟨a, cap, rfl, hc, b, o, h1, h2⟩ := h
  refine ⟨a, cap, rfl, hc, b, o, fun hl => ⟨(h1 hl).1, by have := (h1 hl).2; have := hb.size; omega⟩, fun i hi => ?_⟩
  have hb' := (h1 (fun e => by rw [e] at hi; simp at hi)).2
  exact (hb.cell (p := ⟨b, o + i, none⟩) (by show b < n; omega)).trans (h2 i hi)
theorem Reads.stays {O : Nat → Prop} {w w' : World} {v : Value} {l : List (List UInt8)} (h : Reads w v l) (hS : Stays O w w') (hv : ∀ g, v.ownBlock = some g → O g) : Reads w' v l := by
  obtain ⟨a, cap, rfl, hc, b, o, h1, h2⟩ := h
  refine ⟨a, cap, rfl, hc, b, o, fun hl => ⟨(h1 hl).1, by have := (h1 hl).2; have := hS.size; omega⟩, fun i hi => ?_⟩
  obtain ⟨rfl, hb'⟩ := h1 (fun e => by rw [e] at hi; simp at hi)
  exact (World.cell?_of_block (a := ⟨b, o + i, none⟩) (hS.block b (hv b rfl))).trans (h2 i hi)
theorem Reads.shape {w : World} {v : Value} {l : List (List UInt8)} (h : Reads w v l) : ∃ a cap, v = .slice a l.length cap := by obtain ⟨a, cap, rfl, _⟩ := h; exact ⟨a, cap, rfl⟩
/-- One text of a slice that is read. -/
theorem Reads.at_ {w : World} {a : Option Addr} {n cap : Nat} {l : List (List UInt8)} (h : Reads w (.slice a n cap) l) (i : Nat) (hi : i < l.length) : n = l.length ∧ ∃ b o, a = some ⟨b, o, none⟩ ∧ b < w.heap.size ∧ w.cell? ⟨b, o + i, none⟩ = some (.string ⟨l[i].toArray⟩) := by
  obtain ⟨a', cap', he, hc, b, o, h1, h2⟩ := h
  cases he
  obtain ⟨rfl, hb⟩ := h1 (fun e => by rw [e] at hi; simp at hi)
  exact ⟨rfl, b, o, rfl, hb, h2 i hi⟩
theorem Strs.reads {w : World} {base : Nat} {v : Value} {l : List (List UInt8)} (h : Strs w base v l) : Reads w v l := by
  obtain ⟨hl, ⟨rfl, h0⟩ | ⟨g, cap, cur, rfl, _, hg, h1, h2, _, ht⟩⟩ := h
  · have h0 := List.eq_nil_of_length_eq_zero h0
    subst h0
    exact ⟨none, 0, rfl, Nat.le_refl _, 0, 0, fun h => absurd rfl h, fun i hi => by simp at hi⟩
  · refine ⟨_, cap, rfl, h1, g, 0, fun _ => ⟨rfl, (Array.getElem?_eq_some_iff.1 hg).1⟩, fun i hi => ?_⟩
    have hn : (scells l)[i]? = some (.string ⟨l[i].toArray⟩) := by simp [scells, hi]
    rw [← ht] at hn
    have h2 := Lib.cells_of_row hg _ i _ hn
    rwa [Lib.addr_add] at h2
end Go.Proofs.YtjgfbicllgalkaaGreatDoor.Strs
