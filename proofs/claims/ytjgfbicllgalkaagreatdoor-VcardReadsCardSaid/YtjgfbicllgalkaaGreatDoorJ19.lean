/-
Texts joined in one file, each with its own conditions: Rows of parameters of a call's own; the law's copy of a property. Conditions: at most 2^30 parameters, below the caller's blocks. · slices.DeleteFunc at parameters that say how a value is written: what is left lies at the row's beginning; slices.IndexFunc. Conditions: the row is the caller's own, at most 100 parameters. · The law's copy of a property: its parameters lie in a row of the call's own. Conditions: at most 2^30 parameters, below the caller's blocks.
-/
import Derived.Test.YtjgfbicllgalkaaGreatDoorJ01
import Derived.Shelf.Abstract
import Derived.OwnWalkIn
import Derived.OpenShut
import Derived.Lib.BufferRead
import Derived.Laws.AppendOwn
import Derived.Laws.AppendOwnNone
import Derived.Test.YtjgfbicllgalkaaGreatDoorJ18
import Derived.Laws.CopyRow
import Derived.Deep.AppendLies
namespace Go.Proofs.YtjgfbicllgalkaaGreatDoor.Pp
open Go.RowKit

/-- The cells of parameters. -/
def pcells : List (ByteArray × ByteArray) → List Value
  | [] => []
  | p :: r => .string p.1 :: .string p.2 :: pcells r
theorem pcells_length : ∀ l : List (ByteArray × ByteArray), (pcells l).length = l.length * 2
  | [] => rfl
  | p :: r => by rw [pcells, List.length_cons, List.length_cons, pcells_length r, List.length_cons]; omega
theorem pcells_append : ∀ l r : List (ByteArray × ByteArray), pcells (l ++ r) = pcells l ++ pcells r
  | [], _ => rfl
  | p :: l, r => by rw [List.cons_append, pcells, pcells_append l r]; rfl
theorem pcells_at : ∀ (l : List (ByteArray × ByteArray)) (i : Nat) (h : i < l.length), (pcells l)[i * 2]? = some (.string l[i].1) ∧ (pcells l)[i * 2 + 1]? = some (.string l[i].2)
  | p :: r, 0, _ => ⟨rfl, rfl⟩
  | p :: r, i + 1, h => by
    have ih := pcells_at r i (by simpa using h)
    have e : (i + 1) * 2 = i * 2 + 1 + 1 := by omega
    rw [e, pcells]
    exact ⟨by simpa using ih.1, by simpa using ih.2⟩
theorem pcells_one {l : List (ByteArray × ByteArray)} : ∀ u ∈ pcells l, u.oneCell' = true := by
  induction l with
  | nil => intro u hu; cases hu
  | cons p r ih =>
    intro u hu
    rw [pcells] at hu
    rcases List.mem_cons.1 hu with rfl | hu
    · rfl
    · rcases List.mem_cons.1 hu with rfl | hu
      · rfl
      · exact ih u hu
/-- A cell of them, by its place. -/
theorem pcells_get {l : List (ByteArray × ByteArray)} {j : Nat} {u : Value} (h : (pcells l)[j]? = some u) : ∃ i, ∃ h : i < l.length, (j = i * 2 ∧ u = .string l[i].1) ∨ (j = i * 2 + 1 ∧ u = .string l[i].2) := by
  have hj : j < l.length * 2 := by rw [← pcells_length]; exact (List.getElem?_eq_some_iff.1 h).1
  have hi : j / 2 < l.length := by omega
  have hp := pcells_at l (j / 2) hi
  refine ⟨j / 2, hi, ?_⟩
  rcases (by omega : j = j / 2 * 2 ∨ j = j / 2 * 2 + 1) with e | e
  · rw [← e, h] at hp
    exact .inl ⟨e, Option.some.inj hp.1⟩
  · rw [← e, h] at hp
    exact .inr ⟨e, Option.some.inj hp.2⟩

/-- The slice v holds the parameters ps, in a row of the call's own (blocks from base on). -/
def Own (w : World) (base : Nat) (v : Value) (ps : List (ByteArray × ByteArray)) : Prop := w.ownsRow base 58 2 v ps.length (pcells ps)
theorem infoP : (Tryz.prog.info? 58).map (fun i => (i.zero, i.size, i.bytes)) = some (some (.agg #[.string .empty, .string .empty]), 2, 32) := by kernel_rfl
/-- It may be read. -/
theorem Own.ps {w : World} {base : Nat} {v : Value} {ps : List (ByteArray × ByteArray)} (h : Own w base v ps) : Ps w w.heap.size v ps := by
  obtain ⟨_, ⟨rfl, h0⟩ | ⟨g, cap, cur, rfl, _, hg, h1, _, _, ht⟩⟩ := h
  · exact .inl ⟨List.eq_nil_of_length_eq_zero h0, .inl rfl⟩
  · refine .inr ⟨g, 0, cap, rfl, (Array.getElem?_eq_some_iff.1 hg).1, fun i hi => ?_⟩
    obtain ⟨p1, p2⟩ := pcells_at ps i hi
    rw [← ht] at p1 p2
    have q1 := Lib.cells_of_row hg _ _ _ p1
    have q2 := Lib.cells_of_row hg _ _ _ p2
    rw [Lib.addr_add] at q1 q2
    exact ⟨q1, by rw [Nat.add_assoc]; exact q2⟩
end Go.Proofs.YtjgfbicllgalkaaGreatDoor.Pp

namespace Go.Proofs.YtjgfbicllgalkaaGreatDoor.Vc
set_option maxRecDepth 100000
open Go.RowKit Pp

/-- The parameters that are left. -/
def drp (ps : List (ByteArray × ByteArray)) : List (ByteArray × ByteArray) := ps.filter fun p => !sayHow p
theorem drp_app (a b : List (ByteArray × ByteArray)) : drp (a ++ b) = drp a ++ drp b := by unfold drp; rw [List.filter_append]
theorem drp_len (a : List (ByteArray × ByteArray)) : (drp a).length ≤ a.length := by unfold drp; exact List.length_filter_le _ _
theorem take_next {α : Type} {l : List α} {k : Nat} (h : k < l.length) : l.take (k + 1) = l.take k ++ [l[k]] := by rw [List.take_add_one, List.getElem?_eq_getElem h]; rfl
theorem drp_yes {ps : List (ByteArray × ByteArray)} {k : Nat} (h : k < ps.length) (he : sayHow ps[k] = true) : drp (ps.take (k + 1)) = drp (ps.take k) := by
  rw [take_next h, drp_app]
  have : drp [ps[k]] = [] := by unfold drp; rw [List.filter_cons, he]; rfl
  rw [this, List.append_nil]
theorem drp_no {ps : List (ByteArray × ByteArray)} {k : Nat} (h : k < ps.length) (he : sayHow ps[k] = false) : drp (ps.take (k + 1)) = drp (ps.take k) ++ [ps[k]] := by
  rw [take_next h, drp_app]
  have : drp [ps[k]] = [ps[k]] := by unfold drp; rw [List.filter_cons, he]; rfl
  rw [this]

set_option maxHeartbeats 800000 in
/-- The first parameter that says how, or -1. -/
theorem indexHow_any (pv : Value) (ps : List (ByteArray × ByteArray)) (w : World) (hps : Ps w w.heap.size pv ps) (hl : ps.length ≤ 1099511627776) :
    Calls Tryz.prog 175 #[pv, .func (.func 176) #[] #[]] w fun e w' =>
      ((e = .returned (.int .i64 (-1)) ∧ drp ps = ps) ∨ ∃ k : Nat, ∃ h : k < ps.length, e = .returned (.int .i64 k) ∧ sayHow ps[k] = true ∧ drp (ps.take k) = ps.take k) ∧ Below w.heap.size w w' := by
  obtain ⟨pa, pc, rfl⟩ := hps.shape
  have CD := Lib.hid (fun n v W => saysHow_any n v W)
  go_enter Tryz.func175, Tryz.ntmps175
  go_wp2_with fail
  go_loopw [8] (fun iv wr => ∃ k : Nat, k ≤ ps.length ∧ iv = .int .i64 k ∧ Below w.heap.size w wr ∧ Hid (drp (ps.take k) = ps.take k)) (fun iv _ => ps.length - (intOf iv).toNat)
  case atStart => exact ⟨0, Nat.zero_le _, rfl, Below.refl _ _, Lib.hid rfl⟩
  case round =>
    obtain ⟨k, hk, rfl, hbel, HK⟩ := hrel
    by_cases hlt2 : k < ps.length
    · obtain ⟨b', o, cap, hv1, hbB, hc0, hc1⟩ := (hps.below hbel).at_ hlt2
      simp only [Value.slice.injEq, true_and] at hv1
      obtain ⟨rfl, rfl⟩ := hv1
      have HN := Lib.hid (drp_no hlt2)
      have HT := Lib.hid (take_next hlt2)
      have HX := Lib.hid (fun (h : sayHow ps[k] = true) => h)
      obtain ⟨x, hx⟩ : ∃ x, ps[k] = x := ⟨_, rfl⟩
      rw [hx] at hc0 hc1 HN HT
      have HXX := Lib.hid hx
      clear hx
      obtain ⟨n', v'⟩ := x
      simp only at HN hc0 hc1
      have C := Lib.hid (CD.out n' v' wr)
      cases hp : sayHow (n', v') <;> rw [hp] at C
      · have HK' := Lib.hid (show drp (ps.take (k + 1)) = ps.take (k + 1) by rw [HN.out hp, HK.out, HT.out])
        clear hp
        go_wp2_with fail
        refine C.out.mono ?_
        rintro e w2 ⟨rfl, b2⟩
        go_wp2_with fail
        go_roundw
        case rel => exact ⟨k + 1, by omega, by go_num, hbel.trans (b2.mono hbel.size), HK'⟩
        case measure => simp [intOf]; omega
      · have HP := Lib.hid hp
        clear hp
        go_wp2_with fail
        refine C.out.mono ?_
        rintro e w2 ⟨rfl, b2⟩
        go_wp2_with fail
        go_ret
        exact ⟨.inr ⟨k, hlt2, rfl, by rw [HXX.out]; exact HP.out, HK.out⟩, hbel.trans (b2.mono hbel.size)⟩
    · obtain rfl : k = ps.length := by omega
      go_wp2_with fail
      go_ret
      exact ⟨.inl ⟨rfl, by have := HK.out; rw [List.take_length] at this; exact this⟩, hbel⟩

theorem gOf {w W : World} {r : Option Nat} (h : Below w.heap.size w W) : w.grownBy W r := ⟨h.os, h.tape, h.output, h.size, fun k hk _ => h.block k hk⟩
theorem gBelow {w W W' : World} {r : Option Nat} (h : w.grownBy W r) (hb : Below W.heap.size W W') : w.grownBy W' r :=
  ⟨hb.os.trans h.os, hb.tape.trans h.tape, hb.output.trans h.output, Nat.le_trans h.size hb.size, fun k hk hne => (hb.block k (Nat.lt_of_lt_of_le hk h.size)).trans (h.block k hk hne)⟩
theorem gGrown {w W W' : World} {g : Nat} (h : w.grownBy W (some g)) (hb : W.grownBy W' (some g)) : w.grownBy W' (some g) :=
  ⟨hb.os.trans h.os, hb.tape.trans h.tape, hb.output.trans h.output, Nat.le_trans h.size hb.size, fun k hk hne => (hb.block k (Nat.lt_of_lt_of_le hk h.size) hne).trans (h.block k hk hne)⟩
theorem gSet {w W : World} {g : Nat} (h : w.grownBy W (some g)) (t : Nat) (u : Value) : w.grownBy (W.setCell ⟨g, t, none⟩ u) (some g) :=
  ⟨h.os, h.tape, h.output, by rw [World.size_setCell]; exact h.size, fun k hk hne => (Below.heap_setCell W ⟨g, t, none⟩ u k (fun e => hne (by rw [e]))).trans (h.block k hk hne)⟩
theorem zeroPs : ∀ w, (zeroValue 58).run Tryz.prog w = .ok (.agg #[.string .empty, .string .empty]) w := Tryz.zeroValue58
/-- clear over the parameters from place i on: those ahead stay. -/
theorem clear_ps (g i n c : Nat) (cur : Array Value) (W : World) (hg : W.heap[g]? = some (.cells cur 58 (0, 0))) (hn : 0 < n) (h : (i + n) * 2 ≤ cur.size) :
    ∃ W', (∀ ty, (Builtin.clear_ #[53] ty #[.slice (some ⟨g, i * 2, none⟩) n c]).run Tryz.prog W = .ok (.tuple #[]) W') ∧ (∃ cur', W'.heap[g]? = some (.cells cur' 58 (0, 0)) ∧ ∀ t, t < i * 2 → cur'[t]? = cur[t]?) ∧ W.grownBy W' (some g) := by
  obtain ⟨zs, hzs⟩ : ∃ zs, (Builtin.zeroCells (Value.agg #[.string ⟨#[]⟩, .string ⟨#[]⟩]).cells n).toList = zs := ⟨_, rfl⟩
  have hlen : zs.length = n * 2 := by rw [← hzs]; simp [Builtin.zeroCells, Value.cells]
  have hone : ∀ v ∈ zs, v.oneCell' = true := by
    rw [← hzs]
    intro v hv
    simp only [Builtin.zeroCells, Value.cells, Array.toList_map, List.mem_map] at hv
    obtain ⟨i, _, rfl⟩ := hv
    have h2 : i % 2 = 0 ∨ i % 2 = 1 := by omega
    rcases h2 with e | e <;> simp [e, Value.oneCell']
  obtain ⟨m, rfl⟩ : ∃ m, n = m + 1 := ⟨n - 1, by omega⟩
  have hst := run_storeCells_at (P := Tryz.prog) g (i * 2) 58 zs 0 cur W hg (by rw [hlen]; omega) hone
  refine ⟨W.setRow g (List.take (i * 2) cur.toList ++ (zs ++ List.drop (i * 2 + zs.length) cur.toList)).toArray, fun ty => by simp [Builtin.clear_, run_underlying Tryz.underlying53, hzs, hst], ⟨_, setRow_heap W g cur _ 58 _ hg, fun t ht => ?_⟩, ?_⟩
  · have hl : i * 2 ≤ cur.toList.length := by simp; omega
    rw [List.getElem?_toArray, List.getElem?_append_left (by rw [List.length_take]; omega), List.getElem?_take_of_lt ht]
    simp
  · exact ⟨rfl, rfl, rfl, Nat.le_of_eq (setRow_size _ _ _).symm, fun k _ hne => setRow_other W g k _ (fun e => hne (by rw [e]))⟩

/-- A row while it is being cut: what is kept lies ahead, what is still to be looked at where it lay. -/
def Cut (W : World) (g : Nat) (ps kept : List (ByteArray × ByteArray)) (j : Nat) : Prop :=
  ∃ cur : Array Value, W.heap[g]? = some (.cells cur 58 (0, 0)) ∧ ps.length * 2 ≤ cur.size ∧ (∀ t, t < kept.length * 2 → cur[t]? = (pcells kept)[t]?) ∧ (∀ t, j * 2 ≤ t → t < ps.length * 2 → cur[t]? = (pcells ps)[t]?)
theorem Cut.below {W W' : World} {g j : Nat} {ps kept : List (ByteArray × ByteArray)} (h : Cut W g ps kept j) (hb : Below W.heap.size W W') : Cut W' g ps kept j := by
  obtain ⟨cur, h1, h2⟩ := h
  exact ⟨cur, (hb.block g (Array.getElem?_eq_some_iff.1 h1).1).trans h1, h2⟩
theorem Cut.skip {W : World} {g j : Nat} {ps kept : List (ByteArray × ByteArray)} (h : Cut W g ps kept j) : Cut W g ps kept (j + 1) := by
  obtain ⟨cur, h1, h2, h3, h4⟩ := h
  exact ⟨cur, h1, h2, h3, fun t ht => h4 t (by omega)⟩
theorem cell_of_cur {W : World} {g t : Nat} {cur : Array Value} {u : Value} {ty : TypeId} (h : W.heap[g]? = some (.cells cur ty (0, 0))) (hu : cur[t]? = some u) : W.cell? ⟨g, t, none⟩ = some u := by simp [World.cell?, h, hu]
theorem Cut.at_ {W : World} {g j : Nat} {ps kept : List (ByteArray × ByteArray)} (h : Cut W g ps kept j) (hj : j < ps.length) : W.cell? ⟨g, j * 2, none⟩ = some (.string ps[j].1) ∧ W.cell? ⟨g, j * 2 + 1, none⟩ = some (.string ps[j].2) := by
  obtain ⟨cur, h1, h2, h3, h4⟩ := h
  obtain ⟨p1, p2⟩ := pcells_at ps j hj
  exact ⟨cell_of_cur h1 (by rw [h4 _ (Nat.le_refl _) (by omega)]; exact p1), cell_of_cur h1 (by rw [h4 _ (by omega) (by omega)]; exact p2)⟩
/-- The cells that are written over, in what went before. -/
theorem Cut.old {W : World} {g j : Nat} {ps kept : List (ByteArray × ByteArray)} (h : Cut W g ps kept j) {i : Nat} (hi : i < ps.length) : (∃ u, W.cell? ⟨g, i * 2, none⟩ = some u) ∧ (∃ u, W.cell? ⟨g, i * 2 + 1, none⟩ = some u) ∧ W.frozen? ⟨g, i * 2, none⟩ = false ∧ W.frozen? ⟨g, i * 2 + 1, none⟩ = false := by
  obtain ⟨cur, h1, h2, h3, h4⟩ := h
  refine ⟨⟨_, cell_of_cur h1 (Array.getElem?_eq_getElem (by omega))⟩, ⟨_, cell_of_cur h1 (Array.getElem?_eq_getElem (by omega))⟩, ?_, ?_⟩
  · simp [World.frozen?, h1]
  · simp [World.frozen?, h1]
/-- One is kept. -/
theorem Cut.keep {W : World} {g j : Nat} {ps kept : List (ByteArray × ByteArray)} (h : Cut W g ps kept j) (hk : kept.length < j) (hj : j < ps.length) (n v : ByteArray) : Cut ((W.setCell ⟨g, kept.length * 2, none⟩ (.string n)).setCell ⟨g, kept.length * 2 + 1, none⟩ (.string v)) g ps (kept ++ [(n, v)]) (j + 1) := by
  obtain ⟨cur, h1, h2, h3, h4⟩ := h
  refine ⟨(cur.setIfInBounds (kept.length * 2) (.string n)).setIfInBounds (kept.length * 2 + 1) (.string v), ?_, by simpa using h2, fun t ht => ?_, fun t ht1 ht2 => ?_⟩
  · have e1 : (W.setCell ⟨g, kept.length * 2, none⟩ (.string n)).heap[g]? = some (.cells (cur.setIfInBounds (kept.length * 2) (.string n)) 58 (0, 0)) := by simp [World.setCell, Array.getElem?_modify, h1]
    simp [World.setCell, Array.getElem?_modify] at e1 ⊢
    simp [h1]
  · rw [List.length_append] at ht
    simp only [List.length_cons, List.length_nil, Nat.zero_add] at ht
    rw [pcells_append]
    have hpl := pcells_length kept
    rcases (by omega : t < kept.length * 2 ∨ t = kept.length * 2 ∨ t = kept.length * 2 + 1) with h | h | h
    · rw [List.getElem?_append_left (by omega), ← h3 t h, Array.getElem?_setIfInBounds, if_neg (by omega), Array.getElem?_setIfInBounds, if_neg (by omega)]
    · subst h
      rw [List.getElem?_append_right (by omega), hpl, Nat.sub_self, Array.getElem?_setIfInBounds, if_neg (by omega), Array.getElem?_setIfInBounds, if_pos rfl, if_pos (by omega)]; rfl
    · subst h
      rw [List.getElem?_append_right (by omega), hpl, show kept.length * 2 + 1 - kept.length * 2 = 1 by omega, Array.getElem?_setIfInBounds, if_pos rfl, if_pos (by simp; omega)]; rfl
  · rw [Array.getElem?_setIfInBounds, if_neg (by omega), Array.getElem?_setIfInBounds, if_neg (by omega)]
    exact h4 t (by omega) ht2
theorem Cut.ps {W : World} {g j k cap : Nat} {ps kept : List (ByteArray × ByteArray)} (h : Cut W g ps kept j) (hk : k = kept.length) : Ps W W.heap.size (.slice (some ⟨g, 0, none⟩) k cap) kept := by
  subst hk
  obtain ⟨cur, h1, h2, h3, h4⟩ := h
  refine .inr ⟨g, 0, cap, rfl, (Array.getElem?_eq_some_iff.1 h1).1, fun i hi => ?_⟩
  obtain ⟨p1, p2⟩ := pcells_at kept i hi
  rw [Nat.zero_add]
  exact ⟨cell_of_cur h1 (by rw [h3 _ (by omega)]; exact p1), cell_of_cur h1 (by rw [h3 _ (by omega)]; exact p2)⟩

set_option maxHeartbeats 4000000 in
theorem delHow_any (v : Value) (ps : List (ByteArray × ByteArray)) (base : Nat) (w : World) (hown : Pp.Own w base v ps) (hl : ps.length ≤ 100) :
    Calls Tryz.prog 200 #[v, .func (.func 176) #[] #[]] w fun e w' => ∃ v', e = .returned v' ∧ Ps w' w'.heap.size v' (drp ps) ∧ v'.ownBlock = v.ownBlock ∧ w.grownBy w' v.ownBlock := by
  have hps := hown.ps
  have CI := Lib.hid (indexHow_any v ps w hps (by omega))
  have CD := Lib.hid (fun n v W => saysHow_any n v W)
  have HOWN := Lib.hid hown
  obtain ⟨pa, pc, rfl⟩ := hps.shape
  have HPS := Lib.hid hps
  have hsh := hown.2
  clear hown hps
  go_enter Tryz.func200, Tryz.ntmps200
  go_wp2_with fail
  refine CI.out.mono ?_
  rintro e w1 ⟨⟨rfl, hall⟩ | ⟨k, hk, rfl, hhit, hpre⟩, b1⟩
  · have HA := Lib.hid hall
    have hP := (HPS.out.below b1).up b1.size
    rw [← hall] at hP
    have HP := Lib.hid hP
    clear hall hsh hP
    go_wp2_with fail
    go_ret
    refine ⟨_, rfl, ?_, rfl, gOf b1⟩
    have := HP.out
    rw [HA.out] at this ⊢
    exact this
  · obtain ⟨g, cap, cur, hv, hg, hgc, hnc, hcm, hcs, htake⟩ : ∃ g cap cur, Value.slice pa ps.length pc = .slice (some ⟨g, 0, none⟩) ps.length cap ∧ base ≤ g ∧ w.heap[g]? = some (.cells cur 58 (0, 0)) ∧ ps.length ≤ cap ∧ cap ≤ maxLen ∧ cur.size = cap * 2 ∧ cur.toList.take (ps.length * 2) = pcells ps := by
      rcases hsh with ⟨_, h0⟩ | h
      · omega
      · exact h
    simp only [Value.slice.injEq, true_and] at hv
    obtain ⟨rfl, rfl⟩ := hv
    have hgw : g < w.heap.size := (Array.getElem?_eq_some_iff.1 hgc).1
    have hcut : ∀ t, t < ps.length * 2 → cur[t]? = (pcells ps)[t]? := fun t ht => by
      rw [← htake, List.getElem?_take_of_lt ht]; simp
    have hc1 : Cut w1 g ps (drp (ps.take (k + 1))) (k + 1) := by
      rw [drp_yes hk hhit, hpre]
      refine ⟨cur, (b1.block g hgw).trans hgc, by omega, fun t ht => ?_, fun t _ ht => hcut t ht⟩
      rw [List.length_take] at ht
      rw [hcut t (by omega)]
      conv => lhs; rw [← List.take_append_drop k ps, pcells_append]
      rw [List.getElem?_append_left (by rw [pcells_length, List.length_take]; omega)]
    have hlen1 : (drp (ps.take (k + 1))).length < k + 1 := by rw [drp_yes hk hhit, hpre, List.length_take]; omega
    have hlen0 : (drp (ps.take (k + 1))).length = k := by rw [drp_yes hk hhit, hpre, List.length_take]; omega
    have HC1 := Lib.hid hc1
    have HB1 := Lib.hid (gOf (r := some g) b1)
    have hmx : maxLen ≤ 9223372036854775807 := by decide
    have hcapi : (pc : Int) ≤ 9223372036854775807 := by omega
    have hnci : (ps.length : Int) ≤ (pc : Int) := by omega
    have HCAP := Lib.hid (And.intro hcapi hnci)
    clear hcapi hnci
    clear hhit hpre hcut htake hcm hcs hc1 hsh hgc HPS HOWN CI hmx
    have hk1 : (k : Int) + 1 ≤ 100 := by omega
    have hne : ((k : Int) == -1) = false := beq_eq_false_iff_ne.2 (by omega)
    go_wp2_with fail
    go_loopw [5, 6] (fun iv jv wr => ∃ j : Nat, j ≤ ps.length ∧ jv = .int .i64 (j : Int) ∧ iv = .int .i64 ((drp (ps.take j)).length : Int) ∧ (drp (ps.take j)).length < j ∧ Cut wr g ps (drp (ps.take j)) j ∧ w.grownBy wr (some g)) (fun _ jv _ => ps.length - (intOf jv).toNat)
    case atStart => exact ⟨k + 1, hk, by go_num, by rw [hlen0], hlen1, HC1.out, HB1.out⟩
    case round =>
      obtain ⟨j, hj, rfl, rfl, hkl, hcut, hbel⟩ := hrel
      by_cases hlt : j < ps.length
      · have HY := Lib.hid (drp_yes hlt)
        have HN := Lib.hid (drp_no hlt)
        have hat := hcut.at_ hlt
        have hil : (drp (ps.take j)).length < ps.length := by omega
        generalize drp (ps.take j) = kept at HY HN hkl hcut hil
        generalize ps[j] = x at hat HY HN
        obtain ⟨n', v'⟩ := x
        simp only at hat HY HN
        obtain ⟨hc0, hc1⟩ := hat
        have bq : Below wr.heap.size wr (wr.alloc (.cells #[.string n', .string v'] 58)) := (Below.refl _ _).alloc (Nat.le_refl _) _
        have C := Lib.hid (CD.out n' v' (wr.alloc (.cells #[.string n', .string v'] 58)))
        have hltz : (j : Int) < (ps.length : Int) := by omega
        have HCQ := Lib.hid (hcut.below bq)
        have HBQ := Lib.hid (gBelow hbel bq)
        have HKL := Lib.hid hkl
        have hiz : (kept.length : Int) < (ps.length : Int) := by omega
        clear hcut hbel bq hkl hil
        cases he : sayHow (n', v')
        · rw [he] at C
          have HN' := Lib.hid (HN.out he)
          clear he HN HY
          go_wp2_with (go_at_call 176; refine C.out.mono ?_; rintro e w2 ⟨rfl, b2⟩; have hcut2 := HCQ.out.below b2; have hbel2 := gBelow HBQ.out b2; obtain ⟨⟨u0, hu0⟩, ⟨u1, hu1⟩, hf0, hf1⟩ := hcut2.old (i := kept.length) (by omega); have hqb := (b2.block wr.heap.size (by rw [World.size_alloc]; omega)).trans (heap_alloc_new wr (.cells #[.string n', .string v'] 58)); have q0 : w2.cell? ⟨wr.heap.size, 0, none⟩ = some (.string n') := cell_of_cur hqb rfl; have q1 : w2.cell? ⟨wr.heap.size, 1, none⟩ = some (.string v') := cell_of_cur hqb rfl; clear hqb)
          go_roundw
          case rel =>
            have hk := HKL.out
            refine ⟨j + 1, by omega, by go_num, by rw [HN'.out, List.length_append]; go_num, by rw [HN'.out, List.length_append]; simp; omega, ?_, gSet (gSet hbel2 _ _) _ _⟩
            rw [HN'.out]
            exact hcut2.keep hk hlt n' v'
          case measure => simp [intOf]; omega
        · rw [he] at C
          have HY' := Lib.hid (HY.out he)
          clear he HN HY
          go_wp2_with (go_at_call 176; refine C.out.mono ?_; rintro e w2 ⟨rfl, b2⟩)
          have hcut2 := HCQ.out.below b2
          go_roundw
          case rel => exact ⟨j + 1, by omega, by go_num, by rw [HY'.out], by rw [HY'.out]; have := HKL.out; omega, by rw [HY'.out]; exact hcut2.skip, gBelow HBQ.out b2⟩
          case measure => simp [intOf]; omega
      · obtain rfl : j = ps.length := by omega
        have hwout : drp (ps.take ps.length) = drp ps := by rw [List.take_length]
        rw [hwout] at hcut hkl ⊢
        have hltz : ¬ (ps.length : Int) < (ps.length : Int) := by omega
        obtain ⟨hcapi, hnci⟩ := HCAP.out
        obtain ⟨cur2, hg2, hsz2, hlow2, _⟩ := hcut
        obtain ⟨W2, hclr, ⟨cur3, hg3, hlow3⟩, bW⟩ := clear_ps g (drp ps).length (ps.length - (drp ps).length) (pc - (drp ps).length) cur2 wr hg2 (by omega) (by omega)
        have hP : Ps W2 W2.heap.size (.slice (some ⟨g, 0, none⟩) (drp ps).length pc) (drp ps) := by
          refine .inr ⟨g, 0, pc, rfl, (Array.getElem?_eq_some_iff.1 hg3).1, fun i hi => ?_⟩
          obtain ⟨p1, p2⟩ := pcells_at (drp ps) i hi
          rw [Nat.zero_add]
          exact ⟨cell_of_cur hg3 (by rw [hlow3 _ (by omega), hlow2 _ (by omega)]; exact p1), cell_of_cur hg3 (by rw [hlow3 _ (by omega), hlow2 _ (by omega)]; exact p2)⟩
        have HP := Lib.hid hP
        have HBW := Lib.hid (gGrown hbel bW)
        have hkz : ((drp ps).length : Int) < (ps.length : Int) := by omega
        clear hP hlow2 hlow3 hg2 hg3 hsz2 bW hbel hkl hwout
        generalize (drp ps).length = i at *
        go_wp2_with fail
        go_ret
        exact ⟨_, rfl, HP.out, rfl, HBW.out⟩
end Go.Proofs.YtjgfbicllgalkaaGreatDoor.Vc

namespace Go.Proofs.YtjgfbicllgalkaaGreatDoor.Pp
open Go.RowKit

/-- Parameters that came in: none, or cells behind an address. -/
theorem Ps.src {w : World} {B : Nat} {v : Value} {ps : List (ByteArray × ByteArray)} (h : Ps w B v ps) :
    (v = .slice none 0 0 ∧ ps = []) ∨ ∃ ad pc, v = .slice (some ad) ps.length pc ∧ ∀ j u, (pcells ps)[j]? = some u → w.cell? (ad.add j) = some u := by
  rcases h with ⟨rfl, rfl | ⟨ad, cap, rfl⟩⟩ | ⟨b, o, cap, rfl, h2, h3⟩
  · exact .inl ⟨rfl, rfl⟩
  · exact .inr ⟨ad, cap, rfl, fun j u hu => by simp [pcells] at hu⟩
  · refine .inr ⟨_, cap, rfl, fun j u hu => ?_⟩
    obtain ⟨i, hi, ⟨rfl, rfl⟩ | ⟨rfl, rfl⟩⟩ := pcells_get hu
    · rw [Lib.addr_add]; exact (h3 i hi).1
    · rw [Lib.addr_add, ← Nat.add_assoc]; exact (h3 i hi).2

theorem alloc_cell {W : World} {a : Addr} {v : Value} (o : Obj) (h : W.cell? a = some v) : (W.alloc o).cell? a = some v := by
  have hb := World.block_lt_of_cell? W _ h
  exact (((Below.refl _ W).alloc (Nat.le_refl _) o).cell hb).trans h
theorem own_low {w : World} {b b' : Nat} {v : Value} {ps : List (ByteArray × ByteArray)} (hb : b' ≤ b) (h : Own w b v ps) : Own w b' v ps := by
  obtain ⟨h0, h⟩ := h
  refine ⟨h0, ?_⟩
  rcases h with h | ⟨g, cap, cur, h1, h2, h3⟩
  · exact .inl h
  · exact .inr ⟨g, cap, cur, h1, by omega, h3⟩
theorem Own.set {w : World} {base : Nat} {v : Value} {ps : List (ByteArray × ByteArray)} (h : Own w base v ps) {a : Addr} (ha : a.block < base) (u : Value) : Own (w.setCell a u) base v ps := ownsRow_setCell_below h ha u
theorem shapeP {w : World} {base n : Nat} {v : Value} {xs : List Value} (h : w.ownsRow base 58 2 v n xs) : ∃ a cap, v = .slice a n cap := by
  obtain ⟨_, ⟨rfl, rfl⟩ | ⟨g, cap, cur, rfl, _⟩⟩ := h
  · exact ⟨none, 0, rfl⟩
  · exact ⟨_, cap, rfl⟩

theorem Own.nil (w : World) (base : Nat) : Own w base (.slice none 0 0) [] := World.ownsRow_nil _ _ _ _
theorem Own.snoc {w : World} {base : Nat} {v : Value} {l : List (ByteArray × ByteArray)} {p : ByteArray × ByteArray} (h : w.ownsRow base 58 2 v (l.length + 1) (pcells l ++ [.string p.1, .string p.2])) : Own w base v (l ++ [p]) := by
  unfold Own; rw [pcells_append, List.length_append]; exact h
end Go.Proofs.YtjgfbicllgalkaaGreatDoor.Pp
