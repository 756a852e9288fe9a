/-
slices.DeleteFunc at parameters of a name: what is left lies at the row's beginning. Conditions: the row is the caller's own, at most 2^40 parameters.
-/
import Derived.Test.YtfgaabjpkmmpdaaPpWithout
import Derived.Laws.CopyRow
namespace Go.Proofs.Ytfgaabjpkmmpdaa.Pp
open Go.RowKit

theorem wout_app (a b : List (ByteArray × ByteArray)) (s : ByteArray) : wout (a ++ b) s = wout a s ++ wout b s := by unfold wout; rw [List.filter_append]
theorem wout_len (a : List (ByteArray × ByteArray)) (s : ByteArray) : (wout a s).length ≤ a.length := by unfold wout; exact List.length_filter_le _ _
theorem take_next {α : Type} {l : List α} {k : Nat} (h : k < l.length) : l.take (k + 1) = l.take k ++ [l[k]] := by rw [List.take_add_one, List.getElem?_eq_getElem h]; rfl
theorem wout_take_yes {ps : List (ByteArray × ByteArray)} {s : ByteArray} {k : Nat} (h : k < ps.length) (he : (ps[k].1.toList == s.toList) = true) : wout (ps.take (k + 1)) s = wout (ps.take k) s := by
  rw [take_next h, wout_app]
  have : wout [ps[k]] s = [] := by unfold wout; rw [List.filter_cons, he]; rfl
  rw [this, List.append_nil]
theorem wout_take_no {ps : List (ByteArray × ByteArray)} {s : ByteArray} {k : Nat} (h : k < ps.length) (he : (ps[k].1.toList == s.toList) = false) : wout (ps.take (k + 1)) s = wout (ps.take k) s ++ [ps[k]] := by
  rw [take_next h, wout_app]
  have : wout [ps[k]] s = [ps[k]] := by unfold wout; rw [List.filter_cons, he]; rfl
  rw [this]

theorem del_any (n v nm : ByteArray) (b : Nat) (w : World) (hb : w.cell? ⟨b, 0, none⟩ = some (.string nm)) :
    Calls Try.prog 28 #[.agg #[.string n, .string v], .pointer (some ⟨b, 0, none⟩)] w fun e w' => e = .returned (.bool (n.toList == nm.toList)) ∧ Below w.heap.size w w' := by
  have hlt := World.block_lt_of_cell? w _ hb
  have BB : Below w.heap.size w (w.alloc (.cells #[.string n, .string v] 39)) := (Below.refl _ _).alloc (Nat.le_refl _) _
  have hb2 := (BB.cell (p := ⟨b, 0, none⟩) hlt).trans hb
  cases he : (n.toList == nm.toList)
  · go_enter Try.func28, Try.ntmps28
    go_wp2_with fail
    go_ret
    exact ⟨rfl, BB⟩
  · go_enter Try.func28, Try.ntmps28
    go_wp2_with fail
    go_ret
    exact ⟨rfl, BB⟩

set_option maxHeartbeats 800000 in
/-- The first parameter of the name, or -1. -/
theorem indexDel_any (pv : Value) (ps : List (ByteArray × ByteArray)) (nm : ByteArray) (b : Nat) (w : World) (hps : Ps w w.heap.size pv ps) (hl : ps.length ≤ 1099511627776) (hb : w.cell? ⟨b, 0, none⟩ = some (.string nm)) :
    Calls Try.prog 29 #[pv, .func (.func 28) #[] #[.pointer (some ⟨b, 0, none⟩)]] w fun e w' =>
      ((e = .returned (.int .i64 (-1)) ∧ wout ps nm = ps) ∨ ∃ k : Nat, ∃ h : k < ps.length, e = .returned (.int .i64 k) ∧ (ps[k].1.toList == nm.toList) = true ∧ wout (ps.take k) nm = ps.take k) ∧ Below w.heap.size w w' := by
  obtain ⟨pa, pc, rfl⟩ := hps.shape
  have hlt := World.block_lt_of_cell? w _ hb
  have CD := Lib.hid (fun n v W h => del_any n v nm b W h)
  go_enter Try.func29, Try.ntmps29
  go_wp2_with fail
  go_loopw [8] (fun iv wr => ∃ k : Nat, k ≤ ps.length ∧ iv = .int .i64 k ∧ Below w.heap.size w wr ∧ Hid (wout (ps.take k) nm = ps.take k)) (fun iv _ => ps.length - (intOf iv).toNat)
  case atStart => exact ⟨0, Nat.zero_le _, rfl, Below.refl _ _, Lib.hid rfl⟩
  case round =>
    obtain ⟨k, hk, rfl, hbel, HK⟩ := hrel
    by_cases hlt2 : k < ps.length
    · obtain ⟨b', o, cap, hv1, hbB, hc0, hc1⟩ := (hps.below hbel).at_ hlt2
      simp only [Value.slice.injEq, true_and] at hv1
      obtain ⟨rfl, rfl⟩ := hv1
      have HN := Lib.hid (wout_take_no (s := nm) hlt2)
      have HT := Lib.hid (take_next hlt2)
      have HX := Lib.hid (fun (h : (ps[k].1.toList == nm.toList) = true) => h)
      obtain ⟨x, hx⟩ : ∃ x, ps[k] = x := ⟨_, rfl⟩
      rw [hx] at hc0 hc1 HN HT
      have HXX := Lib.hid hx
      clear hx
      obtain ⟨n', v'⟩ := x
      simp only at HN hc0 hc1
      have C := Lib.hid (CD.out n' v' wr ((hbel.cell (p := ⟨b, 0, none⟩) hlt).trans hb))
      cases hp : (n'.toList == nm.toList) <;> rw [hp] at C
      · have HK' := Lib.hid (show wout (ps.take (k + 1)) nm = ps.take (k + 1) by rw [HN.out hp, HK.out, HT.out])
        clear hp
        go_wp2_with fail
        refine C.out.mono ?_
        rintro e w2 ⟨rfl, b2⟩
        go_wp2_with fail
        go_roundw
        case rel => exact ⟨k + 1, by omega, by go_num, hbel.trans (b2.mono hbel.size), HK'⟩
        case measure => simp [intOf]; omega
      · have HP := Lib.hid hp
        clear hp
        go_wp2_with fail
        refine C.out.mono ?_
        rintro e w2 ⟨rfl, b2⟩
        go_wp2_with fail
        go_ret
        exact ⟨.inr ⟨k, hlt2, rfl, by rw [HXX.out]; exact HP.out, HK.out⟩, hbel.trans (b2.mono hbel.size)⟩
    · obtain rfl : k = ps.length := by omega
      go_wp2_with fail
      go_ret
      exact ⟨.inl ⟨rfl, by have := HK.out; rw [List.take_length] at this; exact this⟩, hbel⟩

theorem gOf {w W : World} {r : Option Nat} (h : Below w.heap.size w W) : w.grownBy W r := ⟨h.os, h.tape, h.output, h.size, fun k hk _ => h.block k hk⟩
theorem gBelow {w W W' : World} {r : Option Nat} (h : w.grownBy W r) (hb : Below W.heap.size W W') : w.grownBy W' r :=
  ⟨hb.os.trans h.os, hb.tape.trans h.tape, hb.output.trans h.output, Nat.le_trans h.size hb.size, fun k hk hne => (hb.block k (Nat.lt_of_lt_of_le hk h.size)).trans (h.block k hk hne)⟩
theorem gGrown {w W W' : World} {g : Nat} (h : w.grownBy W (some g)) (hb : W.grownBy W' (some g)) : w.grownBy W' (some g) :=
  ⟨hb.os.trans h.os, hb.tape.trans h.tape, hb.output.trans h.output, Nat.le_trans h.size hb.size, fun k hk hne => (hb.block k (Nat.lt_of_lt_of_le hk h.size) hne).trans (h.block k hk hne)⟩
theorem gSet {w W : World} {g : Nat} (h : w.grownBy W (some g)) (t : Nat) (u : Value) : w.grownBy (W.setCell ⟨g, t, none⟩ u) (some g) :=
  ⟨h.os, h.tape, h.output, by rw [World.size_setCell]; exact h.size, fun k hk hne => (Below.heap_setCell W ⟨g, t, none⟩ u k (fun e => hne (by rw [e]))).trans (h.block k hk hne)⟩
theorem zeroPs : ∀ w, (zeroValue 39).run Try.prog w = .ok (.agg #[.string .empty, .string .empty]) w := Try.zeroValue39
/-- clear over the parameters from place i on: those ahead stay. -/
theorem clear_ps (g i n c : Nat) (cur : Array Value) (W : World) (hg : W.heap[g]? = some (.cells cur 39 (0, 0))) (hn : 0 < n) (h : (i + n) * 2 ≤ cur.size) :
    ∃ W', (∀ ty, (Builtin.clear_ #[22] ty #[.slice (some ⟨g, i * 2, none⟩) n c]).run Try.prog W = .ok (.tuple #[]) W') ∧ (∃ cur', W'.heap[g]? = some (.cells cur' 39 (0, 0)) ∧ ∀ t, t < i * 2 → cur'[t]? = cur[t]?) ∧ W.grownBy W' (some g) := by
  obtain ⟨zs, hzs⟩ : ∃ zs, (Builtin.zeroCells (Value.agg #[.string ⟨#[]⟩, .string ⟨#[]⟩]).cells n).toList = zs := ⟨_, rfl⟩
  have hlen : zs.length = n * 2 := by rw [← hzs]; simp [Builtin.zeroCells, Value.cells]
  have hone : ∀ v ∈ zs, v.oneCell' = true := by
    rw [← hzs]
    intro v hv
    simp only [Builtin.zeroCells, Value.cells, Array.toList_map, List.mem_map] at hv
    obtain ⟨i, _, rfl⟩ := hv
    have h2 : i % 2 = 0 ∨ i % 2 = 1 := by omega
    rcases h2 with e | e <;> simp [e, Value.oneCell']
  obtain ⟨m, rfl⟩ : ∃ m, n = m + 1 := ⟨n - 1, by omega⟩
  have hst := run_storeCells_at (P := Try.prog) g (i * 2) 39 zs 0 cur W hg (by rw [hlen]; omega) hone
  refine ⟨W.setRow g (List.take (i * 2) cur.toList ++ (zs ++ List.drop (i * 2 + zs.length) cur.toList)).toArray, fun ty => by simp [Builtin.clear_, run_underlying Try.underlying22, hzs, hst], ⟨_, setRow_heap W g cur _ 39 _ hg, fun t ht => ?_⟩, ?_⟩
  · have hl : i * 2 ≤ cur.toList.length := by simp; omega
    rw [List.getElem?_toArray, List.getElem?_append_left (by rw [List.length_take]; omega), List.getElem?_take_of_lt ht]
    simp
  · exact ⟨rfl, rfl, rfl, Nat.le_of_eq (setRow_size _ _ _).symm, fun k _ hne => setRow_other W g k _ (fun e => hne (by rw [e]))⟩

/-- A row while it is being cut: what is kept lies ahead, what is still to be looked at where it lay. -/
def Cut (W : World) (g : Nat) (ps kept : List (ByteArray × ByteArray)) (j : Nat) : Prop :=
  ∃ cur : Array Value, W.heap[g]? = some (.cells cur 39 (0, 0)) ∧ ps.length * 2 ≤ cur.size ∧ (∀ t, t < kept.length * 2 → cur[t]? = (pcells kept)[t]?) ∧ (∀ t, j * 2 ≤ t → t < ps.length * 2 → cur[t]? = (pcells ps)[t]?)
theorem Cut.below {W W' : World} {g j : Nat} {ps kept : List (ByteArray × ByteArray)} (h : Cut W g ps kept j) (hb : Below W.heap.size W W') : Cut W' g ps kept j := by
  obtain ⟨cur, h1, h2⟩ := h
  exact ⟨cur, (hb.block g (Array.getElem?_eq_some_iff.1 h1).1).trans h1, h2⟩
theorem Cut.skip {W : World} {g j : Nat} {ps kept : List (ByteArray × ByteArray)} (h : Cut W g ps kept j) : Cut W g ps kept (j + 1) := by
  obtain ⟨cur, h1, h2, h3, h4⟩ := h
  exact ⟨cur, h1, h2, h3, fun t ht => h4 t (by omega)⟩
theorem cell_of_cur {W : World} {g t : Nat} {cur : Array Value} {u : Value} {ty : TypeId} (h : W.heap[g]? = some (.cells cur ty (0, 0))) (hu : cur[t]? = some u) : W.cell? ⟨g, t, none⟩ = some u := by simp [World.cell?, h, hu]
theorem Cut.at_ {W : World} {g j : Nat} {ps kept : List (ByteArray × ByteArray)} (h : Cut W g ps kept j) (hj : j < ps.length) : W.cell? ⟨g, j * 2, none⟩ = some (.string ps[j].1) ∧ W.cell? ⟨g, j * 2 + 1, none⟩ = some (.string ps[j].2) := by
  obtain ⟨cur, h1, h2, h3, h4⟩ := h
  obtain ⟨p1, p2⟩ := pcells_at ps j hj
  exact ⟨cell_of_cur h1 (by rw [h4 _ (Nat.le_refl _) (by omega)]; exact p1), cell_of_cur h1 (by rw [h4 _ (by omega) (by omega)]; exact p2)⟩
/-- The cells that are written over, in what went before. -/
theorem Cut.old {W : World} {g j : Nat} {ps kept : List (ByteArray × ByteArray)} (h : Cut W g ps kept j) {i : Nat} (hi : i < ps.length) : (∃ u, W.cell? ⟨g, i * 2, none⟩ = some u) ∧ (∃ u, W.cell? ⟨g, i * 2 + 1, none⟩ = some u) ∧ W.frozen? ⟨g, i * 2, none⟩ = false ∧ W.frozen? ⟨g, i * 2 + 1, none⟩ = false := by
  obtain ⟨cur, h1, h2, h3, h4⟩ := h
  refine ⟨⟨_, cell_of_cur h1 (Array.getElem?_eq_getElem (by omega))⟩, ⟨_, cell_of_cur h1 (Array.getElem?_eq_getElem (by omega))⟩, ?_, ?_⟩
  · simp [World.frozen?, h1]
  · simp [World.frozen?, h1]
/-- One is kept. -/
theorem Cut.keep {W : World} {g j : Nat} {ps kept : List (ByteArray × ByteArray)} (h : Cut W g ps kept j) (hk : kept.length < j) (hj : j < ps.length) (n v : ByteArray) : Cut ((W.setCell ⟨g, kept.length * 2, none⟩ (.string n)).setCell ⟨g, kept.length * 2 + 1, none⟩ (.string v)) g ps (kept ++ [(n, v)]) (j + 1) := by
  obtain ⟨cur, h1, h2, h3, h4⟩ := h
  refine ⟨(cur.setIfInBounds (kept.length * 2) (.string n)).setIfInBounds (kept.length * 2 + 1) (.string v), ?_, by simpa using h2, fun t ht => ?_, fun t ht1 ht2 => ?_⟩
  · have e1 : (W.setCell ⟨g, kept.length * 2, none⟩ (.string n)).heap[g]? = some (.cells (cur.setIfInBounds (kept.length * 2) (.string n)) 39 (0, 0)) := by simp [World.setCell, Array.getElem?_modify, h1]
    simp [World.setCell, Array.getElem?_modify] at e1 ⊢
    simp [h1]
  · rw [List.length_append] at ht
    simp only [List.length_cons, List.length_nil, Nat.zero_add] at ht
    rw [pcells_append]
    have hpl := pcells_length kept
    rcases (by omega : t < kept.length * 2 ∨ t = kept.length * 2 ∨ t = kept.length * 2 + 1) with h | h | h
    · rw [List.getElem?_append_left (by omega), ← h3 t h, Array.getElem?_setIfInBounds, if_neg (by omega), Array.getElem?_setIfInBounds, if_neg (by omega)]
    · subst h
      rw [List.getElem?_append_right (by omega), hpl, Nat.sub_self, Array.getElem?_setIfInBounds, if_neg (by omega), Array.getElem?_setIfInBounds, if_pos rfl, if_pos (by omega)]; rfl
    · subst h
      rw [List.getElem?_append_right (by omega), hpl, show kept.length * 2 + 1 - kept.length * 2 = 1 by omega, Array.getElem?_setIfInBounds, if_pos rfl, if_pos (by simp; omega)]; rfl
  · rw [Array.getElem?_setIfInBounds, if_neg (by omega), Array.getElem?_setIfInBounds, if_neg (by omega)]
    exact h4 t (by omega) ht2
end Go.Proofs.Ytfgaabjpkmmpdaa.Pp
