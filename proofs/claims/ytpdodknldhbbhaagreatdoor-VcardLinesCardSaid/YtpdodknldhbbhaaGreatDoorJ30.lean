/-
Texts joined in one file, each with its own conditions: slices.DeleteFunc at parameters that say how a value is written: what is left lies at the row's beginning; slices.IndexFunc. Conditions: the row is the caller's own, at most 100 parameters. · Words of the program's reader of cards: blank lines, a mark at a value's end, how a property is written. Conditions: texts have at most 2^47 bytes, at most 2^40 parameters. · A property with the value that is meant, and without the parameters that say how it is written: the program's asMeant. Conditions: at most 100 parameters, in a row that the caller made; the value has at most 2^20 bytes; the library's tables hold what the rows list. · The program's reader of cards in memory: its block, the cards that are open, the card that has ended; what leaves it as it is. No conditions. · What a reading by descent can give: few properties, few parameters, at most one card in a property, few within one another; such a card is the same as itself. No program in it. No conditions. · A card's lines, in plain words. No program in it, no conditions. · A card's text and what is wrong with the card, in plain words; a card that is right is short in all its parts. No program in it, no conditions. · A folded line is short, or has no blank at which it could be folded. No program in it, no conditions. · All bytes of a card's lines are such as anybody prints. No program in it, no conditions. · How the statement on lines goes through a text, in plain words, and that it finds no fault with a card's text. No program in it, no conditions. · What is small in a card that is not too much to be asked: its lines, and its levels. No program in it, no conditions. · The document's check of a card answers the plain one. Conditions: the card lies below the caller's blocks, and no list of it is longer than 2^40. · The document's lines of a card are the plain ones. Conditions: the card lies below the caller's blocks; at most 24 properties in a card, 4 parameters and 600 bytes in a property, one card in a property, three cards within one another. · Which letters a value has, and how it is written: the program's question and the document's are one. No program in it, no conditions. · How a value is written: the program's answer is the plain one, if its pieces of letters are. Conditions: a value of at most 2^20 bytes; the library's tables. · Letters in pieces, each with a blank ahead: the program's inPieces answers the plain one. Conditions: at most 2^30 letters.
-/
import Derived.Test.YtpdodknldhbbhaaGreatDoorJ22
import Derived.Test.YtpdodknldhbbhaaGreatDoorJ07
import Derived.Laws.CopyRow
import Derived.Test.YtpdodknldhbbhaaGreatDoorShelf
import Derived.Test.YtpdodknldhbbhaaGreatDoorJ08
import Derived.Test.YtpdodknldhbbhaaGreatDoorJ24
import Derived.Test.YtpdodknldhbbhaaGreatDoorJ10
import Derived.Test.YtpdodknldhbbhaaGreatDoorJ01
import Derived.Test.YtpdodknldhbbhaaGreatDoorJ05
import Derived.Test.YtpdodknldhbbhaaGreatDoorJ04
import Derived.Test.YtpdodknldhbbhaaGreatDoorJ26
import Derived.Test.YtpdodknldhbbhaaGreatDoorJ19
import Derived.Test.YtpdodknldhbbhaaGreatDoorJ03
import Derived.Test.YtpdodknldhbbhaaGreatDoorJ06
import Derived.BigQuiet
import Derived.Deep.QuietTactic
import Derived.RegionTactic
import Derived.Test.YtpdodknldhbbhaaGreatDoorJ12
import Derived.Test.YtpdodknldhbbhaaGreatDoorJ11
import Derived.Test.YtpdodknldhbbhaaGreatDoorJ27
import Derived.Test.YtpdodknldhbbhaaGreatDoorJ20
import Derived.Test.YtpdodknldhbbhaaGreatDoorJ29
import Derived.Deep.CutBlock
import Derived.Deep.CutRange
import Derived.Test.YtpdodknldhbbhaaGreatDoorJ17
import Derived.Test.YtpdodknldhbbhaaGreatDoorJ16
import Derived.Test.YtpdodknldhbbhaaGreatDoorJ21
import Derived.Test.YtpdodknldhbbhaaGreatDoorJ13
import Derived.Lib.AppendStr
namespace Go.Proofs.YtpdodknldhbbhaaGreatDoor.Vc
set_option maxRecDepth 100000
open Go.RowKit Pp

/-- The parameters that are left. -/
def drp (ps : List (ByteArray × ByteArray)) : List (ByteArray × ByteArray) := ps.filter fun p => !sayHow p
theorem drp_app (a b : List (ByteArray × ByteArray)) : drp (a ++ b) = drp a ++ drp b := by unfold drp; rw [List.filter_append]
theorem drp_len (a : List (ByteArray × ByteArray)) : (drp a).length ≤ a.length := by unfold drp; exact List.length_filter_le _ _
theorem take_next {α : Type} {l : List α} {k : Nat} (h : k < l.length) : l.take (k + 1) = l.take k ++ [l[k]] := by rw [List.take_add_one, List.getElem?_eq_getElem h]; rfl
theorem drp_yes {ps : List (ByteArray × ByteArray)} {k : Nat} (h : k < ps.length) (he : sayHow ps[k] = true) : drp (ps.take (k + 1)) = drp (ps.take k) := by
  rw [take_next h, drp_app]
  have : drp [ps[k]] = [] := by unfold drp; rw [List.filter_cons, he]; rfl
  rw [this, List.append_nil]
theorem drp_no {ps : List (ByteArray × ByteArray)} {k : Nat} (h : k < ps.length) (he : sayHow ps[k] = false) : drp (ps.take (k + 1)) = drp (ps.take k) ++ [ps[k]] := by
  rw [take_next h, drp_app]
  have : drp [ps[k]] = [ps[k]] := by unfold drp; rw [List.filter_cons, he]; rfl
  rw [this]

set_option maxHeartbeats 800000 in
/-- The first parameter that says how, or -1. -/
theorem indexHow_any (pv : Value) (ps : List (ByteArray × ByteArray)) (w : World) (hps : Ps w w.heap.size pv ps) (hl : ps.length ≤ 1099511627776) :
    Calls Tryz.prog 105 #[pv, .func (.func 106) #[] #[]] w fun e w' =>
      ((e = .returned (.int .i64 (-1)) ∧ drp ps = ps) ∨ ∃ k : Nat, ∃ h : k < ps.length, e = .returned (.int .i64 k) ∧ sayHow ps[k] = true ∧ drp (ps.take k) = ps.take k) ∧ Below w.heap.size w w' := by
  obtain ⟨pa, pc, rfl⟩ := hps.shape
  have CD := Lib.hid (fun n v W => saysHow_any n v W)
  go_enter Tryz.func105, Tryz.ntmps105
  go_wp2_with fail
  go_loopw [8] (fun iv wr => ∃ k : Nat, k ≤ ps.length ∧ iv = .int .i64 k ∧ Below w.heap.size w wr ∧ Hid (drp (ps.take k) = ps.take k)) (fun iv _ => ps.length - (intOf iv).toNat)
  case atStart => exact ⟨0, Nat.zero_le _, rfl, Below.refl _ _, Lib.hid rfl⟩
  case round =>
    obtain ⟨k, hk, rfl, hbel, HK⟩ := hrel
    by_cases hlt2 : k < ps.length
    · obtain ⟨b', o, cap, hv1, hbB, hc0, hc1⟩ := (hps.below hbel).at_ hlt2
      simp only [Value.slice.injEq, true_and] at hv1
      obtain ⟨rfl, rfl⟩ := hv1
      have HN := Lib.hid (drp_no hlt2)
      have HT := Lib.hid (take_next hlt2)
      have HX := Lib.hid (fun (h : sayHow ps[k] = true) => h)
      obtain ⟨x, hx⟩ : ∃ x, ps[k] = x := ⟨_, rfl⟩
      rw [hx] at hc0 hc1 HN HT
      have HXX := Lib.hid hx
      clear hx
      obtain ⟨n', v'⟩ := x
      simp only at HN hc0 hc1
      have C := Lib.hid (CD.out n' v' wr)
      cases hp : sayHow (n', v') <;> rw [hp] at C
      · have HK' := Lib.hid (show drp (ps.take (k + 1)) = ps.take (k + 1) by rw [HN.out hp, HK.out, HT.out])
        clear hp
        go_wp2_with fail
        refine C.out.mono ?_
        rintro e w2 ⟨rfl, b2⟩
        go_wp2_with fail
        go_roundw
        case rel => exact ⟨k + 1, by omega, by go_num, hbel.trans (b2.mono hbel.size), HK'⟩
        case measure => simp [intOf]; omega
      · have HP := Lib.hid hp
        clear hp
        go_wp2_with fail
        refine C.out.mono ?_
        rintro e w2 ⟨rfl, b2⟩
        go_wp2_with fail
        go_ret
        exact ⟨.inr ⟨k, hlt2, rfl, by rw [HXX.out]; exact HP.out, HK.out⟩, hbel.trans (b2.mono hbel.size)⟩
    · obtain rfl : k = ps.length := by omega
      go_wp2_with fail
      go_ret
      exact ⟨.inl ⟨rfl, by have := HK.out; rw [List.take_length] at this; exact this⟩, hbel⟩

theorem gOf {w W : World} {r : Option Nat} (h : Below w.heap.size w W) : w.grownBy W r := ⟨h.os, h.tape, h.output, h.size, fun k hk _ => h.block k hk⟩
theorem gBelow {w W W' : World} {r : Option Nat} (h : w.grownBy W r) (hb : Below W.heap.size W W') : w.grownBy W' r :=
  ⟨hb.os.trans h.os, hb.tape.trans h.tape, hb.output.trans h.output, Nat.le_trans h.size hb.size, fun k hk hne => (hb.block k (Nat.lt_of_lt_of_le hk h.size)).trans (h.block k hk hne)⟩
theorem gGrown {w W W' : World} {g : Nat} (h : w.grownBy W (some g)) (hb : W.grownBy W' (some g)) : w.grownBy W' (some g) :=
  ⟨hb.os.trans h.os, hb.tape.trans h.tape, hb.output.trans h.output, Nat.le_trans h.size hb.size, fun k hk hne => (hb.block k (Nat.lt_of_lt_of_le hk h.size) hne).trans (h.block k hk hne)⟩
theorem gSet {w W : World} {g : Nat} (h : w.grownBy W (some g)) (t : Nat) (u : Value) : w.grownBy (W.setCell ⟨g, t, none⟩ u) (some g) :=
  ⟨h.os, h.tape, h.output, by rw [World.size_setCell]; exact h.size, fun k hk hne => (Below.heap_setCell W ⟨g, t, none⟩ u k (fun e => hne (by rw [e]))).trans (h.block k hk hne)⟩
/-- clear over the parameters from place i on: those ahead stay. -/
theorem clear_ps (g i n c : Nat) (cur : Array Value) (W : World) (hg : W.heap[g]? = some (.cells cur 66 (0, 0))) (hn : 0 < n) (h : (i + n) * 2 ≤ cur.size) :
    ∃ W', (∀ ty, (Builtin.clear_ #[51] ty #[.slice (some ⟨g, i * 2, none⟩) n c]).run Tryz.prog W = .ok (.tuple #[]) W') ∧ (∃ cur', W'.heap[g]? = some (.cells cur' 66 (0, 0)) ∧ ∀ t, t < i * 2 → cur'[t]? = cur[t]?) ∧ W.grownBy W' (some g) := by
  obtain ⟨zs, hzs⟩ : ∃ zs, (Builtin.zeroCells (Value.agg #[.string ⟨#[]⟩, .string ⟨#[]⟩]).cells n).toList = zs := ⟨_, rfl⟩
  have hlen : zs.length = n * 2 := by rw [← hzs]; simp [Builtin.zeroCells, Value.cells]
  have hone : ∀ v ∈ zs, v.oneCell' = true := by
    rw [← hzs]
    intro v hv
    simp only [Builtin.zeroCells, Value.cells, Array.toList_map, List.mem_map] at hv
    obtain ⟨i, _, rfl⟩ := hv
    have h2 : i % 2 = 0 ∨ i % 2 = 1 := by omega
    rcases h2 with e | e <;> simp [e, Value.oneCell']
  obtain ⟨m, rfl⟩ : ∃ m, n = m + 1 := ⟨n - 1, by omega⟩
  have hst := run_storeCells_at (P := Tryz.prog) g (i * 2) 66 zs 0 cur W hg (by rw [hlen]; omega) hone
  refine ⟨W.setRow g (List.take (i * 2) cur.toList ++ (zs ++ List.drop (i * 2 + zs.length) cur.toList)).toArray, fun ty => by simp [Builtin.clear_, run_underlying Tryz.underlying51, hzs, hst], ⟨_, setRow_heap W g cur _ 66 _ hg, fun t ht => ?_⟩, ?_⟩
  · have hl : i * 2 ≤ cur.toList.length := by simp; omega
    rw [List.getElem?_toArray, List.getElem?_append_left (by rw [List.length_take]; omega), List.getElem?_take_of_lt ht]
    simp
  · exact ⟨rfl, rfl, rfl, Nat.le_of_eq (setRow_size _ _ _).symm, fun k _ hne => setRow_other W g k _ (fun e => hne (by rw [e]))⟩

/-- A row while it is being cut: what is kept lies ahead, what is still to be looked at where it lay. -/
def Cut (W : World) (g : Nat) (ps kept : List (ByteArray × ByteArray)) (j : Nat) : Prop :=
  ∃ cur : Array Value, W.heap[g]? = some (.cells cur 66 (0, 0)) ∧ ps.length * 2 ≤ cur.size ∧ (∀ t, t < kept.length * 2 → cur[t]? = (pcells kept)[t]?) ∧ (∀ t, j * 2 ≤ t → t < ps.length * 2 → cur[t]? = (pcells ps)[t]?)
theorem Cut.below {W W' : World} {g j : Nat} {ps kept : List (ByteArray × ByteArray)} (h : Cut W g ps kept j) (hb : Below W.heap.size W W') : Cut W' g ps kept j := by
  obtain ⟨cur, h1, h2⟩ := h
  exact ⟨cur, (hb.block g (Array.getElem?_eq_some_iff.1 h1).1).trans h1, h2⟩
theorem Cut.skip {W : World} {g j : Nat} {ps kept : List (ByteArray × ByteArray)} (h : Cut W g ps kept j) : Cut W g ps kept (j + 1) := by
  obtain ⟨cur, h1, h2, h3, h4⟩ := h
  exact ⟨cur, h1, h2, h3, fun t ht => h4 t (by omega)⟩
theorem cell_of_cur {W : World} {g t : Nat} {cur : Array Value} {u : Value} {ty : TypeId} (h : W.heap[g]? = some (.cells cur ty (0, 0))) (hu : cur[t]? = some u) : W.cell? ⟨g, t, none⟩ = some u := by simp [World.cell?, h, hu]
theorem Cut.at_ {W : World} {g j : Nat} {ps kept : List (ByteArray × ByteArray)} (h : Cut W g ps kept j) (hj : j < ps.length) : W.cell? ⟨g, j * 2, none⟩ = some (.string ps[j].1) ∧ W.cell? ⟨g, j * 2 + 1, none⟩ = some (.string ps[j].2) := by
  obtain ⟨cur, h1, h2, h3, h4⟩ := h
  obtain ⟨p1, p2⟩ := pcells_at ps j hj
  exact ⟨cell_of_cur h1 (by rw [h4 _ (Nat.le_refl _) (by omega)]; exact p1), cell_of_cur h1 (by rw [h4 _ (by omega) (by omega)]; exact p2)⟩
/-- The cells that are written over, in what went before. -/
theorem Cut.old {W : World} {g j : Nat} {ps kept : List (ByteArray × ByteArray)} (h : Cut W g ps kept j) {i : Nat} (hi : i < ps.length) : (∃ u, W.cell? ⟨g, i * 2, none⟩ = some u) ∧ (∃ u, W.cell? ⟨g, i * 2 + 1, none⟩ = some u) ∧ W.frozen? ⟨g, i * 2, none⟩ = false ∧ W.frozen? ⟨g, i * 2 + 1, none⟩ = false := by
  obtain ⟨cur, h1, h2, h3, h4⟩ := h
  refine ⟨⟨_, cell_of_cur h1 (Array.getElem?_eq_getElem (by omega))⟩, ⟨_, cell_of_cur h1 (Array.getElem?_eq_getElem (by omega))⟩, ?_, ?_⟩
  · simp [World.frozen?, h1]
  · simp [World.frozen?, h1]
/-- One is kept. -/
theorem Cut.keep {W : World} {g j : Nat} {ps kept : List (ByteArray × ByteArray)} (h : Cut W g ps kept j) (hk : kept.length < j) (hj : j < ps.length) (n v : ByteArray) : Cut ((W.setCell ⟨g, kept.length * 2, none⟩ (.string n)).setCell ⟨g, kept.length * 2 + 1, none⟩ (.string v)) g ps (kept ++ [(n, v)]) (j + 1) := by
  obtain ⟨cur, h1, h2, h3, h4⟩ := h
  refine ⟨(cur.setIfInBounds (kept.length * 2) (.string n)).setIfInBounds (kept.length * 2 + 1) (.string v), ?_, by simpa using h2, fun t ht => ?_, fun t ht1 ht2 => ?_⟩
  · have e1 : (W.setCell ⟨g, kept.length * 2, none⟩ (.string n)).heap[g]? = some (.cells (cur.setIfInBounds (kept.length * 2) (.string n)) 66 (0, 0)) := by simp [World.setCell, Array.getElem?_modify, h1]
    simp [World.setCell, Array.getElem?_modify] at e1 ⊢
    simp [h1]
  · rw [List.length_append] at ht
    simp only [List.length_cons, List.length_nil, Nat.zero_add] at ht
    rw [pcells_append]
    have hpl := pcells_length kept
    rcases (by omega : t < kept.length * 2 ∨ t = kept.length * 2 ∨ t = kept.length * 2 + 1) with h | h | h
    · rw [List.getElem?_append_left (by omega), ← h3 t h, Array.getElem?_setIfInBounds, if_neg (by omega), Array.getElem?_setIfInBounds, if_neg (by omega)]
    · subst h
      rw [List.getElem?_append_right (by omega), hpl, Nat.sub_self, Array.getElem?_setIfInBounds, if_neg (by omega), Array.getElem?_setIfInBounds, if_pos rfl, if_pos (by omega)]; rfl
    · subst h
      rw [List.getElem?_append_right (by omega), hpl, show kept.length * 2 + 1 - kept.length * 2 = 1 by omega, Array.getElem?_setIfInBounds, if_pos rfl, if_pos (by simp; omega)]; rfl
  · rw [Array.getElem?_setIfInBounds, if_neg (by omega), Array.getElem?_setIfInBounds, if_neg (by omega)]
    exact h4 t (by omega) ht2
theorem Cut.ps {W : World} {g j k cap : Nat} {ps kept : List (ByteArray × ByteArray)} (h : Cut W g ps kept j) (hk : k = kept.length) : Ps W W.heap.size (.slice (some ⟨g, 0, none⟩) k cap) kept := by
  subst hk
  obtain ⟨cur, h1, h2, h3, h4⟩ := h
  refine .inr ⟨g, 0, cap, rfl, (Array.getElem?_eq_some_iff.1 h1).1, fun i hi => ?_⟩
  obtain ⟨p1, p2⟩ := pcells_at kept i hi
  rw [Nat.zero_add]
  exact ⟨cell_of_cur h1 (by rw [h3 _ (by omega)]; exact p1), cell_of_cur h1 (by rw [h3 _ (by omega)]; exact p2)⟩

set_option maxHeartbeats 4000000 in
theorem delHow_any (v : Value) (ps : List (ByteArray × ByteArray)) (base : Nat) (w : World) (hown : Pp.Own w base v ps) (hl : ps.length ≤ 100) :
    Calls Tryz.prog 132 #[v, .func (.func 106) #[] #[]] w fun e w' => ∃ v', e = .returned v' ∧ Ps w' w'.heap.size v' (drp ps) ∧ v'.ownBlock = v.ownBlock ∧ w.grownBy w' v.ownBlock := by
  have hps := hown.ps
  have CI := Lib.hid (indexHow_any v ps w hps (by omega))
  have CD := Lib.hid (fun n v W => saysHow_any n v W)
  have HOWN := Lib.hid hown
  obtain ⟨pa, pc, rfl⟩ := hps.shape
  have HPS := Lib.hid hps
  have hsh := hown.2
  clear hown hps
  go_enter Tryz.func132, Tryz.ntmps132
  go_wp2_with fail
  refine CI.out.mono ?_
  rintro e w1 ⟨⟨rfl, hall⟩ | ⟨k, hk, rfl, hhit, hpre⟩, b1⟩
  · have HA := Lib.hid hall
    have hP := (HPS.out.below b1).up b1.size
    rw [← hall] at hP
    have HP := Lib.hid hP
    clear hall hsh hP
    go_wp2_with fail
    go_ret
    refine ⟨_, rfl, ?_, rfl, gOf b1⟩
    have := HP.out
    rw [HA.out] at this ⊢
    exact this
  · obtain ⟨g, cap, cur, hv, hg, hgc, hnc, hcm, hcs, htake⟩ : ∃ g cap cur, Value.slice pa ps.length pc = .slice (some ⟨g, 0, none⟩) ps.length cap ∧ base ≤ g ∧ w.heap[g]? = some (.cells cur 66 (0, 0)) ∧ ps.length ≤ cap ∧ cap ≤ maxLen ∧ cur.size = cap * 2 ∧ cur.toList.take (ps.length * 2) = pcells ps := by
      rcases hsh with ⟨_, h0⟩ | h
      · omega
      · exact h
    simp only [Value.slice.injEq, true_and] at hv
    obtain ⟨rfl, rfl⟩ := hv
    have hgw : g < w.heap.size := (Array.getElem?_eq_some_iff.1 hgc).1
    have hcut : ∀ t, t < ps.length * 2 → cur[t]? = (pcells ps)[t]? := fun t ht => by
      rw [← htake, List.getElem?_take_of_lt ht]; simp
    have hc1 : Cut w1 g ps (drp (ps.take (k + 1))) (k + 1) := by
      rw [drp_yes hk hhit, hpre]
      refine ⟨cur, (b1.block g hgw).trans hgc, by omega, fun t ht => ?_, fun t _ ht => hcut t ht⟩
      rw [List.length_take] at ht
      rw [hcut t (by omega)]
      conv => lhs; rw [← List.take_append_drop k ps, pcells_append]
      rw [List.getElem?_append_left (by rw [pcells_length, List.length_take]; omega)]
    have hlen1 : (drp (ps.take (k + 1))).length < k + 1 := by rw [drp_yes hk hhit, hpre, List.length_take]; omega
    have hlen0 : (drp (ps.take (k + 1))).length = k := by rw [drp_yes hk hhit, hpre, List.length_take]; omega
    have HC1 := Lib.hid hc1
    have HB1 := Lib.hid (gOf (r := some g) b1)
    have hmx : maxLen ≤ 9223372036854775807 := by decide
    have hcapi : (pc : Int) ≤ 9223372036854775807 := by omega
    have hnci : (ps.length : Int) ≤ (pc : Int) := by omega
    have HCAP := Lib.hid (And.intro hcapi hnci)
    clear hcapi hnci
    clear hhit hpre hcut htake hcm hcs hc1 hsh hgc HPS HOWN CI hmx
    have hk1 : (k : Int) + 1 ≤ 100 := by omega
    have hne : ((k : Int) == -1) = false := beq_eq_false_iff_ne.2 (by omega)
    go_wp2_with fail
    go_loopw [5, 6] (fun iv jv wr => ∃ j : Nat, j ≤ ps.length ∧ jv = .int .i64 (j : Int) ∧ iv = .int .i64 ((drp (ps.take j)).length : Int) ∧ (drp (ps.take j)).length < j ∧ Cut wr g ps (drp (ps.take j)) j ∧ w.grownBy wr (some g)) (fun _ jv _ => ps.length - (intOf jv).toNat)
    case atStart => exact ⟨k + 1, hk, by go_num, by rw [hlen0], hlen1, HC1.out, HB1.out⟩
    case round =>
      obtain ⟨j, hj, rfl, rfl, hkl, hcut, hbel⟩ := hrel
      by_cases hlt : j < ps.length
      · have HY := Lib.hid (drp_yes hlt)
        have HN := Lib.hid (drp_no hlt)
        have hat := hcut.at_ hlt
        have hil : (drp (ps.take j)).length < ps.length := by omega
        generalize drp (ps.take j) = kept at HY HN hkl hcut hil
        generalize ps[j] = x at hat HY HN
        obtain ⟨n', v'⟩ := x
        simp only at hat HY HN
        obtain ⟨hc0, hc1⟩ := hat
        have bq : Below wr.heap.size wr (wr.alloc (.cells #[.string n', .string v'] 66)) := (Below.refl _ _).alloc (Nat.le_refl _) _
        have C := Lib.hid (CD.out n' v' (wr.alloc (.cells #[.string n', .string v'] 66)))
        have hltz : (j : Int) < (ps.length : Int) := by omega
        have HCQ := Lib.hid (hcut.below bq)
        have HBQ := Lib.hid (gBelow hbel bq)
        have HKL := Lib.hid hkl
        have hiz : (kept.length : Int) < (ps.length : Int) := by omega
        clear hcut hbel bq hkl hil
        cases he : sayHow (n', v')
        · rw [he] at C
          have HN' := Lib.hid (HN.out he)
          clear he HN HY
          go_wp2_with (go_at_call 106; refine C.out.mono ?_; rintro e w2 ⟨rfl, b2⟩; have hcut2 := HCQ.out.below b2; have hbel2 := gBelow HBQ.out b2; obtain ⟨⟨u0, hu0⟩, ⟨u1, hu1⟩, hf0, hf1⟩ := hcut2.old (i := kept.length) (by omega); have hqb := (b2.block wr.heap.size (by rw [World.size_alloc]; omega)).trans (heap_alloc_new wr (.cells #[.string n', .string v'] 66)); have q0 : w2.cell? ⟨wr.heap.size, 0, none⟩ = some (.string n') := cell_of_cur hqb rfl; have q1 : w2.cell? ⟨wr.heap.size, 1, none⟩ = some (.string v') := cell_of_cur hqb rfl; clear hqb)
          go_roundw
          case rel =>
            have hk := HKL.out
            refine ⟨j + 1, by omega, by go_num, by rw [HN'.out, List.length_append]; go_num, by rw [HN'.out, List.length_append]; simp; omega, ?_, gSet (gSet hbel2 _ _) _ _⟩
            rw [HN'.out]
            exact hcut2.keep hk hlt n' v'
          case measure => simp [intOf]; omega
        · rw [he] at C
          have HY' := Lib.hid (HY.out he)
          clear he HN HY
          go_wp2_with (go_at_call 106; refine C.out.mono ?_; rintro e w2 ⟨rfl, b2⟩)
          have hcut2 := HCQ.out.below b2
          go_roundw
          case rel => exact ⟨j + 1, by omega, by go_num, by rw [HY'.out], by rw [HY'.out]; have := HKL.out; omega, by rw [HY'.out]; exact hcut2.skip, gBelow HBQ.out b2⟩
          case measure => simp [intOf]; omega
      · obtain rfl : j = ps.length := by omega
        have hwout : drp (ps.take ps.length) = drp ps := by rw [List.take_length]
        rw [hwout] at hcut hkl ⊢
        have hltz : ¬ (ps.length : Int) < (ps.length : Int) := by omega
        obtain ⟨hcapi, hnci⟩ := HCAP.out
        obtain ⟨cur2, hg2, hsz2, hlow2, _⟩ := hcut
        obtain ⟨W2, hclr, ⟨cur3, hg3, hlow3⟩, bW⟩ := clear_ps g (drp ps).length (ps.length - (drp ps).length) (pc - (drp ps).length) cur2 wr hg2 (by omega) (by omega)
        have hP : Ps W2 W2.heap.size (.slice (some ⟨g, 0, none⟩) (drp ps).length pc) (drp ps) := by
          refine .inr ⟨g, 0, pc, rfl, (Array.getElem?_eq_some_iff.1 hg3).1, fun i hi => ?_⟩
          obtain ⟨p1, p2⟩ := pcells_at (drp ps) i hi
          rw [Nat.zero_add]
          exact ⟨cell_of_cur hg3 (by rw [hlow3 _ (by omega), hlow2 _ (by omega)]; exact p1), cell_of_cur hg3 (by rw [hlow3 _ (by omega), hlow2 _ (by omega)]; exact p2)⟩
        have HP := Lib.hid hP
        have HBW := Lib.hid (gGrown hbel bW)
        have hkz : ((drp ps).length : Int) < (ps.length : Int) := by omega
        clear hP hlow2 hlow3 hg2 hg3 hsz2 bW hbel hkl hwout
        generalize (drp ps).length = i at *
        go_wp2_with fail
        go_ret
        exact ⟨_, rfl, HP.out, rfl, HBW.out⟩
end Go.Proofs.YtpdodknldhbbhaaGreatDoor.Vc

namespace Go.Proofs.YtpdodknldhbbhaaGreatDoor.Vc
set_option maxRecDepth 100000
open Go.RowKit Pp Go.Shelf

theorem trimS_nil (l : List UInt8) : (Lib.trimS l [32, 9]).isEmpty = blank l := by
  have hp : ∀ x : UInt8, List.contains [32, 9] x = blankB x := fun x => by
    unfold blankB
    simp
    rfl
  have h1 : ∀ r : List UInt8, (r.dropWhile fun x => List.contains [32, 9] x) = [] ↔ r.all blankB = true := fun r => by
    induction r with
    | nil => exact ⟨fun _ => rfl, fun _ => rfl⟩
    | cons a r ih =>
      rw [List.dropWhile_cons, List.all_cons, hp]
      cases blankB a
      · exact ⟨fun h => absurd h (by simp), fun h => by simp at h⟩
      · rw [if_pos rfl, Bool.true_and]; exact ih
  rw [Bool.eq_iff_iff, List.isEmpty_iff]
  show Lib.trimLeftS (Lib.trimRightS l [32, 9]) [32, 9] = [] ↔ l.all blankB = true
  unfold Lib.trimLeftS
  rw [h1]
  unfold Lib.trimRightS
  refine ⟨fun h => ?_, fun h => ?_⟩
  · rw [List.all_reverse] at h
    by_cases hd : (l.reverse.dropWhile fun x => List.contains [32, 9] x) = []
    · have := (h1 l.reverse).1 hd; rwa [List.all_reverse] at this
    · exfalso
      have hne := List.head_dropWhile_not (fun x => List.contains [32, 9] x) hd
      have hm := List.all_eq_true.1 h _ (List.head_mem hd)
      rw [← hp] at hm
      rw [hm] at hne
      exact absurd hne (by simp)
  · rw [(h1 l.reverse).2 (by rw [List.all_reverse]; exact h)]; rfl
theorem trim_any (s : ByteArray) (w : World) (hs : s.size ≤ 9223372036854775807) :
    Calls Tryz.prog 51 #[.string s, .string ⟨#[32, 9]⟩] w fun e w' => e = .returned (.string ⟨(Lib.trimS s.data.toList [32, 9]).toArray⟩) ∧ Below w.heap.size w w' :=
  Any.strings_Trim_laid Tryz.lays160 (by kernel_rfl) s ⟨#[32, 9]⟩ w hs (by decide) (by
    intro j b hj
    match j with
    | 0 => obtain rfl : 32 = b := Option.some.inj hj; decide
    | 1 => obtain rfl : 9 = b := Option.some.inj hj; decide
    | j + 2 => cases hj)

/-- Does a value end with the mark? -/
def markB (v : ByteArray) : Bool := decide (v.data.toList.getLast? = some 61)
/-- What is ahead of the mark. -/
def cutM (v : ByteArray) : ByteArray := ⟨v.data.toList.dropLast.toArray⟩
theorem suffix_mark (l : List UInt8) : Lib.hasSuffix l [61] = decide (l.getLast? = some 61) := by
  unfold Lib.hasSuffix
  rw [Bool.eq_iff_iff, decide_eq_true_eq, List.isSuffixOf_iff_suffix]
  refine ⟨fun ⟨t, ht⟩ => by rw [← ht]; simp, fun h => ?_⟩
  obtain ⟨t, rfl⟩ := List.getLast?_eq_some_iff.1 h
  exact ⟨t, rfl⟩
theorem cutMark_any (s : ByteArray) (w : World) (hs : s.size ≤ 9223372036854775807) :
    Calls Tryz.prog 90 #[.string s, .string ⟨#[61]⟩] w fun e w' => e = .returned (.tuple #[.string (if markB s then cutM s else s), .bool (markB s)]) ∧ w = w' := by
  refine (Tryz.strings_CutSuffix s ⟨#[61]⟩ w hs).mono ?_
  rintro e w' ⟨rfl, rfl⟩
  refine ⟨?_, rfl⟩
  have h1 : Lib.hasSuffix s.data.toList [61] = markB s := suffix_mark _
  have h2 : (⟨(Lib.trimSuffix s.data.toList [61]).toArray⟩ : ByteArray) = if markB s then cutM s else s := by
    unfold Lib.trimSuffix
    rw [h1]
    by_cases hm : markB s = true
    · rw [if_pos hm, if_pos hm]
      unfold cutM
      rw [List.dropLast_eq_take]; rfl
    · rw [if_neg hm, if_neg hm]
  show Ending.returned (.tuple #[.string ⟨(Lib.trimSuffix s.data.toList [61]).toArray⟩, .bool (Lib.hasSuffix s.data.toList [61])]) = _
  rw [h1, h2]

set_option maxHeartbeats 800000 in
/-- The first parameter that says how a value is written, or -1. -/
theorem indexEnc_any (pv : Value) (ps : List (ByteArray × ByteArray)) (w : World) (hps : Ps w w.heap.size pv ps) (hl : ps.length ≤ 1099511627776) :
    Calls Tryz.prog 105 #[pv, .func (.func 138) #[] #[]] w fun e w' =>
      ((e = .returned (.int .i64 (-1)) ∧ wayP ps = none) ∨ ∃ k : Nat, ∃ h : k < ps.length, e = .returned (.int .i64 k) ∧ wayP ps = some ⟨(up ps[k].2.data.toList).toArray⟩) ∧ Below w.heap.size w w' := by
  obtain ⟨pa, pc, rfl⟩ := hps.shape
  have CD := Lib.hid (fun n v W => saysEnc_any n v W)
  obtain ⟨r, hr⟩ : ∃ r, wayP ps = r := ⟨_, rfl⟩
  rw [hr]
  go_enter Tryz.func105, Tryz.ntmps105
  go_wp2_with fail
  go_loopw [8] (fun iv wr => ∃ k : Nat, k ≤ ps.length ∧ iv = .int .i64 k ∧ Below w.heap.size w wr ∧ Hid (wayP (ps.drop k) = r)) (fun iv _ => ps.length - (intOf iv).toNat)
  case atStart => exact ⟨0, Nat.zero_le _, rfl, Below.refl _ _, Lib.hid hr⟩
  case round =>
    obtain ⟨k, hk, rfl, hbel, HK⟩ := hrel
    clear hr
    by_cases hlt2 : k < ps.length
    · obtain ⟨b', o, cap, hv1, hbB, hc0, hc1⟩ := (hps.below hbel).at_ hlt2
      simp only [Value.slice.injEq, true_and] at hv1
      obtain ⟨rfl, rfl⟩ := hv1
      have HN := Lib.hid (wayP_no hlt2)
      have HY := Lib.hid (wayP_yes hlt2)
      obtain ⟨x, hx⟩ : ∃ x, ps[k] = x := ⟨_, rfl⟩
      rw [hx] at hc0 hc1 HN HY
      have HXX := Lib.hid hx
      clear hx
      obtain ⟨n', v'⟩ := x
      simp only at HN HY hc0 hc1
      have C := Lib.hid (CD.out n' v' wr)
      cases hp : tells (n', v') <;> rw [hp] at C
      · have HK' := Lib.hid ((HN.out hp).symm.trans HK.out)
        clear hp
        go_wp2_with fail
        refine C.out.mono ?_
        rintro e w2 ⟨rfl, b2⟩
        go_wp2_with fail
        go_roundw
        case rel => exact ⟨k + 1, by omega, by go_num, hbel.trans (b2.mono hbel.size), HK'⟩
        case measure => simp [intOf]; omega
      · have HK' := Lib.hid (HK.out.symm.trans (HY.out hp))
        clear hp
        go_wp2_with fail
        refine C.out.mono ?_
        rintro e w2 ⟨rfl, b2⟩
        go_wp2_with fail
        go_ret
        exact ⟨.inr ⟨k, hlt2, rfl, by rw [HXX.out]; exact HK'.out⟩, hbel.trans (b2.mono hbel.size)⟩
    · obtain rfl : k = ps.length := by omega
      have HE := Lib.hid HK.out
      go_wp2_with fail
      go_ret
      exact ⟨.inl ⟨rfl, by have h := HE.out; rw [List.drop_length] at h; exact h.symm⟩, hbel⟩

set_option maxHeartbeats 800000 in
theorem encodingOf_any (g n : ByteArray) (pv : Value) (v : ByteArray) (av : Value) (ps : List (ByteArray × ByteArray)) (w : World) (hps : Ps w w.heap.size pv ps) (hl : ps.length ≤ 1099511627776) (hv : ∀ x ∈ ps, x.2.size ≤ 140737488355328) :
    Calls Tryz.prog 101 #[prV g n pv v av] w fun e w' => e = .returned (.string (wayV ps)) ∧ Below w.heap.size w w' := by
  obtain ⟨pa, pc, rfl⟩ := hps.shape
  unfold prV wayV
  obtain ⟨r, hr⟩ : ∃ r, wayP ps = r := ⟨_, rfl⟩
  have HB : Below w.heap.size w (w.alloc (.cells #[.string g, .string n, .slice pa ps.length pc, .string v, av] 53)) := (Below.refl _ _).alloc (Nat.le_refl _) _
  have HA : PrAt (w.alloc (.cells #[.string g, .string n, .slice pa ps.length pc, .string v, av] 53)) w.heap.size g n (.slice pa ps.length pc) v av := heap_alloc_new w _
  have k2 := HA.c2
  have CI := Lib.hid (indexEnc_any (.slice pa ps.length pc) ps (w.alloc (.cells #[.string g, .string n, .slice pa ps.length pc, .string v, av] 53)) ((hps.below HB).up HB.size) hl)
  rw [hr] at CI ⊢
  clear hr
  have HPS := Lib.hid hps
  have HHA := Lib.hid HA
  have HHB := Lib.hid HB
  have HV := Lib.hid hv
  clear HA HB hps hv
  go_enter Tryz.func101, Tryz.ntmps101
  go_wp2_with fail
  refine CI.out.mono ?_
  rintro e w1 ⟨⟨rfl, rfl⟩ | ⟨k, hk, rfl, hw⟩, b1⟩
  · skip
    go_wp2_with fail
    go_ret
    exact ⟨rfl, HHB.out.trans (b1.mono HHB.out.size)⟩
  · skip
    have hbb := HHB.out.trans (b1.mono HHB.out.size)
    obtain ⟨b', o, cap, hv1, hbB, hc0, hc1⟩ := (HPS.out.below hbb).at_ hk
    simp only [Value.slice.injEq, true_and] at hv1
    obtain ⟨rfl, rfl⟩ := hv1
    have m2 := (HHA.out.below b1).c2
    have hs := HV.out _ (List.getElem_mem hk)
    generalize ps[k] = x at hc0 hc1 hs hw
    have HW := Lib.hid hw
    clear hw
    have hkz : (k : Int) < (ps.length : Int) := by omega
    have hk0 : ¬ (k : Int) < 0 := by omega
    have CC := Lib.hid (pCaps_any x.2 w1 hs)
    have HBB := Lib.hid hbb
    clear hbb
    go_wp2_with fail
    refine CC.out.mono ?_
    rintro e w2 ⟨rfl, b2⟩
    go_wp2_with fail
    go_ret
    exact ⟨by rw [HW.out]; rfl, HBB.out.trans (b2.mono HBB.out.size)⟩
end Go.Proofs.YtpdodknldhbbhaaGreatDoor.Vc

namespace Go.Proofs.YtpdodknldhbbhaaGreatDoor.Vc
set_option maxRecDepth 100000
open Go.RowKit Pp

def chsB : ByteArray := ⟨#[67, 72, 65, 82, 83, 69, 84]⟩
/-- The letters of a value, by the charset that its parameters name. -/
def setC (ps : List (ByteArray × ByteArray)) (d : ByteArray) : ByteArray × Int := if getB ps chsB = true then letC (getV ps chsB) d else (d, 0)
def nilP : Pd := ⟨⟨#[]⟩, ⟨#[]⟩, [], ⟨#[]⟩⟩
def restP (g n : ByteArray) (ps : List (ByteArray × ByteArray)) (v : ByteArray) : Int × Pd :=
  if 600 < v.size then (8, nilP) else if 4 < (drp ps).length then (4, nilP) else if framed n = true then (14, nilP) else (0, ⟨g, n, drp ps, v⟩)
/-- What a property means: an error, or what it is. -/
def meanW (m g n : ByteArray) (ps : List (ByteArray × ByteArray)) (v : ByteArray) : Int × Pd :=
  if (decW m v).2 ≠ 0 then ((decW m v).2, nilP) else
  if (setC ps (decW m v).1).2 ≠ 0 then ((setC ps (decW m v).1).2, nilP) else restP g n ps (setC ps (decW m v).1).1

/-- What is handed back. -/
def Meant (w : World) (pv : Value) (r : Int × Pd) (e : Ending) (w' : World) : Prop :=
  ∃ pv', e = .returned (.tuple #[prV r.2.g r.2.n pv' r.2.v (.slice none 0 0), .int .i64 r.1]) ∧ Ps w' w'.heap.size pv' r.2.ps ∧ (∀ k, pv'.ownBlock = some k → pv.ownBlock = some k) ∧ w.grownBy w' pv.ownBlock
theorem ps_far {w : World} {B : Nat} {v : Value} {ps : List (ByteArray × ByteArray)} (h : Ps w B v ps) {a : Addr} (hd : ∀ k, v.ownBlock = some k → k ≠ a.block) (u : Value) : Ps (w.setCell a u) B v ps := by
  rcases h with h | ⟨b', o, cap, rfl, h2, h3⟩
  · exact .inl h
  · refine .inr ⟨b', o, cap, rfl, h2, fun j hj => ?_⟩
    have E : ∀ o', (w.setCell a u).cell? ⟨b', o', none⟩ = w.cell? ⟨b', o', none⟩ := fun o' => World.cell?_of_block (a := ⟨b', o', none⟩) (Below.heap_setCell w a u b' (hd b' rfl))
    exact ⟨(E _).trans (h3 j hj).1, (E _).trans (h3 j hj).2⟩
theorem ps_nil (w : World) (B : Nat) : Ps w B (.slice none 0 0) [] := .inl ⟨rfl, .inl rfl⟩
theorem grown_below {w W W' : World} {r : Option Nat} (h : w.grownBy W r) (hz : w.heap.size ≤ W.heap.size) (hb : Below w.heap.size W W') : w.grownBy W' r :=
  ⟨hb.os.trans h.os, hb.tape.trans h.tape, hb.output.trans h.output, Nat.le_trans hz hb.size, fun k hk hne => (hb.block k hk).trans (h.block k hk hne)⟩
/-- Five cells of the result's block. -/
theorem set5 {w W : World} {r : Option Nat} {Z : Nat} (h : w.grownBy W r) (hZ : w.heap.size ≤ Z) (u0 u1 u2 u3 u4 : Value) : w.grownBy (((((W.setCell ⟨Z, 0, none⟩ u0).setCell ⟨Z, 1, none⟩ u1).setCell ⟨Z, 2, none⟩ u2).setCell ⟨Z, 3, none⟩ u3).setCell ⟨Z, 4, none⟩ u4) r :=
  grown_below h h.size (((((Below.refl _ W).setCell (p := ⟨Z, 0, none⟩) hZ _).setCell (p := ⟨Z, 1, none⟩) hZ _).setCell (p := ⟨Z, 2, none⟩) hZ _).setCell (p := ⟨Z, 3, none⟩) hZ _ |>.setCell (p := ⟨Z, 4, none⟩) hZ _)
theorem ps5 {W : World} {v : Value} {ps : List (ByteArray × ByteArray)} {Z : Nat} (h : Ps W W.heap.size v ps) (hd : ∀ k, v.ownBlock = some k → k ≠ Z) (u0 u1 u2 u3 u4 : Value) : Ps (((((W.setCell ⟨Z, 0, none⟩ u0).setCell ⟨Z, 1, none⟩ u1).setCell ⟨Z, 2, none⟩ u2).setCell ⟨Z, 3, none⟩ u3).setCell ⟨Z, 4, none⟩ u4) (((((W.setCell ⟨Z, 0, none⟩ u0).setCell ⟨Z, 1, none⟩ u1).setCell ⟨Z, 2, none⟩ u2).setCell ⟨Z, 3, none⟩ u3).setCell ⟨Z, 4, none⟩ u4).heap.size v ps :=
  (ps_far (ps_far (ps_far (ps_far (ps_far h (a := ⟨Z, 0, none⟩) hd u0) (a := ⟨Z, 1, none⟩) hd u1) (a := ⟨Z, 2, none⟩) hd u2) (a := ⟨Z, 3, none⟩) hd u3) (a := ⟨Z, 4, none⟩) hd u4).up (by simp only [World.size_setCell]; exact Nat.le_refl _)

theorem getV_size {ps : List (ByteArray × ByteArray)} {s : ByteArray} (h : ∀ x ∈ ps, x.2.size ≤ 1048576) : (getV ps s).size ≤ 1048576 := by
  unfold getV
  induction ps with
  | nil => exact Nat.zero_le _
  | cons p r ih =>
    rw [getP]
    split
    · exact h p (List.mem_cons_self ..)
    · exact ih (fun x hx => h x (List.mem_cons_of_mem _ hx))
theorem own_blk {w : World} {base : Nat} {v : Value} {ps : List (ByteArray × ByteArray)} (h : Pp.Own w base v ps) : ∀ k, v.ownBlock = some k → base ≤ k ∧ k < w.heap.size := Sq.own_lt h
/-- asMeant under way: the property's box, the result's. -/
structure Mo (w W : World) (g n : ByteArray) (pv : Value) (v : ByteArray) (ps : List (ByteArray × ByteArray)) (base : Nat) : Prop where
  p : PrAt W w.heap.size g n pv v (.slice none 0 0)
  r : PrAt W (w.heap.size + 1) ⟨#[]⟩ ⟨#[]⟩ (.slice none 0 0) ⟨#[]⟩ (.slice none 0 0)
  o : Pp.Own W base pv ps
  b : Below w.heap.size w W
theorem Mo.below {w W W' : World} {g n v : ByteArray} {pv : Value} {ps : List (ByteArray × ByteArray)} {base : Nat} (h : Mo w W g n pv v ps base) (hb : Below W.heap.size W W') : Mo w W' g n pv v ps base :=
  ⟨h.p.below hb, h.r.below hb, h.o.below hb, h.b.trans (hb.mono h.b.size)⟩

set_option maxHeartbeats 4000000 in
/-- From the value's letters on: the tail of asMeant is walked where it stands. -/
theorem asMeant_any (m g n : ByteArray) (pv : Value) (v : ByteArray) (ps : List (ByteArray × ByteArray)) (base : Nat) (w : World) (hown : Pp.Own w base pv ps) (hl : ps.length ≤ 100) (hv : v.size ≤ 1048576) (hpv : ∀ x ∈ ps, x.2.size ≤ 1048576) (T : Qu.Tabs w) (hd1 : (decW m v).1.size ≤ 1048576) :
    Calls Tryz.prog 91 #[prV g n pv v (.slice none 0 0), .string m] w (Meant w pv (meanW m g n ps v)) := by
  have hps := hown.ps
  obtain ⟨pa, pc, rfl⟩ := hps.shape
  unfold prV
  have hb1 : Below w.heap.size w (w.alloc (.cells #[.string g, .string n, .slice pa ps.length pc, .string v, .slice none 0 0] 53)) := (Below.refl _ _).alloc (Nat.le_refl _) _
  have z1 : (w.alloc (.cells #[.string g, .string n, .slice pa ps.length pc, .string v, .slice none 0 0] 53)).heap.size = w.heap.size + 1 := World.size_alloc _ _
  obtain ⟨w1, hw1⟩ : ∃ x, w.alloc (.cells #[.string g, .string n, .slice pa ps.length pc, .string v, .slice none 0 0] 53) = x := ⟨_, rfl⟩
  have hp1 : PrAt w1 w.heap.size g n (.slice pa ps.length pc) v (.slice none 0 0) := by rw [← hw1]; exact heap_alloc_new w _
  rw [hw1] at hb1 z1
  have hb2 : Below w1.heap.size w1 (w1.alloc (.cells #[.string ⟨#[]⟩, .string ⟨#[]⟩, .slice none 0 0, .string ⟨#[]⟩, .slice none 0 0] 53)) := (Below.refl _ _).alloc (Nat.le_refl _) _
  obtain ⟨w2, hw2⟩ : ∃ x, w1.alloc (.cells #[.string ⟨#[]⟩, .string ⟨#[]⟩, .slice none 0 0, .string ⟨#[]⟩, .slice none 0 0] 53) = x := ⟨_, rfl⟩
  have hr2 : PrAt w2 (w.heap.size + 1) ⟨#[]⟩ ⟨#[]⟩ (.slice none 0 0) ⟨#[]⟩ (.slice none 0 0) := by rw [← hw2, ← z1]; exact heap_alloc_new w1 _
  rw [hw2] at hb2
  have hM2 : Mo w w2 g n (.slice pa ps.length pc) v ps base := ⟨hp1.below hb2, hr2, (hown.below hb1).below hb2, hb1.trans (hb2.mono hb1.size)⟩
  have T2 := T.below hM2.b
  have CDC := Lib.hid (decoded_any m v w2 hv T2)
  have CG : Hid (∀ W, Ps W W.heap.size (.slice pa ps.length pc) ps → Calls Tryz.prog 130 #[.agg #[.string g, .string n, .slice pa ps.length pc, .string v, .slice none 0 0], .string ⟨#[67, 72, 65, 82, 83, 69, 84]⟩] W fun e w' => e = .returned (.tuple #[.string (getV ps chsB), .bool (getB ps chsB)]) ∧ Below W.heap.size W w') := Lib.hid (fun W h => pGet_any g n (.slice pa ps.length pc) v (.slice none 0 0) chsB ps W h (by omega))
  have CLT := Lib.hid (fun d W h1 h2 h3 => lettersOf_any (getV ps chsB) d W h1 h2 h3)
  have CDH := Lib.hid (fun W h => delHow_any (.slice pa ps.length pc) ps base W h hl)
  have CLN := Lib.hid (fun W => lineName_any n W)
  have HOB := Lib.hid (own_blk hown)
  have c3 := hM2.p.c3
  have r0 := hM2.r.f 0
  have HM := Lib.hid hM2
  have HT := Lib.hid T2
  have HPV := Lib.hid hpv
  have HD1 := Lib.hid hd1
  have hv0 : v.size ≤ 1048576 := hv
  unfold meanW
  obtain ⟨⟨d, de⟩, hd⟩ : ∃ x, decW m v = x := ⟨_, rfl⟩
  rw [hd] at CDC HD1 ⊢
  simp only at CDC HD1 ⊢
  obtain ⟨R, hR⟩ : ∃ R, (if de ≠ 0 then (de, nilP) else if (setC ps d).2 ≠ 0 then ((setC ps d).2, nilP) else restP g n ps (setC ps d).1) = R := ⟨_, rfl⟩
  rw [hR]
  have HR := Lib.hid hR
  clear hR
  clear hd hM2 T2 hps hown hl hpv T hd1 hb1 hb2 hp1 hr2 z1 hv r0
  subst hw1 hw2
  go_enter Tryz.func91, Tryz.ntmps91
  go_wp2_with fail
  refine CDC.out.mono ?_
  rintro e w3 ⟨rfl, b3⟩
  have hM := HM.out.below b3
  have T3 := HT.out.below b3
  by_cases hde : de = 0
  rotate_left
  · have hdb : (de == 0) = false := by simpa using hde
    have HE : Hid (R = (de, nilP)) := Lib.hid (by rw [← HR.out, if_pos hde])
    clear CG CLT CDH CLN HT T3 c3 b3 HM HPV HD1 HR
    have q0 := hM.r.c0
    have q1 := hM.r.c1
    have q2 := hM.r.c2
    have q3 := hM.r.c3
    have q4 := hM.r.c4
    have s0 := hM.r.f 0
    have s1 := hM.r.f 1
    have s2 := hM.r.f 2
    have s3 := hM.r.f 3
    have s4 := hM.r.f 4
    have HMM := Lib.hid hM
    clear hM
    go_wp2_with fail
    exact bodyPost_ret (v := .tuple #[.agg #[.string ⟨#[]⟩, .string ⟨#[]⟩, .slice none 0 0, .string ⟨#[]⟩, .slice none 0 0], .int .i64 de]) (by simp [results, Tryz.results91, go_sem, q0, q1, q2, q3, q4]) rfl (by rw [HE.out]; exact ⟨.slice none 0 0, rfl, ps_nil _ _, fun k e => by simp [Value.ownBlock] at e, set5 (gOf HMM.out.b) (by omega) _ _ _ _ _⟩)
  subst hde
  have HR1 : Hid ((if (setC ps d).2 ≠ 0 then ((setC ps d).2, nilP) else restP g n ps (setC ps d).1) = R) := Lib.hid (by have h := HR.out; rw [if_neg (fun h => h rfl)] at h; exact h)
  clear HR
  have p0 := hM.p.c0
  have p1 := hM.p.c1
  have p2 := hM.p.c2
  have p3 := hM.p.c3
  have p4 := hM.p.c4
  have CG3 := Lib.hid (CG.out w3 ((hM.o.ps)))
  have HM3 := Lib.hid hM
  have HT3 := Lib.hid T3
  clear CG HM HT T3 c3 b3 hM
  cases hg : getB ps chsB
  · rw [hg] at CG3
    have HR2 : Hid (restP g n ps d = R) := Lib.hid (by have h := HR1.out; rw [show setC ps d = (d, 0) by unfold setC; rw [hg, if_neg (by simp)], if_neg (fun h => h rfl)] at h; exact h)
    clear hg CLT HPV HR1
    go_wp2_with fail
    refine CG3.out.mono ?_
    rintro e w4 ⟨rfl, b4⟩
    have hM := HM3.out.below b4
    clear CG3 HM3 HT3 b4 p0 p1 p2 p3 p4
    clear HD1
    have c3 := hM.p.c3
    have f3 := hM.p.f 3
    have hP1 := hM.p.set3 d
    have hR1 := hM.r.other (a := ⟨w.heap.size, 3, none⟩) (by show w.heap.size + 1 ≠ w.heap.size; omega) (.string d)
    have hO1 := Pp.Own.setNe hM.o (a := ⟨w.heap.size, 3, none⟩) (fun k e => (HOB.out k e).2) (.string d)
    have hB1 := hM.b.setCell (p := ⟨w.heap.size, 3, none⟩) (Nat.le_refl _) (.string d)
    have CX := Lib.hid (CDH.out _ hO1)
    have k2 := hP1.c2
    have HX := Lib.hid (And.intro hP1 (And.intro hR1 hB1))
    clear hM hP1 hR1 hO1 hB1 CDH
    go_wp2_with fail
    refine CX.out.mono ?_
    rintro e w6 ⟨v', rfl, hP, hob, hgr⟩
    obtain ⟨xa, xc, rfl⟩ := hP.shape
    obtain ⟨hP1, hR1, hB1⟩ := HX.out
    have hfar : ∀ k, (Value.slice xa (drp ps).length xc).ownBlock = some k → k < w.heap.size := fun k e => (HOB.out k (hob ▸ e)).2
    have hP6 : PrAt w6 w.heap.size g n (.slice pa ps.length pc) d (.slice none 0 0) := (hgr.block _ hP1.lt (fun e => by have := HOB.out _ e.symm; omega)).trans hP1
    have hR6 : PrAt w6 (w.heap.size + 1) ⟨#[]⟩ ⟨#[]⟩ (.slice none 0 0) ⟨#[]⟩ (.slice none 0 0) := (hgr.block _ hR1.lt (fun e => by have := HOB.out _ e.symm; omega)).trans hR1
    have hG6 : w.grownBy w6 (Value.slice pa ps.length pc).ownBlock := ⟨hgr.os.trans hB1.os, hgr.tape.trans hB1.tape, hgr.output.trans hB1.output, Nat.le_trans hB1.size hgr.size, fun k hk hne => (hgr.block k (Nat.lt_of_lt_of_le hk hB1.size) hne).trans (hB1.block k hk)⟩
    have d2 := hP6.c2
    have f2 := hP6.f 2
    have hP7 := hP6.set2 (.slice xa (drp ps).length xc)
    have hR7 := hR6.other (a := ⟨w.heap.size, 2, none⟩) (by show w.heap.size + 1 ≠ w.heap.size; omega) (.slice xa (drp ps).length xc)
    have hPs7 := ps_far hP (a := ⟨w.heap.size, 2, none⟩) (fun k e => by have := hfar k e; show k ≠ w.heap.size; omega) (.slice xa (drp ps).length xc)
    have hG7 := grown_below hG6 hG6.size ((Below.refl w.heap.size w6).setCell (p := ⟨w.heap.size, 2, none⟩) (Nat.le_refl _) (.slice xa (drp ps).length xc))
    have hz7 : w6.heap.size = (w6.setCell ⟨w.heap.size, 2, none⟩ (.slice xa (drp ps).length xc)).heap.size := by rw [World.size_setCell]
    rw [hz7] at hPs7
    have e1 := hP7.c1
    have e2 := hP7.c2
    have e3 := hP7.c3
    have e0 := hP7.c0
    have e4 := hP7.c4
    have q0 := hR7.c0
    have q1 := hR7.c1
    have q2 := hR7.c2
    have q3 := hR7.c3
    have q4 := hR7.c4
    have s0 := hR7.f 0
    have s1 := hR7.f 1
    have s2 := hR7.f 2
    have s3 := hR7.f 3
    have s4 := hR7.f 4
    have HA := Lib.hid (And.intro hPs7 (And.intro hG7 (And.intro hfar hob)))
    have hdl := Lib.hid (drp_len ps)
    have HR3 : Hid ((if 600 < d.size then (8, nilP) else if 4 < (drp ps).length then (4, nilP) else if framed n = true then (14, nilP) else (0, ⟨g, n, drp ps, d⟩)) = R) := Lib.hid HR2.out
    clear HR2
    clear CX HX hP hgr hP1 hR1 hB1 hP6 hR6 hG6 hP7 hR7 hPs7 hG7 hz7 hfar hob
    generalize (drp ps).length = N at *
    by_cases h6 : 600 < d.size
    · have h6z : (600 : Int) < (d.size : Int) := by omega
      have HE : Hid (R = (8, nilP)) := Lib.hid (by rw [← HR3.out, if_pos h6])
      clear HR3
      go_wp2_with fail
      exact bodyPost_ret (v := .tuple #[.agg #[.string ⟨#[]⟩, .string ⟨#[]⟩, .slice none 0 0, .string ⟨#[]⟩, .slice none 0 0], .int .i64 8]) (by simp [results, Tryz.results91, go_sem, q0, q1, q2, q3, q4]) rfl (by rw [HE.out]; exact ⟨.slice none 0 0, rfl, ps_nil _ _, fun k e => by simp [Value.ownBlock] at e, set5 HA.out.2.1 (by omega) _ _ _ _ _⟩)
    · have h6z : ¬ (600 : Int) < (d.size : Int) := by omega
      by_cases h4 : 4 < N
      · have h4z : (4 : Int) < (N : Int) := by omega
        have HE : Hid (R = (4, nilP)) := Lib.hid (by rw [← HR3.out, if_neg h6, if_pos h4])
        clear HR3
        go_wp2_with fail
        exact bodyPost_ret (v := .tuple #[.agg #[.string ⟨#[]⟩, .string ⟨#[]⟩, .slice none 0 0, .string ⟨#[]⟩, .slice none 0 0], .int .i64 4]) (by simp [results, Tryz.results91, go_sem, q0, q1, q2, q3, q4]) rfl (by rw [HE.out]; exact ⟨.slice none 0 0, rfl, ps_nil _ _, fun k e => by simp [Value.ownBlock] at e, set5 HA.out.2.1 (by omega) _ _ _ _ _⟩)
      · have h4z : ¬ (4 : Int) < (N : Int) := by omega
        cases hfr : framed n <;> rw [hfr] at CLN
        · have HE : Hid (R = (0, ⟨g, n, drp ps, d⟩)) := Lib.hid (by rw [← HR3.out, if_neg h6, if_neg h4, if_neg (by rw [hfr]; simp)])
          clear HR3 hfr
          go_wp2_with fail
          refine (CLN.out _).mono ?_
          rintro e w8 ⟨rfl, rfl⟩
          go_wp2_with fail
          exact bodyPost_ret (v := .tuple #[.agg #[.string g, .string n, .slice xa N xc, .string d, .slice none 0 0], .int .i64 0]) (by simp [results, Tryz.results91, go_sem, q0, q1, q2, q3, q4]) rfl (by rw [HE.out]; exact ⟨.slice xa N xc, rfl, ps5 HA.out.1 (fun k e => by have := HA.out.2.2.1 k e; omega) _ _ _ _ _, fun k e => HA.out.2.2.2 ▸ e, set5 HA.out.2.1 (by omega) _ _ _ _ _⟩)
        · have HE : Hid (R = (14, nilP)) := Lib.hid (by rw [← HR3.out, if_neg h6, if_neg h4, if_pos hfr])
          clear HR3 hfr
          go_wp2_with fail
          refine (CLN.out _).mono ?_
          rintro e w8 ⟨rfl, rfl⟩
          go_wp2_with fail
          exact bodyPost_ret (v := .tuple #[.agg #[.string ⟨#[]⟩, .string ⟨#[]⟩, .slice none 0 0, .string ⟨#[]⟩, .slice none 0 0], .int .i64 14]) (by simp [results, Tryz.results91, go_sem, q0, q1, q2, q3, q4]) rfl (by rw [HE.out]; exact ⟨.slice none 0 0, rfl, ps_nil _ _, fun k e => by simp [Value.ownBlock] at e, set5 HA.out.2.1 (by omega) _ _ _ _ _⟩)
  · rw [hg] at CG3
    have HRL : Hid ((if (letC (getV ps chsB) d).2 ≠ 0 then ((letC (getV ps chsB) d).2, nilP) else restP g n ps (letC (getV ps chsB) d).1) = R) := Lib.hid (by have h := HR1.out; rw [show setC ps d = letC (getV ps chsB) d by unfold setC; rw [hg, if_pos rfl]] at h; exact h)
    clear HR1
    have hsz : (getV ps chsB).size ≤ 1048576 := getV_size HPV.out
    have CL2 := Lib.hid (fun W h3 => CLT.out d W (by omega) HD1.out h3)
    clear hg CLT HPV hsz
    generalize getV ps chsB = cn at CG3 CL2 HRL
    generalize letC cn d = y at CL2 HRL
    obtain ⟨d, le⟩ := y
    simp only at CL2 HRL
    go_wp2_with fail
    refine CG3.out.mono ?_
    rintro e w4 ⟨rfl, b4⟩
    have CL3 := Lib.hid (CL2.out w4 ((HT3.out.below b4).2))
    go_wp2_with fail
    refine CL3.out.mono ?_
    rintro e w5 ⟨rfl, b5⟩
    have hM := (HM3.out.below b4).below b5
    clear CG3 HM3 HT3 b4 p0 p1 p2 p3 p4 CL2 CL3 b5
    clear HD1
    by_cases hle : le = 0
    rotate_left
    · have hlb : (le == 0) = false := by simpa using hle
      have HE : Hid (R = (le, nilP)) := Lib.hid (by rw [← HRL.out, if_pos hle])
      clear CDH CLN HRL
      have q0 := hM.r.c0
      have q1 := hM.r.c1
      have q2 := hM.r.c2
      have q3 := hM.r.c3
      have q4 := hM.r.c4
      have s0 := hM.r.f 0
      have s1 := hM.r.f 1
      have s2 := hM.r.f 2
      have s3 := hM.r.f 3
      have s4 := hM.r.f 4
      have HMM := Lib.hid hM
      clear hM
      go_wp2_with fail
      exact bodyPost_ret (v := .tuple #[.agg #[.string ⟨#[]⟩, .string ⟨#[]⟩, .slice none 0 0, .string ⟨#[]⟩, .slice none 0 0], .int .i64 le]) (by simp [results, Tryz.results91, go_sem, q0, q1, q2, q3, q4]) rfl (by rw [HE.out]; exact ⟨.slice none 0 0, rfl, ps_nil _ _, fun k e => by simp [Value.ownBlock] at e, set5 (gOf HMM.out.b) (by omega) _ _ _ _ _⟩)
    subst hle
    have HR2 : Hid (restP g n ps d = R) := Lib.hid (by have h := HRL.out; rw [if_neg (fun h => h rfl)] at h; exact h)
    clear HRL
    have c3 := hM.p.c3
    have f3 := hM.p.f 3
    have hP1 := hM.p.set3 d
    have hR1 := hM.r.other (a := ⟨w.heap.size, 3, none⟩) (by show w.heap.size + 1 ≠ w.heap.size; omega) (.string d)
    have hO1 := Pp.Own.setNe hM.o (a := ⟨w.heap.size, 3, none⟩) (fun k e => (HOB.out k e).2) (.string d)
    have hB1 := hM.b.setCell (p := ⟨w.heap.size, 3, none⟩) (Nat.le_refl _) (.string d)
    have CX := Lib.hid (CDH.out _ hO1)
    have k2 := hP1.c2
    have HX := Lib.hid (And.intro hP1 (And.intro hR1 hB1))
    clear hM hP1 hR1 hO1 hB1 CDH
    go_wp2_with fail
    refine CX.out.mono ?_
    rintro e w6 ⟨v', rfl, hP, hob, hgr⟩
    obtain ⟨xa, xc, rfl⟩ := hP.shape
    obtain ⟨hP1, hR1, hB1⟩ := HX.out
    have hfar : ∀ k, (Value.slice xa (drp ps).length xc).ownBlock = some k → k < w.heap.size := fun k e => (HOB.out k (hob ▸ e)).2
    have hP6 : PrAt w6 w.heap.size g n (.slice pa ps.length pc) d (.slice none 0 0) := (hgr.block _ hP1.lt (fun e => by have := HOB.out _ e.symm; omega)).trans hP1
    have hR6 : PrAt w6 (w.heap.size + 1) ⟨#[]⟩ ⟨#[]⟩ (.slice none 0 0) ⟨#[]⟩ (.slice none 0 0) := (hgr.block _ hR1.lt (fun e => by have := HOB.out _ e.symm; omega)).trans hR1
    have hG6 : w.grownBy w6 (Value.slice pa ps.length pc).ownBlock := ⟨hgr.os.trans hB1.os, hgr.tape.trans hB1.tape, hgr.output.trans hB1.output, Nat.le_trans hB1.size hgr.size, fun k hk hne => (hgr.block k (Nat.lt_of_lt_of_le hk hB1.size) hne).trans (hB1.block k hk)⟩
    have d2 := hP6.c2
    have f2 := hP6.f 2
    have hP7 := hP6.set2 (.slice xa (drp ps).length xc)
    have hR7 := hR6.other (a := ⟨w.heap.size, 2, none⟩) (by show w.heap.size + 1 ≠ w.heap.size; omega) (.slice xa (drp ps).length xc)
    have hPs7 := ps_far hP (a := ⟨w.heap.size, 2, none⟩) (fun k e => by have := hfar k e; show k ≠ w.heap.size; omega) (.slice xa (drp ps).length xc)
    have hG7 := grown_below hG6 hG6.size ((Below.refl w.heap.size w6).setCell (p := ⟨w.heap.size, 2, none⟩) (Nat.le_refl _) (.slice xa (drp ps).length xc))
    have hz7 : w6.heap.size = (w6.setCell ⟨w.heap.size, 2, none⟩ (.slice xa (drp ps).length xc)).heap.size := by rw [World.size_setCell]
    rw [hz7] at hPs7
    have e1 := hP7.c1
    have e2 := hP7.c2
    have e3 := hP7.c3
    have e0 := hP7.c0
    have e4 := hP7.c4
    have q0 := hR7.c0
    have q1 := hR7.c1
    have q2 := hR7.c2
    have q3 := hR7.c3
    have q4 := hR7.c4
    have s0 := hR7.f 0
    have s1 := hR7.f 1
    have s2 := hR7.f 2
    have s3 := hR7.f 3
    have s4 := hR7.f 4
    have HA := Lib.hid (And.intro hPs7 (And.intro hG7 (And.intro hfar hob)))
    have hdl := Lib.hid (drp_len ps)
    have HR3 : Hid ((if 600 < d.size then (8, nilP) else if 4 < (drp ps).length then (4, nilP) else if framed n = true then (14, nilP) else (0, ⟨g, n, drp ps, d⟩)) = R) := Lib.hid HR2.out
    clear HR2
    clear CX HX hP hgr hP1 hR1 hB1 hP6 hR6 hG6 hP7 hR7 hPs7 hG7 hz7 hfar hob
    generalize (drp ps).length = N at *
    by_cases h6 : 600 < d.size
    · have h6z : (600 : Int) < (d.size : Int) := by omega
      have HE : Hid (R = (8, nilP)) := Lib.hid (by rw [← HR3.out, if_pos h6])
      clear HR3
      go_wp2_with fail
      exact bodyPost_ret (v := .tuple #[.agg #[.string ⟨#[]⟩, .string ⟨#[]⟩, .slice none 0 0, .string ⟨#[]⟩, .slice none 0 0], .int .i64 8]) (by simp [results, Tryz.results91, go_sem, q0, q1, q2, q3, q4]) rfl (by rw [HE.out]; exact ⟨.slice none 0 0, rfl, ps_nil _ _, fun k e => by simp [Value.ownBlock] at e, set5 HA.out.2.1 (by omega) _ _ _ _ _⟩)
    · have h6z : ¬ (600 : Int) < (d.size : Int) := by omega
      by_cases h4 : 4 < N
      · have h4z : (4 : Int) < (N : Int) := by omega
        have HE : Hid (R = (4, nilP)) := Lib.hid (by rw [← HR3.out, if_neg h6, if_pos h4])
        clear HR3
        go_wp2_with fail
        exact bodyPost_ret (v := .tuple #[.agg #[.string ⟨#[]⟩, .string ⟨#[]⟩, .slice none 0 0, .string ⟨#[]⟩, .slice none 0 0], .int .i64 4]) (by simp [results, Tryz.results91, go_sem, q0, q1, q2, q3, q4]) rfl (by rw [HE.out]; exact ⟨.slice none 0 0, rfl, ps_nil _ _, fun k e => by simp [Value.ownBlock] at e, set5 HA.out.2.1 (by omega) _ _ _ _ _⟩)
      · have h4z : ¬ (4 : Int) < (N : Int) := by omega
        cases hfr : framed n <;> rw [hfr] at CLN
        · have HE : Hid (R = (0, ⟨g, n, drp ps, d⟩)) := Lib.hid (by rw [← HR3.out, if_neg h6, if_neg h4, if_neg (by rw [hfr]; simp)])
          clear HR3 hfr
          go_wp2_with fail
          refine (CLN.out _).mono ?_
          rintro e w8 ⟨rfl, rfl⟩
          go_wp2_with fail
          exact bodyPost_ret (v := .tuple #[.agg #[.string g, .string n, .slice xa N xc, .string d, .slice none 0 0], .int .i64 0]) (by simp [results, Tryz.results91, go_sem, q0, q1, q2, q3, q4]) rfl (by rw [HE.out]; exact ⟨.slice xa N xc, rfl, ps5 HA.out.1 (fun k e => by have := HA.out.2.2.1 k e; omega) _ _ _ _ _, fun k e => HA.out.2.2.2 ▸ e, set5 HA.out.2.1 (by omega) _ _ _ _ _⟩)
        · have HE : Hid (R = (14, nilP)) := Lib.hid (by rw [← HR3.out, if_neg h6, if_neg h4, if_pos hfr])
          clear HR3 hfr
          go_wp2_with fail
          refine (CLN.out _).mono ?_
          rintro e w8 ⟨rfl, rfl⟩
          go_wp2_with fail
          exact bodyPost_ret (v := .tuple #[.agg #[.string ⟨#[]⟩, .string ⟨#[]⟩, .slice none 0 0, .string ⟨#[]⟩, .slice none 0 0], .int .i64 14]) (by simp [results, Tryz.results91, go_sem, q0, q1, q2, q3, q4]) rfl (by rw [HE.out]; exact ⟨.slice none 0 0, rfl, ps_nil _ _, fun k e => by simp [Value.ownBlock] at e, set5 HA.out.2.1 (by omega) _ _ _ _ _⟩)
end Go.Proofs.YtpdodknldhbbhaaGreatDoor.Vc

namespace Go.Proofs.YtpdodknldhbbhaaGreatDoor.Vc
set_option maxRecDepth 100000
open Go.RowKit Pp Sq

/-- How cards are read: the program's and the document's words for it. -/
def upS (s : ByteArray) : List UInt8 := up s.data.toList
abbrev G : Vm.Lang where
  P := Pd
  Q := Par
  bl s := blank s.data.toList
  isB s := decide (upS s = [66, 69, 71, 73, 78, 58, 86, 67, 65, 82, 68])
  isV s := decide (upS s = [86, 69, 82, 83, 73, 79, 78, 58, 50, 46, 49])
  isE s := decide (upS s = [69, 78, 68, 58, 86, 67, 65, 82, 68])
  rd s := ((parse s).err, parse s)
  on q := if (wayV q.ps).toList = [81, 85, 79, 84, 69, 68, 45, 80, 82, 73, 78, 84, 65, 66, 76, 69] ∧ markB q.v = true then some { q with v := cutM q.v } else none
  put q t := { q with v := q.v ++ t }
  mean q := meanW (wayV q.ps) q.g q.n q.ps q.v
  agent p := decide (p.n.toList = [65, 71, 69, 78, 84])
  hasV p := !decide (p.v.size = 0)
abbrev Fr := List (Pd × List Crd)

/-- The reader's block. -/
def RdC (w : World) (b : Nat) (wa nu : Int) (ov cv : Value) (g n : ByteArray) (pv : Value) (v : ByteArray) (av : Value) (en : ByteArray) (on : Bool) : Prop :=
  w.heap[b]? = some (.cells #[.int .i64 wa, .int .i64 nu, ov, cv, .string g, .string n, pv, .string v, av, .string en, .bool on] 55 (0, 0))
section
variable {w w' : World} {b : Nat} {wa nu : Int} {ov cv : Value} {g n : ByteArray} {pv : Value} {v : ByteArray} {av : Value} {en : ByteArray} {on : Bool}
theorem RdC.lt (h : RdC w b wa nu ov cv g n pv v av en on) : b < w.heap.size := (Array.getElem?_eq_some_iff.1 h).1
theorem RdC.c0 (h : RdC w b wa nu ov cv g n pv v av en on) : w.cell? ⟨b, 0, none⟩ = some (.int .i64 wa) := cell_of_row w b 0 _ _ _ h
theorem RdC.c1 (h : RdC w b wa nu ov cv g n pv v av en on) : w.cell? ⟨b, 1, none⟩ = some (.int .i64 nu) := cell_of_row w b 1 _ _ _ h
theorem RdC.c2 (h : RdC w b wa nu ov cv g n pv v av en on) : w.cell? ⟨b, 2, none⟩ = some ov := cell_of_row w b 2 _ _ _ h
theorem RdC.c3 (h : RdC w b wa nu ov cv g n pv v av en on) : w.cell? ⟨b, 3, none⟩ = some cv := cell_of_row w b 3 _ _ _ h
theorem RdC.c4 (h : RdC w b wa nu ov cv g n pv v av en on) : w.cell? ⟨b, 4, none⟩ = some (.string g) := cell_of_row w b 4 _ _ _ h
theorem RdC.c5 (h : RdC w b wa nu ov cv g n pv v av en on) : w.cell? ⟨b, 5, none⟩ = some (.string n) := cell_of_row w b 5 _ _ _ h
theorem RdC.c6 (h : RdC w b wa nu ov cv g n pv v av en on) : w.cell? ⟨b, 6, none⟩ = some pv := cell_of_row w b 6 _ _ _ h
theorem RdC.c7 (h : RdC w b wa nu ov cv g n pv v av en on) : w.cell? ⟨b, 7, none⟩ = some (.string v) := cell_of_row w b 7 _ _ _ h
theorem RdC.c8 (h : RdC w b wa nu ov cv g n pv v av en on) : w.cell? ⟨b, 8, none⟩ = some av := cell_of_row w b 8 _ _ _ h
theorem RdC.c9 (h : RdC w b wa nu ov cv g n pv v av en on) : w.cell? ⟨b, 9, none⟩ = some (.string en) := cell_of_row w b 9 _ _ _ h
theorem RdC.c10 (h : RdC w b wa nu ov cv g n pv v av en on) : w.cell? ⟨b, 10, none⟩ = some (.bool on) := cell_of_row w b 10 _ _ _ h
theorem RdC.f (h : RdC w b wa nu ov cv g n pv v av en on) (j : Nat) : w.frozen? ⟨b, j, none⟩ = false := frozen_of_row _ _ _ _ _ h
theorem RdC.set0 (h : RdC w b wa nu ov cv g n pv v av en on) (x : Int) : RdC (w.setCell ⟨b, 0, none⟩ (.int .i64 x)) b x nu ov cv g n pv v av en on := heap_set h _
theorem RdC.set1 (h : RdC w b wa nu ov cv g n pv v av en on) (x : Int) : RdC (w.setCell ⟨b, 1, none⟩ (.int .i64 x)) b wa x ov cv g n pv v av en on := heap_set h _
theorem RdC.set2 (h : RdC w b wa nu ov cv g n pv v av en on) (x : Value) : RdC (w.setCell ⟨b, 2, none⟩ x) b wa nu x cv g n pv v av en on := heap_set h _
theorem RdC.set3 (h : RdC w b wa nu ov cv g n pv v av en on) (x : Value) : RdC (w.setCell ⟨b, 3, none⟩ x) b wa nu ov x g n pv v av en on := heap_set h _
theorem RdC.set4 (h : RdC w b wa nu ov cv g n pv v av en on) (x : ByteArray) : RdC (w.setCell ⟨b, 4, none⟩ (.string x)) b wa nu ov cv x n pv v av en on := heap_set h _
theorem RdC.set5 (h : RdC w b wa nu ov cv g n pv v av en on) (x : ByteArray) : RdC (w.setCell ⟨b, 5, none⟩ (.string x)) b wa nu ov cv g x pv v av en on := heap_set h _
theorem RdC.set6 (h : RdC w b wa nu ov cv g n pv v av en on) (x : Value) : RdC (w.setCell ⟨b, 6, none⟩ x) b wa nu ov cv g n x v av en on := heap_set h _
theorem RdC.set7 (h : RdC w b wa nu ov cv g n pv v av en on) (x : ByteArray) : RdC (w.setCell ⟨b, 7, none⟩ (.string x)) b wa nu ov cv g n pv x av en on := heap_set h _
theorem RdC.set8 (h : RdC w b wa nu ov cv g n pv v av en on) (x : Value) : RdC (w.setCell ⟨b, 8, none⟩ x) b wa nu ov cv g n pv v x en on := heap_set h _
theorem RdC.set9 (h : RdC w b wa nu ov cv g n pv v av en on) (x : ByteArray) : RdC (w.setCell ⟨b, 9, none⟩ (.string x)) b wa nu ov cv g n pv v av x on := heap_set h _
theorem RdC.set10 (h : RdC w b wa nu ov cv g n pv v av en on) (x : Bool) : RdC (w.setCell ⟨b, 10, none⟩ (.bool x)) b wa nu ov cv g n pv v av en x := heap_set h _
theorem RdC.kept (h : RdC w b wa nu ov cv g n pv v av en on) (hb : w'.heap[b]? = w.heap[b]?) : RdC w' b wa nu ov cv g n pv v av en on := hb.trans h
end

/-- A card that is open: a row of properties of the reader's own, what it holds in the blocks F. -/
def FrAt (w : World) (base : Nat) (F : Nat → Prop) (k : Nat) (v : Value) (f : Fr) : Prop :=
  ∃ cs, w.ownsRow base 53 5 v f.length cs ∧ cs.length = f.length * 5 ∧ ∀ j (hj : j < f.length), ∃ c0 c1 c2 c3 c4,
    cs[j * 5]? = some c0 ∧ cs[j * 5 + 1]? = some c1 ∧ cs[j * 5 + 2]? = some c2 ∧ cs[j * 5 + 3]? = some c3 ∧ cs[j * 5 + 4]? = some c4 ∧ PcF w F (CAf w F k) f[j] c0 c1 c2 c3 c4
/-- The cards that are open, the innermost first; X: blocks that are something else. -/
def FrsAt (w : World) (base : Nat) (F X : Nat → Prop) : List Fr → List Value → Prop
  | [], [] => True
  | f :: os, v :: vs => FrAt w base F (2 - os.length) v f ∧ (∀ g, v.ownBlock = some g → ¬ F g ∧ ¬ X g ∧ ∀ u ∈ vs, u.ownBlock ≠ some g) ∧ FrsAt w base F X os vs
  | _, _ => False
theorem FrsAt.len {w : World} {base : Nat} {F X : Nat → Prop} : ∀ {os : List Fr} {vs : List Value}, FrsAt w base F X os vs → vs.length = os.length
  | [], [], _ => rfl
  | _ :: _, _ :: _, h => by simp [FrsAt.len h.2.2]
  | [], _ :: _, h => h.elim
  | _ :: _, [], h => h.elim
theorem row_stays {w w' : World} {base : Nat} {e : TypeId} {size : Nat} {v : Value} {n : Nat} {xs : List Value} (h : w.ownsRow base e size v n xs) (hs : ∀ g, v.ownBlock = some g → w'.heap[g]? = w.heap[g]?) : w'.ownsRow base e size v n xs := by
  obtain ⟨h0, hr⟩ := h
  refine ⟨h0, ?_⟩
  rcases hr with hr | ⟨g, cap, cur, rfl, hg, hh, rest⟩
  · exact .inl hr
  · exact .inr ⟨g, cap, cur, rfl, hg, (hs g (by simp [Value.ownBlock])).trans hh, rest⟩
theorem FrAt.move {w w' : World} {base : Nat} {F F' : Nat → Prop} {k : Nat} {v : Value} {f : Fr} (h : FrAt w base F k v f) (hs : Stays (fun k => F k ∧ k < w.heap.size) w w') (hF : ∀ b, F b → b < w.heap.size → F' b) (hv : ∀ g, v.ownBlock = some g → w'.heap[g]? = w.heap[g]?) : FrAt w' base F' k v f := by
  obtain ⟨cs, h1, hl, h2⟩ := h
  refine ⟨cs, row_stays h1 hv, hl, fun j hj => ?_⟩
  obtain ⟨c0, c1, c2, c3, c4, e0, e1, e2, e3, e4, hp⟩ := h2 j hj
  exact ⟨c0, c1, c2, c3, c4, e0, e1, e2, e3, e4, hp.move hs hF (fun _ _ h => h.move hs hF)⟩
theorem FrAt.lt {w : World} {base : Nat} {F : Nat → Prop} {k : Nat} {v : Value} {f : Fr} (h : FrAt w base F k v f) (g : Nat) (hg : v.ownBlock = some g) : base ≤ g ∧ g < w.heap.size := by
  obtain ⟨cs, h1, _⟩ := h
  exact own_lt h1 g hg
theorem FrsAt.lt {w : World} {base : Nat} {F X : Nat → Prop} : ∀ {os : List Fr} {vs : List Value}, FrsAt w base F X os vs → ∀ u ∈ vs, ∀ g, u.ownBlock = some g → base ≤ g ∧ g < w.heap.size
  | [], [], _, u, hu, _, _ => by cases hu
  | _ :: _, _ :: _, h, u, hu, g, hg => by
    rcases List.mem_cons.1 hu with rfl | hu
    · exact h.1.lt g hg
    · exact FrsAt.lt h.2.2 u hu g hg
  | [], _ :: _, h, _, _, _, _ => h.elim
  | _ :: _, [], h, _, _, _, _ => h.elim
theorem FrsAt.move {w w' : World} {base : Nat} {F F' X X' : Nat → Prop} : ∀ {os : List Fr} {vs : List Value}, FrsAt w base F X os vs → Stays (fun k => F k ∧ k < w.heap.size) w w' → (∀ b, F b → b < w.heap.size → F' b) → (∀ u ∈ vs, ∀ g, u.ownBlock = some g → w'.heap[g]? = w.heap[g]?) → (∀ u ∈ vs, ∀ g, u.ownBlock = some g → ¬ F' g ∧ ¬ X' g) → FrsAt w' base F' X' os vs
  | [], [], _, _, _, _, _ => trivial
  | _ :: _, v :: _, h, hs, hF, hv, hX => ⟨h.1.move hs hF (hv v (List.mem_cons_self ..)), fun g hg => ⟨(hX v (List.mem_cons_self ..) g hg).1, (hX v (List.mem_cons_self ..) g hg).2, (h.2.1 g hg).2.2⟩, FrsAt.move h.2.2 hs hF (fun u hu => hv u (List.mem_cons_of_mem _ hu)) (fun u hu => hX u (List.mem_cons_of_mem _ hu))⟩
  | [], _ :: _, h, _, _, _, _ => h.elim
  | _ :: _, [], h, _, _, _, _ => h.elim

theorem FrsAt.notX {w : World} {base : Nat} {F X : Nat → Prop} : ∀ {os : List Fr} {vs : List Value}, FrsAt w base F X os vs → ∀ u ∈ vs, ∀ g, u.ownBlock = some g → ¬ F g ∧ ¬ X g
  | [], [], _, u, hu, _, _ => by cases hu
  | _ :: _, _ :: _, h, u, hu, g, hg => by
    rcases List.mem_cons.1 hu with rfl | hu
    · exact ⟨(h.2.1 g hg).1, (h.2.1 g hg).2.1⟩
    · exact FrsAt.notX h.2.2 u hu g hg
  | [], _ :: _, h, _, _, _, _ => h.elim
  | _ :: _, [], h, _, _, _, _ => h.elim

/-- The reader's open cards, in a row of cards; M: all blocks that the reader may call its own; X: blocks of it that are something else. -/
def OpAt (w : World) (rb base : Nat) (M X : Nat → Prop) (os : List Fr) (ov : Value) : Prop :=
  ∃ F vs, w.ownsRow base 24 1 ov os.length vs.reverse ∧ FrsAt w base F (fun k => k = rb ∨ ov.ownBlock = some k ∨ X k) os vs ∧
    (∀ k, F k → M k ∧ k ≠ rb ∧ ov.ownBlock ≠ some k ∧ ¬ X k) ∧ (∀ k, ov.ownBlock = some k → M k ∧ k ≠ rb ∧ ¬ X k) ∧ (∀ u ∈ vs, ∀ k, u.ownBlock = some k → M k)
theorem OpAt.move {w w' : World} {rb base : Nat} {M M' X X' : Nat → Prop} {os : List Fr} {ov : Value} (h : OpAt w rb base M X os ov) (hs : Stays (fun k => M k ∧ k ≠ rb ∧ ¬ X k ∧ k < w.heap.size) w w') (hM : ∀ k, M k → k < w.heap.size → M' k) (hX : ∀ k, X' k → X k ∨ w.heap.size ≤ k) : OpAt w' rb base M' X' os ov := by
  obtain ⟨F, vs, h1, h2, h3, h4, h5⟩ := h
  have hov : ∀ g, ov.ownBlock = some g → w'.heap[g]? = w.heap[g]? := fun g hg => hs.block g ⟨(h4 g hg).1, (h4 g hg).2.1, (h4 g hg).2.2, (own_lt h1 g hg).2⟩
  have hsF : Stays (fun k => F k ∧ k < w.heap.size) w w' := hs.mono fun k hk => ⟨(h3 k hk.1).1, (h3 k hk.1).2.1, (h3 k hk.1).2.2.2, hk.2⟩
  have hlt := h2.lt
  have hX2 := h2.notX
  refine ⟨fun k => F k ∧ k < w.heap.size, vs, row_stays h1 hov, h2.move hsF (fun b hb hl => ⟨hb, hl⟩) (fun u hu g hg => hs.block g ?_) (fun u hu g hg => ⟨fun h => (hX2 u hu g hg).1 h.1, ?_⟩), fun k hk => ?_, fun k hk => ?_, fun u hu k hk => hM k (h5 u hu k hk) (hlt u hu k hk).2⟩
  · exact ⟨h5 u hu g hg, fun e => (hX2 u hu g hg).2 (.inl e), fun e => (hX2 u hu g hg).2 (.inr (.inr e)), (hlt u hu g hg).2⟩
  · rintro (e | e | e)
    · exact (hX2 u hu g hg).2 (.inl e)
    · exact (hX2 u hu g hg).2 (.inr (.inl e))
    · rcases hX g e with e | e
      · exact (hX2 u hu g hg).2 (.inr (.inr e))
      · have := (hlt u hu g hg).2; omega
  · obtain ⟨a, b, c, d⟩ := h3 k hk.1
    exact ⟨hM k a hk.2, b, c, fun e => (hX k e).elim d (fun e => by have := hk.2; omega)⟩
  · obtain ⟨a, b, c⟩ := h4 k hk
    have hl := (own_lt h1 k hk).2
    exact ⟨hM k a hl, b, fun e => (hX k e).elim c (fun e => by omega)⟩

/-- The reader in memory, at a state of the plain machine. -/
def RdAt (w : World) (rb base : Nat) (M : Nat → Prop) : Vm.St G → Prop
  | .at_ wa os c => ∃ nu ov cv g n pv v av en, RdC w rb wa nu ov cv g n pv v av en false ∧ M rb ∧ OpAt w rb base M (fun _ => False) os ov ∧ (wa = 3 → CAf w (fun k => M k ∧ k ≠ rb ∧ ov.ownBlock ≠ some k) 3 c cv)
  | .on k os _ q => ∃ ov cv pv, RdC w rb 2 k ov cv q.g q.n pv q.v (.slice none 0 0) (wayV q.ps) true ∧ M rb ∧ Pp.Own w base pv q.ps ∧ (∀ g, pv.ownBlock = some g → M g ∧ g ≠ rb) ∧ OpAt w rb base M (fun k => pv.ownBlock = some k) os ov
end Go.Proofs.YtpdodknldhbbhaaGreatDoor.Vc

namespace Go.Proofs.YtpdodknldhbbhaaGreatDoor.Vm
set_option maxRecDepth 100000
/-- A card that may be read: at most d within one another. -/
def Nice {P : Type} (Q : P → Prop) : Nat → Tr P → Prop
  | 0, _ => False
  | d + 1, t => t.ps.length ≤ 24 ∧ ∀ p ∈ t.ps, Q p.1 ∧ p.2.length ≤ 1 ∧ ∀ a ∈ p.2, Nice Q d a
variable {G : Lang}
end Go.Proofs.YtpdodknldhbbhaaGreatDoor.Vm
namespace Go.Proofs.YtpdodknldhbbhaaGreatDoor.Vc
set_option maxRecDepth 100000
open Go.RowKit Pp

/-- A property as it may be read. -/
def Okp (p : Pd) : Prop := p.ps.length ≤ 4 ∧ p.v.size ≤ 600
end Go.Proofs.YtpdodknldhbbhaaGreatDoor.Vc

namespace Go.Proofs.YtpdodknldhbbhaaGreatDoor.Vc
set_option maxRecDepth 100000
open Go.RowKit Pp

def begL : List UInt8 := [66, 69, 71, 73, 78, 58, 86, 67, 65, 82, 68]
def verL : List UInt8 := [86, 69, 82, 83, 73, 79, 78, 58, 50, 46, 49]
def endL : List UInt8 := [69, 78, 68, 58, 86, 67, 65, 82, 68]
def chsP : ByteArray × ByteArray := (⟨#[67, 72, 65, 82, 83, 69, 84]⟩, ⟨#[85, 84, 70, 45, 56]⟩)
def qpP : ByteArray × ByteArray := (⟨#[69, 78, 67, 79, 68, 73, 78, 71]⟩, ⟨#[81, 85, 79, 84, 69, 68, 45, 80, 82, 73, 78, 84, 65, 66, 76, 69]⟩)
def b64P : ByteArray × ByteArray := (⟨#[69, 78, 67, 79, 68, 73, 78, 71]⟩, ⟨#[66, 65, 83, 69, 54, 52]⟩)
/-- Pieces, each with a blank ahead. -/
def pcs : List (List UInt8) → List UInt8
  | [] => []
  | x :: r => 32 :: (x ++ pcs r)
/-- How a value is written: parameters that say how, and the text. -/
def wrP (v : ByteArray) : List (ByteArray × ByteArray) × ByteArray :=
  if plain v.data.toList = true then ([], v) else if Lib.validD v.data.toList = true then ([chsP, qpP], ⟨(Qu.enc v.data.toList).toArray⟩) else ([b64P], ⟨(pcs (Sx.cut 60 (Sx.enc v.data.toList))).toArray⟩)
/-- A property's line with its value as it is written. -/
def lineW (g n : ByteArray) (ps : List (ByteArray × ByteArray)) (v : ByteArray) : ByteArray := prt g n ps v (chk g n ps v 0)
def lineC (p : Pd) : ByteArray := lineW p.g p.n (p.ps ++ (wrP p.v).1) (wrP p.v).2
def propL (f : Crd → List (List UInt8)) (p : Pd × List Crd) : List (List UInt8) := Ln.fold 75 (lineC p.1).data.toList ++ (p.2.map f).flatten
def tailC (f : Crd → List (List UInt8)) : List (Pd × List Crd) → List (List UInt8)
  | [] => [endL]
  | p :: r => propL f p ++ tailC f r
/-- The lines of a card, at most so many within one another. -/
def linesC : Nat → Crd → List (List UInt8)
  | 0, _ => []
  | d + 1, t => begL :: verL :: tailC (linesC d) t.ps
theorem tail_at {f : Crd → List (List UInt8)} {l : List (Pd × List Crd)} {i : Nat} (h : i < l.length) : tailC f (l.drop i) = propL f l[i] ++ tailC f (l.drop (i + 1)) := by
  rw [List.drop_eq_getElem_cons h, tailC]
theorem tail_done {f : Crd → List (List UInt8)} {l : List (Pd × List Crd)} {i : Nat} (h : ¬ i < l.length) : tailC f (l.drop i) = [endL] := by
  rw [List.drop_eq_nil_of_le (by omega), tailC]
theorem lineW_size (g n : ByteArray) (ps : List (ByteArray × ByteArray)) (v : ByteArray) : (lineW g n ps v).size ≤ 5000 := by
  unfold lineW prt
  split
  · rename_i h; exact line_bound h
  · exact Nat.zero_le _
theorem fold_len (k : Nat) : ∀ (n : Nat) (l : List UInt8), l.length ≤ n → (Ln.fold k l).length ≤ l.length + 1
  | 0, l, h => by
    have : l = [] := List.eq_nil_of_length_eq_zero (by omega)
    subst this
    unfold Ln.fold
    split
    · simp
    · rename_i h0
      have := Ln.place_lt (k := k) (l := []) (by omega)
      simp at this
  | n + 1, l, h => by
    unfold Ln.fold
    split
    · simp
    · rename_i h0
      have h1 := Ln.place_lt (k := k) (l := l) (by omega)
      have h2 := fold_len k n (l.drop (Ln.place k l)) (by rw [List.length_drop]; omega)
      rw [List.length_drop] at h2
      simp only [List.length_cons]
      omega
theorem pcs_len : ∀ (l : List (List UInt8)), (pcs l).length = l.flatten.length + l.length
  | [] => rfl
  | x :: r => by rw [pcs, List.length_cons, List.length_append, pcs_len r, List.flatten_cons, List.length_append, List.length_cons]; omega
/-- What is written is short. -/
theorem wrP_le {v : ByteArray} (h : v.size ≤ 600) : (wrP v).1.length ≤ 2 ∧ (wrP v).2.size ≤ 40000 := by
  have hv : v.data.toList.length = v.size := by rw [Array.length_toList]; rfl
  unfold wrP
  split
  · exact ⟨by simp, by simp; omega⟩
  split
  · refine ⟨by simp, ?_⟩
    show (Qu.enc v.data.toList).toArray.size ≤ 40000
    have := Qu.enc_length v.data.toList
    simp only [List.size_toArray]; omega
  · refine ⟨by simp, ?_⟩
    show (pcs (Sx.cut 60 (Sx.enc v.data.toList))).toArray.size ≤ 40000
    have h1 := Sx.cut_length (k := 60) (by decide) (Sx.enc v.data.toList)
    have h2 := Sx.enc_size v.data.toList
    simp only [List.size_toArray]
    rw [pcs_len, Sx.cut_flat (by decide)]
    omega
theorem fold_some (k : Nat) (l : List UInt8) : 0 < (Ln.fold k l).length := by
  unfold Ln.fold
  split
  · simp
  · simp
theorem lines_some {Q : Pd → Prop} : ∀ (d : Nat) (t : Crd), Vm.Nice Q d t → 0 < (linesC d t).length
  | 0, _, h => h.elim
  | d + 1, t, _ => by rw [linesC]; simp
/-- How many lines there can be. -/
def most : Nat → Nat
  | 0 => 0
  | d + 1 => 3 + 24 * (5001 + most d)
end Go.Proofs.YtpdodknldhbbhaaGreatDoor.Vc

namespace Go.Proofs.YtpdodknldhbbhaaGreatDoor.Vc
set_option maxRecDepth 100000
open Go.RowKit Pp

theorem chkL_all {f : Crd → Int} : ∀ {l : List (Pd × List Crd)}, chkL f l = 0 → ∀ p ∈ l, chkP f p = 0
  | [], _, p, h => by cases h
  | q :: r, h, p, hp => by
    unfold chkL at h
    by_cases hq : chkP f q = 0
    · rw [if_neg (fun e => e hq)] at h
      rcases List.mem_cons.1 hp with rfl | hp
      · exact hq
      · exact chkL_all h p hp
    · rw [if_pos hq] at h; exact absurd h hq
theorem pflt_ok {p : Pd} {m : Nat} (h : pflt p m = 0) : Okp p := by
  unfold pflt at h
  split at h
  · rename_i h1; exact absurd h h1
  split at h
  · cases h
  split at h
  · cases h
  split at h
  · cases h
  split at h
  · cases h
  rename_i h1 _ _ h2
  exact ⟨by omega, by omega⟩
/-- At most so many cards within one another. -/
def Hgt : Nat → Crd → Prop
  | 0, _ => False
  | k + 1, t => ∀ p ∈ t.ps, ∀ a ∈ p.2, Hgt k a
theorem CAt.hgt {w : World} {B : Nat} : ∀ {k : Nat} {t : Crd} {v : Value}, CAt w B k t v → Hgt k t
  | 0, _, _, h => h.elim
  | k + 1, t, v, h => by
    intro p hp a ha
    have h : PlAt w B (CAt w B k) t.ps v := by cases t; exact h
    obtain ⟨a0, cp, rfl⟩ := h.len
    obtain ⟨i, hi, rfl⟩ := List.getElem_of_mem hp
    obtain ⟨b, o, pv, av, e, hbw, q0, q1, q2, q3, q4, hps, hag⟩ := h.at_ hi
    obtain ⟨j, hj, rfl⟩ := List.getElem_of_mem ha
    obtain ⟨n1, n2, rfl⟩ := hag.len
    obtain ⟨b2, o2, csv, e2, hb2, hcs, hcc⟩ := hag.at_ hj
    exact CAt.hgt hcc
theorem fold_mem (k : Nat) : ∀ (n : Nat) (l : List UInt8), l.length ≤ n → ∀ x ∈ Ln.fold k l, x.length ≤ l.length
  | n, l, h, x, hx => by
    by_cases hp : Ln.place k l = 0
    · rw [Ln.fold_end hp, List.mem_singleton] at hx
      rw [hx]; exact Nat.le_refl _
    · have h1 := Ln.place_lt hp
      rw [Ln.fold_more hp] at hx
      rcases List.mem_cons.1 hx with rfl | hx
      · rw [List.length_take]; omega
      · match n, h with
        | 0, h => omega
        | n + 1, h =>
          have := fold_mem k n (l.drop (Ln.place k l)) (by rw [List.length_drop]; omega) x hx
          rw [List.length_drop] at this
          omega
theorem tail_mem {f : Crd → List (List UInt8)} : ∀ {l : List (Pd × List Crd)}, (∀ p ∈ l, ∀ a ∈ p.2, ∀ x ∈ f a, x.length ≤ 5000) → ∀ x ∈ tailC f l, x.length ≤ 5000
  | [], _, x, hx => by rw [tailC, List.mem_singleton] at hx; rw [hx]; decide
  | p :: r, h, x, hx => by
    rw [tailC, List.mem_append] at hx
    rcases hx with hx | hx
    · rw [propL, List.mem_append] at hx
      rcases hx with hx | hx
      · have h1 := fold_mem 75 _ _ (Nat.le_refl _) x hx
        have h3 : (lineC p.1).data.toList.length ≤ 5000 := by rw [list_size]; exact lineW_size _ _ _ _
        omega
      · obtain ⟨y, hy, hx⟩ := List.mem_flatten.1 hx
        obtain ⟨a, ha, rfl⟩ := List.mem_map.1 hy
        exact h p (List.mem_cons_self ..) a ha x hx
    · exact tail_mem (fun q hq => h q (List.mem_cons_of_mem _ hq)) x hx
theorem lines_mem : ∀ (d : Nat) (t : Crd), ∀ x ∈ linesC d t, x.length ≤ 5000
  | 0, _, x, h => by cases h
  | d + 1, t, x, h => by
    rw [linesC] at h
    rcases List.mem_cons.1 h with rfl | h
    · decide
    rcases List.mem_cons.1 h with rfl | h
    · decide
    exact tail_mem (fun p _ a _ => lines_mem d a) x h
theorem bytes_le : ∀ (l : List (List UInt8)), (∀ x ∈ l, x.length ≤ 5000) → Ln.bytes l ≤ 5000 * l.length
  | [], _ => Nat.zero_le _
  | x :: r, h => by
    have h1 := h x (List.mem_cons_self ..)
    have h2 := bytes_le r (fun y hy => h y (List.mem_cons_of_mem _ hy))
    rw [Ln.bytes_cons, List.length_cons, Nat.mul_add]
    omega
end Go.Proofs.YtpdodknldhbbhaaGreatDoor.Vc

namespace Go.Proofs.YtpdodknldhbbhaaGreatDoor.Vc
set_option maxRecDepth 100000
open Go.RowKit

/-- A line that is short, or has no blank behind its first byte and up to so many. -/
def Short (k : Nat) (x : List UInt8) : Prop := x.length ≤ k ∨ ∀ j, 1 ≤ j → j ≤ k → Ln.blank x j = false
theorem last_none : ∀ (l : List UInt8) (k : Nat), Ln.last l k = 0 → ∀ j, 1 ≤ j → j ≤ k → Ln.blank l j = false
  | l, 0, _, j, h1, h2 => by omega
  | l, k + 1, h, j, h1, h2 => by
    unfold Ln.last at h
    split at h
    · omega
    · rename_i hb
      by_cases hj : j = k + 1
      · subst hj; simpa using hb
      · exact last_none l k h j h1 (by omega)
theorem fold_short (k : Nat) : ∀ (n : Nat) (l : List UInt8), l.length ≤ n → ∀ x ∈ Ln.fold k l, Short k x
  | n, l, h, x, hx => by
    by_cases hp : Ln.place k l = 0
    · rw [Ln.fold_end hp, List.mem_singleton] at hx
      rw [hx]
      unfold Ln.place at hp
      split at hp
      · rename_i h1; exact .inl h1
      · exact .inr (last_none l k hp)
    · have h1 := Ln.place_lt hp
      have h2 : Ln.place k l ≤ k := by
        unfold Ln.place
        split
        · omega
        · exact Ln.last_le l k
      rw [Ln.fold_more hp] at hx
      rcases List.mem_cons.1 hx with rfl | hx
      · exact .inl (by rw [List.length_take]; omega)
      · match n, h with
        | 0, h => omega
        | n + 1, h => exact fold_short k n (l.drop (Ln.place k l)) (by rw [List.length_drop]; omega) x hx
theorem tail_short {f : Crd → List (List UInt8)} : ∀ {l : List (Pd × List Crd)}, (∀ p ∈ l, ∀ a ∈ p.2, ∀ x ∈ f a, Short 75 x) → ∀ x ∈ tailC f l, Short 75 x
  | [], _, x, hx => by rw [tailC, List.mem_singleton] at hx; rw [hx]; exact .inl (by decide)
  | p :: r, h, x, hx => by
    rw [tailC, List.mem_append] at hx
    rcases hx with hx | hx
    · rw [propL, List.mem_append] at hx
      rcases hx with hx | hx
      · exact fold_short 75 _ _ (Nat.le_refl _) x hx
      · obtain ⟨y, hy, hx⟩ := List.mem_flatten.1 hx
        obtain ⟨a, ha, rfl⟩ := List.mem_map.1 hy
        exact h p (List.mem_cons_self ..) a ha x hx
    · exact tail_short (fun q hq => h q (List.mem_cons_of_mem _ hq)) x hx
theorem lines_short : ∀ (d : Nat) (t : Crd), ∀ x ∈ linesC d t, Short 75 x
  | 0, _, x, h => by cases h
  | d + 1, t, x, h => by
    rw [linesC] at h
    rcases List.mem_cons.1 h with rfl | h
    · exact .inl (by decide)
    rcases List.mem_cons.1 h with rfl | h
    · exact .inl (by decide)
    exact tail_short (fun p _ a _ => lines_short d a) x h
end Go.Proofs.YtpdodknldhbbhaaGreatDoor.Vc

namespace Go.Proofs.YtpdodknldhbbhaaGreatDoor.Vc
set_option maxRecDepth 100000
open Go.RowKit Pp

def Ink (b : UInt8) : Prop := b.toNat = 9 ∨ (32 ≤ b.toNat ∧ b.toNat ≤ 126)
def InkL (l : List UInt8) : Prop := ∀ b ∈ l, Ink b
theorem ink_append {a b : List UInt8} (h : InkL a) (k : InkL b) : InkL (a ++ b) := fun x hx => (List.mem_append.1 hx).elim (h x) (k x)
theorem ink_plain {l : List UInt8} (h : plain l = true) : InkL l := fun b hb => by
  have := List.all_eq_true.1 h b hb
  unfold plainB at this
  simp at this
  exact .inr this
theorem ink_name {l : List UInt8} (h : nameL l = true) : InkL l := fun b hb => by
  match l, h with
  | c :: r, h =>
    unfold nameL at h
    rw [Bool.and_eq_true] at h
    have := List.all_eq_true.1 h.2 b hb
    unfold nmc lett at this
    simp at this
    right; omega
theorem ink_val {l : List UInt8} (h : valL l = true) : InkL l := fun b hb => by
  match l, h with
  | c :: r, h =>
    unfold valL at h
    rw [Bool.and_eq_true] at h
    have := List.all_eq_true.1 h.2 b hb
    unfold valc at this
    simp at this
    right; omega
theorem ink_unit (c : UInt8) (m : Bool) : InkL (Qu.unit c m) := by
  intro b hb
  by_cases h : Qu.plainB c m = true
  · rw [Qu.unit_plain h, List.mem_singleton] at hb
    subst hb
    unfold Qu.plainB Qu.ink Qu.blank at h
    simp at h
    rcases h with h | h
    · right; omega
    · rcases h.1 with h | h
      · right; omega
      · left; omega
  · rw [Qu.unit_not h] at hb
    have hc := c.toNat_lt
    have h1 := Fig.hexd_toNat (c.toNat / 16) (by omega)
    have h2 := Fig.hexd_toNat (c.toNat % 16) (by omega)
    simp [Fig.hexOf] at hb
    rcases hb with rfl | rfl | rfl
    · right; decide
    · right; rw [h1]; split <;> omega
    · right; rw [h2]; split <;> omega
theorem ink_qp : ∀ l : List UInt8, InkL (Qu.enc l)
  | [] => fun b hb => by cases hb
  | c :: r => by
    unfold Qu.enc
    exact ink_append (ink_unit _ _) (ink_qp r)
theorem ink_lt : ∀ n, n < 64 → Ink (Sx.lt n) := by
  unfold Ink; decide
theorem ink_quad (l : List UInt8) : InkL (Sx.quad l) := by
  unfold Sx.quad
  refine ink_append (fun b hb => ?_) (fun b hb => by rw [(List.mem_replicate.1 hb).2]; right; decide)
  have hb := List.mem_of_mem_take hb
  unfold Sx.four at hb
  have h0 := (l.getD 0 0).toNat_lt
  simp only [List.mem_cons, List.not_mem_nil, or_false] at hb
  rcases hb with rfl | rfl | rfl | rfl
  · exact ink_lt _ (by omega)
  · exact ink_lt _ (by omega)
  · exact ink_lt _ (by omega)
  · exact ink_lt _ (by omega)
theorem ink_b64 (l : List UInt8) : InkL (Sx.enc l) := fun b hb => by
  unfold Sx.enc at hb
  obtain ⟨x, hx, hb⟩ := List.mem_flatten.1 hb
  obtain ⟨y, _, rfl⟩ := List.mem_map.1 hx
  exact ink_quad y b hb
theorem ink_pcs : ∀ {l : List (List UInt8)}, (∀ x ∈ l, InkL x) → InkL (pcs l)
  | [], _ => fun b hb => by cases hb
  | x :: r, h => by
    unfold pcs
    intro b hb
    rcases List.mem_cons.1 hb with rfl | hb
    · right; decide
    · exact ink_append (h x (List.mem_cons_self ..)) (ink_pcs fun y hy => h y (List.mem_cons_of_mem _ hy)) b hb
theorem ink_cut {l : List UInt8} (h : InkL l) : ∀ x ∈ Sx.cut 60 l, InkL x := fun x hx b hb => by
  have e := Sx.cut_flat (k := 60) (by decide) l
  exact h b (by rw [← e]; exact List.mem_flatten.2 ⟨x, hx, hb⟩)
theorem ink_wr (v : ByteArray) : InkL (wrP v).2.data.toList := by
  unfold wrP
  split
  · rename_i h; exact ink_plain h
  split
  · exact ink_qp _
  · exact ink_pcs (ink_cut (ink_b64 _))
theorem fold_in (k : Nat) : ∀ (n : Nat) (l : List UInt8), l.length ≤ n → ∀ x ∈ Ln.fold k l, ∀ b ∈ x, b ∈ l
  | n, l, h, x, hx, b, hb => by
    by_cases hp : Ln.place k l = 0
    · rw [Ln.fold_end hp, List.mem_singleton] at hx
      rw [hx] at hb; exact hb
    · have h1 := Ln.place_lt hp
      rw [Ln.fold_more hp] at hx
      rcases List.mem_cons.1 hx with rfl | hx
      · exact List.mem_of_mem_take hb
      · match n, h with
        | 0, h => omega
        | n + 1, h => exact List.mem_of_mem_drop (fold_in k n (l.drop (Ln.place k l)) (by rw [List.length_drop]; omega) x hx b hb)
def InkB (b : ByteArray) : Prop := InkL b.data.toList
theorem inkB_append {a b : ByteArray} (h : InkB a) (k : InkB b) : InkB (a ++ b) := by
  unfold InkB
  rw [ByteArray.data_append, Array.toList_append]
  exact ink_append h k
theorem inkB_name {a : ByteArray} (h : nameB a = true) : InkB a := ink_name h
theorem inkB_one (c : UInt8) (h : Ink c) : InkB ⟨#[c]⟩ := fun b hb => by
  have : b = c := by simpa using hb
  rw [this]; exact h
theorem ink_head {g n : ByteArray} (h : goodNames g n = true) : InkB (headL g n) := by
  unfold goodNames at h
  rw [Bool.and_eq_true] at h
  unfold headL
  split
  · exact inkB_name h.2
  · rename_i hg
    have h1 := h.1
    rw [decide_eq_false hg, Bool.false_or] at h1
    exact inkB_append (inkB_append (inkB_name h1) (inkB_one 46 (.inr (by decide)))) (inkB_name h.2)
theorem ink_with {acc : ByteArray} {p : ByteArray × ByteArray} (ha : InkB acc) (h : paramB p.1 p.2 = true) : InkB (withP acc p) := by
  unfold paramB at h
  rw [Bool.and_eq_true] at h
  have hv : InkB p.2 := ink_val h.2
  unfold withP
  refine inkB_append ?_ hv
  split
  · exact inkB_append ha (inkB_one 59 (.inr (by decide)))
  · rename_i hg
    have h1 := h.1
    rw [decide_eq_false hg, Bool.false_or] at h1
    exact inkB_append (inkB_append (inkB_append ha (inkB_one 59 (.inr (by decide)))) (inkB_name h1)) (inkB_one 61 (.inr (by decide)))
theorem ink_params : ∀ (ps : List (ByteArray × ByteArray)) (acc : ByteArray), InkB acc → goodPs ps = true → InkB (ps.foldl withP acc)
  | [], _, h, _ => h
  | p :: r, acc, h, hg => by
    unfold goodPs at hg
    rw [List.all_cons, Bool.and_eq_true] at hg
    exact ink_params r _ (ink_with h hg.1) hg.2
theorem ink_lineW (g n : ByteArray) (ps : List (ByteArray × ByteArray)) (v : ByteArray) (hv : InkB v) : InkB (lineW g n ps v) := by
  unfold lineW prt
  split
  · rename_i h
    have h1 := chk_ok h
    unfold lineB
    exact inkB_append (inkB_append (ink_params _ _ (ink_head h1.1) h1.2.2.1) (inkB_one 58 (.inr (by decide)))) hv
  · intro b hb; cases hb
theorem ink_lineC (p : Pd) : InkB (lineC p) := ink_lineW _ _ _ _ (ink_wr p.v)
theorem ink_tail {f : Crd → List (List UInt8)} : ∀ {l : List (Pd × List Crd)}, (∀ p ∈ l, ∀ a ∈ p.2, ∀ x ∈ f a, InkL x) → ∀ x ∈ tailC f l, InkL x
  | [], _, x, hx => by rw [tailC, List.mem_singleton] at hx; rw [hx]; intro b hb; exact ink_plain (l := endL) (by decide) b hb
  | p :: r, h, x, hx => by
    rw [tailC, List.mem_append] at hx
    rcases hx with hx | hx
    · rw [propL, List.mem_append] at hx
      rcases hx with hx | hx
      · exact fun b hb => ink_lineC p.1 b (fold_in 75 _ _ (Nat.le_refl _) x hx b hb)
      · obtain ⟨y, hy, hx⟩ := List.mem_flatten.1 hx
        obtain ⟨a, ha, rfl⟩ := List.mem_map.1 hy
        exact h p (List.mem_cons_self ..) a ha x hx
    · exact ink_tail (fun q hq => h q (List.mem_cons_of_mem _ hq)) x hx
theorem ink_lines : ∀ (d : Nat) (t : Crd), ∀ x ∈ linesC d t, InkL x
  | 0, _, x, h => by cases h
  | d + 1, t, x, h => by
    rw [linesC] at h
    rcases List.mem_cons.1 h with rfl | h
    · exact ink_plain (l := begL) (by decide)
    rcases List.mem_cons.1 h with rfl | h
    · exact ink_plain (l := verL) (by decide)
    exact ink_tail (fun p _ a _ => ink_lines d a) x h
end Go.Proofs.YtpdodknldhbbhaaGreatDoor.Vc

namespace Go.Proofs.YtpdodknldhbbhaaGreatDoor.Vc
set_option maxRecDepth 100000
open Go.RowKit Pp

def inkB (b : UInt8) : Bool := decide (b.toNat = 9) || (decide (32 ≤ b.toNat) && decide (b.toNat ≤ 126))
def blkB (b : UInt8) : Bool := decide (b.toNat = 32) || decide (b.toNat = 9)
/-- The next count of blanks. -/
def nextK (b : UInt8) (n k : Nat) : Nat := if 1 < n + 1 ∧ n + 1 ≤ 76 ∧ blkB b = true then k + 1 else k
/-- Is all well from here on, n bytes and k blanks behind the line's begin? -/
def scn : List UInt8 → Nat → Nat → Bool
  | [], _, _ => true
  | b :: r, n, k => if b.toNat = 10 then scn r 0 0 else if b.toNat = 13 then scn r n k else if inkB b = false then false else if 75 < n + 1 ∧ 0 < nextK b n k then false else scn r (n + 1) (nextK b n k)
theorem ink_b {b : UInt8} (h : Ink b) : inkB b = true ∧ ¬ b.toNat = 10 ∧ ¬ b.toNat = 13 := by
  unfold Ink at h
  unfold inkB
  rcases h with h | h
  · exact ⟨by simp [h], by omega, by omega⟩
  · exact ⟨by simp [h], by omega, by omega⟩
theorem scn_line : ∀ (x pre rest : List UInt8) (k : Nat), InkL x → Short 75 (pre ++ x) → (0 < k → ∃ j, 1 ≤ j ∧ j ≤ 75 ∧ j < pre.length ∧ Ln.blank pre j = true) →
    scn (x ++ ([13, 10] ++ rest)) pre.length k = scn rest 0 0
  | [], pre, rest, k, _, _, _ => by
    show scn (13 :: 10 :: rest) pre.length k = _
    rw [scn, if_neg (by decide), if_pos (by decide), scn, if_pos (by decide)]
  | b :: r, pre, rest, k, hi, hs, hk => by
    obtain ⟨h1, h2, h3⟩ := ink_b (hi b (List.mem_cons_self ..))
    have hpl : (pre ++ [b]).length = pre.length + 1 := by simp
    have hk2 : 0 < nextK b pre.length k → ∃ j, 1 ≤ j ∧ j ≤ 75 ∧ j < (pre ++ [b]).length ∧ Ln.blank (pre ++ [b]) j = true := by
      intro h
      unfold nextK at h
      split at h
      · rename_i hc
        refine ⟨pre.length, by omega, by omega, by omega, ?_⟩
        rw [Ln.blank_at (by omega)]
        have hb := hc.2.2
        unfold blkB at hb
        simp only [List.getElem_append_right (Nat.le_refl _), Nat.sub_self, List.getElem_cons_zero]
        simp at hb
        rcases hb with hb | hb
        · have : b = 32 := UInt8.toNat_inj.1 hb
          rw [this]; rfl
        · have : b = 9 := UInt8.toNat_inj.1 hb
          rw [this]; rfl
      · obtain ⟨j, j1, j2, j3, j4⟩ := hk h
        refine ⟨j, j1, j2, by omega, ?_⟩
        rw [Ln.blank_at (by omega)] at j4 ⊢
        rw [List.getElem_append_left j3]; exact j4
    have hs2 : Short 75 ((pre ++ [b]) ++ r) := by rw [List.append_assoc]; exact hs
    show scn (b :: (r ++ ([13, 10] ++ rest))) pre.length k = _
    rw [scn, if_neg h2, if_neg h3, if_neg (by rw [h1]; decide), if_neg, ← hpl]
    · exact scn_line r (pre ++ [b]) rest _ (fun y hy => hi y (List.mem_cons_of_mem _ hy)) hs2 hk2
    · rintro ⟨hn, hkk⟩
      obtain ⟨j, j1, j2, j3, j4⟩ := hk2 hkk
      rcases hs2 with h | h
      · rw [List.length_append] at h; omega
      · have := h j j1 j2
        rw [Ln.blank_at (by rw [List.length_append]; omega), List.getElem_append_left j3] at this
        rw [Ln.blank_at j3, this] at j4
        cases j4
theorem scn_join : ∀ {l : List (List UInt8)}, (∀ x ∈ l, InkL x ∧ Short 75 x) → scn (Ln.join l) 0 0 = true
  | [], _ => rfl
  | x :: r, h => by
    have h1 := h x (List.mem_cons_self ..)
    have := scn_line x [] (Ln.join r) 0 h1.1 h1.2 (fun h => absurd h (by decide))
    unfold Ln.join
    rw [List.length_nil] at this
    rw [this]
    exact scn_join fun y hy => h y (List.mem_cons_of_mem _ hy)
end Go.Proofs.YtpdodknldhbbhaaGreatDoor.Vc

namespace Go.Proofs.YtpdodknldhbbhaaGreatDoor.Dp
set_option maxRecDepth 100000
open Go.RowKit Vc Pp

def suA (g : Crd → Int) : List Crd → Int
  | [] => 0
  | a :: t => g a + suA g t
def suP (G : Pd × List Crd → Int) : List (Pd × List Crd) → Int
  | [] => 0
  | p :: t => G p + suP G t

theorem wgA_L {f : Crd → Int → Int × Bool} {g : Crd → Int} (h : ∀ a r, (f a r).2 = false → g a ≤ 3 + 300 * (r - (f a r).1)) : ∀ (l : List Crd) (r : Int), (wgA f l r).2 = false → suA g l ≤ 3 * (l.length : Int) + 300 * (r - (wgA f l r).1)
  | [], r, _ => by simp [wgA, suA]
  | a :: t, r, hn => by
    unfold wgA at hn ⊢
    split at hn
    · cases hn
    rename_i hf
    rw [if_neg hf]
    have h1 := h a r (by simpa using hf)
    have h2 := wgA_L h t _ hn
    simp only [suA, List.length_cons]
    omega
theorem wgP_L {f : Crd → Int → Int × Bool} {g : Crd → Int} {G : Pd × List Crd → Int} (h : ∀ a r, (f a r).2 = false → g a ≤ 3 + 300 * (r - (f a r).1)) (hG : ∀ p, G p ≤ 5001 + suA g p.2) : ∀ (l : List (Pd × List Crd)) (r : Int), (wgP f l r).2 = false → suP G l ≤ 300 * (r - (wgP f l r).1)
  | [], r, _ => by simp [wgP, suP]
  | p :: t, r, hn => by
    unfold wgP at hn ⊢
    split at hn
    · cases hn
    rename_i h1
    rw [if_neg h1]
    split at hn
    · cases hn
    rename_i h2
    rw [if_neg h2]
    have h3 := wgA_L h p.2 (r - p.1.v.size - 20) (by
      cases hb : (wgA f p.2 (r - p.1.v.size - 20)).2 with
      | false => rfl
      | true => exact absurd (.inl hb) h2)
    have h4 := wgP_L h hG t _ hn
    have h5 := hG p
    simp only [suP]
    have h6 : ((p.2.length : Nat) : Int) ≤ 4 := by omega
    have h7 : (0 : Int) ≤ (p.1.v.size : Int) := by omega
    omega
theorem wgC_L {d : Nat} {g : Crd → Int} {G : Pd × List Crd → Int} (h : ∀ a r, (wgC d a r).2 = false → g a ≤ 3 + 300 * (r - (wgC d a r).1)) (hG : ∀ p, G p ≤ 5001 + suA g p.2) (t : Crd) (r : Int) (hn : (wgC (d + 1) t r).2 = false) : suP G t.ps ≤ 300 * (r - (wgC (d + 1) t r).1) := by
  unfold wgC at hn ⊢
  split at hn
  · cases hn
  rename_i h1
  rw [if_neg h1]
  exact wgP_L h hG _ _ hn

theorem wgA_V {f : Crd → Int → Int × Bool} {g : Crd → Int} (h : ∀ a r, (f a r).2 = false → g a ≤ 1 + 1 * (r - (f a r).1)) : ∀ (l : List Crd) (r : Int), (wgA f l r).2 = false → suA g l ≤ 1 * (l.length : Int) + 1 * (r - (wgA f l r).1)
  | [], r, _ => by simp [wgA, suA]
  | a :: t, r, hn => by
    unfold wgA at hn ⊢
    split at hn
    · cases hn
    rename_i hf
    rw [if_neg hf]
    have h1 := h a r (by simpa using hf)
    have h2 := wgA_V h t _ hn
    simp only [suA, List.length_cons]
    omega
theorem wgP_V {f : Crd → Int → Int × Bool} {g : Crd → Int} {G : Pd × List Crd → Int} (h : ∀ a r, (f a r).2 = false → g a ≤ 1 + 1 * (r - (f a r).1)) (hG : ∀ p, G p ≤ 1 + suA g p.2) : ∀ (l : List (Pd × List Crd)) (r : Int), (wgP f l r).2 = false → suP G l ≤ 1 * (r - (wgP f l r).1)
  | [], r, _ => by simp [wgP, suP]
  | p :: t, r, hn => by
    unfold wgP at hn ⊢
    split at hn
    · cases hn
    rename_i h1
    rw [if_neg h1]
    split at hn
    · cases hn
    rename_i h2
    rw [if_neg h2]
    have h3 := wgA_V h p.2 (r - p.1.v.size - 20) (by
      cases hb : (wgA f p.2 (r - p.1.v.size - 20)).2 with
      | false => rfl
      | true => exact absurd (.inl hb) h2)
    have h4 := wgP_V h hG t _ hn
    have h5 := hG p
    simp only [suP]
    have h6 : ((p.2.length : Nat) : Int) ≤ 4 := by omega
    have h7 : (0 : Int) ≤ (p.1.v.size : Int) := by omega
    omega
theorem wgC_V {d : Nat} {g : Crd → Int} {G : Pd × List Crd → Int} (h : ∀ a r, (wgC d a r).2 = false → g a ≤ 1 + 1 * (r - (wgC d a r).1)) (hG : ∀ p, G p ≤ 1 + suA g p.2) (t : Crd) (r : Int) (hn : (wgC (d + 1) t r).2 = false) : suP G t.ps ≤ 1 * (r - (wgC (d + 1) t r).1) := by
  unfold wgC at hn ⊢
  split at hn
  · cases hn
  rename_i h1
  rw [if_neg h1]
  exact wgP_V h hG _ _ hn

/-! ### Lines -/
theorem flat_len (f : Crd → List (List UInt8)) : ∀ l : List Crd, (((l.map f).flatten).length : Int) = suA (fun a => ((f a).length : Int)) l
  | [] => rfl
  | a :: t => by simp only [List.map_cons, List.flatten_cons, List.length_append, suA, ← flat_len f t]; omega
theorem tailC_len (f : Crd → List (List UInt8)) : ∀ l : List (Pd × List Crd), ((tailC f l).length : Int) = 1 + suP (fun p => ((propL f p).length : Int)) l
  | [] => rfl
  | p :: t => by have := tailC_len f t; simp only [tailC, List.length_append, suP]; omega
theorem prop_lines (f : Crd → List (List UInt8)) (p : Pd × List Crd) : ((propL f p).length : Int) ≤ 5001 + suA (fun a => ((f a).length : Int)) p.2 := by
  unfold propL
  rw [List.length_append]
  have h2 := fold_len 75 _ (lineC p.1).data.toList (Nat.le_refl _)
  have h3 : (lineC p.1).data.toList.length ≤ 5000 := by rw [Vc.list_size]; exact lineW_size _ _ _ _
  have h4 := flat_len f p.2
  omega
theorem lines_wg : ∀ (d k : Nat) (t : Crd) (r : Int), (wgC d t r).2 = false → ((linesC k t).length : Int) ≤ 3 + 300 * (r - (wgC d t r).1)
  | 0, _, _, _, h => by cases h
  | d + 1, 0, t, r, h => by
    have h1 := wgC_L (g := fun _ => 0) (G := fun _ => 0) (fun a r h => by have := lines_wg d 0 a r h; simp only [linesC, List.length_nil] at this; omega) (fun p => by
      have : ∀ l : List Crd, suA (fun _ => 0) l = 0 := fun l => by induction l with | nil => rfl | cons a t ih => simp [suA, ih]
      rw [this]; decide) t r h
    have h2 : ∀ l : List (Pd × List Crd), suP (fun _ => 0) l = 0 := fun l => by induction l with | nil => rfl | cons a t ih => simp [suP, ih]
    rw [h2] at h1
    simp only [linesC, List.length_nil]
    omega
  | d + 1, k + 1, t, r, h => by
    have h1 := wgC_L (g := fun a => ((linesC k a).length : Int)) (G := fun p => ((propL (linesC k) p).length : Int)) (fun a r h => lines_wg d k a r h) (prop_lines _) t r h
    have h2 := tailC_len (linesC k) t.ps
    rw [linesC]
    simp only [List.length_cons]
    omega
theorem lines_great {t : Crd} (h : great t = false) (k : Nat) : (linesC k t).length ≤ 2000000 := by
  have h1 := lines_wg 12 k t 6000 h
  have h2 := (wgC_bd 12 t 6000 ⟨by decide, by decide⟩).1
  omega

/-! ### Levels -/
def it : Nat → List (List Crd) → List (List Crd)
  | 0, L => L
  | j + 1, L => it j (kidsL L)
theorem it_app : ∀ (j : Nat) (A B : List (List Crd)), it j (A ++ B) = it j A ++ it j B
  | 0, _, _ => rfl
  | j + 1, A, B => by rw [it, kidsL_app, it_app j]; rfl
theorem it_out : ∀ (j : Nat) (L : List (List Crd)), it j (kidsL L) = kidsL (it j L)
  | 0, _ => rfl
  | j + 1, L => by rw [it, it_out j, it]
theorem it_nil : ∀ j : Nat, it j [] = []
  | 0 => rfl
  | j + 1 => by rw [it]; exact it_nil j
theorem lvl_it (c : Crd) : ∀ j, lvl c j = it j [[c]]
  | 0 => rfl
  | j + 1 => by rw [lvl, lvl_it c j, ← it_out]; rfl
theorem kids_one (T : List Crd) : kidsL [T] = kidsT T := by simp [kidsL]
/-- A list of cards, one level down: what its cards have. -/
theorem it_list (j : Nat) : ∀ T : List Crd, ((it j (kidsT T)).length : Int) = suA (fun a => ((it j (kidsT [a])).length : Int)) T
  | [] => by rw [show kidsT [] = [] from rfl, it_nil]; rfl
  | a :: t => by
    have h := it_list j t
    rw [show a :: t = [a] ++ t from rfl, kidsT_app, it_app, List.length_append]
    show _ = ((it j (kidsT [a])).length : Int) + suA _ t
    omega
theorem it_props (j : Nat) : ∀ l : List (Pd × List Crd), ((it j (kidsP l)).length : Int) = suP (fun p => ((it j (kidsP [p])).length : Int)) l
  | [] => by rw [show kidsP [] = [] from rfl, it_nil]; rfl
  | p :: t => by
    have h := it_props j t
    rw [show p :: t = [p] ++ t from rfl, kidsP_app, it_app, List.length_append]
    show _ = ((it j (kidsP [p])).length : Int) + suP _ t
    omega
theorem suA_nn {g : Crd → Int} (h : ∀ a, 0 ≤ g a) : ∀ l : List Crd, 0 ≤ suA g l
  | [] => by simp [suA]
  | a :: t => by have := suA_nn h t; have := h a; simp only [suA]; omega
theorem suP_nn {G : Pd × List Crd → Int} (h : ∀ a, 0 ≤ G a) : ∀ l : List (Pd × List Crd), 0 ≤ suP G l
  | [] => by simp [suP]
  | a :: t => by have := suP_nn h t; have := h a; simp only [suP]; omega
theorem it_prop (j : Nat) (p : Pd × List Crd) : ((it j (kidsP [p])).length : Int) ≤ 1 + suA (fun a => ((it j [[a]]).length : Int)) p.2 := by
  have hnn : 0 ≤ suA (fun a => ((it j [[a]]).length : Int)) p.2 := suA_nn (fun a => by omega) _
  by_cases hp : p.2 = []
  · have : kidsP [p] = [] := by simp [kidsP, hp]
    rw [this, it_nil]
    simp only [List.length_nil]
    omega
  · have : kidsP [p] = [p.2] := by simp [kidsP, hp]
    rw [this]
    cases j with
    | zero => simp only [it, List.length_singleton]; simp only [it, List.length_singleton] at hnn; omega
    | succ j =>
      simp only [it, kids_one] at hnn ⊢
      rw [it_list]
      omega
theorem levels_wg : ∀ (d j : Nat) (t : Crd) (r : Int), (wgC d t r).2 = false → ((it j [[t]]).length : Int) ≤ 1 + 1 * (r - (wgC d t r).1)
  | 0, _, _, _, h => by cases h
  | d + 1, j, t, r, h => by
    have h1 := fun i => wgC_V (g := fun a => ((it i [[a]]).length : Int)) (G := fun p => ((it i (kidsP [p])).length : Int)) (fun a r h => levels_wg d i a r h) (it_prop i) t r h
    have h2 : ∀ i, 0 ≤ suP (fun p => ((it i (kidsP [p])).length : Int)) t.ps := fun i => suP_nn (fun p => by omega) _
    cases j with
    | zero =>
      have h3 := h1 0
      have h4 := h2 0
      simp only [it, List.length_singleton]
      simp only [it] at h3 h4
      omega
    | succ j =>
      have h3 := h1 j
      have h5 := it_props j t.ps
      simp only [it, kids_one]
      rw [show kidsT [t] = kidsP t.ps from by simp [kidsT]]
      omega
theorem levels_great {t : Crd} (h : great t = false) (j : Nat) : (lvl t j).length ≤ 1048576 := by
  have h1 := levels_wg 12 j t 6000 h
  have h2 := (wgC_bd 12 t 6000 ⟨by decide, by decide⟩).1
  rw [lvl_it]
  omega

/-! ### A card in which nothing is wrong, however deep -/
theorem chk_niceK : ∀ (k : Nat) (t : Crd), Hgt k t → chkC k t = 0 → Vm.Nice Okp k t
  | 0, t, hf, _ => hf.elim
  | k + 1, t, hf, hc => by
    unfold chkC at hc
    split at hc
    · cases hc
    rename_i hl
    refine ⟨by omega, fun p hp => ?_⟩
    have h0 := chkL_all hc p hp
    have hp0 : pflt p.1 p.2.length = 0 := by
      by_cases he : pflt p.1 p.2.length = 0
      · exact he
      · rw [chkP_bad he] at h0; exact absurd h0 he
    refine ⟨pflt_ok hp0, pflt_cards hp0, fun a ha => ?_⟩
    have ha1 : p.2 = [a] := by
      have := pflt_cards hp0
      match hq : p.2, this with
      | [], _ => rw [hq] at ha; cases ha
      | [b], _ => rw [hq] at ha; rw [List.mem_singleton.1 ha]
    exact chk_niceK k a (hf p hp a ha) (by rw [chkP_one hp0 ha1] at h0; exact h0)
/-- The text of a card at most so deep. -/
def textK (k : Nat) (t : Crd) : ByteArray := ⟨(Ln.join (linesC k t)).toArray⟩
theorem scn_textK (k : Nat) (t : Crd) : scn (textK k t).data.toList 0 0 = true := by
  unfold textK
  exact scn_join fun x hx => ⟨ink_lines k t x hx, lines_short k t x hx⟩
/-- What is said to be wrong with a card that is said to be n deep: an error's number. -/
def badN (n k : Nat) (t : Crd) : Int := if 3 < n then 9 else if chkC k t ≠ 0 then chkC k t else if 4000 < (textK k t).size then 8 else 0
theorem badN_ok {n k : Nat} {t : Crd} (h : badN n k t = 0) : (textK k t).size ≤ 4000 := by
  unfold badN at h
  split at h
  · cases h
  split at h
  · rename_i h2; exact absurd h h2
  split at h
  · cases h
  · omega
theorem linesK_small (k : Nat) (t : Crd) (h : (linesC k t).length ≤ 2000000) : Ln.bytes (linesC k t) ≤ 500000000000 := by
  have h3 := bytes_le _ (lines_mem k t)
  omega
end Go.Proofs.YtpdodknldhbbhaaGreatDoor.Dp

namespace Go.Proofs.YtpdodknldhbbhaaGreatDoor.Vc
set_option maxRecDepth 100000
open Go.RowKit Pp

/-- check under way: the card's box, the property's. -/
structure Ck (w W : World) (Z : Nat) (sv : Value) (g n : ByteArray) (pv : Value) (v : ByteArray) (av : Value) : Prop where
  c : Boxed W w.heap.size 24 sv
  p : PrAt W Z g n pv v av
  b : Below w.heap.size w W
  z : w.heap.size < Z
section
variable {w W W' : World} {Z : Nat} {sv pv av : Value} {g n v : ByteArray}
theorem Ck.below (h : Ck w W Z sv g n pv v av) (hb : Below W.heap.size W W') : Ck w W' Z sv g n pv v av :=
  ⟨(hb.block _ h.c.lt).trans h.c, h.p.below hb, h.b.trans (hb.mono h.b.size), h.z⟩
theorem Ck.drewN (h : Ck w W Z sv g n pv v av) (q : Nat) : Ck w (W.drewN q) Z sv g n pv v av := h.below ⟨rfl, rfl, rfl, Nat.le_refl _, fun _ _ => rfl⟩
theorem Ck.put (h : Ck w W Z sv g n pv v av) (g' n' : ByteArray) (pv' : Value) (v' : ByteArray) (av' : Value) :
    Ck w (((((W.setCell ⟨Z, 0, none⟩ (.string g')).setCell ⟨Z, 1, none⟩ (.string n')).setCell ⟨Z, 2, none⟩ pv').setCell ⟨Z, 3, none⟩ (.string v')).setCell ⟨Z, 4, none⟩ av') Z sv g' n' pv' v' av' := by
  have hz := h.z
  have hB : Below Z W (((((W.setCell ⟨Z, 0, none⟩ (.string g')).setCell ⟨Z, 1, none⟩ (.string n')).setCell ⟨Z, 2, none⟩ pv').setCell ⟨Z, 3, none⟩ (.string v')).setCell ⟨Z, 4, none⟩ av') :=
    (((((Below.refl Z W).setCell (p := ⟨Z, 0, none⟩) (Nat.le_refl _) _).setCell (p := ⟨Z, 1, none⟩) (Nat.le_refl _) _).setCell (p := ⟨Z, 2, none⟩) (Nat.le_refl _) _).setCell (p := ⟨Z, 3, none⟩) (Nat.le_refl _) _).setCell (p := ⟨Z, 4, none⟩) (Nat.le_refl _) _
  exact ⟨(hB.block _ hz).trans h.c, ((((h.p.set0 g').set1 n').set2 pv').set3 v').set4 av', h.b.trans (hB.mono (by omega)), hz⟩
end

end Go.Proofs.YtpdodknldhbbhaaGreatDoor.Vc

namespace Go.Proofs.YtpdodknldhbbhaaGreatDoor.Vc
set_option maxRecDepth 100000
open Go.RowKit Pp

/-- lines under way: the card's box, the lines so far. -/
structure Ls (w W : World) (sv lv : Value) (acc : List (List UInt8)) : Prop where
  c : Boxed W w.heap.size 24 sv
  l : Strs.Strs W (w.heap.size + 1) lv acc
  b : Below w.heap.size w W
  z : w.heap.size + 1 ≤ W.heap.size
section
variable {w W W' : World} {sv lv : Value} {acc : List (List UInt8)}
theorem Ls.keep (h : Ls w W sv lv acc) (hS : Sq.Stays (fun k => k < W.heap.size) W W') : Ls w W' sv lv acc :=
  ⟨(hS.block _ h.c.lt).trans h.c, row_stays h.l (fun g e => hS.block g (World.ownsRow.lt h.l g e).2), ⟨hS.os.trans h.b.os, hS.tape.trans h.b.tape, hS.output.trans h.b.output, Nat.le_trans h.b.size hS.size, fun k hk => (hS.block k (by have := h.z; omega)).trans (h.b.block k hk)⟩, Nat.le_trans h.z hS.size⟩
theorem Ls.below (h : Ls w W sv lv acc) (hb : Below W.heap.size W W') : Ls w W' sv lv acc := h.keep ⟨hb.os, hb.tape, hb.output, hb.size, fun k hk => hb.block k hk⟩
end
/-- More lines behind them. -/
theorem Ls.app {w W W' : World} {sv lv lv' : Value} {acc fl : List (List UInt8)} {m : Nat} (h : Ls w W sv lv acc) (hm : m = fl.length) (hown : W'.ownsRow (w.heap.size + 1) 9 1 lv' (acc.length + m) (Strs.scells acc ++ Strs.scells fl)) (hg : W.grownBy W' lv.ownBlock) : Ls w W' sv lv' (acc ++ fl) := by
  subst hm
  have hlt := World.ownsRow.lt h.l
  refine ⟨(hg.block _ h.c.lt (fun e => by have := (hlt _ e.symm).1; omega)).trans h.c, ?_, ⟨hg.os.trans h.b.os, hg.tape.trans h.b.tape, hg.output.trans h.b.output, Nat.le_trans h.b.size hg.size, fun k hk => (hg.block k (by have := h.z; omega) (fun e => by have := (hlt _ e.symm).1; omega)).trans (h.b.block k hk)⟩, Nat.le_trans h.z hg.size⟩
  unfold Strs.Strs
  rw [List.length_append, Strs.scells_append]
  exact hown
/-- A row of texts as the source of an append. -/
theorem strs_src {W : World} {base : Nat} {v : Value} {l : List (List UInt8)} (h : Strs.Strs W base v l) (hl : 0 < l.length) : ∃ g c, v = .slice (some ⟨g, 0, none⟩) l.length c ∧ ∀ j u, (Strs.scells l)[j]? = some u → W.cell? (Addr.add ⟨g, 0, none⟩ j) = some u := by
  obtain ⟨a, c, rfl, hc⟩ := Ln.strs_at h
  obtain ⟨g, rfl, -, -⟩ := hc 0 hl
  refine ⟨g, c, rfl, fun j u hu => ?_⟩
  have hj : j < l.length := by have := (List.getElem?_eq_some_iff.1 hu).1; rw [Strs.scells_length] at this; exact this
  obtain ⟨g', e, -, hcell⟩ := hc j hj
  cases e
  rw [Lib.addr_add, Nat.zero_add, hcell]
  have : (Strs.scells l)[j]? = some (.string ⟨l[j].toArray⟩) := by simp [Strs.scells, hj]
  rw [this] at hu
  exact hu
theorem scells_one (l : List (List UInt8)) : ∀ u ∈ Strs.scells l, u.oneCell' = true := by
  intro u hu
  obtain ⟨x, _, rfl⟩ := List.mem_map.1 hu
  rfl
/-- .. with a property's box at Z, and its parameters in a row behind it. -/
structure Lp (w W : World) (Z : Nat) (sv lv : Value) (acc : List (List UInt8)) (g n : ByteArray) (pv : Value) (v : ByteArray) (ps : List (ByteArray × ByteArray)) : Prop where
  c : Boxed W w.heap.size 24 sv
  l : Strs.Strs W (w.heap.size + 1) lv acc
  lz : ∀ k, lv.ownBlock = some k → k < Z
  b : Below w.heap.size w W
  z : w.heap.size + 1 ≤ Z
  p : PrAt W Z g n pv v (.slice none 0 0)
  o : Pp.Own W (Z + 1) pv ps
section
variable {w W W' : World} {Z : Nat} {sv lv pv : Value} {acc : List (List UInt8)} {g n v : ByteArray} {ps : List (ByteArray × ByteArray)}
theorem Lp.ls (h : Lp w W Z sv lv acc g n pv v ps) : Ls w W sv lv acc := ⟨h.c, h.l, h.b, by have := h.p.lt; have := h.z; omega⟩
theorem Lp.below (h : Lp w W Z sv lv acc g n pv v ps) (hb : Below W.heap.size W W') : Lp w W' Z sv lv acc g n pv v ps :=
  ⟨(h.ls.below hb).c, (h.ls.below hb).l, h.lz, (h.ls.below hb).b, h.z, h.p.below hb, h.o.below hb⟩
theorem Lp.drewN (h : Lp w W Z sv lv acc g n pv v ps) (q : Nat) : Lp w (W.drewN q) Z sv lv acc g n pv v ps := h.below ⟨rfl, rfl, rfl, Nat.le_refl _, fun _ _ => rfl⟩
/-- The property's box turns, and what lies behind it. -/
theorem Lp.turn (h : Lp w W Z sv lv acc g n pv v ps) (hb : Below Z W W') {pv' : Value} {v' : ByteArray} {ps' : List (ByteArray × ByteArray)} (hp : PrAt W' Z g n pv' v' (.slice none 0 0)) (ho : Pp.Own W' (Z + 1) pv' ps') : Lp w W' Z sv lv acc g n pv' v' ps' := by
  have hz := h.z
  have hzl := h.lz
  refine ⟨(hb.block _ (by omega)).trans h.c, row_stays h.l (fun g e => hb.block g (hzl g e)), hzl, ⟨hb.os.trans h.b.os, hb.tape.trans h.b.tape, hb.output.trans h.b.output, Nat.le_trans h.b.size hb.size, fun k hk => (hb.block k (by omega)).trans (h.b.block k hk)⟩, hz, hp, ho⟩
end
end Go.Proofs.YtpdodknldhbbhaaGreatDoor.Vc

namespace Go.Proofs.YtpdodknldhbbhaaGreatDoor.Vc
set_option maxRecDepth 100000
open Go.RowKit Pp

theorem plain_latin : ∀ l : List UInt8, plain l = true → Cs.latin l = l
  | [], _ => rfl
  | c :: l, h => by
    unfold plain at h
    rw [List.all_cons, Bool.and_eq_true] at h
    have h1 : c.toNat ≤ 126 := by have := h.1; unfold plainB at this; simp at this; exact this.2
    rw [Cs.latin_cons, plain_latin l h.2]
    rcases Cs.enc1 c with ⟨_, e⟩ | ⟨h2, e⟩
    · rw [e]; rfl
    · omega
theorem plain_within : ∀ l : List UInt8, plain l = true → Cs.within 127 (l.map UInt8.toNat) = true
  | [], _ => rfl
  | c :: l, h => by
    unfold plain at h
    rw [List.all_cons, Bool.and_eq_true] at h
    have h1 : c.toNat ≤ 126 := by have := h.1; unfold plainB at this; simp at this; exact this.2
    rw [List.map_cons, Cs.within_cons, plain_within l h.2, Bool.and_true]
    exact decide_eq_true (by omega)
theorem plain_least {l : List UInt8} (h : plain l = true) : Cs.least l = 1 := by
  have h1 := Cs.latin_valid l
  have h2 := Cs.latin_lets l
  rw [plain_latin l h] at h1 h2
  have h3 : (Cs.enc 1 l).2 = 0 := by
    unfold Cs.enc
    rw [if_pos (.inl rfl), if_pos h1, h2, show Cs.lastL 1 = 127 from rfl, if_pos (plain_within l h)]
  unfold Cs.least
  rw [if_pos h3]
theorem enc3_valid {l : List UInt8} (h : Lib.validD l = true) : (Cs.enc 3 l).2 = 0 := by
  unfold Cs.enc
  rw [if_neg (by decide), if_pos rfl, if_pos h]
theorem enc_bad {l : List UInt8} (h : ¬ Lib.validD l = true) (k : Int) : ¬ (Cs.enc k l).2 = 0 := by
  unfold Cs.enc
  by_cases h1 : k = 1 ∨ k = 2
  · rw [if_pos h1, if_neg h]; decide
  · rw [if_neg h1]
    by_cases h3 : k = 3
    · rw [if_pos h3, if_neg h]; decide
    · rw [if_neg h3]; decide
theorem least_zero {l : List UInt8} : Cs.least l = 0 ↔ Lib.validD l = false := by
  by_cases hv : Lib.validD l = true
  · constructor
    · intro h
      unfold Cs.least at h
      split at h
      · cases h
      split at h
      · cases h
      split at h
      · cases h
      · rename_i h3; exact absurd (enc3_valid hv) h3
    · intro h; rw [hv] at h; cases h
  · constructor
    · intro _; simpa using hv
    · intro _
      unfold Cs.least
      rw [if_neg (enc_bad hv 1), if_neg (enc_bad hv 2), if_neg (enc_bad hv 3)]
theorem least_range (l : List UInt8) : Cs.least l = 0 ∨ Cs.least l = 1 ∨ Cs.least l = 2 ∨ Cs.least l = 3 := by
  unfold Cs.least
  split
  · exact .inr (.inl rfl)
  split
  · exact .inr (.inr (.inl rfl))
  split
  · exact .inr (.inr (.inr rfl))
  · exact .inl rfl
theorem wr_plain {v : ByteArray} (h : plain v.data.toList = true) : wrP v = ([], v) := by unfold wrP; rw [if_pos h]
theorem wr_qp {v : ByteArray} (h : ¬ plain v.data.toList = true) (h0 : Cs.least v.data.toList ≠ 0) : wrP v = ([chsP, qpP], ⟨(Qu.enc v.data.toList).toArray⟩) := by
  unfold wrP
  rw [if_neg h, if_pos]
  cases hv : Lib.validD v.data.toList
  · exact absurd (least_zero.2 hv) h0
  · rfl
theorem wr_b64 {v : ByteArray} (h0 : Cs.least v.data.toList = 0) : wrP v = ([b64P], ⟨(pcs (Sx.cut 60 (Sx.enc v.data.toList))).toArray⟩) := by
  unfold wrP
  rw [if_neg, if_neg]
  · rw [least_zero.1 h0]; exact fun e => by cases e
  · intro h; rw [plain_least h] at h0; cases h0
end Go.Proofs.YtpdodknldhbbhaaGreatDoor.Vc

namespace Go.Proofs.YtpdodknldhbbhaaGreatDoor.Vc
set_option maxRecDepth 100000
open Go.RowKit Pp

/-- The program's pieces of letters are the plain ones, each with a blank ahead. -/
def PiecesOk : Prop := ∀ (s : ByteArray) (w : World), s.size ≤ 1073741824 →
  Calls Tryz.prog 63 #[.string s] w fun e w' => e = .returned (.string ⟨(pcs (Sx.cut 60 s.data.toList)).toArray⟩) ∧ Below w.heap.size w w'

theorem ps_two (w : World) (a b : ByteArray × ByteArray) : Ps (w.alloc (.cells #[.string a.1, .string a.2, .string b.1, .string b.2] 66)) (w.alloc (.cells #[.string a.1, .string a.2, .string b.1, .string b.2] 66)).heap.size (.slice (some ⟨w.heap.size, 0, none⟩) 2 2) [a, b] := by
  have h := heap_alloc_new w (.cells #[.string a.1, .string a.2, .string b.1, .string b.2] 66)
  refine .inr ⟨w.heap.size, 0, 2, rfl, by rw [World.size_alloc]; omega, fun i hi => ?_⟩
  match i, hi with
  | 0, _ => exact ⟨cell_of_row _ w.heap.size 0 _ _ _ h, cell_of_row _ w.heap.size 1 _ _ _ h⟩
  | 1, _ => exact ⟨cell_of_row _ w.heap.size 2 _ _ _ h, cell_of_row _ w.heap.size 3 _ _ _ h⟩
theorem ps_one (w : World) (a : ByteArray × ByteArray) : Ps (w.alloc (.cells #[.string a.1, .string a.2] 66)) (w.alloc (.cells #[.string a.1, .string a.2] 66)).heap.size (.slice (some ⟨w.heap.size, 0, none⟩) 1 1) [a] := by
  have h := heap_alloc_new w (.cells #[.string a.1, .string a.2] 66)
  refine .inr ⟨w.heap.size, 0, 1, rfl, by rw [World.size_alloc]; omega, fun i hi => ?_⟩
  match i, hi with
  | 0, _ => exact ⟨cell_of_row _ w.heap.size 0 _ _ _ h, cell_of_row _ w.heap.size 1 _ _ _ h⟩
theorem nm3 : Cs.nm 3 = ⟨#[85, 84, 70, 45, 56]⟩ := rfl

set_option maxHeartbeats 1000000 in
theorem written_any (HP : PiecesOk) (v : ByteArray) (hv : v.size ≤ 1048576) (w : World) (T : Cs.Tabs w) :
    Calls Tryz.prog 31 #[.string v] w fun e w' => ∃ pv, e = .returned (.tuple #[.string (wrP v).2, pv]) ∧ Ps w' w'.heap.size pv (wrP v).1 ∧ Below w.heap.size w w' := by
  have CL := Lib.hid (Cs.least_any v (by omega) w T)
  have hr := least_range v.data.toList
  have C1 := Lib.hid (fun W => isPlain_any v (by omega) W)
  have C2 := Lib.hid (fun W => Qu.encode_any v W (by omega))
  have C3 := Lib.hid (fun W => nm3 ▸ Cs.name_any 3 W)
  have C4 := Lib.hid (fun W => Sx.encode_any v (by omega) W)
  have H1 := Lib.hid (wr_plain (v := v))
  have H2 := Lib.hid (wr_qp (v := v))
  have H3 := Lib.hid (wr_b64 (v := v))
  have HL := Lib.hid (plain_least (l := v.data.toList))
  have hsz := Sx.enc_size v.data.toList
  have hvs : v.data.toList.length = v.size := by rw [Array.length_toList]; rfl
  have CP := Lib.hid (fun W => HP ⟨(Sx.enc v.data.toList).toArray⟩ W (by show (Sx.enc v.data.toList).toArray.size ≤ _; rw [List.size_toArray]; omega))
  clear hsz hvs T HP
  generalize Cs.least v.data.toList = L at CL hr H2 H3 HL
  generalize plain v.data.toList = pl at C1 H1 H2 HL
  by_cases h1 : L = 1
  · subst h1
    cases pl with
    | true =>
      rw [H1.out rfl]
      clear C2 C3 C4 H1 H2 H3 HL CP hr
      go_enter Tryz.func31, Tryz.ntmps31
      go_wp2_with fail
      refine CL.out.mono ?_
      rintro e w1 ⟨rfl, b1⟩
      go_wp2_with fail
      refine (C1.out _).mono ?_
      rintro e w2 ⟨rfl, rfl⟩
      go_wp2_with fail
      go_ret2
      exact ⟨_, rfl, .inl ⟨rfl, .inl rfl⟩, b1⟩
    | false =>
      rw [H2.out (fun e => by cases e) (by decide)]
      clear C4 H1 H2 H3 HL CP hr
      go_enter Tryz.func31, Tryz.ntmps31
      go_wp2_with fail
      refine CL.out.mono ?_
      rintro e w1 ⟨rfl, B0⟩
      go_wp2_with fail
      refine (C1.out _).mono ?_
      rintro e w0 ⟨rfl, rfl⟩
      go_wp2_with fail
      refine (C2.out _).mono ?_
      rintro e w2 ⟨rfl, b2⟩
      have HB := Lib.hid (B0.trans (b2.mono B0.size))
      go_wp2_with fail
      refine (C3.out _).mono ?_
      rintro e w3 ⟨rfl, rfl⟩
      go_wp2_with fail
      go_ret2
      exact ⟨_, rfl, ps_two w2 chsP qpP, HB.out.trans (((Below.refl _ _).alloc (Nat.le_refl _) _).mono HB.out.size)⟩
  by_cases h0 : L = 0
  · subst h0
    rw [H3.out rfl]
    clear C1 C2 C3 H1 H2 H3 HL hr h1
    go_enter Tryz.func31, Tryz.ntmps31
    go_wp2_with fail
    refine CL.out.mono ?_
    rintro e w1 ⟨rfl, B0⟩
    go_wp2_with fail
    refine (C4.out _).mono ?_
    rintro e w2 ⟨rfl, b2⟩
    have HB := Lib.hid (B0.trans (b2.mono B0.size))
    go_wp2_with fail
    refine (CP.out _).mono ?_
    rintro e w3 ⟨rfl, b3⟩
    have HB3 := Lib.hid (HB.out.trans (b3.mono HB.out.size))
    go_wp2_with fail
    go_ret2
    exact ⟨_, rfl, ps_one w3 b64P, HB3.out.trans (((Below.refl _ _).alloc (Nat.le_refl _) _).mono HB3.out.size)⟩
  have hpl : pl = false := by cases pl with | false => rfl | true => exact absurd (HL.out rfl) h1
  subst hpl
  rw [H2.out (fun e => by cases e) h0]
  clear C4 H1 H2 H3 HL CP C1
  have h23 : L = 2 ∨ L = 3 := by omega
  rcases h23 with rfl | rfl
  · go_enter Tryz.func31, Tryz.ntmps31
    go_wp2_with fail
    refine CL.out.mono ?_
    rintro e w1 ⟨rfl, B0⟩
    go_wp2_with fail
    refine (C2.out _).mono ?_
    rintro e w2 ⟨rfl, b2⟩
    have HB := Lib.hid (B0.trans (b2.mono B0.size))
    go_wp2_with fail
    refine (C3.out _).mono ?_
    rintro e w3 ⟨rfl, rfl⟩
    go_wp2_with fail
    go_ret2
    exact ⟨_, rfl, ps_two w2 chsP qpP, HB.out.trans (((Below.refl _ _).alloc (Nat.le_refl _) _).mono HB.out.size)⟩
  · go_enter Tryz.func31, Tryz.ntmps31
    go_wp2_with fail
    refine CL.out.mono ?_
    rintro e w1 ⟨rfl, B0⟩
    go_wp2_with fail
    refine (C2.out _).mono ?_
    rintro e w2 ⟨rfl, b2⟩
    have HB := Lib.hid (B0.trans (b2.mono B0.size))
    go_wp2_with fail
    refine (C3.out _).mono ?_
    rintro e w3 ⟨rfl, rfl⟩
    go_wp2_with fail
    go_ret2
    exact ⟨_, rfl, ps_two w2 chsP qpP, HB.out.trans (((Below.refl _ _).alloc (Nat.le_refl _) _).mono HB.out.size)⟩
end Go.Proofs.YtpdodknldhbbhaaGreatDoor.Vc

namespace Go.Proofs.YtpdodknldhbbhaaGreatDoor.Vc
set_option maxRecDepth 100000
open Go.RowKit Go.Shelf Sx
attribute [local go_sem] Oper.semAt_some

theorem pcs_snoc : ∀ (l : List (List UInt8)) (x : List UInt8), pcs (l ++ [x]) = (pcs l ++ [32]) ++ x
  | [], x => by simp [pcs]
  | y :: r, x => by
    show pcs (y :: (r ++ [x])) = _
    rw [pcs, pcs_snoc r x, pcs]
    simp
theorem flat_le : ∀ {l : List (List UInt8)}, (∀ x ∈ l, x.length ≤ 60) → l.flatten.length ≤ 60 * l.length
  | [], _ => Nat.zero_le _
  | x :: r, h => by
    have h1 := h x (List.mem_cons_self ..)
    have h2 := flat_le (fun y hy => h y (List.mem_cons_of_mem _ hy) : ∀ y ∈ r, y.length ≤ 60)
    rw [List.flatten_cons, List.length_append, List.length_cons]
    omega
theorem pcs_bound {l : List (List UInt8)} (h : ∀ x ∈ l, x.length ≤ 60) : (pcs l).length ≤ 61 * l.length := by
  have := flat_le h
  rw [pcs_len]; omega
theorem cap_max {n : Nat} (h : n ≤ 140737488355328) : n ≤ maxLen := by unfold maxLen; omega
theorem cap_one {n : Nat} (h : n ≤ 140737488355328) : n * 1 ≤ 140737488355328 := by omega
/-- What has come, each piece with a blank ahead. -/
def ptx {P : List UInt8 → Prop} (pre : List (Subtype P)) : List UInt8 := pcs (pre.map (·.1))
/-- 'append(b, s...)', a string's bytes onto a row of the call's own, inside a fence. -/
theorem walk_str {F : Fence} {n : Nat} {P : Program} (w : World) {ops : Array Oper} {rest : List Oper} {o : Oper} {a : Act} {Q : Exit → Act → World → Prop}
    (hg : o.guard = none) (s x : Operand) (t u : TypeId) (hop : o.op = Op.call { callee := Callee.builtin Builtin.append, args := #[s, x], argTypes := #[t, u] })
    (base : Nat) (e : TypeId) (i : TypeInfo) (h1 : P.underlying t = some (.slice e)) (hu : P.underlying u = some .string) (h2 : P.info? e = some i) (h3 : i.zero = some (.int .u8 0)) (h4 : i.size = 1) (h5 : i.bytes = 1)
    (v : Value) (k : Nat) (xs : List Value) (hs : a.eval s = v) (hown : w.ownsRow base e 1 v k xs) (str : ByteArray) (hx : a.eval x = .string str)
    (b1 : k + str.size ≤ maxLen) (b2 : k + str.size ≤ 140737488355328) (b3 : base ≤ w.heap.size)
    (hK : ∀ v' w', w'.ownsRow base e 1 v' (k + str.size) (xs ++ Lib.strCells str) → w.grownBy w' v.ownBlock → wpListIn F n P ops Q rest (a.put o.dst v') w') :
    wpListIn F n P ops Q (o :: rest) a w := by
  obtain ⟨v', w', hrun, r1, r2, _⟩ := Lib.run_append_own_string (P := P) w base t u o.type e i h1 hu h2 h3 h4 h5 v k xs hown str b1 b2 b3
  refine wpListIn_plain hg fun K hK' => ?_
  unfold Oper.wpIn
  rw [Oper.semAt_plain F _ _ (by rw [hop]; intro c hc'; cases hc')]
  refine ⟨?_, ?_⟩
  · simp [Oper.about, hop, resolve, Target.leads, Sem.run_pure]
  · simp only [execOp, hop, resolve, invoke, builtin, Sem.run_bind, Sem.run_pure, Result.andThen_ok, List.map_toArray, List.map_cons, List.map_nil, hs, hx, hrun]
    exact hK' _ _ (hK v' w' r1 r2)
/-- Behind such an append, and the store into the row's box. -/
theorem appended0 {W w1 : World} {n₀ B : Nat} {t e : TypeId} {size : Nat} {v v' : Value} {k m : Nat} {xs ys : List Value}
    (hv : Boxed W B t v) (hte : t ≠ e) (hrow : W.ownsRow n₀ e size v k xs) (hn₀ : n₀ ≤ W.heap.size) (hB : n₀ ≤ B)
    (hown' : w1.ownsRow n₀ e size v' m ys) (hgrow : W.grownBy w1 v.ownBlock) :
    Boxed w1 B t v ∧ Boxed (w1.setCell ⟨B, 0, none⟩ v') B t v' ∧ (w1.setCell ⟨B, 0, none⟩ v').ownsRow n₀ e size v' m ys ∧ KeepsOthers W (w1.setCell ⟨B, 0, none⟩ v') ∧ Below n₀ W (w1.setCell ⟨B, 0, none⟩ v') := by
  have hv1 : Boxed w1 B t v := hv.kept hgrow (hv.not_row hte hrow)
  refine ⟨hv1, hv1.set v', hown'.kept (grownBy_setCell' w1 B v') (.inr (hv1.not_row hte hown').symm), ?_, ?_⟩
  · refine (KeepsOthers.of_grownBy hgrow fun j o ej hj => ?_).trans (KeepsOthers.setCell _ _ _)
    rcases hrow.2 with ⟨rfl, _⟩ | ⟨g, cap, cur, rfl, _, hgb, _⟩
    · simp [Value.ownBlock] at ej
    · obtain rfl : g = j := by simpa [Value.ownBlock] using ej
      rw [hgb] at hj; cases hj; rfl
  · exact ((Below.refl n₀ W).grown hgrow hn₀ (fun k e => (World.ownsRow.lt hrow k e).1)).setCell (p := ⟨B, 0, none⟩) hB v'
theorem past0 {W w1 : World} {B Bo n₀ k : Nat} {x v v' : Value} {t : TypeId} {xs : List Value} (h : Boxed W B t x) (ht : t ≠ 5) (hne : B ≠ Bo)
    (hrow : W.ownsRow n₀ 5 1 v k xs) (hgrow : W.grownBy w1 v.ownBlock) : Boxed (w1.setCell ⟨Bo, 0, none⟩ v') B t x :=
  (h.kept hgrow (h.not_row ht hrow)).kept (grownBy_setCell' w1 Bo v') (by simpa using hne)

set_option maxHeartbeats 2000000 in
theorem pieces60_in (s : ByteArray) (w : World) (hs : s.size ≤ 1073741824) :
    CallsIn Fence.wide 5 Tryz.prog 63 #[.string s] w fun e W' => e = .returned (.string ⟨(pcs (cut 60 s.data.toList)).toArray⟩) ∧ Below w.heap.size w W' := by
  obtain ⟨i0, hi, hz0, hz1, hz2⟩ := info_parts Bytes.infoByte
  refine callsIn_of_wp_marks Tryz.func63 rfl trivial ?_ rfl
  simp only [Tryz.ntmps63, List.size_toArray, List.length_cons, List.length_nil, Nat.reduceAdd, Nat.reduceSub, Array.replicate_succ, Array.replicate_zero, List.push_toArray, List.append_toArray, List.nil_append, List.cons_append]
  gi_wp2_with (refine ⟨trivial, ?_⟩; gi_at_call 110; refine (callsIn_wide.2 (lines_any s 60 _)).mono ?_; rintro e w' ⟨rfl, rfl⟩)
  have bO := Boxed.new w 60 (.slice none 0 0)
  have hT := lines_two s 60 (w.alloc (.cells #[.slice none 0 0] 60))
  simp only [World.size_alloc] at hT
  have bO0 := (bO.alloc (.cells #[.string s] 9)).alloc (.cells #[.int .i64 60] 3)
  have hB0 : Below w.heap.size w (((w.alloc (.cells #[.slice none 0 0] 60)).alloc (.cells #[.string s] 9)).alloc (.cells #[.int .i64 60] 3)) := (((Below.refl _ w).alloc (Nat.le_refl _) _).alloc (by simp) _).alloc (by simp; omega) _
  have hsz : (((w.alloc (.cells #[.slice none 0 0] 60)).alloc (.cells #[.string s] 9)).alloc (.cells #[.int .i64 60] 3)).heap.size = w.heap.size + 1 + 1 + 1 := by simp
  clear bO
  generalize hW0 : ((w.alloc (.cells #[.slice none 0 0] 60)).alloc (.cells #[.string s] 9)).alloc (.cells #[.int .i64 60] 3) = W0 at *
  clear hW0
  have HZ := Lib.hid (show W0.heap.size = w.heap.size + 3 by omega)
  clear hsz
  have hcl := cut_length (k := 60) (by decide) s.data.toList
  have hfl := cut_flat (k := 60) (by decide) s.data.toList
  have hw60 : wid 60 = 60 := by decide
  have hstops := lines_stops_mem (5 - 1) (by omega) (w.heap.size + 1) s 60 (by omega) (KeepsTwo (w.heap.size + 1) s 60) (fun W W' h => h) W0 hT
  rw [hw60] at hstops
  rw [list_size] at hcl
  have HCL := Lib.hid hcl
  have HS := Lib.hid (cut_size (k := 60) (by decide) s.data.toList)
  clear hw60 hcl hfl
  refine wpIn_rangeFunc_ownG rfl (by omega) (gf := 149) (lb := #[.pointer (some ⟨w.heap.size + 1, 0, none⟩), .pointer (some ⟨w.heap.size + 1 + 1, 0, none⟩)]) rfl trivial (enters_of Tryz.func149 (by kernel_rfl) rfl)
    hstops KeepsTwo.t (fun W l o o' _ hl hc _ => KeepsTwo.b W l o o' hl hc) (Below.refl _ _) (fun _ => rfl)
    (fun pre V => ((∃ v, Boxed V w.heap.size 60 v ∧ V.ownsRow w.heap.size 5 1 v (ptx pre).length (Bytes.cells (ptx pre)) ∧ True) ∧ Two V (w.heap.size + 1) s 60) ∧ Below w.heap.size W0 V)
    (fun _ _ _ => False)
    (OwnFrom.and (OwnFrom.and (Own.from (holdsRow_own w.heap.size w.heap.size 60 5 1 (fun pre => (ptx pre).length) (fun pre => Bytes.cells (ptx pre)) (fun _ _ => True)) _) (OwnFrom.and (Own.from (boxed_own _ _ _) _) (Own.from (boxed_own _ _ _) _))) (ownFrom_below (by rw [HZ.out]; omega) (by rw [HZ.out]; omega)))
    (fun _ _ _ _ _ hs _ _ => hs)
    ⟨⟨⟨_, bO0, World.ownsRow_nil _ _ _ _, trivial⟩, hT⟩, Below.refl _ _⟩
    (fun x => { tmps := #[.string s, undef, .string ⟨#[]⟩, .pointer (some ⟨w.heap.size, 0, none⟩), .string ⟨x.1.toArray⟩, .string s, .func (.func 149) #[] #[.pointer (some ⟨w.heap.size + 1, 0, none⟩), .pointer (some ⟨w.heap.size + 1 + 1, 0, none⟩)], .string ⟨x.1.toArray⟩, undef, undef, undef, undef, undef, undef, undef, undef], defers := [] }) ?assign ?body ?done ?stop
  case assign =>
    intro l x V K hK
    gi_wp2
    exact hK
  case stop =>
    rintro D c l V hD _ h _
    exact h.elim
  case done =>
    rintro D ys V hD hys ⟨⟨⟨v, hv, hrow, _⟩, hT2⟩, hB⟩ hK
    have hc := hv.cell
    unfold ptx at hrow
    rw [hys] at hrow
    have tV := Bytes.Has.text (w := V) hrow
    clear hrow
    gi_wp2
    refine ⟨by simp, .inl ⟨_, _, rfl, run_takeDeferred hK, ?_⟩⟩
    exact ⟨_, results_tmp rfl _ _ _, rfl, (hB0.trans (hB.mono (by have := HZ.out; omega))).grown (grownBy_putObj' _ _ _) (by have := hB.size; have := HZ.out; omega) (fun k e => by cases e; have := HZ.out; omega)⟩
  case body =>
    rintro l pre ⟨x, hx⟩ V ⟨⟨⟨v, hv, hrow, _⟩, hT2⟩, hB⟩ hlt
    unfold ptx at hrow
    have hxl := HS.out x hx
    have hx60 : x.length ≤ 60 := by omega
    have hP := pcs_bound (l := pre.map (·.1)) (fun y hy => by obtain ⟨z, _, rfl⟩ := List.mem_map.1 hy; have := HS.out z.1 z.2; omega)
    have hsn := pcs_snoc (pre.map (·.1)) x
    rw [List.length_map] at hP
    have hcl := HCL.out
    have HQ : Hid (pcs ((pre ++ [(⟨x, hx⟩ : { x : List UInt8 // x ∈ cut 60 s.data.toList })]).map (·.1)) = (pcs (pre.map (·.1)) ++ [32]) ++ x) := Lib.hid (by rw [List.map_append]; exact hsn)
    have hPl : (pcs (pre.map (·.1))).length ≤ 70000000000 := by omega
    generalize pcs (pre.map (·.1)) = P at hrow HQ hPl
    clear hsn hP hcl hlt hxl
    obtain ⟨sa, sc, rfl⟩ := Bytes.Has.shape hrow
    have hc := hv.cell
    have hz := hB.size
    have h3 : w.heap.size ≤ V.heap.size := by have := HZ.out; omega
    have hn := ulen (u := x) rfl
    have H1 : Hid ((P ++ [32]).length + (⟨x.toArray⟩ : ByteArray).size ≤ 140737488355328) := Lib.hid (by rw [hn, List.length_append, List.length_singleton]; omega)
    have H2 : Hid (P.length + 1 ≤ 140737488355328) := Lib.hid (by omega)
    clear hn
    dsimp only
    gi_wp2_with (first
      | (gi_at_builtin; refine wpListIn_append_own _ rfl _ _ 60 rfl w.heap.size 5 i0 (.int .u8 0) 1 1 Tryz.underlying60 hi hz0 hz1 hz2 rfl (by decide) _ _ _ rfl (hrow.alloc _) ⟨V.heap.size, 0, none⟩ 1 1 [.int .u8 32] rfl rfl (World.news_of_block (cs := #[.int .u8 32]) (t := 5) (fr := (0, 0)) (heap_alloc_new V _)) (by simp [Value.oneCell']) (cap_max H2.out) (cap_one H2.out) (by simp; omega) ?_; intro v1 w1 hown1 hgrow1 _; obtain ⟨g1, cap1, rfl⟩ := ownsRow_succ hown1; obtain ⟨a1, a2, a3, a4, a5⟩ := hv.appended (by decide) hrow h3 (Nat.le_refl _) hown1 hgrow1; have hc1 := a1.cell; have hf1 := a1.frozen; have hc2 := a2.cell; have hf2 := a2.frozen; have r1 := Bytes.Has.laid1 (c := 32) a3; have z1 : w.heap.size ≤ (w1.setCell ⟨w.heap.size, 0, none⟩ (.slice (some ⟨g1, 0, none⟩) (P.length + 1) cap1)).heap.size := Nat.le_trans h3 a4.size)
      | (gi_at_builtin; refine walk_str _ rfl _ _ 60 9 rfl w.heap.size 5 i0 Tryz.underlying60 Tryz.underlying9 hi hz0 hz1 hz2 _ _ _ rfl r1 _ rfl (cap_max H1.out) H1.out z1 ?_; intro v2 w2 hown2 hgrow2; have r2 := Qu.laidS0 hown2; obtain ⟨s2, p2, rfl⟩ := Bytes.Has.shape r2; obtain ⟨c1, c2, c3, c4, c5⟩ := appended0 a2 (by decide) r1 z1 (Nat.le_refl _) r2 hgrow2; have d1 := c1.cell; have d2 := c1.frozen))
    have hk : KeepsTwo (w.heap.size + 1) s 60 V (w2.setCell ⟨w.heap.size, 0, none⟩ (.slice s2 ((P ++ [32]) ++ x).length p2)) := fun h => ⟨past0 (boxed_past h.1 (by decide) (by omega) hrow hgrow1) (by decide) (by omega) r1 hgrow2, past0 (boxed_past h.2 (by decide) (by omega) hrow hgrow1) (by decide) (by omega) r1 hgrow2⟩
    rw [show P.length + (x.length + 1) = ((P ++ [32]) ++ x).length from by rw [List.length_append, List.length_append, List.length_singleton]; omega]
    exact ⟨(a4.trans c4).from _, hk, ⟨⟨_, c2, (by show Bytes.Has _ _ _ (ptx _); unfold ptx; rw [HQ.out]; exact c3)⟩, hk hT2⟩, hB.trans (a5.trans c5)⟩
theorem pieces_ok : PiecesOk := fun s w h => callsIn_wide.1 (pieces60_in s w h)
end Go.Proofs.YtpdodknldhbbhaaGreatDoor.Vc
