/-
charset.Letters is an iterator of the letters of a text's longest right beginning: all of them in order, or a beginning of them where a round says no more. Conditions: the library's tables hold what the rows list.
-/
import Derived.Test.YtmahdlaifbbjgaaDoorCsTabs
import Derived.RangeFuncNested
import Derived.RangeFuncBound
import Derived.RangeFuncCalls
import Derived.RangeFuncLeaves
import Derived.RangeFuncBox
import Derived.Shelf.Abstract
import Derived.Shelf.RegionOpen
import Derived.WalkKit
import Derived.OwnWalkIn
import Derived.TacticsInMore
import Derived.LoopNIn
import Derived.LoopIn
import Derived.OpenShut
import Derived.Laws.DeepStrings4
namespace Go.Proofs.YtmahdlaifbbjgaaDoor.Cs
open Go.RowKit Go.Lib
attribute [local go_sem] Oper.semAt_some

/-- What an iterator of letters reads: the text's box, and the library's tables. -/
def One (W : World) (B : Nat) (s : ByteArray) : Prop := Boxed W B 9 (.string s) ∧ Tabs W ∧ 0 < B ∧ 1 < B
theorem One.below {W W' : World} {B b : Nat} {s : ByteArray} (h : One W B s) (hb : Below b W W') (hB : B < b) : One W' B s := ⟨(hb.block B hB).trans h.1, h.2.1.kept hb (by have := h.2.2.1; omega) (by have := h.2.2.2; omega), h.2.2⟩
theorem One.kept {W W' : World} {B b : Nat} {s : ByteArray} (h : One W B s) (hb : Below b W W') (h1 : 0 < b) (h2 : 1 < b) (hB : Boxed W' B 9 (.string s)) : One W' B s := ⟨hB, h.2.1.kept hb h1 h2, h.2.2⟩
theorem grown_of {W W' : World} (hb : Below W.heap.size W W') : W.grownBy W' none := ⟨hb.os, hb.tape, hb.output, hb.size, fun k hk _ => hb.block k hk⟩

theorem letters_any (s : ByteArray) (w : World) :
    Calls Tryd.prog 7 #[.string s] w fun e w' => e = .returned (.func (.func 17) #[] #[.pointer (some ⟨w.heap.size, 0, none⟩)]) ∧ w' = w.alloc (.cells #[.string s] 9) := by
  go_enter Tryd.func7, Tryd.ntmps7
  go_wp2
  go_ret
  exact ⟨rfl, rfl⟩
theorem letters_one (s : ByteArray) (w : World) (T : Tabs w) : One (w.alloc (.cells #[.string s] 9)) w.heap.size s :=
  ⟨Boxed.new w _ _, T.below ((Below.refl _ _).alloc (Nat.le_refl _) _) (Nat.le_refl _), T.lt⟩

theorem str_full {t : ByteArray} (h : 0 < t.size) : (!t.toList.isEmpty) = true := by
  rw [ByteArray.toList_eq]; cases e : t.data.toList with | nil => have := list_size t; rw [e] at this; simp at this; omega | cons a r => rfl
theorem str_none {t : ByteArray} (h : ¬ 0 < t.size) : (!t.toList.isEmpty) = false := by
  rw [ByteArray.toList_eq, List.eq_nil_of_length_eq_zero (l := t.data.toList) (by rw [list_size]; omega)]; rfl
theorem ne_nil {t : ByteArray} (h : 0 < t.size) : t.data.toList ≠ [] := fun e => by have := list_size t; rw [e] at this; simp at this; omega
/-- A text's first letter, in plain words. -/
theorem first_letter {t : ByteArray} (h : 0 < t.size) : ∃ x n : Nat, (decodeL t.data.toList).1 = x ∧ (decodeL t.data.toList).2 = n ∧ 1 ≤ n ∧ n ≤ t.size ∧ x ≤ 1114111 ∧
    ((x = 65533 ∧ n = 1 ∧ lets t.data.toList = []) ∨ ((((x : Int) == 65533) = false ∨ (((x : Int) == 65533) = true ∧ ((n : Int) == 1) = false)) ∧ lets t.data.toList = x :: lets (t.extract n t.size).data.toList ∧ (t.extract n t.size).size = t.size - n)) := by
  have hne := ne_nil h
  refine ⟨_, _, rfl, rfl, decodeL_width _, by rw [← list_size]; exact decodeL_le _ hne, decodeL_rune _, ?_⟩
  rcases hb : bad t.data.toList with _ | _
  · right
    refine ⟨?_, by rw [lets_good hne hb, ext_list], ext_size _ _⟩
    have hb' := of_decide_eq_false hb
    by_cases hx : (decodeL t.data.toList).1 = 65533
    · right; exact ⟨by simp; omega, by simp; omega⟩
    · left; simp; omega
  · left
    have hb' := of_decide_eq_true hb
    exact ⟨hb'.1, hb'.2, lets_bad hne hb⟩

set_option maxRecDepth 100000 in
set_option maxHeartbeats 1000000 in
theorem letters1_in (d : Nat) (hd : 1 ≤ d) (l B b : Nat) (s : ByteArray) (Kp : World → World → Prop) (hKp : ∀ W W', Kp W W' → One W B s → One W' B s) (J Jx : List Nat → World → Prop) (hA : AbidesFrom b J)
    (hY : ∀ pre (x : Nat) W, J pre W → pre ++ [x] <+: lets s.data.toList → YieldAt Fence.wide (d - 1) Tryd.prog l #[.int .i32 (x : Int)] W fun e W' =>
      (e = .returned (.bool true) ∧ J (pre ++ [x]) W' ∧ Kp W W') ∨ (e = .returned (.bool false) ∧ Jx (pre ++ [x]) W'))
    (W : World) (hB : One W B s) (hJ0 : J [] W) :
    CallsIn Fence.wide d Tryd.prog 17 #[.func (.yield l) #[] #[], .pointer (some ⟨B, 0, none⟩)] W fun e W' => (∃ v, e = .returned v) ∧
      ((∃ ys, ys = lets s.data.toList ∧ J ys W') ∨ (∃ pre, pre <+: lets s.data.toList ∧ Jx pre W')) := by
  have HY := Lib.hid hY
  have HK := Lib.hid hKp
  clear hY hKp
  have hc := hB.1.cell
  refine callsIn_of_wp Tryd.func17 rfl trivial ?_ rfl
  simp only [Tryd.ntmps17, List.size_toArray, List.length_cons, List.length_nil, Nat.reduceAdd, Nat.reduceSub, Array.replicate_succ, Array.replicate_zero, List.push_toArray, List.append_toArray, List.nil_append, List.cons_append]
  gi_wp2_with fail
  clear hc
  gi_loopw [3] (fun u wr => ∃ (t : ByteArray) (pre : List Nat), u = .string t ∧ Hid (pre ++ lets t.data.toList = lets s.data.toList) ∧ t.size ≤ s.size ∧ One wr B s ∧ J pre wr) (fun u _ => match u with | .string t => t.size | _ => 0)
  case atStart => exact ⟨s, [], rfl, rfl, Nat.le_refl _, hB, hJ0⟩
  case round =>
    obtain ⟨t, pre, rfl, hp, hts, hB, hJ⟩ := hrel
    by_cases h0 : 0 < t.size
    · have hsne := str_full h0
      have C := Lib.hid (decode_any t h0 wr hB.2.1)
      obtain ⟨x, n, hx, hn, hn1, hn2, hx2, hcase⟩ := first_letter h0
      rw [hx, hn] at C
      clear hx hn
      rcases hcase with ⟨rfl, rfl, hl⟩ | ⟨hne, hl, hsz⟩
      · have hE := Lib.hid (show pre = lets s.data.toList by rw [← hp.out, hl, List.append_nil])
        clear hl
        gi_wp2_with (refine ⟨trivial, ?_⟩; gi_at_call 18; refine (callsIn_wide.2 C.out).mono ?_; rintro e w1 ⟨rfl, b1⟩)
        have hJ1 := hA _ _ _ none hJ (grown_of b1) (fun r e => by cases e)
        gi_wp2_with fail
        refine bodyPost_ret (results_none rfl _ _ _) rfl ?_
        exact ⟨⟨_, rfl⟩, .inl ⟨pre, hE.out, hJ1⟩⟩
      · have HP := Lib.hid (show (pre ++ [x]) ++ lets (t.extract n t.size).data.toList = lets s.data.toList by rw [← hp.out, hl, List.append_assoc]; rfl)
        have HSZ := Lib.hid hsz
        clear hl hsz
        rcases hne with hne | ⟨hne, hne2⟩
        all_goals
          gi_wp2_with (refine ⟨trivial, ?_⟩; gi_at_call 18; refine (callsIn_wide.2 C.out).mono ?_; rintro e w1 ⟨rfl, b1⟩; have hJ1 := hA _ _ _ none hJ (grown_of b1) (fun r e => by cases e); have hB1 : One w1 B s := hB.below b1 hB.1.lt; obtain ⟨fn, tmps, assign, body, hy, hR⟩ := HY.out pre x w1 hJ1 ⟨_, HP.out⟩)
          refine hR.mono ?_
          rintro e W3 (⟨rfl, hJ3, hk3⟩ | ⟨rfl, hJx3⟩)
          · clear hy hR
            gi_wp2_with fail
            go_roundw
            case rel => exact ⟨_, _, rfl, HP, by have h := HSZ.out; omega, HK.out _ _ hk3 hB1, hJ3⟩
            case measure => show (t.extract _ t.size).size < t.size; rw [HSZ.out]; omega
          · gi_wp2_with fail
            refine bodyPost_ret (results_none rfl _ _ _) rfl ?_
            exact ⟨⟨_, rfl⟩, .inr ⟨_, ⟨_, HP.out⟩, hJx3⟩⟩
    · have hsne := str_none h0
      have hE := Lib.hid (show pre = lets s.data.toList by rw [← hp.out, List.eq_nil_of_length_eq_zero (l := t.data.toList) (by rw [list_size]; omega), lets_nil, List.append_nil])
      gi_wp2_with fail
      go_end0
      exact ⟨⟨_, rfl⟩, .inl ⟨pre, hE.out, hJ⟩⟩

/-- The iterator's contract, as its callers take it. -/
theorem letters_stops (d : Nat) (hd : 1 ≤ d) (B : Nat) (s : ByteArray) (Kp : World → World → Prop) (hKp : ∀ W W', Kp W W' → One W B s → One W' B s) (w : World) (hB : One w B s) :
    SeqStopsK Fence.wide d Tryd.prog 17 #[.pointer (some ⟨B, 0, none⟩)] (fun x : Nat => #[Value.int .i32 (x : Int)]) Kp (fun ys => ys = lets s.data.toList) (fun pre => pre <+: lets s.data.toList) (lets s.data.toList).length w :=
  fun l J Jx W hW hA _ hY hJ0 => letters1_in d hd l B W.heap.size s Kp hKp J Jx hA (fun pre x W hJ hp => hY pre x W hJ (by have := hp.length_le; rw [List.length_append] at this; simp at this; omega)) W (hB.below hW hB.1.lt) hJ0
/-- .. where a round would know that it is handed a letter. -/
theorem letters_stops_mem (d : Nat) (hd : 1 ≤ d) (B : Nat) (s : ByteArray) (Kp : World → World → Prop) (hKp : ∀ W W', Kp W W' → One W B s → One W' B s) (w : World) (hB : One w B s) :
    SeqStopsK Fence.wide d Tryd.prog 17 #[.pointer (some ⟨B, 0, none⟩)] (fun x : { x : Nat // x ∈ lets s.data.toList } => #[Value.int .i32 (x.1 : Int)]) Kp (fun ys => ys.map (·.1) = lets s.data.toList) (fun pre => pre.map (·.1) <+: lets s.data.toList) (lets s.data.toList).length w :=
  fun l J Jx W hW hA _ hY hJ0 => (letters1_in d hd l B W.heap.size s Kp hKp (fun pre W => ∃ p : List { x : Nat // x ∈ lets s.data.toList }, p.map (·.1) = pre ∧ J p W) (fun pre W => ∃ p : List { x : Nat // x ∈ lets s.data.toList }, p.map (·.1) = pre ∧ Jx p W)
    (fun pre W W' row ⟨p, hp, hJ⟩ hg hr => ⟨p, hp, hA _ _ _ row hJ hg hr⟩)
    (fun pre x W ⟨p, hp, hJ⟩ hpre => (hY p ⟨x, hpre.subset (by simp)⟩ W hJ (by have := hpre.length_le; rw [List.length_append, ← hp, List.length_map] at this; simp at this; omega)).mono fun e W' h => by
      rcases h with ⟨h1, h2, h3⟩ | ⟨h1, h2⟩
      · exact .inl ⟨h1, ⟨_, by rw [List.map_append, hp]; rfl, h2⟩, h3⟩
      · exact .inr ⟨h1, ⟨_, by rw [List.map_append, hp]; rfl, h2⟩⟩) W (hB.below hW hB.1.lt) ⟨[], rfl, hJ0⟩).mono fun e W' h => by
    obtain ⟨h0, ⟨ys, rfl, p, hp, hJ⟩ | ⟨pre, hpre, p, rfl, hJ⟩⟩ := h
    · exact ⟨h0, .inl ⟨p, hp, hJ⟩⟩
    · exact ⟨h0, .inr ⟨p, hpre, hJ⟩⟩
end Go.Proofs.YtmahdlaifbbjgaaDoor.Cs
