/-
Texts joined in one file, each with its own conditions: charset.Letters is an iterator of the letters of a text's longest right beginning: all of them in order, or a beginning of them where a round says no more. Conditions: the library's tables hold what the rows list. · charset.within tells whether none of a text's letters is above one. Conditions: the one is an int32; the library's tables hold what the rows list. · charset.asBytes are a text's letters as bytes. Conditions: the text has at most 2^36 bytes; the library's tables hold what the rows list. · charset.Decode, Encode and Least answer as the plain functions say. Conditions: the text has at most 2^35 bytes; the library's tables hold what the rows list.
-/
import Derived.Test.YtpdodknldhbbhaaGreatDoorJ20
import Derived.RangeFuncNested
import Derived.RangeFuncBound
import Derived.RangeFuncCalls
import Derived.RangeFuncLeaves
import Derived.RangeFuncBox
import Derived.Shelf.Abstract
import Derived.Shelf.RegionOpen
import Derived.WalkKit
import Derived.OwnWalkIn
import Derived.TacticsInMore
import Derived.LoopNIn
import Derived.LoopIn
import Derived.OpenShut
import Derived.Laws.DeepStrings4
import Derived.Maps.AppendAt
namespace Go.Proofs.YtpdodknldhbbhaaGreatDoor.Cs
set_option maxRecDepth 100000
open Go.RowKit Go.Lib
attribute [local go_sem] Oper.semAt_some

/-- What an iterator of letters reads: the text's box, and the library's tables. -/
def One (W : World) (B : Nat) (s : ByteArray) : Prop := Boxed W B 9 (.string s) ∧ Tabs W ∧ 1 < B ∧ 2 < B
theorem One.below {W W' : World} {B b : Nat} {s : ByteArray} (h : One W B s) (hb : Below b W W') (hB : B < b) : One W' B s := ⟨(hb.block B hB).trans h.1, h.2.1.kept hb (by have := h.2.2.1; omega) (by have := h.2.2.2; omega), h.2.2⟩
theorem One.kept {W W' : World} {B b : Nat} {s : ByteArray} (h : One W B s) (hb : Below b W W') (h1 : 1 < b) (h2 : 2 < b) (hB : Boxed W' B 9 (.string s)) : One W' B s := ⟨hB, h.2.1.kept hb h1 h2, h.2.2⟩
theorem grown_of {W W' : World} (hb : Below W.heap.size W W') : W.grownBy W' none := ⟨hb.os, hb.tape, hb.output, hb.size, fun k hk _ => hb.block k hk⟩

theorem letters_any (s : ByteArray) (w : World) :
    Calls Tryz.prog 168 #[.string s] w fun e w' => e = .returned (.func (.func 185) #[] #[.pointer (some ⟨w.heap.size, 0, none⟩)]) ∧ w' = w.alloc (.cells #[.string s] 9) := by
  go_enter Tryz.func168, Tryz.ntmps168
  go_wp2
  go_ret
  exact ⟨rfl, rfl⟩
theorem letters_one (s : ByteArray) (w : World) (T : Tabs w) : One (w.alloc (.cells #[.string s] 9)) w.heap.size s :=
  ⟨Boxed.new w _ _, T.below ((Below.refl _ _).alloc (Nat.le_refl _) _) (Nat.le_refl _), T.lt⟩

theorem str_full {t : ByteArray} (h : 0 < t.size) : (!t.toList.isEmpty) = true := by
  rw [ByteArray.toList_eq]; cases e : t.data.toList with | nil => have := list_size t; rw [e] at this; simp at this; omega | cons a r => rfl
theorem str_none {t : ByteArray} (h : ¬ 0 < t.size) : (!t.toList.isEmpty) = false := by
  rw [ByteArray.toList_eq, List.eq_nil_of_length_eq_zero (l := t.data.toList) (by rw [list_size]; omega)]; rfl
theorem ne_nil {t : ByteArray} (h : 0 < t.size) : t.data.toList ≠ [] := fun e => by have := list_size t; rw [e] at this; simp at this; omega
/-- A text's first letter, in plain words. -/
theorem first_letter {t : ByteArray} (h : 0 < t.size) : ∃ x n : Nat, (decodeL t.data.toList).1 = x ∧ (decodeL t.data.toList).2 = n ∧ 1 ≤ n ∧ n ≤ t.size ∧ x ≤ 1114111 ∧
    ((x = 65533 ∧ n = 1 ∧ lets t.data.toList = []) ∨ ((((x : Int) == 65533) = false ∨ (((x : Int) == 65533) = true ∧ ((n : Int) == 1) = false)) ∧ lets t.data.toList = x :: lets (t.extract n t.size).data.toList ∧ (t.extract n t.size).size = t.size - n)) := by
  have hne := ne_nil h
  refine ⟨_, _, rfl, rfl, decodeL_width _, by rw [← list_size]; exact decodeL_le _ hne, decodeL_rune _, ?_⟩
  rcases hb : bad t.data.toList with _ | _
  · right
    refine ⟨?_, by rw [lets_good hne hb, ext_list], ext_size _ _⟩
    have hb' := of_decide_eq_false hb
    by_cases hx : (decodeL t.data.toList).1 = 65533
    · right; exact ⟨by simp; omega, by simp; omega⟩
    · left; simp; omega
  · left
    have hb' := of_decide_eq_true hb
    exact ⟨hb'.1, hb'.2, lets_bad hne hb⟩

set_option maxHeartbeats 1000000 in
theorem letters1_in (d : Nat) (hd : 1 ≤ d) (l B b : Nat) (s : ByteArray) (Kp : World → World → Prop) (hKp : ∀ W W', Kp W W' → One W B s → One W' B s) (J Jx : List Nat → World → Prop) (hA : AbidesFrom b J)
    (hY : ∀ pre (x : Nat) W, J pre W → pre ++ [x] <+: lets s.data.toList → YieldAt Fence.wide (d - 1) Tryz.prog l #[.int .i32 (x : Int)] W fun e W' =>
      (e = .returned (.bool true) ∧ J (pre ++ [x]) W' ∧ Kp W W') ∨ (e = .returned (.bool false) ∧ Jx (pre ++ [x]) W'))
    (W : World) (hB : One W B s) (hJ0 : J [] W) :
    CallsIn Fence.wide d Tryz.prog 185 #[.func (.yield l) #[] #[], .pointer (some ⟨B, 0, none⟩)] W fun e W' => (∃ v, e = .returned v) ∧
      ((∃ ys, ys = lets s.data.toList ∧ J ys W') ∨ (∃ pre, pre <+: lets s.data.toList ∧ Jx pre W')) := by
  have HY := Lib.hid hY
  have HK := Lib.hid hKp
  clear hY hKp
  have hc := hB.1.cell
  refine callsIn_of_wp Tryz.func185 rfl trivial ?_ rfl
  simp only [Tryz.ntmps185, List.size_toArray, List.length_cons, List.length_nil, Nat.reduceAdd, Nat.reduceSub, Array.replicate_succ, Array.replicate_zero, List.push_toArray, List.append_toArray, List.nil_append, List.cons_append]
  gi_wp2_with fail
  clear hc
  gi_loopw [3] (fun u wr => ∃ (t : ByteArray) (pre : List Nat), u = .string t ∧ Hid (pre ++ lets t.data.toList = lets s.data.toList) ∧ t.size ≤ s.size ∧ One wr B s ∧ J pre wr) (fun u _ => match u with | .string t => t.size | _ => 0)
  case atStart => exact ⟨s, [], rfl, rfl, Nat.le_refl _, hB, hJ0⟩
  case round =>
    obtain ⟨t, pre, rfl, hp, hts, hB, hJ⟩ := hrel
    by_cases h0 : 0 < t.size
    · have hsne := str_full h0
      have C := Lib.hid (decode_any t h0 wr hB.2.1)
      obtain ⟨x, n, hx, hn, hn1, hn2, hx2, hcase⟩ := first_letter h0
      rw [hx, hn] at C
      clear hx hn
      rcases hcase with ⟨rfl, rfl, hl⟩ | ⟨hne, hl, hsz⟩
      · have hE := Lib.hid (show pre = lets s.data.toList by rw [← hp.out, hl, List.append_nil])
        clear hl
        gi_wp2_with (refine ⟨trivial, ?_⟩; gi_at_call 134; refine (callsIn_wide.2 C.out).mono ?_; rintro e w1 ⟨rfl, b1⟩)
        have hJ1 := hA _ _ _ none hJ (grown_of b1) (fun r e => by cases e)
        gi_wp2_with fail
        refine bodyPost_ret (results_none rfl _ _ _) rfl ?_
        exact ⟨⟨_, rfl⟩, .inl ⟨pre, hE.out, hJ1⟩⟩
      · have HP := Lib.hid (show (pre ++ [x]) ++ lets (t.extract n t.size).data.toList = lets s.data.toList by rw [← hp.out, hl, List.append_assoc]; rfl)
        have HSZ := Lib.hid hsz
        clear hl hsz
        rcases hne with hne | ⟨hne, hne2⟩
        all_goals
          gi_wp2_with (refine ⟨trivial, ?_⟩; gi_at_call 134; refine (callsIn_wide.2 C.out).mono ?_; rintro e w1 ⟨rfl, b1⟩; have hJ1 := hA _ _ _ none hJ (grown_of b1) (fun r e => by cases e); have hB1 : One w1 B s := hB.below b1 hB.1.lt; obtain ⟨fn, tmps, assign, body, hy, hR⟩ := HY.out pre x w1 hJ1 ⟨_, HP.out⟩)
          refine hR.mono ?_
          rintro e W3 (⟨rfl, hJ3, hk3⟩ | ⟨rfl, hJx3⟩)
          · clear hy hR
            gi_wp2_with fail
            go_roundw
            case rel => exact ⟨_, _, rfl, HP, by have h := HSZ.out; omega, HK.out _ _ hk3 hB1, hJ3⟩
            case measure => show (t.extract _ t.size).size < t.size; rw [HSZ.out]; omega
          · gi_wp2_with fail
            refine bodyPost_ret (results_none rfl _ _ _) rfl ?_
            exact ⟨⟨_, rfl⟩, .inr ⟨_, ⟨_, HP.out⟩, hJx3⟩⟩
    · have hsne := str_none h0
      have hE := Lib.hid (show pre = lets s.data.toList by rw [← hp.out, List.eq_nil_of_length_eq_zero (l := t.data.toList) (by rw [list_size]; omega), lets_nil, List.append_nil])
      gi_wp2_with fail
      go_end0
      exact ⟨⟨_, rfl⟩, .inl ⟨pre, hE.out, hJ⟩⟩

/-- The iterator's contract, as its callers take it. -/
theorem letters_stops (d : Nat) (hd : 1 ≤ d) (B : Nat) (s : ByteArray) (Kp : World → World → Prop) (hKp : ∀ W W', Kp W W' → One W B s → One W' B s) (w : World) (hB : One w B s) :
    SeqStopsK Fence.wide d Tryz.prog 185 #[.pointer (some ⟨B, 0, none⟩)] (fun x : Nat => #[Value.int .i32 (x : Int)]) Kp (fun ys => ys = lets s.data.toList) (fun pre => pre <+: lets s.data.toList) (lets s.data.toList).length w :=
  fun l J Jx W hW hA _ hY hJ0 => letters1_in d hd l B W.heap.size s Kp hKp J Jx hA (fun pre x W hJ hp => hY pre x W hJ (by have := hp.length_le; rw [List.length_append] at this; simp at this; omega)) W (hB.below hW hB.1.lt) hJ0
end Go.Proofs.YtpdodknldhbbhaaGreatDoor.Cs

namespace Go.Proofs.YtpdodknldhbbhaaGreatDoor.Cs
set_option maxRecDepth 100000
open Go.RowKit Go.Shelf
attribute [local go_sem] Oper.semAt_some

theorem below_put_p {B : Nat} {a w : World} (h : Below B a w) {D : Nat} {o : Obj} (hD : B ≤ D) (hk : w.heap[D]? = some o) (o' : Obj) : Below B a (w.putObj D o') :=
  h.grown (grownBy_putObj' w D o') (by have := (Array.getElem?_eq_some_iff.1 hk).1; omega) (fun k e => by cases e; exact hD)
theorem within_snoc (m : Int) (l : List Nat) (x : Nat) : within m (l ++ [x]) = (within m l && decide ((x : Int) ≤ m)) := by
  unfold within; rw [List.all_append]; simp
theorem within_prefix {m : Int} {p l : List Nat} (h : p <+: l) (hw : within m p = false) : within m l = false := by
  obtain ⟨r, rfl⟩ := h
  unfold within at *
  rw [List.all_append, hw, Bool.false_and]

set_option maxHeartbeats 2000000 in
theorem within_in (s : ByteArray) (m : Int) (w : World) (T : Tabs w) :
    CallsIn Fence.wide 5 Tryz.prog 145 #[.string s, .int .i32 m] w fun e W' => e = .returned (.bool (within m (lets s.data.toList))) ∧ Below w.heap.size w W' := by
  refine callsIn_of_wp_marks Tryz.func145 rfl trivial ?_ rfl
  simp only [Tryz.ntmps145, List.size_toArray, List.length_cons, List.length_nil, Nat.reduceAdd, Nat.reduceSub, Array.replicate_succ, Array.replicate_zero, List.push_toArray, List.append_toArray, List.nil_append, List.cons_append]
  gi_wp2_with (refine ⟨trivial, ?_⟩; gi_at_call 168; refine (callsIn_wide.2 (letters_any s _)).mono ?_; rintro e w' ⟨rfl, rfl⟩)
  have bM := Boxed.new w 21 (.int .i32 m)
  have bR := Boxed.new (w.alloc (.cells #[.int .i32 m] 21)) 4 (.bool false)
  have hB1 : Below w.heap.size w ((w.alloc (.cells #[.int .i32 m] 21)).alloc (.cells #[.bool false] 4)) := ((Below.refl _ w).alloc (Nat.le_refl _) _).alloc (by simp) _
  have hOne := letters_one s ((w.alloc (.cells #[.int .i32 m] 21)).alloc (.cells #[.bool false] 4)) (T.below hB1 (Nat.le_refl _))
  have bM0 := (bM.alloc (.cells #[.bool false] 4)).alloc (.cells #[.string s] 9)
  have bR0 := bR.alloc (.cells #[.string s] 9)
  have hB0 := hB1.alloc (by simp; omega) (.cells #[.string s] 9)
  have hz0' : (((w.alloc (.cells #[.int .i32 m] 21)).alloc (.cells #[.bool false] 4)).alloc (.cells #[.string s] 9)).heap.size = w.heap.size + 1 + 1 + 1 := by simp
  simp only [World.size_alloc] at hOne bR0
  clear bM bR hB1
  generalize hW0 : (((w.alloc (.cells #[.int .i32 m] 21)).alloc (.cells #[.bool false] 4)).alloc (.cells #[.string s] 9)) = W0 at *
  clear hW0
  have hsz : W0.heap.size = w.heap.size + 3 := by omega
  have HZ := Lib.hid hsz
  clear hz0' hsz
  refine wpIn_rangeFunc_ownG rfl (by omega) (gf := 185) (lb := #[.pointer (some ⟨w.heap.size + 1 + 1, 0, none⟩)]) rfl trivial (enters_of Tryz.func185 (by kernel_rfl) rfl)
    (letters_stops (5 - 1) (by omega) (w.heap.size + 1 + 1) s (Below (w.heap.size + 3)) (fun W W' hb ho => ho.below hb (by omega)) W0 hOne) belowK_t (belowK_b (by rw [HZ.out]; omega)) (Below.refl _ _) (fun _ => rfl)
    (fun pre V => within m pre = true ∧ Below (w.heap.size + 3) W0 V)
    (fun c l V => (c = .ret ∧ within m l = false) ∧ Boxed V (w.heap.size + 1) 4 (.bool false) ∧ Below w.heap.size w V)
    (OwnFrom.and (ownFrom_pure _ (fun pre => within m pre = true)) (ownFrom_below (by rw [HZ.out]; omega) (by rw [HZ.out]; omega)))
    (fun c => OwnFrom.and (ownFrom_pure _ (fun l => c = .ret ∧ within m l = false)) (OwnFrom.and (Own.from (boxed_own _ _ _) _) (ownFrom_below (Nat.le_refl _) (by rw [HZ.out]; omega))))
    ⟨rfl, Below.refl _ _⟩
    (fun x => { tmps := #[.string s, .int .i32 m, undef, .pointer (some ⟨w.heap.size, 0, none⟩), .pointer (some ⟨w.heap.size + 1, 0, none⟩), .int .i32 (x : Int), .string s, .func (.func 185) #[] #[.pointer (some ⟨w.heap.size + 1 + 1, 0, none⟩)], .int .i32 (x : Int), undef, undef, undef], defers := [] }) ?assign ?body ?done ?stop
  case assign =>
    intro l x V K hK
    gi_wp2
    exact hK
  case body =>
    rintro l pre x V ⟨hw, hB⟩ hlt
    have bMV : Boxed V w.heap.size 21 (.int .i32 m) := (hB.block w.heap.size (by omega)).trans bM0
    have bRV : Boxed V (w.heap.size + 1) 4 (.bool false) := (hB.block (w.heap.size + 1) (by omega)).trans bR0
    have hcM := bMV.cell
    have hcR := bRV.cell
    have hfR := bRV.frozen
    by_cases hx : m < (x : Int)
    · gi_wp2_with fail
      exact ⟨(KeepsOthers.setCell _ _ _).from _, ⟨rfl, by rw [within_snoc, decide_eq_false (by omega), Bool.and_false]⟩, bRV.set _, (hB0.trans (hB.mono (by omega))).setCell (p := ⟨w.heap.size + 1, 0, none⟩) (by simp) _⟩
    · gi_wp2_with fail
      exact ⟨KeepsFrom.refl _ _, Below.refl _ _, by rw [within_snoc, hw, decide_eq_true (by omega)]; rfl, hB⟩
  case stop =>
    rintro D c l V hD hSp ⟨⟨rfl, hwl⟩, bRV, hB⟩ hK
    have HR := Lib.hid (within_prefix hSp hwl)
    clear hwl
    have hne : D ≠ w.heap.size + 1 := by rintro rfl; rw [show V.heap[w.heap.size + 1]? = _ from bRV] at hK; cases hK
    have hc5 := (bRV.kept (grownBy_putObj' V D (.deferred Option.none)) (by rintro ⟨⟩; exact hne rfl)).cell
    have h3 := HZ.out
    gi_wp2
    refine ⟨by simp, .inl ⟨_, _, rfl, run_takeDeferred hK, ?_⟩⟩
    refine ⟨.bool false, ?_, by rw [HR.out], below_put_p hB (by omega) hK _⟩
    simp [results, Tryz.f145, go_sem, hc5]
  case done =>
    rintro D ys V hD rfl ⟨hw, hB⟩ hK
    have HR := Lib.hid hw
    clear hw
    have bRV : Boxed V (w.heap.size + 1) 4 (.bool false) := (hB.block (w.heap.size + 1) (by omega)).trans bR0
    have hne : D ≠ w.heap.size + 1 := by rintro rfl; rw [show V.heap[w.heap.size + 1]? = _ from bRV] at hK; cases hK
    have hK' := (KeepsOthers.setCell V ⟨w.heap.size + 1, 0, none⟩ (.bool true)).same D _ hK rfl
    have hc5 := ((bRV.set (.bool true)).kept (grownBy_putObj' _ D (.deferred Option.none)) (by rintro ⟨⟩; exact hne rfl)).cell
    have hcR := bRV.cell
    have hfR := bRV.frozen
    have h3 := HZ.out
    gi_wp2
    refine ⟨by simp, .inl ⟨_, _, rfl, run_takeDeferred hK', ?_⟩⟩
    refine ⟨.bool true, ?_, by rw [HR.out], below_put_p ((hB0.trans (hB.mono (by omega))).setCell (p := ⟨w.heap.size + 1, 0, none⟩) (by simp) _) (by omega) hK' _⟩
    simp [results, Tryz.f145, go_sem, hc5]
theorem within_any (s : ByteArray) (m : Int) (w : World) (T : Tabs w) :
    Calls Tryz.prog 145 #[.string s, .int .i32 m] w fun e W' => e = .returned (.bool (within m (lets s.data.toList))) ∧ Below w.heap.size w W' :=
  callsIn_wide.1 (within_in s m w T)
end Go.Proofs.YtpdodknldhbbhaaGreatDoor.Cs

namespace Go.Proofs.YtpdodknldhbbhaaGreatDoor.Cs
set_option maxRecDepth 100000
open Go.RowKit Go.Shelf
attribute [local go_sem] Oper.semAt_some

theorem bytesOf_snoc (l : List Nat) (x : Nat) : bytesOf (l ++ [x]) = bytesOf l ++ [UInt8.ofNat x] := by simp [bytesOf]
theorem bytesOf_length (l : List Nat) : (bytesOf l).length = l.length := by simp [bytesOf]
theorem low8 (x : Nat) : (x : Int) % 256 = ((UInt8.ofNat x).toNat : Int) := by rw [UInt8.toNat_ofNat']; omega
theorem boxed_past {W w1 : World} {B Bo n₀ k : Nat} {x v v' : Value} {t e : TypeId} {xs : List Value} {tmp : Obj} (h : Boxed W B t x) (ht : t ≠ e) (hne : B ≠ Bo)
    (hrow : W.ownsRow n₀ e 1 v k xs) (hgrow : (W.alloc tmp).grownBy w1 v.ownBlock) : Boxed (w1.setCell ⟨Bo, 0, none⟩ v') B t x :=
  ((h.alloc tmp).kept hgrow (h.not_row ht hrow)).kept (grownBy_setCell' w1 Bo v') (fun e => hne (by injection e))
/-- What a round keeps: all that lay below a place, and one box above it. -/
def KeepsAt (b B : Nat) (s : ByteArray) (W W' : World) : Prop := Below b W W' ∧ (Boxed W B 9 (.string s) → Boxed W' B 9 (.string s))
theorem KeepsAt.t {b B : Nat} {s : ByteArray} {A C D : World} (h : KeepsAt b B s A C) (k : KeepsAt b B s C D) : KeepsAt b B s A D := ⟨h.1.trans k.1, fun hh => k.2 (h.2 hh)⟩
theorem KeepsAt.b {b B : Nat} {s : ByteArray} {w : World} (hn : b ≤ w.heap.size) (W : World) (l : Nat) (o o' : Obj) (hw : w.heap.size ≤ l) (hl : W.heap[l]? = some o) (hc : o.isCells = false) (hk : o.isWalk = false) : KeepsAt b B s W (W.putObj l o') :=
  ⟨belowK_b hn W l o o' hw hl hc hk, fun hh => by
    have hne : B ≠ l := by rintro rfl; unfold Boxed at hh; rw [hl] at hh; cases hh; simp [Obj.isCells] at hc
    exact (World.putObj_heap_other hne).trans hh⟩

set_option maxHeartbeats 1000000 in
theorem asBytes_in (s : ByteArray) (hs : s.size ≤ 68719476736) (w : World) (T : Tabs w) :
    CallsIn Fence.wide 5 Tryz.prog 146 #[.string s] w fun e W' => e = .returned (.string ⟨(bytesOf (lets s.data.toList)).toArray⟩) ∧ Below w.heap.size w W' := by
  have hN := lets_length s.data.toList
  rw [list_size] at hN
  have tl := T.lt
  obtain ⟨i0, hi, hz0, hz1, hz2⟩ := info_parts Bytes.infoByte
  refine callsIn_of_wp_marks Tryz.func146 rfl trivial ?_ rfl
  simp only [Tryz.ntmps146, List.size_toArray, List.length_cons, List.length_nil, Nat.reduceAdd, Nat.reduceSub, Array.replicate_succ, Array.replicate_zero, List.push_toArray, List.append_toArray, List.nil_append, List.cons_append]
  gi_wp2_with (refine ⟨trivial, ?_⟩; gi_at_call 168; refine (callsIn_wide.2 (letters_any s _)).mono ?_; rintro e w' ⟨rfl, rfl⟩)
  have bO := Boxed.new w 60 (.slice none 0 0)
  have hOne := letters_one s (w.alloc (.cells #[.slice none 0 0] 60)) (T.below ((Below.refl _ w).alloc (Nat.le_refl _) _) (Nat.le_refl _))
  have hB0 : Below w.heap.size w ((w.alloc (.cells #[.slice none 0 0] 60)).alloc (.cells #[.string s] 9)) := ((Below.refl _ w).alloc (Nat.le_refl _) _).alloc (by simp) _
  simp only [World.size_alloc] at hOne
  refine wpIn_rangeFunc_ownG rfl (by omega) (gf := 185) (lb := #[.pointer (some ⟨w.heap.size + 1, 0, none⟩)]) rfl trivial (enters_of Tryz.func185 (by kernel_rfl) rfl)
    (letters_stops (5 - 1) (by omega) (w.heap.size + 1) s (KeepsAt w.heap.size (w.heap.size + 1) s) (fun W W' hk ho => ho.kept hk.1 tl.1 tl.2 (hk.2 ho.1)) _ hOne) KeepsAt.t (KeepsAt.b (by simp; omega)) (Below.refl _ _) (fun _ => rfl)
    (fun pre W => ((∃ v, Boxed W w.heap.size 60 v ∧ W.ownsRow w.heap.size 5 1 v pre.length (Bytes.cells (bytesOf pre)) ∧ True) ∧ Boxed W (w.heap.size + 1) 9 (.string s)) ∧ Below w.heap.size w W)
    (fun _ _ _ => False)
    (OwnFrom.and (OwnFrom.and (Own.from (holdsRow_own w.heap.size w.heap.size 60 5 1 (fun pre => List.length pre) (fun pre => Bytes.cells (bytesOf pre)) (fun _ _ => True)) _) (Own.from (boxed_own _ _ _) _)) (ownFrom_below (Nat.le_refl _) (by simp; omega)))
    (fun _ _ _ _ _ hs _ _ => hs)
    ⟨⟨⟨_, bO.alloc _, World.ownsRow_nil _ _ _ _, trivial⟩, hOne.1⟩, hB0⟩
    (fun x => { tmps := #[.string s, undef, .string { data := #[] }, .pointer (some ⟨w.heap.size, 0, none⟩), .int .i32 (x : Int), .string s, .func (.func 185) #[] #[.pointer (some ⟨w.heap.size + 1, 0, none⟩)], .int .i32 (x : Int), undef, undef, undef, undef, undef, undef, undef], defers := [] }) ?assign ?body ?done ?stop
  case assign =>
    intro l x W K hK
    gi_wp2
    exact hK
  case body =>
    rintro l pre x W ⟨⟨⟨v, hv, hrow, _⟩, hbn⟩, hB⟩ hlt
    have hc := hv.cell
    have h8 := low8 x
    generalize hx : UInt8.ofNat x = c at h8
    have HX := Lib.hid hx
    clear hx
    gi_wp2_with (gi_at_builtin; refine wpListIn_append_own _ rfl _ _ 60 rfl w.heap.size 5 i0 (.int .u8 0) 1 1 Tryz.underlying60 hi hz0 hz1 hz2 rfl (by decide) _ _ _ rfl (hrow.alloc _) ⟨W.heap.size, 0, none⟩ 1 1 [.int .u8 (c.toNat : Int)] rfl rfl (cell_one_new _ _ _) (by simp [Value.oneCell']) (by unfold maxLen; omega) (by omega) (by have := hB.size; simp; omega) ?_; intro v' w1 hown' hgrow _; obtain ⟨g', cap', rfl⟩ := ownsRow_succ hown'; obtain ⟨hv1, hv2, hr2, hk2, hb2⟩ := hv.appended (by decide) hrow hB.size (Nat.le_refl _) hown' hgrow; have hc1 := hv1.cell; have hf1 := hv1.frozen)
    have hb3 : Boxed W (w.heap.size + 1) 9 (.string s) → Boxed (w1.setCell ⟨w.heap.size, 0, none⟩ (.slice (some ⟨g', 0, none⟩) (pre.length + 1) cap')) (w.heap.size + 1) 9 (.string s) := fun h => boxed_past h (by decide) (by omega) hrow hgrow
    exact ⟨hk2.from _, ⟨hb2, hb3⟩, ⟨⟨_, hv2, by rw [bytesOf_snoc, HX.out, List.length_append, Bytes.cells_append]; exact hr2, trivial⟩, hb3 hbn⟩, hB.trans hb2⟩
  case done =>
    rintro D ys W hD rfl ⟨⟨⟨v, hv, hrow, _⟩, hbn⟩, hB⟩ hK
    have hc := hv.cell
    have ht : Bytes.Has W w.heap.size v (bytesOf (lets s.data.toList)) := by unfold Bytes.Has; rw [bytesOf_length]; exact hrow
    have htx := ht.text
    gi_wp2
    refine ⟨by simp, .inl ⟨_, _, rfl, run_takeDeferred hK, ?_⟩⟩
    exact ⟨_, results_tmp rfl _ _ _, rfl, hB.trans (belowK_b (w := w) (Nat.le_refl _) W D _ _ (by simp at hD; omega) hK rfl rfl)⟩
  case stop =>
    rintro D c pre W _ _ h _
    exact h.elim
theorem asBytes_any (s : ByteArray) (hs : s.size ≤ 68719476736) (w : World) (T : Tabs w) :
    Calls Tryz.prog 146 #[.string s] w fun e W' => e = .returned (.string ⟨(bytesOf (lets s.data.toList)).toArray⟩) ∧ Below w.heap.size w W' :=
  callsIn_wide.1 (asBytes_in s hs w T)
end Go.Proofs.YtpdodknldhbbhaaGreatDoor.Cs

namespace Go.Proofs.YtpdodknldhbbhaaGreatDoor.Cs
set_option maxRecDepth 100000
open Go.RowKit

theorem ulen {l : List UInt8} {n : Nat} (h : l.length = n) : (⟨l.toArray⟩ : ByteArray).size = n := by simp [ByteArray.size, h]
theorem udata (l : List UInt8) : (⟨l.toArray⟩ : ByteArray).data.toList = l := by simp
theorem below3 {a b c : World} (h : Below a.heap.size a b) (k : Below b.heap.size b c) : Below a.heap.size a c := h.trans (k.mono h.size)
theorem Tabs.on {w w' : World} (h : Tabs w) (hb : Below w.heap.size w w') : Tabs w' := h.below hb (Nat.le_refl _)

theorem last_any (k : Int) (w : World) :
    Calls Tryz.prog 143 #[.int .i64 k] w fun e w' => e = .returned (.int .i32 (lastL k)) ∧ w = w' := by
  have h : k = 1 ∨ k = 2 ∨ k = 3 ∨ (¬ k = 1 ∧ ¬ k = 2 ∧ ¬ k = 3) := by omega
  rcases h with rfl | rfl | rfl | ⟨h1, h2, h3⟩
  · go_enter Tryz.func143, Tryz.ntmps143
    go_wp2
    go_ret
    exact ⟨rfl, rfl⟩
  · go_enter Tryz.func143, Tryz.ntmps143
    go_wp2
    go_ret
    exact ⟨rfl, rfl⟩
  · go_enter Tryz.func143, Tryz.ntmps143
    go_wp2
    go_ret
    exact ⟨rfl, rfl⟩
  · have H := Lib.hid (show lastL k = -1 by unfold lastL; rw [if_neg h1, if_neg h2, if_neg h3])
    go_enter Tryz.func143, Tryz.ntmps143
    go_wp2
    go_ret
    exact ⟨by rw [H.out]; rfl, rfl⟩

/-- What Decode or Encode answers. -/
def Pair (r : List UInt8 × Int) (w : World) (e : Ending) (w' : World) : Prop := e = .returned (.tuple #[.string ⟨r.1.toArray⟩, .int .i64 r.2]) ∧ Below w.heap.size w w'
theorem Pair.mk {r : List UInt8 × Int} {w w' : World} {l : List UInt8} {n : Int} (h : r = (l, n)) (hb : Below w.heap.size w w') : Pair r w (.returned (.tuple #[.string ⟨l.toArray⟩, .int .i64 n])) w' := by subst h; exact ⟨rfl, hb⟩
theorem Pair.own {r : List UInt8 × Int} {w w' : World} {s : ByteArray} {n : Int} (h : r = (s.data.toList, n)) (hb : Below w.heap.size w w') : Pair r w (.returned (.tuple #[.string s, .int .i64 n])) w' := by subst h; exact ⟨by rw [← own_text], hb⟩

theorem dec_none {k : Int} {l : List UInt8} (h1 : ¬ k = 1) (h2 : ¬ k = 2) (h3 : ¬ k = 3) : dec k l = ([], 5) := by unfold dec; rw [if_neg (by omega), if_neg h3]
theorem enc_none {k : Int} {l : List UInt8} (h1 : ¬ k = 1) (h2 : ¬ k = 2) (h3 : ¬ k = 3) : enc k l = ([], 5) := by unfold enc; rw [if_neg (by omega), if_neg h3]
theorem last_none {k : Int} (h1 : ¬ k = 1) (h2 : ¬ k = 2) (h3 : ¬ k = 3) : lastL k = -1 := by unfold lastL; rw [if_neg h1, if_neg h2, if_neg h3]

set_option maxHeartbeats 800000 in
theorem decode_12 (k m : Int) (hk : k = 1 ∨ k = 2) (hm : lastL k = m) (s : ByteArray) (hs : s.size ≤ 34359738368) (w : World) (T : Tabs w) :
    Calls Tryz.prog 159 #[.int .i64 k, .string s] w (Pair (dec k s.data.toList) w) := by
  have hm1 : (m == -1) = false := by rcases hk with rfl | rfl <;> (subst hm; rfl)
  have hk3 : (k != 3) = true := by rcases hk with rfl | rfl <;> rfl
  have C0 := Lib.hid (fun W => last_any k W)
  rw [hm] at C0
  have hl2 := latin_length s.data.toList
  rw [list_size] at hl2
  have hts : (⟨(latin s.data.toList).toArray⟩ : ByteArray).size ≤ 68719476736 := by rw [ulen rfl]; omega
  have C1 := Lib.hid (fun W => ofBytes_any s (by omega) W)
  have C2 := Lib.hid (fun W (TW : Tabs W) => valid_any ⟨(latin s.data.toList).toArray⟩ W (by omega) TW)
  have C3 := Lib.hid (fun W (TW : Tabs W) => within_any ⟨(latin s.data.toList).toArray⟩ m W TW)
  rw [udata, latin_valid] at C2
  rw [udata, latin_lets] at C3
  have HD : Hid (dec k s.data.toList = if within m (s.data.toList.map UInt8.toNat) = true then (latin s.data.toList, 0) else ([], 16)) := Lib.hid (by unfold dec; rw [if_pos hk, hm])
  obtain ⟨t, ht⟩ : ∃ t : ByteArray, (⟨(latin s.data.toList).toArray⟩ : ByteArray) = t := ⟨_, rfl⟩
  have HT := Lib.hid (show latin s.data.toList = t.data.toList by rw [← ht, udata])
  rw [ht] at C1 C2 C3 hts
  clear ht
  cases hw : within m (s.data.toList.map UInt8.toNat) with
  | false =>
    rw [hw] at C3 HD
    have HR := Lib.hid (show dec k s.data.toList = ([], 16) by rw [HD.out, if_neg (by simp)])
    clear HD hw hl2 hm
    go_enter Tryz.func159, Tryz.ntmps159
    go_wp2_with fail
    refine (C0.out _).mono ?_
    rintro e w0 ⟨rfl, rfl⟩
    go_wp2_with fail
    refine (C1.out _).mono ?_
    rintro e w1 ⟨rfl, b1⟩
    go_wp2_with fail
    refine (C2.out _ (T.on b1)).mono ?_
    rintro e w2 ⟨rfl, b2⟩
    go_wp2_with fail
    refine (C3.out _ ((T.on b1).on b2)).mono ?_
    rintro e w3 ⟨rfl, b3⟩
    go_wp2_with fail
    go_ret2
    exact Pair.mk HR.out (below3 (below3 b1 b2) b3)
  | true =>
    rw [hw] at C3 HD
    have HR := Lib.hid (show dec k s.data.toList = (t.data.toList, 0) by rw [HD.out, if_pos rfl, HT.out])
    clear HD hw hl2 hm
    go_enter Tryz.func159, Tryz.ntmps159
    go_wp2_with fail
    refine (C0.out _).mono ?_
    rintro e w0 ⟨rfl, rfl⟩
    go_wp2_with fail
    refine (C1.out _).mono ?_
    rintro e w1 ⟨rfl, b1⟩
    go_wp2_with fail
    refine (C2.out _ (T.on b1)).mono ?_
    rintro e w2 ⟨rfl, b2⟩
    go_wp2_with fail
    refine (C3.out _ ((T.on b1).on b2)).mono ?_
    rintro e w3 ⟨rfl, b3⟩
    go_wp2_with fail
    go_ret2
    exact Pair.own HR.out (below3 (below3 b1 b2) b3)

theorem decode_3 (s : ByteArray) (hs : s.size ≤ 34359738368) (w : World) (T : Tabs w) :
    Calls Tryz.prog 159 #[.int .i64 3, .string s] w (Pair (dec 3 s.data.toList) w) := by
  have C0 := Lib.hid (fun W => last_any 3 W)
  rw [show lastL 3 = 1114111 from rfl] at C0
  have C2 := Lib.hid (fun W (TW : Tabs W) => valid_any s W (by omega) TW)
  have C3 := Lib.hid (fun W (TW : Tabs W) => within_any s 1114111 W TW)
  rw [within_all] at C3
  have HD : Hid (dec 3 s.data.toList = if Lib.validD s.data.toList = true then (s.data.toList, 0) else ([], 16)) := Lib.hid (by unfold dec; rw [if_neg (by decide), if_pos rfl])
  cases hv : Lib.validD s.data.toList with
  | false =>
    rw [hv] at C2 HD
    have HR := Lib.hid (show dec 3 s.data.toList = ([], 16) by rw [HD.out, if_neg (by simp)])
    clear HD hv
    go_enter Tryz.func159, Tryz.ntmps159
    go_wp2_with fail
    refine (C0.out _).mono ?_
    rintro e w0 ⟨rfl, rfl⟩
    go_wp2_with fail
    refine (C2.out _ T).mono ?_
    rintro e w1 ⟨rfl, b1⟩
    go_wp2_with fail
    go_ret2
    exact Pair.mk HR.out b1
  | true =>
    rw [hv] at C2 HD
    have HR := Lib.hid (show dec 3 s.data.toList = (s.data.toList, 0) by rw [HD.out, if_pos rfl])
    clear HD hv
    go_enter Tryz.func159, Tryz.ntmps159
    go_wp2_with fail
    refine (C0.out _).mono ?_
    rintro e w0 ⟨rfl, rfl⟩
    go_wp2_with fail
    refine (C2.out _ T).mono ?_
    rintro e w1 ⟨rfl, b1⟩
    go_wp2_with fail
    refine (C3.out _ (T.on b1)).mono ?_
    rintro e w2 ⟨rfl, b2⟩
    go_wp2_with fail
    go_ret2
    exact Pair.own HR.out (below3 b1 b2)
theorem decode_X (k : Int) (h1 : ¬ k = 1) (h2 : ¬ k = 2) (h3 : ¬ k = 3) (s : ByteArray) (w : World) :
    Calls Tryz.prog 159 #[.int .i64 k, .string s] w (Pair (dec k s.data.toList) w) := by
  have C0 := Lib.hid (fun W => last_any k W)
  rw [last_none h1 h2 h3] at C0
  have HR := Lib.hid (dec_none (l := s.data.toList) h1 h2 h3)
  go_enter Tryz.func159, Tryz.ntmps159
  go_wp2_with fail
  refine (C0.out _).mono ?_
  rintro e w0 ⟨rfl, rfl⟩
  go_wp2_with fail
  go_ret2
  exact Pair.mk HR.out (Below.refl _ _)
theorem decode_turns (k : Int) (s : ByteArray) (hs : s.size ≤ 34359738368) (w : World) (T : Tabs w) :
    Calls Tryz.prog 159 #[.int .i64 k, .string s] w (Pair (dec k s.data.toList) w) := by
  by_cases h12 : k = 1 ∨ k = 2
  · exact decode_12 k _ h12 rfl s hs w T
  · by_cases h3 : k = 3
    · subst h3; exact decode_3 s hs w T
    · exact decode_X k (by omega) (by omega) h3 s w

theorem encode_X (k : Int) (h1 : ¬ k = 1) (h2 : ¬ k = 2) (h3 : ¬ k = 3) (s : ByteArray) (w : World) :
    Calls Tryz.prog 107 #[.int .i64 k, .string s] w (Pair (enc k s.data.toList) w) := by
  have C0 := Lib.hid (fun W => last_any k W)
  rw [last_none h1 h2 h3] at C0
  have HR := Lib.hid (enc_none (l := s.data.toList) h1 h2 h3)
  go_enter Tryz.func107, Tryz.ntmps107
  go_wp2_with fail
  refine (C0.out _).mono ?_
  rintro e w0 ⟨rfl, rfl⟩
  go_wp2_with fail
  go_ret2
  exact Pair.mk HR.out (Below.refl _ _)
set_option maxHeartbeats 800000 in
theorem encode_12 (k m : Int) (hk : k = 1 ∨ k = 2) (hm : lastL k = m) (s : ByteArray) (hs : s.size ≤ 34359738368) (w : World) (T : Tabs w) :
    Calls Tryz.prog 107 #[.int .i64 k, .string s] w (Pair (enc k s.data.toList) w) := by
  have hm1 : (m == -1) = false := by rcases hk with rfl | rfl <;> (subst hm; rfl)
  have hk3 : (k == 3) = false := by rcases hk with rfl | rfl <;> rfl
  have C0 := Lib.hid (fun W => last_any k W)
  rw [hm] at C0
  have C2 := Lib.hid (fun W (TW : Tabs W) => valid_any s W (by omega) TW)
  have C3 := Lib.hid (fun W (TW : Tabs W) => within_any s m W TW)
  have C4 := Lib.hid (fun W (TW : Tabs W) => asBytes_any s (by omega) W TW)
  have HD : Hid (enc k s.data.toList = if Lib.validD s.data.toList = true then (if within m (lets s.data.toList) = true then (bytesOf (lets s.data.toList), 0) else ([], 16)) else ([], 3)) := Lib.hid (by unfold enc; rw [if_pos hk, hm])
  generalize bytesOf (lets s.data.toList) = l at C4 HD
  clear hm
  cases hv : Lib.validD s.data.toList with
  | false =>
    rw [hv] at C2 HD
    have HR := Lib.hid (show enc k s.data.toList = ([], 3) by rw [HD.out, if_neg (by simp)])
    clear HD hv
    go_enter Tryz.func107, Tryz.ntmps107
    go_wp2_with fail
    refine (C0.out _).mono ?_
    rintro e w0 ⟨rfl, rfl⟩
    go_wp2_with fail
    refine (C2.out _ T).mono ?_
    rintro e w1 ⟨rfl, b1⟩
    go_wp2_with fail
    go_ret2
    exact Pair.mk HR.out b1
  | true =>
    rw [hv, if_pos rfl] at HD
    rw [hv] at C2
    clear hv
    cases hw : within m (lets s.data.toList) with
    | false =>
      rw [hw] at C3 HD
      have HR := Lib.hid (show enc k s.data.toList = ([], 16) by rw [HD.out, if_neg (by simp)])
      clear HD hw
      go_enter Tryz.func107, Tryz.ntmps107
      go_wp2_with fail
      refine (C0.out _).mono ?_
      rintro e w0 ⟨rfl, rfl⟩
      go_wp2_with fail
      refine (C2.out _ T).mono ?_
      rintro e w1 ⟨rfl, b1⟩
      go_wp2_with fail
      refine (C3.out _ (T.on b1)).mono ?_
      rintro e w2 ⟨rfl, b2⟩
      go_wp2_with fail
      go_ret2
      exact Pair.mk HR.out (below3 b1 b2)
    | true =>
      rw [hw] at C3 HD
      have HR := Lib.hid (show enc k s.data.toList = (l, 0) by rw [HD.out, if_pos rfl])
      clear HD hw
      go_enter Tryz.func107, Tryz.ntmps107
      go_wp2_with fail
      refine (C0.out _).mono ?_
      rintro e w0 ⟨rfl, rfl⟩
      go_wp2_with fail
      refine (C2.out _ T).mono ?_
      rintro e w1 ⟨rfl, b1⟩
      go_wp2_with fail
      refine (C3.out _ (T.on b1)).mono ?_
      rintro e w2 ⟨rfl, b2⟩
      go_wp2_with fail
      refine (C4.out _ ((T.on b1).on b2)).mono ?_
      rintro e w3 ⟨rfl, b3⟩
      go_wp2_with fail
      go_ret2
      exact Pair.mk HR.out (below3 (below3 b1 b2) b3)
theorem encode_3 (s : ByteArray) (hs : s.size ≤ 34359738368) (w : World) (T : Tabs w) :
    Calls Tryz.prog 107 #[.int .i64 3, .string s] w (Pair (enc 3 s.data.toList) w) := by
  have C0 := Lib.hid (fun W => last_any 3 W)
  rw [show lastL 3 = 1114111 from rfl] at C0
  have C2 := Lib.hid (fun W (TW : Tabs W) => valid_any s W (by omega) TW)
  have C3 := Lib.hid (fun W (TW : Tabs W) => within_any s 1114111 W TW)
  rw [within_all] at C3
  have HD : Hid (enc 3 s.data.toList = if Lib.validD s.data.toList = true then (s.data.toList, 0) else ([], 3)) := Lib.hid (by unfold enc; rw [if_neg (by decide), if_pos rfl])
  cases hv : Lib.validD s.data.toList with
  | false =>
    rw [hv] at C2 HD
    have HR := Lib.hid (show enc 3 s.data.toList = ([], 3) by rw [HD.out, if_neg (by simp)])
    clear HD hv
    go_enter Tryz.func107, Tryz.ntmps107
    go_wp2_with fail
    refine (C0.out _).mono ?_
    rintro e w0 ⟨rfl, rfl⟩
    go_wp2_with fail
    refine (C2.out _ T).mono ?_
    rintro e w1 ⟨rfl, b1⟩
    go_wp2_with fail
    go_ret2
    exact Pair.mk HR.out b1
  | true =>
    rw [hv] at C2 HD
    have HR := Lib.hid (show enc 3 s.data.toList = (s.data.toList, 0) by rw [HD.out, if_pos rfl])
    clear HD hv
    go_enter Tryz.func107, Tryz.ntmps107
    go_wp2_with fail
    refine (C0.out _).mono ?_
    rintro e w0 ⟨rfl, rfl⟩
    go_wp2_with fail
    refine (C2.out _ T).mono ?_
    rintro e w1 ⟨rfl, b1⟩
    go_wp2_with fail
    refine (C3.out _ (T.on b1)).mono ?_
    rintro e w2 ⟨rfl, b2⟩
    go_wp2_with fail
    go_ret2
    exact Pair.own HR.out (below3 b1 b2)
theorem encode_turns (k : Int) (s : ByteArray) (hs : s.size ≤ 34359738368) (w : World) (T : Tabs w) :
    Calls Tryz.prog 107 #[.int .i64 k, .string s] w (Pair (enc k s.data.toList) w) := by
  by_cases h12 : k = 1 ∨ k = 2
  · exact encode_12 k _ h12 rfl s hs w T
  · by_cases h3 : k = 3
    · subst h3; exact encode_3 s hs w T
    · exact encode_X k (by omega) (by omega) h3 s w

theorem least_here {l : List UInt8} {k : Int} (h1 : 1 ≤ k) (h3 : k ≤ 3) (hb : ∀ j, 1 ≤ j → j < k → ¬ (enc j l).2 = 0) (h : (enc k l).2 = 0) : least l = k := by
  unfold least
  rcases (by omega : k = 1 ∨ k = 2 ∨ k = 3) with rfl | rfl | rfl
  · rw [if_pos h]
  · rw [if_neg (hb 1 (by omega) (by omega)), if_pos h]
  · rw [if_neg (hb 1 (by omega) (by omega)), if_neg (hb 2 (by omega) (by omega)), if_pos h]
theorem least_none {l : List UInt8} (hb : ∀ j, 1 ≤ j → j < 4 → ¬ (enc j l).2 = 0) : least l = 0 := by
  unfold least
  rw [if_neg (hb 1 (by omega) (by omega)), if_neg (hb 2 (by omega) (by omega)), if_neg (hb 3 (by omega) (by omega))]

set_option maxHeartbeats 800000 in
theorem least_any (s : ByteArray) (hs : s.size ≤ 34359738368) (w : World) (T : Tabs w) :
    Calls Tryz.prog 59 #[.string s] w fun e w' => e = .returned (.int .i64 (least s.data.toList)) ∧ Below w.heap.size w w' := by
  have C := Lib.hid (fun k W (TW : Tabs W) => encode_turns k s hs W TW)
  obtain ⟨r, hr⟩ : ∃ r, least s.data.toList = r := ⟨_, rfl⟩
  have HH : Hid (∀ k, 1 ≤ k → k ≤ 3 → (∀ j, 1 ≤ j → j < k → ¬ (enc j s.data.toList).2 = 0) → (enc k s.data.toList).2 = 0 → r = k) := Lib.hid (fun k h1 h3 hb h => by rw [← hr]; exact least_here h1 h3 hb h)
  have HN : Hid ((∀ j, 1 ≤ j → j < 4 → ¬ (enc j s.data.toList).2 = 0) → r = 0) := Lib.hid (fun hb => by rw [← hr]; exact least_none hb)
  rw [hr]
  clear hr
  unfold Pair at C
  generalize s.data.toList = l at *
  go_enter Tryz.func59, Tryz.ntmps59
  go_wp2_with fail
  go_loopw [3] (fun iv wr => ∃ k : Int, iv = .int .i64 k ∧ 1 ≤ k ∧ k ≤ 4 ∧ Hid (∀ j, 1 ≤ j → j < k → ¬ (enc j l).2 = 0) ∧ Below w.heap.size w wr) (fun iv _ => (4 - intOf iv).toNat)
  case atStart => exact ⟨1, rfl, by omega, by omega, Lib.hid (fun j h1 h2 => by omega), Below.refl _ _⟩
  case round =>
    obtain ⟨k, rfl, k1, k4, hj, hbel⟩ := hrel
    have TW := T.on hbel
    by_cases hlt : k ≤ 3
    · obtain ⟨en, hen⟩ : ∃ en, (enc k l).2 = en := ⟨_, rfl⟩
      have CK := Lib.hid (C.out k wr TW)
      rw [hen] at CK
      generalize (enc k l).1.toArray = a at CK
      by_cases he : en = 0
      · subst he
        obtain rfl := HH.out k k1 hlt hj.out hen
        clear hen
        go_wp2_with fail
        refine CK.out.mono ?_
        rintro e w2 ⟨rfl, b2⟩
        go_wp2_with fail
        go_ret
        exact ⟨rfl, hbel.trans (b2.mono hbel.size)⟩
      · have hf : (en == 0) = false := by simpa using he
        have HF := Lib.hid (show ∀ j, 1 ≤ j → j < k + 1 → ¬ (enc j l).2 = 0 from fun j h1 h2 => by
          by_cases e : j = k
          · rw [e, hen]; exact he
          · exact hj.out j h1 (by omega))
        clear he hen
        go_wp2_with fail
        refine CK.out.mono ?_
        rintro e w2 ⟨rfl, b2⟩
        go_wp2_with fail
        go_roundw
        case rel => exact ⟨k + 1, by go_num, by omega, by omega, HF, hbel.trans (b2.mono hbel.size)⟩
        case measure => simp [intOf]; omega
    · obtain rfl : k = 4 := by omega
      obtain rfl := HN.out hj.out
      go_wp2_with fail
      go_ret
      exact ⟨rfl, hbel⟩
end Go.Proofs.YtpdodknldhbbhaaGreatDoor.Cs
