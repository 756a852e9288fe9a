/-
figure.Digits is an iterator of a number's text: all its bytes in order, or a beginning of them where a round says no more. Conditions: none.
-/
import Derived.Test.YtogdnjanfmapeaaRows
import Derived.Test.YtogdnjanfmapeaaFigTextMath
import Derived.RangeFuncNested
import Derived.RangeFuncBound
import Derived.RangeFuncCalls
import Derived.RangeFuncLeaves
import Derived.RangeFuncBox
import Derived.Shelf.Abstract
import Derived.Shelf.RegionOpen
import Derived.WalkKit
import Derived.OwnWalkIn
import Derived.TacticsInMore
import Derived.LoopNIn
import Derived.LoopIn
import Derived.OpenShut
namespace Go.Proofs.Ytogdnjanfmapeaa.Fig
open Go.RowKit Go.Shelf
attribute [local go_sem] Oper.semAt_some

theorem ret_u64 {a b : Int} (h : a = b) : Ending.returned (.int .u64 a) = .returned (.int .u64 b) := by rw [h]
theorem size_any (n : Int) (w : World) (h0 : -9223372036854775808 ≤ n) (h1 : n ≤ 9223372036854775807) :
    Calls Try.prog 21 #[.int .i64 n] w fun e w' => e = .returned (.int .u64 (n.natAbs : Int)) ∧ w = w' := by
  by_cases hn : n < 0
  · go_enter Try.func21, Try.ntmps21
    go_wp2
    go_ret
    refine ⟨ret_u64 ?_, rfl⟩
    rw [IntKind.wrap_u64, IntKind.wrap_u64]; omega
  · go_enter Try.func21, Try.ntmps21
    go_wp2
    go_ret
    refine ⟨ret_u64 ?_, rfl⟩
    omega

theorem unit_step {m j : Nat} (h : 10 ≤ m / 10 ^ j) : 10 ^ (j + 1) ≤ m := by
  rw [Nat.pow_succ, Nat.mul_comm]
  exact (Nat.le_div_iff_mul_le (pow_pos' j)).1 h
theorem unit_end {m j : Nat} (h : m / 10 ^ j < 10) : m < 10 ^ (j + 1) := by
  rw [Nat.pow_succ, Nat.mul_comm]
  exact (Nat.div_lt_iff_lt_mul (pow_pos' j)).1 h

set_option maxHeartbeats 400000 in
theorem unit_any (m : Nat) (w : World) (hm : m < 18446744073709551616) :
    Calls Try.prog 22 #[.int .u64 (m : Int)] w fun e w' => e = .returned (.int .u64 ((10 ^ (wid m - 1) : Nat) : Int)) ∧ w = w' := by
  go_enter Try.func22, Try.ntmps22
  go_wp2
  go_loop [3] (fun u => ∃ j t : Nat, Hid (t = 10 ^ j) ∧ (j = 0 ∨ t ≤ m) ∧ 1 ≤ t ∧ u = .int .u64 (t : Int)) (fun u => m + 1 - (intOf u).toNat)
  case atStart => exact ⟨0, 1, rfl, .inl rfl, by omega, rfl⟩
  case round =>
    obtain ⟨j, t, ht, hj, h1, rfl⟩ := hrel
    obtain ⟨q, hq⟩ : ∃ q, m / t = q := ⟨_, rfl⟩
    have hqm : q ≤ m := by rw [← hq]; exact Nat.div_le_self _ _
    have hqi : IntKind.u64.wrap ((m : Int) / (t : Int)) = (q : Int) := by
      rw [← Int.natCast_ediv, hq]; exact IntWalk.u64_in _ (by omega)
    by_cases hd : 10 ≤ q
    · have hs := unit_step (by rw [← ht.out, hq]; exact hd : 10 ≤ m / 10 ^ j)
      have hs' : t * 10 ≤ m := by rw [ht.out, ← Nat.pow_succ]; exact hs
      have ht2 : IntKind.u64.wrap ((t : Int) * 10) = (t : Int) * 10 := IntWalk.u64_in _ (by clear hqi; omega)
      clear hs hq
      go_wp2
      go_round
      case rel => exact ⟨j + 1, t * 10, by show _ = _; rw [ht.out, ← Nat.pow_succ], .inr hs', by clear hqi ht2; omega, by go_num⟩
      case measure => clear hqi ht2; simp [intOf]; omega
    · have he := unit_end (by rw [← ht.out, hq]; omega : m / 10 ^ j < 10)
      have hwd := wid_unique hm (by rw [← ht.out]; exact hj) he
      have hfin : ((10 ^ (wid m - 1) : Nat) : Int) = (t : Int) := by rw [hwd, Nat.add_sub_cancel, ← ht.out]
      have HF := Lib.hid hfin
      clear hwd he hq hfin
      go_wp2
      go_ret
      exact ⟨ret_u64 HF.out.symm, rfl⟩

/-- The box at block B holds n still. -/
def KeepsBox (n : Int) (B : Nat) (W W' : World) : Prop := Boxed W B 3 (.int .i64 n) → Boxed W' B 3 (.int .i64 n)
theorem KeepsBox.t {n : Int} {B : Nat} {A C D : World} (h : KeepsBox n B A C) (k : KeepsBox n B C D) : KeepsBox n B A D := fun hh => k (h hh)
theorem KeepsBox.b {n : Int} {B : Nat} (W : World) (l : Nat) (o o' : Obj) (hl : W.heap[l]? = some o) (hc : o.isCells = false) : KeepsBox n B W (W.putObj l o') := fun hh => by
  have hne : B ≠ l := by rintro rfl; unfold Boxed at hh; rw [hl] at hh; cases hh; simp [Obj.isCells] at hc
  show (W.putObj l o').heap[B]? = _
  rw [World.putObj_heap_other hne]; exact hh

/-- The unit that stands before the last j digits. -/
def unitOf : Nat → Nat
  | 0 => 0
  | j + 1 => 10 ^ j
theorem unitOf_div (j : Nat) : unitOf (j + 1) / 10 = unitOf j := by
  cases j with
  | zero => rfl
  | succ j => exact unit_div j

theorem unitOf_le {m i : Nat} (hm : m < 18446744073709551616) (hj : i + 1 ≤ wid m) : unitOf (i + 1) ≤ 18446744073709551615 := by
  have h := wid_le m hm
  have h2 : 10 ^ i ≤ 10 ^ 19 := Nat.pow_le_pow_right (by decide) (by omega)
  have h3 : (10 : Nat) ^ 19 ≤ 18446744073709551615 := by decide +kernel
  exact Nat.le_trans h2 h3
/-- The sign. -/
def sgn (n : Int) : List UInt8 := if n < 0 then [45] else []
theorem txt_eq (n : Int) : txt n = sgn n ++ low n.natAbs (wid n.natAbs) := rfl

theorem digits_any (n : Int) (w : World) :
    Calls Try.prog 9 #[.int .i64 n] w fun e w' => e = .returned (.func (.func 20) #[] #[.pointer (some ⟨w.heap.size, 0, none⟩)]) ∧ w' = w.alloc (.cells #[.int .i64 n] 3) := by
  go_enter Try.func9, Try.ntmps9
  go_wp2
  go_ret
  exact ⟨rfl, rfl⟩

set_option maxRecDepth 100000 in
set_option maxHeartbeats 1000000 in
theorem digits1_in (d : Nat) (hd : 1 ≤ d) (l B : Nat) (n : Int) (h0 : -9223372036854775808 ≤ n) (h1 : n ≤ 9223372036854775807) (J Jx : List UInt8 → World → Prop)
    (hY : ∀ pre x W, J pre W → pre.length < (txt n).length → YieldAt Fence.wide (d - 1) Try.prog l #[.int .u8 (x.toNat : Int)] W fun e W' =>
      (e = .returned (.bool true) ∧ J (pre ++ [x]) W' ∧ KeepsBox n B W W') ∨ (e = .returned (.bool false) ∧ Jx (pre ++ [x]) W'))
    (W : World) (hB : Boxed W B 3 (.int .i64 n)) (hJ0 : J [] W) :
    CallsIn Fence.wide d Try.prog 20 #[.func (.yield l) #[] #[], .pointer (some ⟨B, 0, none⟩)] W fun e W' => (∃ v, e = .returned v) ∧
      ((∃ ys, ys = txt n ∧ J ys W') ∨ (∃ pre, pre <+: txt n ∧ Jx pre W')) := by
  have HY := Lib.hid hY
  clear hY
  have hc := hB.cell
  refine callsIn_of_wp Try.func20 rfl trivial ?_ rfl
  simp only [Try.ntmps20, List.size_toArray, List.length_cons, List.length_nil, Nat.reduceAdd, Nat.reduceSub, Array.replicate_succ, Array.replicate_zero, List.push_toArray, List.append_toArray, List.nil_append, List.cons_append]
  obtain ⟨m, hmn⟩ : ∃ m, n.natAbs = m := ⟨_, rfl⟩
  have hm : m < 18446744073709551616 := by omega
  have HT : Hid (txt n = sgn n ++ low m (wid m)) := by show _ = _; rw [← hmn]; rfl
  have HM := Lib.hid hmn
  have CS : Hid (∀ V : World, Calls Try.prog 21 #[.int .i64 n] V fun e w' => e = .returned (.int .u64 (m : Int)) ∧ V = w') := fun V => by rw [← hmn]; exact size_any n V h0 h1
  obtain ⟨t0, ht00⟩ : ∃ t, 10 ^ (wid m - 1) = t := ⟨_, rfl⟩
  have CU : Hid (∀ V : World, Calls Try.prog 22 #[.int .u64 (m : Int)] V fun e w' => e = .returned (.int .u64 (t0 : Int)) ∧ V = w') := fun V => by rw [← ht00]; exact unit_any m V hm
  have ht0 : Hid (t0 = unitOf (wid m)) := by
    show t0 = unitOf (wid m)
    obtain ⟨k, hk⟩ : ∃ k, wid m = k + 1 := ⟨wid m - 1, by have := wid_pos m; omega⟩
    rw [← ht00, hk]; rfl
  clear ht00
  by_cases hn : n < 0
  · have HS : Hid (sgn n = [45]) := if_pos hn
    obtain ⟨fn, tmps, assign, body, hy, hR⟩ := HY.out [] 45 W hJ0 (txt_pos n)
    have hy' : (Instr.yield l #[.int .u8 45]).run Try.prog W = .ok (.round l fn tmps assign body) W := hy
    clear hy
    clear hmn
    gi_wp2_with fail
    refine hR.mono ?_
    rintro e W1 (⟨rfl, hJ1, hk1⟩ | ⟨rfl, hJx1⟩)
    · have hB1 := hk1 hB
      have hJs : J (sgn n) W1 := by rw [HS.out]; exact hJ1
      clear hy' hR hJ1 hk1 hB hc hJ0
      have hc1 := hB1.cell
      gi_wp2_with (first | (refine ⟨trivial, ?_⟩; gi_at_call 21; refine (callsIn_wide.2 (CS.out _)).mono ?_; rintro e w' ⟨rfl, rfl⟩) | (refine ⟨trivial, ?_⟩; gi_at_call 22; refine (callsIn_wide.2 (CU.out _)).mono ?_; rintro e w' ⟨rfl, rfl⟩))
      clear hc1 hB1
      gi_loopw [4] (fun u wr => ∃ (j t : Nat) (pre : List UInt8), j ≤ wid m ∧ Hid (t = unitOf j) ∧ u = .int .u64 (t : Int) ∧ Hid (sgn n ++ low m (wid m) = pre ++ low m j) ∧ J pre wr) (fun u _ => (intOf u).toNat)
      case atStart => exact ⟨wid m, t0, sgn n, Nat.le_refl _, ht0, rfl, rfl, hJs⟩
      case round =>
        obtain ⟨j, t, pre, hj, ht, rfl, hp, hJ⟩ := hrel
        cases j with
        | zero =>
          obtain rfl : t = 0 := ht.out
          gi_wp2_with fail
          go_end0
          exact ⟨⟨_, rfl⟩, .inl ⟨pre, by rw [HT.out, hp.out]; simp [low], hJ⟩⟩
        | succ i =>
          have ht1 : 1 ≤ t := by rw [ht.out]; exact pow_pos' i
          have ht2 : t ≤ 18446744073709551615 := by rw [ht.out]; exact unitOf_le hm hj
          have hlen : pre.length < (txt n).length := by rw [HT.out, hp.out]; simp [low]
          obtain ⟨fn2, tmps2, assign2, body2, hy2, hR2⟩ := HY.out pre (dig m i) wr hJ hlen
          obtain ⟨q, hq⟩ : ∃ q, m / t = q := ⟨_, rfl⟩
          have hqm : q ≤ m := by rw [← hq]; exact Nat.div_le_self _ _
          have hdig : ((dig m i).toNat : Int) = 48 + (q : Int) % 10 := by
            rw [dig_toNat, show (10 ^ i : Nat) = t from ht.out.symm, hq]; omega
          rw [hdig] at hy2
          have hqi : IntKind.u64.wrap ((m : Int) / (t : Int)) = (q : Int) := by
            rw [← Int.natCast_ediv, hq]; exact IntWalk.u64_in _ (by clear hdig; omega)
          clear hdig hlen hq
          have hpp : sgn n ++ low m (wid m) = (pre ++ [dig m i]) ++ low m i := by rw [hp.out]; simp [low]
          have HPP := Lib.hid hpp
          clear hpp
          gi_wp2_with fail
          refine hR2.mono ?_
          rintro e W3 (⟨rfl, hJ3, hk3⟩ | ⟨rfl, hJx3⟩)
          · clear hqi hy2 hR2
            have ht10 : t / 10 = unitOf i := by rw [ht.out, unitOf_div]
            have HT10 := Lib.hid ht10
            clear ht10
            gi_wp2_with fail
            go_roundw
            case rel => exact ⟨i, t / 10, pre ++ [dig m i], by omega, HT10, by go_num, HPP, hJ3⟩
            case measure => simp [intOf]; omega
          · gi_wp2_with fail
            refine bodyPost_ret (results_none rfl _ _ _) rfl ?_
            exact ⟨⟨_, rfl⟩, .inr ⟨pre ++ [dig m i], ⟨low m i, by rw [HT.out, HPP.out]⟩, hJx3⟩⟩
    · gi_wp2_with fail
      refine bodyPost_ret (results_none rfl _ _ _) rfl ?_
      exact ⟨⟨_, rfl⟩, .inr ⟨[45], ⟨low m (wid m), by rw [HT.out, HS.out]⟩, hJx1⟩⟩
  · have HS : Hid (sgn n = []) := if_neg hn
    have hB1 := hB
    have hJs : J (sgn n) W := by rw [HS.out]; exact hJ0
    clear hmn
    gi_wp2_with fail
    refine ⟨fun _ h => (by cases h), ?_⟩
    have hc1 := hB1.cell
    gi_wp2_with (first | (refine ⟨trivial, ?_⟩; gi_at_call 21; refine (callsIn_wide.2 (CS.out _)).mono ?_; rintro e w' ⟨rfl, rfl⟩) | (refine ⟨trivial, ?_⟩; gi_at_call 22; refine (callsIn_wide.2 (CU.out _)).mono ?_; rintro e w' ⟨rfl, rfl⟩))
    clear hc1 hB1
    gi_loopw [4] (fun u wr => ∃ (j t : Nat) (pre : List UInt8), j ≤ wid m ∧ Hid (t = unitOf j) ∧ u = .int .u64 (t : Int) ∧ Hid (sgn n ++ low m (wid m) = pre ++ low m j) ∧ J pre wr) (fun u _ => (intOf u).toNat)
    case atStart => exact ⟨wid m, t0, sgn n, Nat.le_refl _, ht0, rfl, rfl, hJs⟩
    case round =>
      obtain ⟨j, t, pre, hj, ht, rfl, hp, hJ⟩ := hrel
      cases j with
      | zero =>
        obtain rfl : t = 0 := ht.out
        gi_wp2_with fail
        go_end0
        exact ⟨⟨_, rfl⟩, .inl ⟨pre, by rw [HT.out, hp.out]; simp [low], hJ⟩⟩
      | succ i =>
        have ht1 : 1 ≤ t := by rw [ht.out]; exact pow_pos' i
        have ht2 : t ≤ 18446744073709551615 := by rw [ht.out]; exact unitOf_le hm hj
        have hlen : pre.length < (txt n).length := by rw [HT.out, hp.out]; simp [low]
        obtain ⟨fn2, tmps2, assign2, body2, hy2, hR2⟩ := HY.out pre (dig m i) wr hJ hlen
        obtain ⟨q, hq⟩ : ∃ q, m / t = q := ⟨_, rfl⟩
        have hqm : q ≤ m := by rw [← hq]; exact Nat.div_le_self _ _
        have hdig : ((dig m i).toNat : Int) = 48 + (q : Int) % 10 := by
          rw [dig_toNat, show (10 ^ i : Nat) = t from ht.out.symm, hq]; omega
        rw [hdig] at hy2
        have hqi : IntKind.u64.wrap ((m : Int) / (t : Int)) = (q : Int) := by
          rw [← Int.natCast_ediv, hq]; exact IntWalk.u64_in _ (by clear hdig; omega)
        clear hdig hlen hq
        have hpp : sgn n ++ low m (wid m) = (pre ++ [dig m i]) ++ low m i := by rw [hp.out]; simp [low]
        have HPP := Lib.hid hpp
        clear hpp
        gi_wp2_with fail
        refine hR2.mono ?_
        rintro e W3 (⟨rfl, hJ3, hk3⟩ | ⟨rfl, hJx3⟩)
        · clear hqi hy2 hR2
          have ht10 : t / 10 = unitOf i := by rw [ht.out, unitOf_div]
          have HT10 := Lib.hid ht10
          clear ht10
          gi_wp2_with fail
          go_roundw
          case rel => exact ⟨i, t / 10, pre ++ [dig m i], by omega, HT10, by go_num, HPP, hJ3⟩
          case measure => simp [intOf]; omega
        · gi_wp2_with fail
          refine bodyPost_ret (results_none rfl _ _ _) rfl ?_
          exact ⟨⟨_, rfl⟩, .inr ⟨pre ++ [dig m i], ⟨low m i, by rw [HT.out, HPP.out]⟩, hJx3⟩⟩

/-- The iterator's contract, as its callers take it. -/
theorem digits_stops (d : Nat) (hd : 1 ≤ d) (B : Nat) (n : Int) (h0 : -9223372036854775808 ≤ n) (h1 : n ≤ 9223372036854775807) (w : World) (hB : Boxed w B 3 (.int .i64 n)) :
    SeqStopsK Fence.wide d Try.prog 20 #[.pointer (some ⟨B, 0, none⟩)] (fun x : UInt8 => #[Value.int .u8 (x.toNat : Int)]) (KeepsBox n B) (fun ys => ys = txt n) (fun pre => pre <+: txt n) (txt n).length w :=
  fun l J Jx W hW _ _ hY hJ0 => digits1_in d hd l B n h0 h1 J Jx hY W ((hW.block B hB.lt).trans hB) hJ0
end Go.Proofs.Ytogdnjanfmapeaa.Fig
