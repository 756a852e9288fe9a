/-
slices.All over a slice of texts is an iterator of them, each with its place. Conditions: the slice has at most maxLen texts.
-/
import Derived.Test.YtcclicgjklmihaaLnNum
namespace Go.Proofs.Ytcclicgjklmihaa.Ln
open Go.RowKit Strs Sq
attribute [local go_sem] Oper.semAt_some

theorem all_any (a : Option Addr) (n cap : Nat) (w : World) :
    Calls Try.prog 23 #[.slice a n cap] w fun e w' => e = .returned (.func (.func 32) #[] #[.pointer (some ⟨w.heap.size, 0, none⟩)]) ∧ w' = w.alloc (.cells #[.slice a n cap] 22) := by
  go_enter Try.func23, Try.ntmps23
  go_wp2
  go_ret
  exact ⟨rfl, rfl⟩
theorem eg_all (args : Array Value) (w : World) : (callFunc 32 args).run Try.prog w = .ok (.enter 32 args) w := enters_of Try.func32 (by kernel_rfl) rfl args w
theorem num_next (l : List (List UInt8)) (i : Nat) (h : i < l.length) : (num 0 l).take i ++ [(i, l[i])] = (num 0 l).take (i + 1) := by
  rw [List.take_add_one, num_get 0 l i h]; simp
theorem num_pre (l : List (List UInt8)) (i : Nat) (h : i < l.length) : (num 0 l).take i ++ [(i, l[i])] <+: num 0 l := by rw [num_next l i h]; exact List.take_prefix _ _
theorem num_all (l : List (List UInt8)) (i : Nat) (h : ¬ i < l.length) : (num 0 l).take i = num 0 l := List.take_of_length_le (by rw [num_length]; omega)

theorem reads_stays {O : Nat → Prop} {w w' : World} {v : Value} {l : List (List UInt8)} (h : Reads w v l) (hS : Stays O w w') (hv : ∀ g, l ≠ [] → v.ownBlock = some g → O g) : Reads w' v l := by
  obtain ⟨a, cap, rfl, hc, b, o, h1, h2⟩ := h
  refine ⟨a, cap, rfl, hc, b, o, fun hl => ⟨(h1 hl).1, by have := (h1 hl).2; have := hS.size; omega⟩, fun i hi => ?_⟩
  have hne : l ≠ [] := fun e => by rw [e] at hi; simp at hi
  obtain ⟨rfl, hb'⟩ := h1 hne
  exact (World.cell?_of_block (a := ⟨b, o + i, none⟩) (hS.block b (hv b hne rfl))).trans (h2 i hi)
/-- The blocks that it reads. -/
def AllR (B : Nat) (v : Value) (ts : List (List UInt8)) : Nat → Prop := fun k => k = B ∨ (ts ≠ [] ∧ v.ownBlock = some k)
theorem allR_lt {B : Nat} {v : Value} {ts : List (List UInt8)} {w : World} {n : Nat} (h : Reads w v ts) (hB : B < n) (hn : w.heap.size ≤ n) : ∀ k, AllR B v ts k → k < n := by
  rintro k (rfl | ⟨hne, hk⟩)
  · exact hB
  · obtain ⟨a, cap, rfl, _, b, o, h1, _⟩ := h
    obtain ⟨rfl, hb⟩ := h1 hne
    simp [Value.ownBlock] at hk
    omega

set_option maxRecDepth 100000 in
set_option maxHeartbeats 2000000 in
theorem all_sq (v : Value) (ts : List (List UInt8)) (hn : ts.length ≤ maxLen) (B : Nat) (w : World) (hB : Boxed w B 22 v) (hr : Reads w v ts) :
    Sq Try.prog 32 #[.pointer (some ⟨B, 0, none⟩)] encL (AllR B v ts) (num 0 ts) w := by
  refine sq_plain ?_
  intro y J Jx W hy hR hJ _ hY hJ0
  unfold maxLen at hn
  have hB := hR.boxed (show AllR B v ts B from .inl rfl) hB
  have hr := reads_stays hr hR (fun g hne e => .inr ⟨hne, e⟩)
  have HY := Lib.hid hY
  have hstep : ∀ A C : World, Stays (AllR B v ts) A C → Boxed A B 22 v → Reads A v ts → Boxed C B 22 v ∧ Reads C v ts := fun A C hS h1 h2 => ⟨hS.boxed (.inl rfl) h1, reads_stays h2 hS (fun g hne e => .inr ⟨hne, e⟩)⟩
  have HS := Lib.hid hstep
  clear hY hJ hR hstep
  obtain ⟨a, cap, rfl⟩ := hr.shape
  refine (callsIn_wide (n := 5)).1 ?_
  refine callsIn_of_wp Try.func32 rfl trivial ?_ rfl
  simp only [Try.ntmps32, List.size_toArray, List.length_cons, List.length_nil, Nat.reduceAdd, Nat.reduceSub, Array.replicate_succ, Array.replicate_zero, List.push_toArray, List.append_toArray, List.nil_append, List.cons_append]
  have hc := hB.cell
  rcases hy with ⟨l, rfl⟩ | ⟨g, ca, rfl, eg⟩
  all_goals
    gi_wp2_with fail
    clear hc
    gi_loopw [7] (fun iv wr => ∃ (i : Nat), iv = .int .i64 (i : Int) ∧ i ≤ ts.length ∧ Boxed wr B 22 (.slice a ts.length cap) ∧ Reads wr (.slice a ts.length cap) ts ∧ J ((num 0 ts).take i) wr) (fun iv _ => ts.length - (intOf iv).toNat)
    case atStart => exact ⟨0, rfl, Nat.zero_le _, hB, hr, hJ0⟩
    case round =>
      obtain ⟨i, rfl, hi, hB, hr, hJ⟩ := hrel
      by_cases hlt : i < ts.length
      · have HP := Lib.hid (num_next ts i hlt)
        have T := HY.out _ (i, ts[i]) _ hJ (num_pre ts i hlt)
        unfold encL at T
        dsimp only at T
        obtain ⟨_, b, o, rfl, hb, hcell⟩ := hr.at_ i hlt
        first | (obtain ⟨fn, tmps, assign, body, hy, hR⟩ := T.loop 4) | (have hR := (callsIn_wide (n := 4)).2 T.named)
        clear T
        generalize hx : ts[i] = x at hcell HP hR
        try rw [hx] at hy
        clear hx
        have hi64 : (i : Int) < (ts.length : Int) := by omega
        gi_wp2_with fail
        first | refine hR.mono ?_ | refine ⟨trivial, hR.mono ?_⟩
        rintro e W3 ⟨hS3, ⟨rfl, hJ3⟩ | ⟨rfl, hJx3⟩⟩
        · obtain ⟨hB3, hr3⟩ := HS.out _ _ hS3 hB hr
          clear hR hcell
          try clear hy
          rw [HP.out] at hJ3
          gi_wp2_with fail
          go_roundw
          case rel => exact ⟨i + 1, by go_num, by omega, hB3, hr3, hJ3⟩
          case measure => simp [intOf]; omega
        · gi_wp2_with fail
          refine bodyPost_ret (results_none rfl _ _ _) rfl ?_
          exact ⟨⟨_, rfl⟩, .inr ⟨_, by rw [HP.out]; exact List.take_prefix _ _, hJx3⟩⟩
      · have hE := Lib.hid (num_all ts i hlt)
        gi_wp2_with fail
        go_end0
        exact ⟨⟨_, rfl⟩, .inl (by rw [← hE.out]; exact hJ)⟩
end Go.Proofs.Ytcclicgjklmihaa.Ln
