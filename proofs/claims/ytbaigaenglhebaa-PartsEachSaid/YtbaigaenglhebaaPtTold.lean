/-
told is an iterator of a value's parts, up to what is wrong, which comes last with its place. Conditions: the text has at most 2^40 bytes.
-/
import Derived.Test.YtbaigaenglhebaaPtAt
import Derived.TacticsInMore
import Derived.LoopNIn
import Derived.LoopIn
import Derived.Shelf.RegionOpen
namespace Go.Proofs.Ytbaigaenglhebaa.Pt
open Go.RowKit Strs Sq
attribute [local go_sem] Oper.semAt_some

/-- What a part is told as. -/
def encP (x : List UInt8 × Int) : Array Value := #[.string ⟨x.1.toArray⟩, .int .i64 x.2]

theorem told_any (s : ByteArray) (w : World) :
    Calls Try.prog 26 #[.string s] w fun e w' => e = .returned (.func (.func 34) #[] #[.pointer (some ⟨w.heap.size, 0, none⟩)]) ∧ w' = w.alloc (.cells #[.string s] 9) := by
  go_enter Try.func26, Try.ntmps26
  go_wp2
  go_ret
  exact ⟨rfl, rfl⟩
theorem eg_told (args : Array Value) (w : World) : (callFunc 34 args).run Try.prog w = .ok (.enter 34 args) w := enters_of Try.func34 (by kernel_rfl) rfl args w

/-- What is still to be told, from the place k on. -/
def rest (s : ByteArray) (k : Nat) : List (List UInt8 × Int) := if k ≤ s.size then told (sm (s.data.toList.drop k) [] k) else []
/-- One part is told: where it goes on, or where it ends. -/
theorem tell (s : ByteArray) (k : Nat) (hk : k ≤ s.size) {pre all : List (List UInt8 × Int)} (hp : pre ++ rest s k = all) :
    (∃ p n, pa (s.data.toList.drop k) [] k = (p, n, true) ∧ k ≤ n ∧ n ≤ s.size ∧ (pre ++ [(p, -1)]) ++ rest s (n + 1) = all) ∨
    (∃ n, pa (s.data.toList.drop k) [] k = ([], n, false) ∧ n ≤ s.size ∧ pre ++ [([], (n : Int))] = all) := by
  have hlen : (s.data.toList.drop k).length = s.size - k := by rw [List.length_drop, list_size]
  unfold rest at hp
  rw [if_pos hk] at hp
  rcases pa_sm (s.data.toList.drop k) [] k with ⟨p, n, h1, h2, h3⟩ | ⟨p, h1, h2⟩ | ⟨n, h1, h2, h3⟩
  · refine .inl ⟨p, k + n, h1, by omega, by omega, ?_⟩
    rw [← hp, h3, told_cons]
    unfold rest
    rw [if_pos (by omega), List.drop_drop, List.append_assoc]
    rfl
  · refine .inl ⟨p, k + (s.data.toList.drop k).length, h1, by omega, by omega, ?_⟩
    rw [← hp, h2, told_one]
    unfold rest
    rw [if_neg (by omega), List.append_nil]
  · refine .inr ⟨k + n, h1, by omega, ?_⟩
    rw [← hp, h3, told_wrong]

set_option maxRecDepth 100000 in
set_option maxHeartbeats 2000000 in
theorem told_sq (s : ByteArray) (hs : s.size ≤ 1099511627776) (B : Nat) (w : World) (hB : Boxed w B 9 (.string s)) :
    Sq Try.prog 34 #[.pointer (some ⟨B, 0, none⟩)] encP (fun k => k = B) (told (parts s.data.toList)) w := by
  refine sq_plain ?_
  intro y J Jx W hy hR hJ _ hY hJ0
  have hB := hR.boxed (show (fun k => k = B) B from rfl) hB
  have HY := Lib.hid hY
  have HJ := Lib.hid hJ
  obtain ⟨all, hall⟩ : ∃ all, told (parts s.data.toList) = all := ⟨_, rfl⟩
  rw [hall] at HY ⊢
  have h0 : [] ++ rest s 0 = all := by rw [← hall]; unfold rest; rw [if_pos (Nat.zero_le _), List.drop_zero]; rfl
  clear hY hJ hR
  refine (callsIn_wide (n := 5)).1 ?_
  refine callsIn_of_wp Try.func34 rfl trivial ?_ rfl
  simp only [Try.ntmps34, List.size_toArray, List.length_cons, List.length_nil, Nat.reduceAdd, Nat.reduceSub, Array.replicate_succ, Array.replicate_zero, List.push_toArray, List.append_toArray, List.nil_append, List.cons_append]
  rcases hy with ⟨l, rfl⟩ | ⟨g, ca, rfl, eg⟩
  all_goals
    gi_wp2_with fail
    gi_loopw [3] (fun kv wr => ∃ (k : Nat) (pre : List (List UInt8 × Int)), kv = .int .i64 (k : Int) ∧ k ≤ s.size + 1 ∧ Hid (pre ++ rest s k = all) ∧ Boxed wr B 9 (.string s) ∧ J pre wr) (fun kv _ => s.size + 1 - (intOf kv).toNat)
    case atStart => exact ⟨0, [], rfl, Nat.zero_le _, Lib.hid h0, hB, hJ0⟩
    case round =>
      obtain ⟨k, pre, rfl, hk, hp, hB, hJ⟩ := hrel
      have hc := hB.cell
      by_cases hlt : k ≤ s.size
      · have hk1 : (k : Int) ≤ (s.size : Int) := by omega
        have C := Lib.hid (fun W => partAt_any s hs k hlt W)
        rcases tell s k hlt hp.out with ⟨p, n, h1, h2, h3, h4⟩ | ⟨n, h1, h3, h4⟩
        · rw [h1] at C
          unfold ansP at C
          dsimp only at C
          have HP := Lib.hid h4
          have hn1 : (n : Int) ≤ (s.size : Int) := by omega
          clear h1 h4
          gi_wp2_with (refine ⟨trivial, ?_⟩; gi_at_call 35; refine (callsIn_wide.2 (C.out _)).mono ?_; rintro e w1 ⟨rfl, b1⟩; have hJ1 := HJ.out _ _ _ hJ b1; have hB1 : Boxed w1 B 9 (.string s) := (b1.block B hB.lt).trans hB; have T := HY.out pre (p, -1) _ hJ1 ⟨_, HP.out⟩; unfold encP at T; dsimp only at T; first | (obtain ⟨fn, tmps, assign, body, hy, hR⟩ := T.loop 4) | (have hR := (callsIn_wide (n := 4)).2 T.named); clear T)
          first | refine hR.mono ?_ | refine ⟨trivial, hR.mono ?_⟩
          rintro e W3 ⟨hS3, ⟨rfl, hJ3⟩ | ⟨rfl, hJx3⟩⟩
          · have hB3 := hS3.boxed (show (fun k => k = B) B from rfl) hB1
            clear hR
            try clear hy
            gi_wp2_with fail
            go_roundw
            case rel => exact ⟨n + 1, _, by go_num, by omega, HP, hB3, hJ3⟩
            case measure => simp [intOf]; omega
          · gi_wp2_with fail
            refine bodyPost_ret (results_none rfl _ _ _) rfl ?_
            exact ⟨⟨_, rfl⟩, .inr ⟨_, ⟨_, HP.out⟩, hJx3⟩⟩
        · rw [h1] at C
          unfold ansP at C
          dsimp only at C
          have HP := Lib.hid h4
          clear h1 h4
          gi_wp2_with (refine ⟨trivial, ?_⟩; gi_at_call 35; refine (callsIn_wide.2 (C.out _)).mono ?_; rintro e w1 ⟨rfl, b1⟩; have hJ1 := HJ.out _ _ _ hJ b1; have hB1 : Boxed w1 B 9 (.string s) := (b1.block B hB.lt).trans hB; have T := HY.out pre ([], (n : Int)) _ hJ1 ⟨[], by rw [List.append_nil]; exact HP.out⟩; unfold encP at T; dsimp only at T; first | (obtain ⟨fn, tmps, assign, body, hy, hR⟩ := T.loop 4) | (have hR := (callsIn_wide (n := 4)).2 T.named); clear T)
          first | refine hR.mono ?_ | refine ⟨trivial, hR.mono ?_⟩
          rintro e W3 ⟨hS3, ⟨rfl, hJ3⟩ | ⟨rfl, hJx3⟩⟩
          · gi_wp2_with fail
            refine bodyPost_ret (results_none rfl _ _ _) rfl ?_
            exact ⟨⟨_, rfl⟩, .inl (by rw [← HP.out]; exact hJ3)⟩
          · gi_wp2_with fail
            refine bodyPost_ret (results_none rfl _ _ _) rfl ?_
            exact ⟨⟨_, rfl⟩, .inr ⟨_, ⟨[], by rw [List.append_nil]; exact HP.out⟩, hJx3⟩⟩
      · have hk1 : ¬ (k : Int) ≤ (s.size : Int) := by omega
        have hr : rest s k = [] := by unfold rest; rw [if_neg hlt]
        have hE := Lib.hid (show pre = all by rw [← hp.out, hr, List.append_nil])
        gi_wp2_with fail
        go_end0
        exact ⟨⟨_, rfl⟩, .inl (by rw [← hE.out]; exact hJ)⟩
end Go.Proofs.Ytbaigaenglhebaa.Pt
