/-
numbered is an iterator of a text's lines, each with its number. Conditions: the text has at most 2^40 bytes.
-/
import Derived.Test.YtcclicgjklmihaaLnCut
import Derived.TacticsInMore
import Derived.LoopNIn
import Derived.LoopIn
import Derived.Shelf.RegionOpen
namespace Go.Proofs.Ytcclicgjklmihaa.Ln
open Go.RowKit Strs Sq
attribute [local go_sem] Oper.semAt_some

/-- What a line is handed on as. -/
def encL (x : Nat × List UInt8) : Array Value := #[.int .i64 (x.1 : Int), .string ⟨x.2.toArray⟩]

theorem numbered_any (s : ByteArray) (w : World) :
    Calls Try.prog 19 #[.string s] w fun e w' => e = .returned (.func (.func 25) #[] #[.pointer (some ⟨w.heap.size, 0, none⟩)]) ∧ w' = w.alloc (.cells #[.string s] 9) := by
  go_enter Try.func19, Try.ntmps19
  go_wp2
  go_ret
  exact ⟨rfl, rfl⟩
theorem eg_numbered (args : Array Value) (w : World) : (callFunc 25 args).run Try.prog w = .ok (.enter 25 args) w := enters_of Try.func25 (by kernel_rfl) rfl args w

/-- One line is handed on: where the text that is left goes on, and where it ends. -/
theorem line_yes {t : List UInt8} {k : Nat} {pre all : List (Nat × List UInt8)} (h : t.idxOf 10 < t.length) (hp : pre ++ num k (split t) = all) :
    (pre ++ [(k, trimR (t.take (t.idxOf 10)))]) ++ num (k + 1) (split (t.drop (t.idxOf 10 + 1))) = all := by
  rw [← hp, split_yes h, List.append_assoc]; rfl
theorem line_no {t : List UInt8} {k : Nat} {pre all : List (Nat × List UInt8)} (h : ¬ t.idxOf 10 < t.length) (ht : t ≠ []) (hp : pre ++ num k (split t) = all) : pre ++ [(k, t)] = all := by
  rw [← hp, split_no h ht]; rfl
theorem line_end {t : List UInt8} {k : Nat} {pre all : List (Nat × List UInt8)} (ht : t = []) (hp : pre ++ num k (split t) = all) : pre = all := by
  rw [← hp, ht, split_nil]; simp [num]
theorem pre_of {pre r all : List (Nat × List UInt8)} {x : Nat × List UInt8} (h : (pre ++ [x]) ++ r = all) : pre ++ [x] <+: all := ⟨r, h⟩

set_option maxRecDepth 100000 in
set_option maxHeartbeats 2000000 in
theorem numbered_sq (s : ByteArray) (hs : s.size ≤ 1099511627776) (B : Nat) (w : World) (hB : Boxed w B 9 (.string s)) :
    Sq Try.prog 25 #[.pointer (some ⟨B, 0, none⟩)] encL (fun k => k = B) (num 1 (split s.data.toList)) w := by
  refine sq_plain ?_
  intro y J Jx W hy hR hJ _ hY hJ0
  have hB := hR.boxed (show (fun k => k = B) B from rfl) hB
  have HY := Lib.hid hY
  have HJ := Lib.hid hJ
  obtain ⟨all, hall⟩ : ∃ all, num 1 (split s.data.toList) = all := ⟨_, rfl⟩
  rw [hall] at HY ⊢
  clear hY hJ hR
  refine (callsIn_wide (n := 5)).1 ?_
  refine callsIn_of_wp Try.func25 rfl trivial ?_ rfl
  simp only [Try.ntmps25, List.size_toArray, List.length_cons, List.length_nil, Nat.reduceAdd, Nat.reduceSub, Array.replicate_succ, Array.replicate_zero, List.push_toArray, List.append_toArray, List.nil_append, List.cons_append]
  have hc := hB.cell
  rcases hy with ⟨l, rfl⟩ | ⟨g, ca, rfl, eg⟩
  all_goals
    gi_wp2_with fail
    clear hc
    gi_loopw [3, 4] (fun kv u wr => ∃ (k : Nat) (t : ByteArray) (pre : List (Nat × List UInt8)), kv = .int .i64 (k : Int) ∧ u = .string t ∧ Hid (pre ++ num k (split t.data.toList) = all) ∧ k + t.size ≤ s.size + 1 ∧ Boxed wr B 9 (.string s) ∧ J pre wr) (fun _ u _ => match u with | .string t => t.size | _ => 0)
    case atStart => exact ⟨1, s, [], rfl, rfl, Lib.hid (by rw [List.nil_append]; exact hall), by omega, hB, hJ0⟩
    case round =>
      obtain ⟨k, t, pre, rfl, rfl, hp, hts, hB, hJ⟩ := hrel
      by_cases h0 : t.data.toList = []
      · have hsne := str_none h0
        have hE := Lib.hid (line_end h0 hp.out)
        clear h0
        gi_wp2_with fail
        go_end0
        exact ⟨⟨_, rfl⟩, .inl (by rw [← hE.out]; exact hJ)⟩
      · have hsne := str_full h0
        by_cases hi : t.data.toList.idxOf 10 < t.data.toList.length
        · have HP := Lib.hid (line_yes hi hp.out)
          have C := Lib.hid (scut_yes t wr (by unfold maxLen; omega) hi)
          have hlen := list_size t
          have CT := Lib.hid (fun W => trim_any (t.extract 0 (t.data.toList.idxOf 10)) W (by rw [ByteArray.size_extract]; unfold maxLen; omega))
          have hx : (t.extract 0 (t.data.toList.idxOf 10)).data.toList = t.data.toList.take (t.data.toList.idxOf 10) := by rw [ext_to, mk_list]
          rw [hx] at CT
          rw [← ext_from] at HP
          rw [hlen] at hi
          have hsz : (t.extract (t.data.toList.idxOf 10 + 1) t.size).size = t.size - (t.data.toList.idxOf 10 + 1) := by rw [ByteArray.size_extract]; omega
          generalize t.data.toList.idxOf 10 = j at C CT HP hi hx hsz
          generalize trimR (t.data.toList.take j) = x at CT HP
          have HSZ := Lib.hid hsz
          clear hx hsz hlen h0
          gi_wp2_with (first
            | (refine ⟨trivial, ?_⟩; gi_at_call 26; refine (callsIn_wide.2 C.out).mono ?_; rintro e w1 ⟨rfl, b1⟩; have hJ1 := HJ.out _ _ _ hJ b1; have hB1 : Boxed w1 B 9 (.string s) := (b1.block B hB.lt).trans hB)
            | (refine ⟨trivial, ?_⟩; gi_at_call 27; refine (callsIn_wide.2 (CT.out _)).mono ?_; rintro e w2 ⟨rfl, rfl⟩; have T := HY.out pre (k, x) _ hJ1 ⟨_, HP.out⟩; unfold encL at T; dsimp only at T; first | (obtain ⟨fn, tmps, assign, body, hy, hR⟩ := T.loop 4) | (have hR := (callsIn_wide (n := 4)).2 T.named); clear T))
          first | refine hR.mono ?_ | refine ⟨trivial, hR.mono ?_⟩
          rintro e W3 ⟨hS3, ⟨rfl, hJ3⟩ | ⟨rfl, hJx3⟩⟩
          · have hB3 := hS3.boxed (show (fun k => k = B) B from rfl) hB1
            clear hR
            try clear hy
            gi_wp2_with fail
            go_roundw
            case rel => exact ⟨k + 1, _, _, by go_num, rfl, HP, by have h := HSZ.out; omega, hB3, hJ3⟩
            case measure => show (t.extract _ t.size).size < t.size; rw [HSZ.out]; omega
          · gi_wp2_with fail
            refine bodyPost_ret (results_none rfl _ _ _) rfl ?_
            exact ⟨⟨_, rfl⟩, .inr ⟨_, ⟨_, HP.out⟩, hJx3⟩⟩
        · have HP := Lib.hid (line_no hi h0 hp.out)
          have C := Lib.hid (scut_no t wr hi)
          have HTX := Lib.hid (str_mk t)
          have HT0 := Lib.hid h0
          clear hi h0
          gi_wp2_with (refine ⟨trivial, ?_⟩; gi_at_call 26; refine (callsIn_wide.2 C.out).mono ?_; rintro e w1 ⟨rfl, b1⟩; have hJ1 := HJ.out _ _ _ hJ b1; have hB1 : Boxed w1 B 9 (.string s) := (b1.block B hB.lt).trans hB; have T := HY.out pre (k, t.data.toList) _ hJ1 ⟨[], by rw [HP.out, List.append_nil]⟩; unfold encL at T; dsimp only at T; rw [HTX.out] at T; first | (obtain ⟨fn, tmps, assign, body, hy, hR⟩ := T.loop 4) | (have hR := (callsIn_wide (n := 4)).2 T.named); clear T)
          first | refine hR.mono ?_ | refine ⟨trivial, hR.mono ?_⟩
          rintro e W3 ⟨hS3, ⟨rfl, hJ3⟩ | ⟨rfl, hJx3⟩⟩
          · have hB3 := hS3.boxed (show (fun k => k = B) B from rfl) hB1
            have HN := Lib.hid (show num (k + 1) (split ({ data := #[] } : ByteArray).data.toList) = [] from rfl)
            have hpos : 0 < t.size := by
              rcases Nat.eq_zero_or_pos t.size with h | h
              · exact absurd (List.eq_nil_of_length_eq_zero (l := t.data.toList) (by rw [list_size]; exact h)) HT0.out
              · exact h
            clear hR
            try clear hy
            gi_wp2_with fail
            go_roundw
            case rel => exact ⟨k + 1, _, _, by go_num, rfl, Lib.hid (by rw [HN.out, List.append_nil]; exact HP.out), by show k + 1 + 0 ≤ _; omega, hB3, hJ3⟩
            case measure => exact hpos
          · gi_wp2_with fail
            refine bodyPost_ret (results_none rfl _ _ _) rfl ?_
            exact ⟨⟨_, rfl⟩, .inr ⟨_, ⟨[], by rw [HP.out, List.append_nil]⟩, hJx3⟩⟩
end Go.Proofs.Ytcclicgjklmihaa.Ln
