/-
Each is an iterator of a page's tokens with their names. No conditions: any page.
-/
import Derived.Test.YtionbdkiclodoaaVoMath
import Derived.Test.YtionbdkiclodoaaStrs
import Derived.Test.YtionbdkiclodoaaPpCut
import Derived.TacticsInMore
import Derived.LoopNIn
import Derived.LoopIn
import Derived.Shelf.RegionOpen
namespace Go.Proofs.Ytionbdkiclodoaa.Vo
set_option maxRecDepth 100000
open Go.RowKit Strs Sq
attribute [local go_sem] Oper.semAt_some

/-- What a token is handed on as. -/
def encT (x : Nat × List UInt8) : Array Value := #[.int .u8 (x.1 : Int), .string ⟨x.2.toArray⟩]

theorem other {p : Int} (h0 : ¬ p = 0) (h1 : ¬ p = 1) (h2 : ¬ p = 2) : txt p = [] := by unfold txt; rw [if_neg h0, if_neg h1, if_neg h2]

set_option maxHeartbeats 1000000 in
theorem names_any (p : Int) (w : World) :
    Calls Try.prog 17 #[.int .i64 p] w fun e w' => e = .returned (.string ⟨(txt p).toArray⟩) ∧ w = w' := by
  have h : p = 0 ∨ p = 1 ∨ p = 2 ∨ (¬ p = 0 ∧ ¬ p = 1 ∧ ¬ p = 2) := by omega
  rcases h with rfl | rfl | rfl | ⟨h0, h1, h2⟩
  · go_enter Try.func17, Try.ntmps17
    go_wp2
    go_ret
    exact ⟨by kernel_rfl, rfl⟩
  · go_enter Try.func17, Try.ntmps17
    go_wp2
    go_ret
    exact ⟨by kernel_rfl, rfl⟩
  · go_enter Try.func17, Try.ntmps17
    go_wp2
    go_ret
    exact ⟨by kernel_rfl, rfl⟩
  · rw [other h0 h1 h2]
    go_enter Try.func17, Try.ntmps17
    go_wp2
    go_ret
    exact ⟨rfl, rfl⟩

theorem each_any (p : Int) (w : World) :
    Calls Try.prog 14 #[.int .i64 p] w fun e w' => e = .returned (.func (.func 16) #[] #[.pointer (some ⟨w.heap.size, 0, none⟩)]) ∧ w' = w.alloc (.cells #[.int .i64 p] 3) := by
  go_enter Try.func14, Try.ntmps14
  go_wp2
  go_ret
  exact ⟨rfl, rfl⟩
theorem eg_each (args : Array Value) (w : World) : (callFunc 16 args).run Try.prog w = .ok (.enter 16 args) w := enters_of Try.func16 (by kernel_rfl) rfl args w

/-- What holds between two names. -/
structure Half (all : List (Nat × List UInt8)) (k : Nat) (t : List UInt8) (pre : List (Nat × List UInt8)) : Prop where
  left : pre ++ numb k (wds t) = all
  fine : Fine t
  few : k + (wds t).length ≤ 200
section half
variable {all pre : List (Nat × List UInt8)} {k : Nat} {t : List UInt8}
theorem Half.done (h : Half all k t pre) (ht : t = []) : pre = all := by rw [← h.left, ht, wds_nil]; simp [numb]
theorem Half.lt (h : Half all k t pre) : k ≤ 200 := by have := h.few; omega
theorem Half.cut (h : Half all k t pre) (hi : t.idxOf 32 < t.length) (hx : t.take (t.idxOf 32) ≠ [45]) : Half all (k + 1) (t.drop (t.idxOf 32 + 1)) (pre ++ [(k, t.take (t.idxOf 32))]) := by
  have hw := wds_yes hi h.fine
  refine ⟨?_, fine_drop hi h.fine, ?_⟩
  · rw [← h.left, hw, numb, if_neg hx, List.append_assoc]; rfl
  · have := h.few; rw [hw, List.length_cons] at this; omega
theorem Half.skip (h : Half all k t pre) (hi : t.idxOf 32 < t.length) (hx : t.take (t.idxOf 32) = [45]) : Half all (k + 1) (t.drop (t.idxOf 32 + 1)) pre := by
  have hw := wds_yes hi h.fine
  refine ⟨?_, fine_drop hi h.fine, ?_⟩
  · rw [← h.left, hw, numb, if_pos hx]
  · have := h.few; rw [hw, List.length_cons] at this; omega
theorem Half.last (h : Half all k t pre) (hi : ¬ t.idxOf 32 < t.length) (ht : t ≠ []) (hx : t ≠ [45]) : Half all (k + 1) [] (pre ++ [(k, t)]) := by
  have hw := wds_no hi ht
  refine ⟨?_, by unfold Fine; simp, ?_⟩
  · rw [← h.left, hw, numb, if_neg hx, List.append_assoc]; rfl
  · have := h.few; rw [hw] at this; rw [wds_nil]; simp at this ⊢; omega
theorem Half.lastSkip (h : Half all k t pre) (hi : ¬ t.idxOf 32 < t.length) (ht : t ≠ []) (hx : t = [45]) : Half all (k + 1) [] pre := by
  have hw := wds_no hi ht
  refine ⟨?_, by unfold Fine; simp, ?_⟩
  · rw [← h.left, hw, numb, if_pos hx]; rfl
  · have := h.few; rw [hw] at this; rw [wds_nil]; simp at this ⊢; omega
theorem Half.pfx (h : Half all k t pre) : pre <+: all := ⟨_, h.left⟩
end half
theorem eq_dash {x : ByteArray} (h : x.data.toList = [45]) : (x.toList == [45]) = true := by rw [ByteArray.toList_eq, h]; rfl
theorem ne_dash {x : ByteArray} (h : x.data.toList ≠ [45]) : (x.toList == [45]) = false := by rw [ByteArray.toList_eq]; simpa using h
theorem txt_mk (p : Int) : (⟨(txt p).toArray⟩ : ByteArray).data.toList = txt p := by simp

set_option maxHeartbeats 2000000 in
theorem each_sq (p : Int) (B : Nat) (w : World) (hB : Boxed w B 3 (.int .i64 p)) :
    Sq Try.prog 16 #[.pointer (some ⟨B, 0, none⟩)] encT (fun k => k = B) (toks p) w := by
  refine sq_plain ?_
  intro y J Jx W hy hR hJ _ hY hJ0
  have hB := hR.boxed (show (fun k => k = B) B from rfl) hB
  have HY := Lib.hid hY
  have HJ := Lib.hid hJ
  have CN := Lib.hid (fun W => names_any p W)
  obtain ⟨all, hall⟩ : ∃ all, toks p = all := ⟨_, rfl⟩
  have H0 := Lib.hid (show Half all 5 (⟨(txt p).toArray⟩ : ByteArray).data.toList [] from ⟨by rw [txt_mk, List.nil_append]; exact hall, by rw [txt_mk]; exact fine_txt p, by rw [txt_mk]; have := count_wds p; omega⟩)
  have HS := Lib.hid (show (⟨(txt p).toArray⟩ : ByteArray).size ≤ 1000 by rw [Strs.mk_size]; exact size_txt p)
  rw [hall] at HY ⊢
  clear hY hJ hR hall
  generalize (⟨(txt p).toArray⟩ : ByteArray) = s at CN H0 HS
  refine (callsIn_wide (n := 5)).1 ?_
  refine callsIn_of_wp Try.func16 rfl trivial ?_ rfl
  simp only [Try.ntmps16, List.size_toArray, List.length_cons, List.length_nil, Nat.reduceAdd, Nat.reduceSub, Array.replicate_succ, Array.replicate_zero, List.push_toArray, List.append_toArray, List.nil_append, List.cons_append]
  have hc := hB.cell
  rcases hy with ⟨l, rfl⟩ | ⟨g, ca, rfl, eg⟩
  all_goals
    gi_wp2_with (refine ⟨trivial, ?_⟩; gi_at_call 17; refine (callsIn_wide.2 (CN.out _)).mono ?_; rintro e w1 ⟨rfl, rfl⟩)
    clear hc
    gi_loopw [3, 4] (fun kv u wr => ∃ (k : Nat) (t : ByteArray) (pre : List (Nat × List UInt8)), kv = .int .u8 (k : Int) ∧ u = .string t ∧ Hid (Half all k t.data.toList pre) ∧ t.size ≤ 1000 ∧ Boxed wr B 3 (.int .i64 p) ∧ J pre wr) (fun _ u _ => match u with | .string t => t.size | _ => 0)
    case atStart => exact ⟨5, s, [], rfl, rfl, H0, HS.out, hB, hJ0⟩
    case round =>
      obtain ⟨k, t, pre, rfl, rfl, hp, hts, hB, hJ⟩ := hrel
      by_cases h0 : t.data.toList = []
      · have hsne := str_none h0
        have hE := Lib.hid (hp.out.done h0)
        clear h0
        gi_wp2_with fail
        go_end0
        exact ⟨⟨_, rfl⟩, .inl (by rw [← hE.out]; exact hJ)⟩
      · have hsne := str_full h0
        have hkl := hp.out.lt
        have hk1 : ((k : Int) + 1) % 256 = (k : Int) + 1 := by omega
        by_cases hi : t.data.toList.idxOf 32 < t.data.toList.length
        · have C := Lib.hid (Pp.scut_yes 32 t wr (by unfold maxLen; omega) hi)
          have hlen := list_size t
          have hx : (t.extract 0 (t.data.toList.idxOf 32)).data.toList = t.data.toList.take (t.data.toList.idxOf 32) := by rw [ext_to, mk_list]
          have hr := ext_from t (t.data.toList.idxOf 32 + 1)
          have hsz : (t.extract (t.data.toList.idxOf 32 + 1) t.size).size = t.size - (t.data.toList.idxOf 32 + 1) := by rw [ByteArray.size_extract]; omega
          by_cases hd : t.data.toList.take (t.data.toList.idxOf 32) = [45]
          · have HP := Lib.hid (hp.out.skip hi hd)
            rw [← hr] at HP
            have hd1 := eq_dash (hx.trans hd)
            have HSZ := Lib.hid (show (t.extract (t.data.toList.idxOf 32 + 1) t.size).size < t.size by rw [hlen] at hi; omega)
            generalize (t.extract 0 (t.data.toList.idxOf 32)) = x at C hd1
            generalize (t.extract (t.data.toList.idxOf 32 + 1) t.size) = r at C HP HSZ
            clear hx hr hsz hlen h0 hi hd
            gi_wp2_with (first | (with_reducible refine ⟨fun _ h => (by cases h), ?_⟩) | (refine ⟨trivial, ?_⟩; gi_at_call 18; refine (callsIn_wide.2 C.out).mono ?_; rintro e w1 ⟨rfl, b1⟩; have hJ1 := HJ.out _ _ _ hJ b1; have hB1 : Boxed w1 B 3 (.int .i64 p) := (b1.block B hB.lt).trans hB))
            go_roundw
            case rel => exact ⟨k + 1, _, _, by go_num, rfl, HP, by have h := HSZ.out; omega, hB1, hJ1⟩
            case measure => exact HSZ.out
          · have HP := Lib.hid (hp.out.cut hi hd)
            rw [← hr, ← hx] at HP
            have hd1 := ne_dash (fun e => hd (hx.symm.trans e))
            have HSZ := Lib.hid (show (t.extract (t.data.toList.idxOf 32 + 1) t.size).size < t.size by rw [hlen] at hi; omega)
            generalize (t.extract 0 (t.data.toList.idxOf 32)) = x at C hd1 HP
            generalize (t.extract (t.data.toList.idxOf 32 + 1) t.size) = r at C HP HSZ
            have HTX := Lib.hid (str_mk x)
            clear hx hr hsz hlen h0 hi hd
            gi_wp2_with (first | (with_reducible refine ⟨fun _ h => (by cases h), ?_⟩) | (refine ⟨trivial, ?_⟩; gi_at_call 18; refine (callsIn_wide.2 C.out).mono ?_; rintro e w1 ⟨rfl, b1⟩; have hJ1 := HJ.out _ _ _ hJ b1; have hB1 : Boxed w1 B 3 (.int .i64 p) := (b1.block B hB.lt).trans hB; have T := HY.out pre (k, x.data.toList) _ hJ1 HP.out.pfx; unfold encT at T; dsimp only at T; rw [HTX.out] at T; first | (obtain ⟨fn, tmps, assign, body, hy, hR⟩ := T.loop 4) | (have hR := (callsIn_wide (n := 4)).2 T.named); clear T))
            first | refine hR.mono ?_ | refine ⟨trivial, hR.mono ?_⟩
            rintro e W3 ⟨hS3, ⟨rfl, hJ3⟩ | ⟨rfl, hJx3⟩⟩
            · have hB3 := hS3.boxed (show (fun k => k = B) B from rfl) hB1
              clear hR
              try clear hy
              gi_wp2_with fail
              go_roundw
              case rel => exact ⟨k + 1, _, _, by go_num, rfl, HP, by have h := HSZ.out; omega, hB3, hJ3⟩
              case measure => exact HSZ.out
            · gi_wp2_with fail
              refine bodyPost_ret (results_none rfl _ _ _) rfl ?_
              exact ⟨⟨_, rfl⟩, .inr ⟨_, HP.out.pfx, hJx3⟩⟩
        · have C := Lib.hid (Pp.scut_no 32 t wr hi)
          have HTX := Lib.hid (str_mk t)
          have HPOS := Lib.hid (show 0 < t.size by
            rcases Nat.eq_zero_or_pos t.size with h | h
            · exact absurd (List.eq_nil_of_length_eq_zero (l := t.data.toList) (by rw [list_size]; exact h)) h0
            · exact h)
          by_cases hd : t.data.toList = [45]
          · have HP := Lib.hid (hp.out.lastSkip hi h0 hd)
            have hd1 := eq_dash hd
            clear hi h0 hd
            gi_wp2_with (first | (with_reducible refine ⟨fun _ h => (by cases h), ?_⟩) | (refine ⟨trivial, ?_⟩; gi_at_call 18; refine (callsIn_wide.2 C.out).mono ?_; rintro e w1 ⟨rfl, b1⟩; have hJ1 := HJ.out _ _ _ hJ b1; have hB1 : Boxed w1 B 3 (.int .i64 p) := (b1.block B hB.lt).trans hB))
            go_roundw
            case rel => exact ⟨k + 1, _, _, by go_num, rfl, HP, Nat.zero_le _, hB1, hJ1⟩
            case measure => exact HPOS.out
          · have HP := Lib.hid (hp.out.last hi h0 hd)
            have hd1 := ne_dash hd
            clear hi h0 hd
            gi_wp2_with (first | (with_reducible refine ⟨fun _ h => (by cases h), ?_⟩) | (refine ⟨trivial, ?_⟩; gi_at_call 18; refine (callsIn_wide.2 C.out).mono ?_; rintro e w1 ⟨rfl, b1⟩; have hJ1 := HJ.out _ _ _ hJ b1; have hB1 : Boxed w1 B 3 (.int .i64 p) := (b1.block B hB.lt).trans hB; have T := HY.out pre (k, t.data.toList) _ hJ1 HP.out.pfx; unfold encT at T; dsimp only at T; rw [HTX.out] at T; first | (obtain ⟨fn, tmps, assign, body, hy, hR⟩ := T.loop 4) | (have hR := (callsIn_wide (n := 4)).2 T.named); clear T))
            first | refine hR.mono ?_ | refine ⟨trivial, hR.mono ?_⟩
            rintro e W3 ⟨hS3, ⟨rfl, hJ3⟩ | ⟨rfl, hJx3⟩⟩
            · have hB3 := hS3.boxed (show (fun k => k = B) B from rfl) hB1
              clear hR
              try clear hy
              gi_wp2_with fail
              go_roundw
              case rel => exact ⟨k + 1, _, _, by go_num, rfl, HP, Nat.zero_le _, hB3, hJ3⟩
              case measure => exact HPOS.out
            · gi_wp2_with fail
              refine bodyPost_ret (results_none rfl _ _ _) rfl ?_
              exact ⟨⟨_, rfl⟩, .inr ⟨_, HP.out.pfx, hJx3⟩⟩
end Go.Proofs.Ytionbdkiclodoaa.Vo
