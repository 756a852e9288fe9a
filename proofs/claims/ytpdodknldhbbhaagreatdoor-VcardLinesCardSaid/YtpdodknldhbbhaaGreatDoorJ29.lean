/-
Texts joined in one file, each with its own conditions: numbered is an iterator of a text's lines, each with its number. Conditions: the text has at most 2^40 bytes. · slices.All over a slice of texts is an iterator of them, each with its place. Conditions: the slice has at most maxLen texts. · unfolded is an iterator of lines, each with those that go on with it, over whatever iterator hands on the lines. Conditions: the lines have at most 2^40 bytes in all, and there are at most 2^40 of them. · Split answers a text's lines. Conditions: the text has at most 2^40 bytes. · Fold, the program's and the document's own, answers a line in lines that are not too long. Conditions: the text has at most 2^40 bytes; the width is an int. · The document's own Fold answers a line in lines that are not too long. Conditions: the text has at most 2^40 bytes; the width is an int. · What the iterator unfolded has of its own between two lines, and what one line makes of it. Conditions: those that each theorem states. · unfolded is an iterator of lines, each with those that go on with it, over whatever iterator hands on the lines. Conditions: the lines have at most 2^40 bytes in all, and there are at most 2^40 of them. · The document's own Numbered and Unfold answer lines, each with those that go on with it. Conditions: the lines have at most 2^40 bytes in all, and there are at most 2^40 of them. · The document's own Split answers a text's lines. Conditions: the text has at most 2^40 bytes. · Each is an iterator of a text's lines, each with those that go on with it. Conditions: the text has at most 2^40 bytes. · Two rows of the same texts are told to be the same; a list is told to be great, or is small. Conditions: a list has at most maxLen texts, each of at most 2^47 bytes.
-/
import Derived.Test.YtpdodknldhbbhaaGreatDoorJ28
import Derived.TacticsInMore
import Derived.LoopNIn
import Derived.LoopIn
import Derived.Shelf.RegionOpen
import Derived.Test.YtpdodknldhbbhaaGreatDoorJ05
import Derived.Laws.DeepStrings4
import Derived.RegionTactic
import Derived.Test.YtpdodknldhbbhaaGreatDoorJ10
import Derived.BigQuiet
import Derived.Deep.QuietTactic
namespace Go.Proofs.YtpdodknldhbbhaaGreatDoor.Ln
set_option maxRecDepth 100000
open Go.RowKit Strs Sq
attribute [local go_sem] Oper.semAt_some

/-- What a line is handed on as. -/
def encL (x : Nat × List UInt8) : Array Value := #[.int .i64 (x.1 : Int), .string ⟨x.2.toArray⟩]

theorem numbered_any (s : ByteArray) (w : World) :
    Calls Tryz.prog 49 #[.string s] w fun e w' => e = .returned (.func (.func 87) #[] #[.pointer (some ⟨w.heap.size, 0, none⟩)]) ∧ w' = w.alloc (.cells #[.string s] 9) := by
  go_enter Tryz.func49, Tryz.ntmps49
  go_wp2
  go_ret
  exact ⟨rfl, rfl⟩
theorem eg_numbered (args : Array Value) (w : World) : (callFunc 87 args).run Tryz.prog w = .ok (.enter 87 args) w := enters_of Tryz.func87 (by kernel_rfl) rfl args w

/-- One line is handed on: where the text that is left goes on, and where it ends. -/
theorem line_yes {t : List UInt8} {k : Nat} {pre all : List (Nat × List UInt8)} (h : t.idxOf 10 < t.length) (hp : pre ++ num k (split t) = all) :
    (pre ++ [(k, trimR (t.take (t.idxOf 10)))]) ++ num (k + 1) (split (t.drop (t.idxOf 10 + 1))) = all := by
  rw [← hp, split_yes h, List.append_assoc]; rfl
theorem line_no {t : List UInt8} {k : Nat} {pre all : List (Nat × List UInt8)} (h : ¬ t.idxOf 10 < t.length) (ht : t ≠ []) (hp : pre ++ num k (split t) = all) : pre ++ [(k, t)] = all := by
  rw [← hp, split_no h ht]; rfl
theorem line_end {t : List UInt8} {k : Nat} {pre all : List (Nat × List UInt8)} (ht : t = []) (hp : pre ++ num k (split t) = all) : pre = all := by
  rw [← hp, ht, split_nil]; simp [num]
set_option maxHeartbeats 2000000 in
theorem numbered_sq (s : ByteArray) (hs : s.size ≤ 1099511627776) (B : Nat) (w : World) (hB : Boxed w B 9 (.string s)) :
    Sq Tryz.prog 87 #[.pointer (some ⟨B, 0, none⟩)] encL (fun k => k = B) (num 1 (split s.data.toList)) w := by
  refine sq_plain ?_
  intro y J Jx W hy hR hJ _ hY hJ0
  have hB := hR.boxed (show (fun k => k = B) B from rfl) hB
  have HY := Lib.hid hY
  have HJ := Lib.hid hJ
  obtain ⟨all, hall⟩ : ∃ all, num 1 (split s.data.toList) = all := ⟨_, rfl⟩
  rw [hall] at HY ⊢
  clear hY hJ hR
  refine (callsIn_wide (n := 5)).1 ?_
  refine callsIn_of_wp Tryz.func87 rfl trivial ?_ rfl
  simp only [Tryz.ntmps87, List.size_toArray, List.length_cons, List.length_nil, Nat.reduceAdd, Nat.reduceSub, Array.replicate_succ, Array.replicate_zero, List.push_toArray, List.append_toArray, List.nil_append, List.cons_append]
  have hc := hB.cell
  rcases hy with ⟨l, rfl⟩ | ⟨g, ca, rfl, eg⟩
  all_goals
    gi_wp2_with fail
    clear hc
    gi_loopw [3, 4] (fun kv u wr => ∃ (k : Nat) (t : ByteArray) (pre : List (Nat × List UInt8)), kv = .int .i64 (k : Int) ∧ u = .string t ∧ Hid (pre ++ num k (split t.data.toList) = all) ∧ k + t.size ≤ s.size + 1 ∧ Boxed wr B 9 (.string s) ∧ J pre wr) (fun _ u _ => match u with | .string t => t.size | _ => 0)
    case atStart => exact ⟨1, s, [], rfl, rfl, Lib.hid (by rw [List.nil_append]; exact hall), by omega, hB, hJ0⟩
    case round =>
      obtain ⟨k, t, pre, rfl, rfl, hp, hts, hB, hJ⟩ := hrel
      by_cases h0 : t.data.toList = []
      · have hsne := str_none h0
        have hE := Lib.hid (line_end h0 hp.out)
        clear h0
        gi_wp2_with fail
        go_end0
        exact ⟨⟨_, rfl⟩, .inl (by rw [← hE.out]; exact hJ)⟩
      · have hsne := str_full h0
        by_cases hi : t.data.toList.idxOf 10 < t.data.toList.length
        · have HP := Lib.hid (line_yes hi hp.out)
          have C := Lib.hid (scut_yes t wr (by unfold maxLen; omega) hi)
          have hlen := list_size t
          have CT := Lib.hid (fun W => trim_any (t.extract 0 (t.data.toList.idxOf 10)) W (by rw [ByteArray.size_extract]; unfold maxLen; omega))
          have hx : (t.extract 0 (t.data.toList.idxOf 10)).data.toList = t.data.toList.take (t.data.toList.idxOf 10) := by rw [ext_to, mk_list]
          rw [hx] at CT
          rw [← ext_from] at HP
          rw [hlen] at hi
          have hsz : (t.extract (t.data.toList.idxOf 10 + 1) t.size).size = t.size - (t.data.toList.idxOf 10 + 1) := by rw [ByteArray.size_extract]; omega
          generalize t.data.toList.idxOf 10 = j at C CT HP hi hx hsz
          generalize trimR (t.data.toList.take j) = x at CT HP
          have HSZ := Lib.hid hsz
          clear hx hsz hlen h0
          gi_wp2_with (first
            | (refine ⟨trivial, ?_⟩; gi_at_call 88; refine (callsIn_wide.2 C.out).mono ?_; rintro e w1 ⟨rfl, b1⟩; have hJ1 := HJ.out _ _ _ hJ b1; have hB1 : Boxed w1 B 9 (.string s) := (b1.block B hB.lt).trans hB)
            | (refine ⟨trivial, ?_⟩; gi_at_call 89; refine (callsIn_wide.2 (CT.out _)).mono ?_; rintro e w2 ⟨rfl, rfl⟩; have T := HY.out pre (k, x) _ hJ1 ⟨_, HP.out⟩; unfold encL at T; dsimp only at T; first | (obtain ⟨fn, tmps, assign, body, hy, hR⟩ := T.loop 4) | (have hR := (callsIn_wide (n := 4)).2 T.named); clear T))
          first | refine hR.mono ?_ | refine ⟨trivial, hR.mono ?_⟩
          rintro e W3 ⟨hS3, ⟨rfl, hJ3⟩ | ⟨rfl, hJx3⟩⟩
          · have hB3 := hS3.boxed (show (fun k => k = B) B from rfl) hB1
            clear hR
            try clear hy
            gi_wp2_with fail
            go_roundw
            case rel => exact ⟨k + 1, _, _, by go_num, rfl, HP, by have h := HSZ.out; omega, hB3, hJ3⟩
            case measure => show (t.extract _ t.size).size < t.size; rw [HSZ.out]; omega
          · gi_wp2_with fail
            refine bodyPost_ret (results_none rfl _ _ _) rfl ?_
            exact ⟨⟨_, rfl⟩, .inr ⟨_, ⟨_, HP.out⟩, hJx3⟩⟩
        · have HP := Lib.hid (line_no hi h0 hp.out)
          have C := Lib.hid (scut_no t wr hi)
          have HTX := Lib.hid (str_mk t)
          have HT0 := Lib.hid h0
          clear hi h0
          gi_wp2_with (refine ⟨trivial, ?_⟩; gi_at_call 88; refine (callsIn_wide.2 C.out).mono ?_; rintro e w1 ⟨rfl, b1⟩; have hJ1 := HJ.out _ _ _ hJ b1; have hB1 : Boxed w1 B 9 (.string s) := (b1.block B hB.lt).trans hB; have T := HY.out pre (k, t.data.toList) _ hJ1 ⟨[], by rw [HP.out, List.append_nil]⟩; unfold encL at T; dsimp only at T; rw [HTX.out] at T; first | (obtain ⟨fn, tmps, assign, body, hy, hR⟩ := T.loop 4) | (have hR := (callsIn_wide (n := 4)).2 T.named); clear T)
          first | refine hR.mono ?_ | refine ⟨trivial, hR.mono ?_⟩
          rintro e W3 ⟨hS3, ⟨rfl, hJ3⟩ | ⟨rfl, hJx3⟩⟩
          · have hB3 := hS3.boxed (show (fun k => k = B) B from rfl) hB1
            have HN := Lib.hid (show num (k + 1) (split ({ data := #[] } : ByteArray).data.toList) = [] from rfl)
            have hpos : 0 < t.size := by
              rcases Nat.eq_zero_or_pos t.size with h | h
              · exact absurd (List.eq_nil_of_length_eq_zero (l := t.data.toList) (by rw [list_size]; exact h)) HT0.out
              · exact h
            clear hR
            try clear hy
            gi_wp2_with fail
            go_roundw
            case rel => exact ⟨k + 1, _, _, by go_num, rfl, Lib.hid (by rw [HN.out, List.append_nil]; exact HP.out), by show k + 1 + 0 ≤ _; omega, hB3, hJ3⟩
            case measure => exact hpos
          · gi_wp2_with fail
            refine bodyPost_ret (results_none rfl _ _ _) rfl ?_
            exact ⟨⟨_, rfl⟩, .inr ⟨_, ⟨[], by rw [HP.out, List.append_nil]⟩, hJx3⟩⟩
end Go.Proofs.YtpdodknldhbbhaaGreatDoor.Ln

namespace Go.Proofs.YtpdodknldhbbhaaGreatDoor.Ln
set_option maxRecDepth 100000
open Go.RowKit Strs Sq
attribute [local go_sem] Oper.semAt_some

end Go.Proofs.YtpdodknldhbbhaaGreatDoor.Ln

namespace Go.Proofs.YtpdodknldhbbhaaGreatDoor.Ln
set_option maxRecDepth 100000
open Go.RowKit Strs Sq
attribute [local go_sem] Oper.semAt_some

theorem isBlank_any (b : UInt8) (w : World) :
    Calls Tryz.prog 113 #[.int .u8 (b.toNat : Int)] w fun e w' => e = .returned (.bool (b == 32 || b == 9)) ∧ w = w' := by
  by_cases h1 : b = 32
  · subst h1
    go_enter Tryz.func113, Tryz.ntmps113
    go_wp2
    go_ret
    exact ⟨rfl, rfl⟩
  · have n1 : ((b.toNat : Int) == 32) = false := by simp; exact fun h => h1 (UInt8.toNat_inj.1 (by show b.toNat = 32; omega))
    have e1 : (b == 32) = false := by simpa using h1
    by_cases h2 : b = 9
    · subst h2
      go_enter Tryz.func113, Tryz.ntmps113
      go_wp2
      go_ret
      exact ⟨rfl, rfl⟩
    · have n2 : ((b.toNat : Int) == 9) = false := by simp; exact fun h => h2 (UInt8.toNat_inj.1 (by show b.toNat = 9; omega))
      have e2 : (b == 9) = false := by simpa using h2
      rw [e1, e2]
      clear e1 e2 h1 h2
      go_enter Tryz.func113, Tryz.ntmps113
      go_wp2
      go_ret
      exact ⟨rfl, rfl⟩
theorem goes_get : ∀ (l : List UInt8) (h : 0 < l.length), goes l = (l[0] == 32 || l[0] == 9)
  | _ :: _, _ => rfl
theorem goes_at (t : ByteArray) (h : 0 < t.size) : goes t.data.toList = (t[0] == 32 || t[0] == 9) := goes_get t.data.toList (by rw [list_size]; exact h)
theorem goesOn_any (t : ByteArray) (w : World) :
    Calls Tryz.prog 85 #[.string t] w fun e w' => e = .returned (.bool (goes t.data.toList)) ∧ w = w' := by
  rcases Nat.eq_zero_or_pos t.size with h0 | h0
  · have h1 := List.eq_nil_of_length_eq_zero (l := t.data.toList) (by rw [list_size]; exact h0)
    have h := str_none h1
    rw [h1]
    clear h1 h0
    go_enter Tryz.func85, Tryz.ntmps85
    go_wp2
    go_ret
    exact ⟨rfl, rfl⟩
  · have h := str_full (t := t) (fun e => by have := list_size t; rw [e] at this; simp at this; omega)
    have C := Lib.hid (fun W => isBlank_any t[0] W)
    rw [goes_at t h0]
    generalize (t[0] == 32 || t[0] == 9) = q at C
    go_enter Tryz.func85, Tryz.ntmps85
    go_wp2_with (go_at_call 113; refine (C.out _).mono ?_; rintro e w' ⟨rfl, rfl⟩)
    go_ret
    exact ⟨rfl, rfl⟩
end Go.Proofs.YtpdodknldhbbhaaGreatDoor.Ln

namespace Go.Proofs.YtpdodknldhbbhaaGreatDoor.Ln
set_option maxRecDepth 100000
open Go.RowKit Strs Sq
attribute [local go_sem] Oper.semAt_some

/-- The answer is a row of texts of the call's own. -/
def Texts (w : World) (l : List (List UInt8)) (e : Ending) (W' : World) : Prop := ∃ v, e = .returned v ∧ Strs W' w.heap.size v l ∧ Below w.heap.size w W'

end Go.Proofs.YtpdodknldhbbhaaGreatDoor.Ln

namespace Go.Proofs.YtpdodknldhbbhaaGreatDoor.Ln
set_option maxRecDepth 100000
open Go.RowKit Strs

theorem blank_get (t : ByteArray) (i : Nat) (h : i < t.size) : blank t.data.toList i = (t[i] == 32 || t[i] == 9) := by
  rw [blank_at (by rw [list_size]; exact h)]; rfl
/-- The width that a line is folded to. -/
def wid (n : Int) : Nat := (max n 2).toNat
theorem wid_max (n : Int) : max n 2 = (wid n : Int) := by unfold wid; omega
theorem wid_pos (n : Int) : 2 ≤ wid n := by unfold wid; omega
theorem last_step {l : List UInt8} {i : Nat} {all : Nat} (hb : blank l (i + 1) = false) (h : last l (i + 1) = all) : last l i = all := by
  rw [← h]; conv => rhs; rw [last, if_neg (by rw [hb]; simp)]
theorem last_here {l : List UInt8} {i : Nat} {all : Nat} (hb : blank l (i + 1) = true) (h : last l (i + 1) = all) : i + 1 = all := by
  rw [← h, last, if_pos hb]

set_option maxHeartbeats 1000000 in
theorem foldPlace_any (t : ByteArray) (k : Nat) (hk2 : 2 ≤ k) (ht : t.size ≤ 1099511627776) (w : World) :
    Calls Tryz.prog 66 #[.string t, .int .i64 (k : Int)] w fun e w' => e = .returned (.int .i64 (place k t.data.toList : Int)) ∧ w = w' := by
  by_cases hs : t.size ≤ k
  · have hp : place k t.data.toList = 0 := by unfold place; rw [list_size, if_pos hs]
    rw [hp]
    have hs' : (t.size : Int) ≤ (k : Int) := by omega
    clear hs
    go_enter Tryz.func66, Tryz.ntmps66
    go_wp2_with fail
    go_ret
    exact ⟨rfl, rfl⟩
  · obtain ⟨r, hr⟩ : ∃ r, place k t.data.toList = r := ⟨_, rfl⟩
    have H0 := Lib.hid (show last t.data.toList k = r by rw [← hr]; unfold place; rw [list_size, if_neg hs])
    rw [hr]
    have hs' : (k : Int) < (t.size : Int) := by omega
    clear hr
    go_enter Tryz.func66, Tryz.ntmps66
    go_wp2_with fail
    go_loopw [5] (fun iv wr => ∃ i : Nat, iv = .int .i64 (i : Int) ∧ i ≤ k ∧ Hid (last t.data.toList i = r) ∧ w = wr) (fun iv _ => (intOf iv).toNat)
    case atStart => exact ⟨k, rfl, Nat.le_refl _, H0, rfl⟩
    case round =>
      obtain ⟨i, rfl, hi, hl, rfl⟩ := hrel
      cases i with
      | zero =>
        have HE := Lib.hid (show 0 = r from hl.out)
        go_wp2_with fail
        go_ret
        exact ⟨by rw [← HE.out]; rfl, rfl⟩
      | succ i =>
        have hit : i + 1 < t.size := by omega
        have hb := blank_get t (i + 1) hit
        have CB := Lib.hid (fun W => isBlank_any t[i + 1] W)
        rw [← hb] at CB
        have hi1 : (((i + 1 : Nat) : Int)) = (i : Int) + 1 := by omega
        have hit2 : (i : Int) + 1 < (t.size : Int) := by omega
        have hi3 : ((i : Int) + 1).toNat = i + 1 := by omega
        cases hbl : blank t.data.toList (i + 1)
        · have HL := Lib.hid (last_step hbl hl.out)
          rw [hbl] at CB
          clear hb hbl
          go_wp2_with (go_at_call 113; refine (CB.out _).mono ?_; rintro e w' ⟨rfl, rfl⟩)
          go_roundw
          case rel => exact ⟨i, by go_num, by omega, HL, trivial⟩
          case measure => simp [intOf]
        · have HL := Lib.hid (last_here hbl hl.out)
          rw [hbl] at CB
          clear hb hbl
          go_wp2_with (go_at_call 113; refine (CB.out _).mono ?_; rintro e w' ⟨rfl, rfl⟩)
          go_ret
          exact ⟨by rw [← HL.out]; rfl, rfl⟩

theorem fold_next {k : Nat} {t : List UInt8} {l all : List (List UInt8)} (h : place k t ≠ 0) (hl : l ++ fold k t = all) : (l ++ [t.take (place k t)]) ++ fold k (t.drop (place k t)) = all := by
  rw [← hl, fold_more h, List.append_assoc]; rfl
theorem fold_last {k : Nat} {t : List UInt8} {l all : List (List UInt8)} (h : place k t = 0) (hl : l ++ fold k t = all) : l ++ [t] = all := by rw [← hl, fold_end h]

set_option maxHeartbeats 1000000 in
theorem fold_any (s : ByteArray) (n : Int) (hs : s.size ≤ 1099511627776) (w : World) :
    Calls Tryz.prog 34 #[.string s, .int .i64 n] w (Texts w (fold (wid n) s.data.toList)) := by
  obtain ⟨i0, hi, hz0, hz1, hz2⟩ := info_parts infoStr
  have hmax := wid_max n
  have hk2 := wid_pos n
  have CF := Lib.hid (fun t ht W => foldPlace_any t (wid n) (wid_pos n) ht W)
  generalize wid n = k at hmax hk2 CF
  obtain ⟨all, hall⟩ : ∃ all, fold k s.data.toList = all := ⟨_, rfl⟩
  rw [hall]
  have H0 := Lib.hid (show ([] : List (List UInt8)) ++ fold k s.data.toList = all by rw [List.nil_append]; exact hall)
  clear hall
  go_enter Tryz.func34, Tryz.ntmps34
  go_wp2_with fail
  go_loopw [0, 5] (fun tv v wr => ∃ (t : ByteArray) (l : List (List UInt8)), tv = .string t ∧ Hid (l ++ fold k t.data.toList = all) ∧ l.length + t.size ≤ s.size ∧ Strs wr w.heap.size v l ∧ Below w.heap.size w wr) (fun tv _ _ => match tv with | .string t => t.size | _ => 0)
  case atStart => exact ⟨s, [], rfl, H0, by simp, Strs.nil _ _, Below.refl _ _⟩
  case round =>
    obtain ⟨t, l, rfl, hl, hll, hown, hbel⟩ := hrel
    have hz := hbel.size
    have C := Lib.hid (fun W => CF.out t (by omega) W)
    by_cases hp : place k t.data.toList = 0
    · have HL := Lib.hid (fold_last hp hl.out)
      rw [hp] at C
      clear hl hp
      go_wp2_with (first | (go_at_call 66; refine (C.out _).mono ?_; rintro e w' ⟨rfl, rfl⟩) | (at_builtin; refine wpList_append_own _ rfl _ _ 39 rfl w.heap.size 9 i0 (.string .empty) 1 16 Tryz.underlying39 hi hz0 hz1 hz2 rfl (by decide) _ _ _ rfl (World.ownsRow.alloc hown _) ⟨wr.heap.size, 0, none⟩ 1 1 [.string t] rfl rfl (cell_one_new _ _ _) (by simp [Value.oneCell']) (by unfold maxLen; omega) (by omega) (by simp; omega) ?_; intro v' w1 hown' hgrow _))
      go_ret
      exact ⟨_, rfl, Strs.snoc HL.out.symm (by rw [str_mk]; exact hown'), Strs.below hown hbel hz _ hgrow⟩
    · have HL := Lib.hid (fold_next hp hl.out)
      have hpl := (place_lt hp).1
      rw [list_size] at hpl
      rw [← ext_from] at HL
      have HX := Lib.hid (ext_to t (place k t.data.toList))
      have hsz : (t.extract (place k t.data.toList) t.size).size = t.size - place k t.data.toList := by rw [ByteArray.size_extract]; omega
      generalize place k t.data.toList = p at C hp HL hpl HX hsz
      have HSZ := Lib.hid hsz
      have hpp : 0 < p := by omega
      have hp1 : ((p : Int) == 0) = false := by simp; exact hp
      have hp2 : (p : Int) ≤ (t.size : Int) := by omega
      clear hsz hl
      go_wp2_with (first | (go_at_call 66; refine (C.out _).mono ?_; rintro e w' ⟨rfl, rfl⟩) | (at_builtin; refine wpList_append_own _ rfl _ _ 39 rfl w.heap.size 9 i0 (.string .empty) 1 16 Tryz.underlying39 hi hz0 hz1 hz2 rfl (by decide) _ _ _ rfl (World.ownsRow.alloc hown _) ⟨wr.heap.size, 0, none⟩ 1 1 [.string (t.extract 0 p)] rfl rfl (cell_one_new _ _ _) (by simp [Value.oneCell']) (by unfold maxLen; omega) (by omega) (by simp; omega) ?_; intro v' w1 hown' hgrow _))
      go_roundw
      case rel => exact ⟨_, _, rfl, HL, by rw [List.length_append, HSZ.out]; simp; omega, Strs.snoc rfl (by rw [← HX.out]; exact hown'), Strs.below hown hbel hz _ hgrow⟩
      case measure => show (t.extract _ t.size).size < t.size; rw [HSZ.out]; omega

end Go.Proofs.YtpdodknldhbbhaaGreatDoor.Ln

namespace Go.Proofs.YtpdodknldhbbhaaGreatDoor.Ln
set_option maxRecDepth 100000
open Go.RowKit Strs

end Go.Proofs.YtpdodknldhbbhaaGreatDoor.Ln

namespace Go.Proofs.YtpdodknldhbbhaaGreatDoor.Ln
set_option maxRecDepth 100000
open Go.RowKit Strs Sq
attribute [local go_sem] Oper.semAt_some

theorem join_flat (l : List (List UInt8)) : Lib.join l [] = l.flatten := by
  cases l with
  | nil => rfl
  | cons x r =>
    rw [Lib.join_cons, List.flatten_cons]
    congr 1
    unfold Lib.joinTail
    simp
theorem join_any (v : Value) (l : List (List UInt8)) (hl : l ≠ []) (h1 : l.length ≤ 1099511627776) (h2 : bytes l ≤ 1099511627776) (w : World) (h : Reads w v l) :
    Calls Tryz.prog 86 #[v, .string { data := #[] }] w fun e w' => e = .returned (.string ⟨l.flatten.toArray⟩) ∧ Below w.heap.size w w' := by
  obtain ⟨a, cap, rfl, hc, b, o, hne, hcells⟩ := h
  obtain ⟨rfl, hb⟩ := hne hl
  have hm : (l.map (fun x => (⟨x.toArray⟩ : ByteArray))).map (·.data.toList) = l := by
    rw [List.map_map]; conv => rhs; rw [← List.map_id l]
    apply List.map_congr_left; intro x _; exact mk_list x
  have J := Tryz.strings_Join b o cap (l.map fun x => ⟨x.toArray⟩) { data := #[] } w (fun j x hj => by
    rw [List.getElem?_map] at hj
    cases hx : l[j]? with
    | none => rw [hx] at hj; simp at hj
    | some y =>
      rw [hx] at hj
      obtain ⟨hj2, rfl⟩ := List.getElem?_eq_some_iff.1 hx
      have := hcells j hj2
      rw [this]
      simpa using hj) hb (by rw [List.length_map]; omega) (by rw [List.length_map]; exact hc) (by
      rw [hm, show (({ data := #[] } : ByteArray).data.toList) = [] from rfl, join_flat]; unfold bytes at h2; omega)
  rw [hm, show (({ data := #[] } : ByteArray).data.toList) = [] from rfl, join_flat, List.length_map] at J
  exact J
theorem unfolded_any (v : Value) (w : World) (fn : Fn) (fi ca : Array Value) (hv : v = .func fn fi ca) :
    Calls Tryz.prog 48 #[v] w fun e w' => e = .returned (.func (.func 84) #[] #[.pointer (some ⟨w.heap.size, 0, none⟩)]) ∧ w' = w.alloc (.cells #[v] 80) := by
  subst hv
  go_enter Tryz.func48, Tryz.ntmps48
  go_wp2
  go_ret
  exact ⟨rfl, rfl⟩
theorem eg_unfolded (args : Array Value) (w : World) : (callFunc 84 args).run Tryz.prog w = .ok (.enter 84 args) w := enters_of Tryz.func84 (by kernel_rfl) rfl args w

/-- The line that is not at its end yet, in pieces. -/
def pend (bg : Nat) (ps : List (List UInt8)) : Option (Nat × List UInt8) := if ps = [] then none else some (bg, ps.flatten)
theorem drop_of {α : Type} {pre xs : List α} {x : α} (h : pre ++ [x] <+: xs) : xs.drop pre.length = x :: xs.drop (pre ++ [x]).length := by
  obtain ⟨r, rfl⟩ := h
  rw [List.append_assoc, List.drop_left]; simp
theorem goes_first {xs pre em all : List (Nat × List UInt8)} {x : Nat × List UInt8} {bg : Nat} (hp : pre ++ [x] <+: xs) (h : em ++ unf (pend bg []) (xs.drop pre.length) = all) :
    em ++ unf (pend x.1 [x.2]) (xs.drop (pre ++ [x]).length) = all := by
  rw [← h, drop_of hp]; simp [pend, unf]
theorem goes_on {xs pre em all : List (Nat × List UInt8)} {x : Nat × List UInt8} {bg : Nat} {ps : List (List UInt8)} (hp : pre ++ [x] <+: xs) (hps : ps ≠ []) (hg : goes x.2 = true) (h : em ++ unf (pend bg ps) (xs.drop pre.length) = all) :
    em ++ unf (pend bg (ps ++ [x.2])) (xs.drop (pre ++ [x]).length) = all := by
  rw [← h, drop_of hp]; simp [pend, unf, hps, hg]
theorem goes_new {xs pre em all : List (Nat × List UInt8)} {x : Nat × List UInt8} {bg : Nat} {ps : List (List UInt8)} (hp : pre ++ [x] <+: xs) (hps : ps ≠ []) (hg : goes x.2 = false) (h : em ++ unf (pend bg ps) (xs.drop pre.length) = all) :
    (em ++ [(bg, ps.flatten)]) ++ unf (pend x.1 [x.2]) (xs.drop (pre ++ [x]).length) = all := by
  rw [← h, drop_of hp]; simp [pend, unf, hps, hg]
theorem goes_end {xs em all : List (Nat × List UInt8)} {bg : Nat} (h : em ++ unf (pend bg []) (xs.drop xs.length) = all) : em = all := by
  rw [← h]; simp [pend, unf]
theorem goes_last {xs em all : List (Nat × List UInt8)} {bg : Nat} {ps : List (List UInt8)} (hps : ps ≠ []) (h : em ++ unf (pend bg ps) (xs.drop xs.length) = all) : em ++ [(bg, ps.flatten)] = all := by
  rw [← h]; simp [pend, unf, hps]
theorem bytes_pre {pre xs : List (Nat × List UInt8)} {x : Nat × List UInt8} (hp : pre ++ [x] <+: xs) : bytes (pre.map (·.2)) + x.2.length ≤ bytes (xs.map (·.2)) ∧ pre.length + 1 ≤ xs.length := by
  obtain ⟨r, rfl⟩ := hp
  simp [bytes]

/-- The iterator's own variables: whom it hands to, the number of the line that is not at its end yet, the row of its pieces. -/
structure St (H : Nat) (y : Value) (bg : Nat) (ps : List (List UInt8)) (v : Value) (V : World) : Prop where
  b2 : Boxed V H 111 y
  b3 : Boxed V (H + 1) 3 (.int .i64 (bg : Int))
  b4 : Boxed V (H + 2) 39 v
  row : Strs V H v ps
/-- The blocks that are its own. -/
def Mine (H : Nat) (v : Value) (O : Nat → Prop) : Nat → Prop := fun k => O k ∨ k = H ∨ k = H + 1 ∨ k = H + 2 ∨ v.ownBlock = some k
theorem St.le {H : Nat} {y : Value} {bg : Nat} {ps : List (List UInt8)} {v : Value} {V : World} (h : St H y bg ps v V) : ∀ g, v.ownBlock = some g → H + 3 ≤ g ∧ g < V.heap.size := fun g e => by
  have h1 := own_lt h.row g e
  have h2 := h.b2.not_row (by decide) h.row
  have h3 := h.b3.not_row (by decide) h.row
  have h4 := h.b4.not_row (by decide) h.row
  rw [e] at h2 h3 h4
  have n2 : H ≠ g := fun x => h2 (by rw [x])
  have n3 : H + 1 ≠ g := fun x => h3 (by rw [x])
  have n4 : H + 2 ≠ g := fun x => h4 (by rw [x])
  omega
theorem St.mine {H : Nat} {y : Value} {bg : Nat} {ps : List (List UInt8)} {v : Value} {V : World} (h : St H y bg ps v V) {O : Nat → Prop} (hO : ∀ k, O k → H + 3 ≤ k ∧ k < V.heap.size) : ∀ k, Mine H v O k → H ≤ k ∧ k < V.heap.size := fun k hk => by
  have h2 := h.b2.lt
  have h3 := h.b3.lt
  have h4 := h.b4.lt
  rcases hk with hk | rfl | rfl | rfl | hk
  · have := hO k hk; omega
  · omega
  · omega
  · omega
  · have := h.le k hk; omega
theorem St.mine' {H : Nat} {y : Value} {bg : Nat} {ps : List (List UInt8)} {v : Value} {V : World} (h : St H y bg ps v V) {O : Nat → Prop} (hO : ∀ k, O k → H ≤ k) : ∀ k, Mine H v O k → H ≤ k := fun k hk => by
  rcases hk with hk | rfl | rfl | rfl | hk
  · exact hO k hk
  · omega
  · omega
  · omega
  · have := h.le k hk; omega
theorem St.mine_lt {H : Nat} {y : Value} {bg : Nat} {ps : List (List UInt8)} {v : Value} {V : World} (h : St H y bg ps v V) {O : Nat → Prop} (hO : ∀ k, O k → k < V.heap.size) : ∀ k, Mine H v O k → k < V.heap.size := fun k hk => by
  rcases hk with hk | rfl | rfl | rfl | hk
  · exact hO k hk
  · exact h.b2.lt
  · exact h.b3.lt
  · exact h.b4.lt
  · exact (h.le k hk).2
theorem St.stays {H : Nat} {y : Value} {bg : Nat} {ps : List (List UInt8)} {v : Value} {V V' : World} {O : Nat → Prop} (h : St H y bg ps v V) (hS : Stays O V V') (h2 : O H) (h3 : O (H + 1)) (h4 : O (H + 2)) (hr : ∀ g, v.ownBlock = some g → O g) : St H y bg ps v V' :=
  ⟨hS.boxed h2 h.b2, hS.boxed h3 h.b3, hS.boxed h4 h.b4, hS.row h.row hr⟩
theorem St.keep {H : Nat} {y : Value} {bg : Nat} {ps : List (List UInt8)} {v : Value} {V V' : World} (h : St H y bg ps v V) (hb : Below V.heap.size V V') : St H y bg ps v V' :=
  h.stays (Stays.of_below (O := fun k => k < V.heap.size) hb fun _ h => h) h.b2.lt h.b3.lt h.b4.lt (fun g e => (h.le g e).2)
theorem St.begin {H : Nat} {y : Value} {bg : Nat} {ps : List (List UInt8)} {v : Value} {V : World} (h : St H y bg ps v V) (n : Nat) : St H y n ps v (V.setCell ⟨H + 1, 0, none⟩ (.int .i64 (n : Int))) := by
  have hS : Stays (fun k => k ≠ H + 1) V (V.setCell ⟨H + 1, 0, none⟩ (.int .i64 (n : Int))) := (Stays.refl _ _).setCell _ _ (fun h => h rfl)
  exact ⟨hS.boxed (by omega) h.b2, h.b3.set _, hS.boxed (by omega) h.b4, hS.row h.row (fun g e => by have := h.le g e; omega)⟩
theorem St.clear {H : Nat} {y : Value} {bg : Nat} {ps : List (List UInt8)} {v : Value} {V : World} (h : St H y bg ps v V) : St H y bg [] (.slice none 0 0) (V.setCell ⟨H + 2, 0, none⟩ (.slice none 0 0)) := by
  have hS : Stays (fun k => k ≠ H + 2) V (V.setCell ⟨H + 2, 0, none⟩ (.slice none 0 0)) := (Stays.refl _ _).setCell _ _ (fun h => h rfl)
  exact ⟨hS.boxed (by omega) h.b2, hS.boxed (by omega) h.b3, h.b4.set _, Strs.nil _ _⟩
/-- Behind an append, ahead of the store and behind it. -/
theorem St.append {H : Nat} {y : Value} {bg : Nat} {ps : List (List UInt8)} {v v' : Value} {x : List UInt8} {V V1 : World} {o : Obj} (h : St H y bg ps v V) (hown : V1.ownsRow H 9 1 v' (ps.length + 1) (scells ps ++ [.string ⟨x.toArray⟩])) (hg : (V.alloc o).grownBy V1 v.ownBlock) (hw : v'.ownBlock = v.ownBlock ∨ v'.ownBlock = some (V.alloc o).heap.size) :
    Boxed V1 (H + 2) 39 v ∧ St H y bg (ps ++ [x]) v' (V1.setCell ⟨H + 2, 0, none⟩ v') ∧ (∀ g, v'.ownBlock = some g → v.ownBlock = some g ∨ V.heap.size ≤ g) ∧ Stays (fun k => k < V.heap.size ∧ k ≠ H + 2 ∧ some k ≠ v.ownBlock) V (V1.setCell ⟨H + 2, 0, none⟩ v') := by
  have hS : Stays (fun k => k < V.heap.size ∧ some k ≠ v.ownBlock) V V1 := ((Stays.refl _ V).alloc o (fun k hk => hk.1)).grown hg (fun k hk => ⟨by have := hk.1; simp; omega, hk.2⟩)
  have hle := h.le
  have hne : ∀ k, k < H + 3 → some k ≠ v.ownBlock := fun k hk e => by have := hle k e.symm; omega
  have hlt := h.b4.lt
  have b4 := hS.boxed (b := H + 2) ⟨hlt, hne _ (by omega)⟩ h.b4
  have hfresh : ∀ g, v'.ownBlock = some g → v.ownBlock = some g ∨ V.heap.size ≤ g := fun g e => by
    rcases hw with hw | hw
    · exact .inl (hw ▸ e)
    · rw [e] at hw; cases hw; right; simp
  have hS2 : Stays (fun k => k ≠ H + 2) V1 (V1.setCell ⟨H + 2, 0, none⟩ v') := (Stays.refl _ _).setCell _ _ (fun h => h rfl)
  have hrow := Strs.snoc (l := ps) (x := x) rfl hown
  refine ⟨b4, ⟨hS2.boxed (by omega) (hS.boxed ⟨by omega, hne _ (by omega)⟩ h.b2), hS2.boxed (by omega) (hS.boxed ⟨by omega, hne _ (by omega)⟩ h.b3), b4.set _, hS2.row hrow (fun g e => ?_)⟩, hfresh, (hS.mono fun k hk => ⟨hk.1, hk.2.2⟩).trans (hS2.mono fun k hk => hk.2.1)⟩
  rcases hfresh g e with h | h
  · have := hle g h; omega
  · omega
/-- What the taker says goes on being so while the iterator turns its own blocks. -/
theorem mine_step {β : Type} {H : Nat} {J : β → (Nat → Prop) → World → Prop} (hJ : Foot H J) {s : β} {v v' : Value} {O : Nat → Prop} {A B : World} (h : J s (Mine H v O) A) (hO : ∀ k, Mine H v O k → H ≤ k) (hS : Stays (fun k => k < A.heap.size ∧ ¬ Mine H v O k) A B) (hv : ∀ g, v'.ownBlock = some g → v.ownBlock = some g ∨ A.heap.size ≤ g) : J s (Mine H v' O) B :=
  hJ s _ _ A B h hO hS (fun k hk => by
    rcases hk with hk | hk | hk | hk | hk
    · exact .inl (.inl hk)
    · exact .inl (.inr (.inl hk))
    · exact .inl (.inr (.inr (.inl hk)))
    · exact .inl (.inr (.inr (.inr (.inl hk))))
    · exact (hv k hk).imp (fun h => .inr (.inr (.inr (.inr h)))) id)
end Go.Proofs.YtpdodknldhbbhaaGreatDoor.Ln

namespace Go.Proofs.YtpdodknldhbbhaaGreatDoor.Ln
set_option maxRecDepth 100000
open Go.RowKit Strs Sq
attribute [local go_sem] Oper.semAt_some

/-- What holds between two lines: em has been handed on, the rest is on its way. -/
def UnfI (H : Nat) (y : Value) (xs all : List (Nat × List UInt8)) (J : List (Nat × List UInt8) → (Nat → Prop) → World → Prop) (pre : List (Nat × List UInt8)) (O : Nat → Prop) (V : World) : Prop :=
  ∃ (em : List (Nat × List UInt8)) (bg : Nat) (ps : List (List UInt8)) (v : Value), Hid (em ++ unf (pend bg ps) (xs.drop pre.length) = all) ∧ (ps.length ≤ pre.length ∧ bytes ps ≤ bytes (pre.map (·.2))) ∧ St H y bg ps v V ∧ (∀ g, v.ownBlock = some g → ¬ O g) ∧ J em (Mine H v O) V
/-- .. where the taker wants no more. -/
def UnfX (H : Nat) (all : List (Nat × List UInt8)) (Jx : List (Nat × List UInt8) → (Nat → Prop) → World → Prop) (_pre : List (Nat × List UInt8)) (O : Nat → Prop) (V : World) : Prop :=
  ∃ (em : List (Nat × List UInt8)) (v : Value), em <+: all ∧ (∀ g, v.ownBlock = some g → H ≤ g) ∧ Jx em (Mine H v O) V
theorem mine_more {H : Nat} {v : Value} {O O' : Nat → Prop} {n : Nat} (h : ∀ k, O' k → O k ∨ n ≤ k) : ∀ k, Mine H v O' k → Mine H v O k ∨ n ≤ k := fun k hk => by
  rcases hk with hk | hk
  · exact (h k hk).imp (fun h => .inl h) id
  · exact .inl (.inr hk)
theorem unf_foot {H : Nat} {y : Value} {xs all : List (Nat × List UInt8)} {J : List (Nat × List UInt8) → (Nat → Prop) → World → Prop} (hJ : Foot H J) : Foot (H + 3) (UnfI H y xs all J) := by
  rintro pre O O' A B ⟨em, bg, ps, v, h1, h2, h3, h4, h5⟩ hO hS hO'
  have hle := h3.le
  refine ⟨em, bg, ps, v, h1, h2, h3.stays hS ⟨h3.b2.lt, fun ho => by have := hO _ ho; omega⟩ ⟨h3.b3.lt, fun ho => by have := hO _ ho; omega⟩ ⟨h3.b4.lt, fun ho => by have := hO _ ho; omega⟩ (fun g e => ⟨(hle g e).2, h4 g e⟩), fun g e ho => ?_, hJ em _ _ A B h5 (fun k hk => ?_) (hS.mono fun k hk => ⟨hk.1, fun ho => hk.2 (.inl ho)⟩) (mine_more hO')⟩
  · rcases hO' g ho with h | h
    · exact h4 g e h
    · have := hle g e; omega
  · rcases hk with hk | rfl | rfl | rfl | hk
    · have := hO k hk; omega
    · omega
    · omega
    · omega
    · have := hle k hk; omega
theorem unf_footX {H : Nat} {all : List (Nat × List UInt8)} {Jx : List (Nat × List UInt8) → (Nat → Prop) → World → Prop} (hJ : Foot H Jx) : Foot (H + 3) (UnfX H all Jx) := by
  rintro pre O O' A B ⟨em, v, h1, h2, h3⟩ hO hS hO'
  refine ⟨em, v, h1, h2, hJ em _ _ A B h3 (fun k hk => ?_) (hS.mono fun k hk => ⟨hk.1, fun ho => hk.2 (.inl ho)⟩) (mine_more hO')⟩
  rcases hk with hk | rfl | rfl | rfl | hk
  · have := hO k hk; omega
  · omega
  · omega
  · omega
  · exact h2 k hk

/-- A round is over: only the iterator's own has turned since V. -/
theorem unf_close {H : Nat} {y : Value} {xs all : List (Nat × List UInt8)} {J : List (Nat × List UInt8) → (Nat → Prop) → World → Prop} {R O : Nat → Prop} {bg bg' : Nat} {ps ps' : List (List UInt8)} {v v' : Value} {V V' : World} {em pre' : List (Nat × List UInt8)}
    (hJ : Foot H J) (hst : St H y bg ps v V) (hst' : St H y bg' ps' v' V') (hO : ∀ k, O k → H + 3 ≤ k ∧ k < V.heap.size) (hvO : ∀ g, v.ownBlock = some g → ¬ O g) (hRH : ∀ k, R k → k < H)
    (hS : Stays (fun k => k < V.heap.size ∧ k ≠ H + 1 ∧ k ≠ H + 2 ∧ some k ≠ v.ownBlock) V V') (hfresh : ∀ g, v'.ownBlock = some g → v.ownBlock = some g ∨ V.heap.size ≤ g)
    (hJv : J em (Mine H v O) V) (HE : Hid (em ++ unf (pend bg' ps') (xs.drop pre'.length) = all)) (hps : ps'.length ≤ pre'.length ∧ bytes ps' ≤ bytes (pre'.map (·.2))) :
    Stays (fun k => O k ∨ R k) V V' ∧ UnfI H y xs all J pre' O V' := by
  have hle := hst.le
  have h2 := hst.b2.lt
  refine ⟨hS.mono fun k hk => ?_, em, bg', ps', v', HE, hps, hst', fun g e ho => ?_, mine_step hJ hJv (fun k hk => (hst.mine hO k hk).1) (hS.mono fun k hk => ⟨hk.1, fun e => hk.2 (.inr (.inr (.inl e))), fun e => hk.2 (.inr (.inr (.inr (.inl e)))), fun e => hk.2 (.inr (.inr (.inr (.inr e.symm))))⟩) hfresh⟩
  · rcases hk with hk | hk
    · have := hO k hk; exact ⟨this.2, by omega, by omega, fun e => hvO k e.symm hk⟩
    · have := hRH k hk; exact ⟨by omega, by omega, by omega, fun e => by have := hle k e.symm; omega⟩
  · rcases hfresh g e with h | h
    · exact hvO g h ho
    · have := hO g ho; omega

/-- What comes of handing on one of them: whether more is wanted. -/
def UnfY (J Jx : List (Nat × List UInt8) → (Nat → Prop) → World → Prop) (O R : Nat → Prop) (em : List (Nat × List UInt8)) (V : World) (e : Ending) (V' : World) : Prop :=
  ∃ ok, e = .returned (.bool ok) ∧ Stays (fun k => O k ∨ R k) V V' ∧ ((ok = true ∧ J em O V') ∨ (ok = false ∧ Jx em O V'))
def UnfZ (J Jx : List (Nat × List UInt8) → (Nat → Prop) → World → Prop) (O R : Nat → Prop) (em : List (Nat × List UInt8)) (V : World) (ok : Bool) (V' : World) : Prop :=
  Stays (fun k => O k ∨ R k) V V' ∧ ((ok = true ∧ J em O V') ∨ (ok = false ∧ Jx em O V'))
theorem unf_yield {P : Program} {H : Nat} {y : Value} {J Jx : List (Nat × List UInt8) → (Nat → Prop) → World → Prop} {R O : Nat → Prop} {V : World} {em : List (Nat × List UInt8)} {bg : Nat} {fl : List UInt8}
    (hJ : Foot H J) (hJv : J em O V) (hO : ∀ k, O k → H ≤ k ∧ k < V.heap.size) (hR : ∀ k, R k → k < V.heap.size)
    (h : ∀ w2, J em O w2 → (∀ k, O k → H ≤ k ∧ k < w2.heap.size) → V.heap.size ≤ w2.heap.size → Takes P y (encL (bg, fl)) w2 fun e W' => Stays (fun k => O k ∨ R k) w2 W' ∧ ((e = .returned (.bool true) ∧ J (em ++ [(bg, fl)]) O W') ∨ (e = .returned (.bool false) ∧ Jx (em ++ [(bg, fl)]) O W'))) :
    ∀ w2, Below V.drew.heap.size V.drew w2 → Takes P y #[.int .i64 (bg : Int), .string ⟨fl.toArray⟩] w2 (UnfY J Jx O R (em ++ [(bg, fl)]) V) := fun w2 b2 => by
  have b : Below V.heap.size V w2 := ((Below.refl _ V).drew).trans b2
  refine (h w2 (hJ.grow hJv (fun k hk => (hO k hk).1) b) (fun k hk => by have := hO k hk; have := b.size; omega) b.size).mono ?_
  rintro e W' ⟨hS, h⟩
  have hSV : Stays (fun k => O k ∨ R k) V W' := (Stays.of_below b fun k hk => by
    rcases hk with hk | hk
    · exact (hO k hk).2
    · exact hR k hk).trans hS
  rcases h with ⟨rfl, h⟩ | ⟨rfl, h⟩
  · exact ⟨true, rfl, hSV, .inl ⟨rfl, h⟩⟩
  · exact ⟨false, rfl, hSV, .inr ⟨rfl, h⟩⟩

/-- The block for the rounds' deferred calls is shut: the taker's word stands. -/
theorem unf_out {J Jx : List (Nat × List UInt8) → (Nat → Prop) → World → Prop} {H : Nat} {O : Nat → Prop} {all : List (Nat × List UInt8)} {V : World} {D : Nat} (hJ : Foot H J) (hJx : Foot H Jx) (hO : ∀ k, O k → H ≤ k) (hD : O D) (o : Obj)
    (h : J all O V ∨ ∃ pre, pre <+: all ∧ Jx pre O V) : ∃ O', (∀ k, O' k → H ≤ k) ∧ (J all O' (V.putObj D o) ∨ ∃ pre, pre <+: all ∧ Jx pre O' (V.putObj D o)) := by
  have hS : Stays (fun k => k < V.heap.size ∧ ¬ O k) V (V.putObj D o) := (Stays.refl _ _).putObj _ _ (fun h => h.2 hD)
  refine ⟨O, hO, ?_⟩
  rcases h with h | ⟨pre, hp, h⟩
  · exact .inl (hJ _ O O V _ h hO hS (fun k hk => .inl hk))
  · exact .inr ⟨pre, hp, hJx _ O O V _ h hO hS (fun k hk => .inl hk)⟩

set_option maxHeartbeats 2000000 in
theorem unfolded_sq {gf : FuncId} {lb : Array Value} {R : Nat → Prop} {xs : List (Nat × List UInt8)} {w : World} (hseq : Sq Tryz.prog gf lb encL R xs w) (eg : ∀ args w, (callFunc gf args).run Tryz.prog w = .ok (.enter gf args) w) (hRw : ∀ k, R k → k < w.heap.size)
    (Bf : Nat) (hB : Boxed w Bf 80 (.func (.func gf) #[] lb)) (h1 : xs.length ≤ 1099511627776) (h2 : bytes (xs.map (·.2)) ≤ 1099511627776) :
    Sq Tryz.prog 84 #[.pointer (some ⟨Bf, 0, none⟩)] encL (fun k => k = Bf ∨ R k) (unf none xs) w := by
  intro y J Jx W hy hR hJ hJx hY hJ0
  obtain ⟨all, hall⟩ : ∃ all, unf none xs = all := ⟨_, rfl⟩
  rw [hall] at hY ⊢
  have hB := hR.boxed (show (fun k => k = Bf ∨ R k) Bf from .inl rfl) hB
  have HY := Lib.hid hY
  clear hY
  refine (callsIn_wide (n := 5)).1 ?_
  refine callsIn_of_wp_marks Tryz.func84 rfl trivial ?_ rfl
  simp only [Tryz.ntmps84, List.size_toArray, List.length_cons, List.length_nil, Nat.reduceAdd, Nat.reduceSub, Array.replicate_succ, Array.replicate_zero, List.push_toArray, List.append_toArray, List.nil_append, List.cons_append]
  have hc := hB.cell
  obtain ⟨fy, ca, rfl⟩ : ∃ fy ca, y = .func fy #[] ca := by
    rcases hy with ⟨l, rfl⟩ | ⟨g, ca, rfl, eg⟩
    · exact ⟨_, _, rfl⟩
    · exact ⟨_, _, rfl⟩
  clear hc
  have hc := (((hB.alloc (.cells #[.func fy #[] ca] 111)).alloc (.cells #[.int .i64 0] 3)).alloc (.cells #[.slice none 0 0] 39)).cell
  gi_wp2_with fail
  have b2 := Boxed.new W 111 (.func fy #[] ca)
  have b3 := Boxed.new (W.alloc (.cells #[.func fy #[] ca] 111)) 3 (.int .i64 0)
  have b4 := Boxed.new ((W.alloc (.cells #[.func fy #[] ca] 111)).alloc (.cells #[.int .i64 0] 3)) 39 (.slice none 0 0)
  simp only [World.size_alloc] at b3 b4
  have hV : Below W.heap.size W (((W.alloc (.cells #[.func fy #[] ca] 111)).alloc (.cells #[.int .i64 0] 3)).alloc (.cells #[.slice none 0 0] 39)) := (((Below.refl _ W).alloc (Nat.le_refl _) _).alloc (by simp) _).alloc (by simp; omega) _
  have b2' := (b2.alloc (.cells #[.int .i64 0] 3)).alloc (.cells #[.slice none 0 0] 39)
  have b3' := b3.alloc (.cells #[.slice none 0 0] 39)
  have hz : (((W.alloc (.cells #[.func fy #[] ca] 111)).alloc (.cells #[.int .i64 0] 3)).alloc (.cells #[.slice none 0 0] 39)).heap.size = W.heap.size + 3 := by simp
  clear b2 b3 hc
  generalize (((W.alloc (.cells #[.func fy #[] ca] 111)).alloc (.cells #[.int .i64 0] 3)).alloc (.cells #[.slice none 0 0] 39)) = V0 at *
  obtain ⟨H, hH⟩ : ∃ H, W.heap.size = H := ⟨_, rfl⟩
  rw [hH] at b4 hV b2' b3' hz hJ hJx HY ⊢
  have hwW := hR.size
  have hst0 : St H (.func fy #[] ca) 0 [] (.slice none 0 0) V0 := ⟨b2', b3', b4, Strs.nil _ _⟩
  have hJ1 : J [] (Mine H (.slice none 0 0) (fun _ => False)) V0 := hJ [] _ _ W V0 hJ0 (fun k hk => hk.elim) (Stays.of_below hV fun k hk => by have := hk.1; omega) (fun k hk => by
    rcases hk with hk | rfl | rfl | rfl | hk
    · exact hk.elim
    · right; omega
    · right; omega
    · right; omega
    · simp [Value.ownBlock] at hk)
  have hIf := unf_foot (xs := xs) (all := all) (y := .func fy #[] ca) hJ
  have hXf := unf_footX (all := all) hJx
  have hRV : Stays R w V0 := (hR.mono fun k hk => .inr hk).trans (Stays.of_below hV fun k hk => by have := hRw k hk; omega)
  have hRH : ∀ k, k = Bf ∨ R k → k < H := fun k hk => by
    rcases hk with rfl | hk
    · have := hB.lt; omega
    · have := hRw k hk; omega
  have H1 := Lib.hid h1
  have H2 := Lib.hid h2
  rw [← hz] at hIf hXf
  clear b2' b3' b4 hB hR h1 h2 hJ0
  refine range_sq1 (gf := gf) (lb := lb) rfl eg hseq hRV (fun k hk => by have := hRH k (.inr hk); omega) (fun _ => rfl) (UnfI H (.func fy #[] ca) xs all J) (fun c pre O V => c = .ret ∧ UnfX H all Jx pre O V) hIf (fun c => Foot.and (Foot.pure fun _ => c = .ret) hXf)
    ⟨[], 0, [], .slice none 0 0, Lib.hid (by rw [← hall]; simp [pend]), ⟨Nat.le_refl _, Nat.le_refl _⟩, hst0, fun g e => by simp [Value.ownBlock] at e, hJ1⟩ ?round ?done ?stop
  case round =>
    rintro l pre ⟨n, x⟩ O W1 hO hp
    unfold encL
    gi_wp2
    refine ⟨trivial, ?_⟩
    rintro V ⟨em, bg, ps, v, HE, ⟨hp1, hp2⟩, hst, hvO, hJv⟩ hRW hOl hrec hOW
    obtain ⟨hb1, hb2⟩ := bytes_pre hp
    have hn1 : ps.length + 1 ≤ 1099511627776 := by have := H1.out; omega
    have hn2 : bytes ps + x.length ≤ 1099511627776 := by have := H2.out; simp only at hb1; omega
    obtain ⟨i0, hi, hz0, hz1, hz2⟩ := info_parts infoStr
    have hMine := hst.mine (O := O) (fun k hk => by have := hOW k hk; omega)
    obtain ⟨sa, sc, rfl⟩ := Strs.shape (show V.ownsRow H _ 1 v ps.length _ from hst.row)
    have hHV : H + 3 ≤ V.heap.size := by have := hst.b4.lt; omega
    by_cases hps : ps = []
    · subst hps
      have HE1 := Lib.hid (goes_first hp HE.out)
      simp only [List.length_nil] at hst hvO hJv hMine
      have hst1 := hst.begin n
      have hS1 : Stays (fun k => k ≠ H + 1) V (V.setCell ⟨H + 1, 0, none⟩ (.int .i64 (n : Int))) := (Stays.refl _ _).setCell _ _ (fun h => h rfl)
      obtain ⟨V1, hV1⟩ : ∃ V1, V.setCell ⟨H + 1, 0, none⟩ (.int .i64 (n : Int)) = V1 := ⟨_, rfl⟩
      rw [hV1] at hst1 hS1
      have hc := hst.b4.cell
      have hc3 := hst.b3.cell
      have hf3 := hst.b3.frozen
      have hc1 := hst1.b4.cell
      have hf1 := hst1.b4.frozen
      have hrow1 := hst1.row
      have HP1 := Lib.hid hp1
      have HP2 := Lib.hid hp2
      have hzz := hS1.size
      clear hp1 hp2 hb1 hb2 hn2 HE
      have hA : 0 + 1 ≤ maxLen := by decide
      have hA2 : (0 + 1) * 16 ≤ 140737488355328 := by decide
      have hA3 : H ≤ (V1.alloc (.cells #[.string ⟨x.toArray⟩] 9)).heap.size := by simp; omega
      gi_wp2_with fail
      refine ⟨trivial, ?_⟩
      gi_wp2_with (gi_at_builtin; refine App.walk_append _ rfl _ _ 39 rfl H 9 i0 (.string .empty) 1 16 Tryz.underlying39 hi hz0 hz1 hz2 rfl (by decide) _ 0 (scells []) rfl (hrow1.alloc _) ⟨V1.heap.size, 0, none⟩ 1 1 [.string ⟨x.toArray⟩] rfl rfl (cell_one_new _ _ _) (by simp [Value.oneCell']) hA hA2 hA3 (by decide) ?_; intro v' w1 hown' hgrow hwhere; obtain ⟨g', cap', rfl⟩ := ownsRow_succ hown'; obtain ⟨hv4, hst2, hfresh, hSt⟩ := hst1.append hown' hgrow hwhere; have hc4 := hv4.cell; have hf4 := hv4.frozen)
      exact unf_close hJ hst hst2 (fun k hk => by have := hOW k hk; omega) hvO (fun k hk => hRH k (.inr hk)) ((hS1.mono fun k hk => hk.2.1).trans (hSt.mono fun k hk => ⟨by have := hk.1; omega, hk.2.2⟩)) (fun g e => (hfresh g e).imp id fun h => by omega) hJv HE1 ⟨by simp, by simp [bytes]⟩
    · have CG := Lib.hid (fun W => goesOn_any ⟨x.toArray⟩ W)
      rw [mk_list] at CG
      have hlen : 0 < ps.length := by cases ps with | nil => exact absurd rfl hps | cons a r => simp
      have hlen1 : (ps.length : Int) > 0 := by omega
      have hlen2 : ((ps.length : Int) == 0) = false := by simp; exact hps
      cases hg : goes x
      · have HE1 := Lib.hid (goes_new hp hps hg HE.out)
        rw [hg] at CG
        have HP := Lib.hid (show em ++ [(bg, ps.flatten)] <+: all from ⟨_, HE1.out⟩)
        have hmix : Tryz.prog.follows .mixedOrders = true := by kernel_rfl
        have hstD : St H (.func fy #[] ca) bg ps (.slice sa ps.length sc) V.drew := hst.keep (Below.refl _ _).drew
        have CJ := Lib.hid (join_any (.slice sa ps.length sc) ps hps (by omega) (by omega) V.drew hstD.row.reads)
        have TY := Lib.hid (unf_yield (R := fun k => k = Bf ∨ R k) (Jx := Jx) hJ hJv (fun k hk => hMine k hk) (fun k hk => by have := hRH k hk; omega) (fun w2 h2 h3 h4 => HY.out em (bg, ps.flatten) _ w2 h2 h3 (by omega) HP.out))
        have hc2 := hstD.b2.cell
        have hc3 := hstD.b3.cell
        have hc4 := hstD.b4.cell
        have hc := hst.b4.cell
        generalize hfl : ps.flatten = fl at HE1 HP CJ TY
        clear hp1 hp2 hb1 hb2 hn2 HE hps
        gi_wp2_with (refine ⟨trivial, ?_⟩; gi_at_call 85; refine (CallsIn.inRound l (callsIn_wide.2 (CG.out _))).mono ?_; rintro e w' ⟨rfl, rfl⟩)
        refine Code.wpIn_mono (Q := fun e a' V' => e = .normal ∧ ∃ ok, a' = { tmps := #[.func fy #[] ca, .pointer (some ⟨Bf, 0, none⟩), .pointer (some ⟨H, 0, none⟩), .pointer (some ⟨H + 1, 0, none⟩), .pointer (some ⟨H + 1 + 1, 0, none⟩), .int .i64 (n : Int), .string ⟨x.toArray⟩, .func (.func gf) #[] lb, .int .i64 (n : Int), .string ⟨x.toArray⟩, .slice sa ps.length sc, .int .i64 (ps.length : Int), .bool true, .bool true, .string ⟨x.toArray⟩, .bool false, .bool true, .bool true, .func fy #[] ca, .int .i64 (bg : Int), .slice sa ps.length sc, .string ⟨fl.toArray⟩, .bool ok, .bool (!ok), undef, undef, undef, undef, undef, undef, undef, undef, undef, undef, undef, undef, undef, undef, undef, undef], defers := [] } ∧ UnfZ J Jx (Mine H (.slice sa ps.length sc) O) (fun k => k = Bf ∨ R k) (em ++ [(bg, fl)]) V ok V') ?tail ?region
        case region =>
          clear HE1 HP hJv hrec hIf hXf hst0 hJ1 HY hRW hJ hJx H1 H2 hseq hRV
          rcases hy with ⟨l', hyy⟩ | ⟨g, ca', hyy, egy⟩
          · cases hyy
            gi_region_with_o (first
              | (refine ⟨trivial, ?_⟩; gi_at_call 86; refine (CallsIn.inRound l (callsIn_wide.2 CJ.out)).mono ?_; rintro e w2 ⟨rfl, b2⟩; have hst2 := hstD.keep b2; have hc5 := hst2.b2.cell; have hc6 := hst2.b3.cell; obtain ⟨fn, tmps, assign, body, hyy, hR⟩ := (TY.out w2 b2).loop 4)
              | (refine RoundIn.mono hR ?_; rintro e W3 ⟨ok, rfl, hS3, hJ3⟩))
            all_goals exact ⟨rfl, ok, rfl, hS3, hJ3⟩
          · cases hyy
            gi_region_with_o (first
              | (refine ⟨trivial, ?_⟩; gi_at_call 86; refine (CallsIn.inRound l (callsIn_wide.2 CJ.out)).mono ?_; rintro e w2 ⟨rfl, b2⟩; have hst2 := hstD.keep b2; have hc5 := hst2.b2.cell; have hc6 := hst2.b3.cell; have hR := CallsIn.inRound l ((callsIn_wide (n := 4)).2 (TY.out w2 b2).named))
              | (refine ⟨trivial, CallsIn.mono hR ?_⟩; rintro e W3 ⟨ok, rfl, hS3, hJ3⟩))
            all_goals exact ⟨rfl, ok, rfl, hS3, hJ3⟩
        case tail =>
          rintro e a' W3 ⟨rfl, ok, rfl, hS3, hJ3⟩
          rcases hJ3 with ⟨rfl, hJ3⟩ | ⟨rfl, hJ3⟩
          · have hst3 := hst.stays hS3 (.inl (.inr (.inl rfl))) (.inl (.inr (.inr (.inl rfl)))) (.inl (.inr (.inr (.inr (.inl rfl))))) (fun g e => .inl (.inr (.inr (.inr (.inr e)))))
            have hSW := hS3.size
            have hst4 := hst3.clear
            have hS4 : Stays (fun k => k ≠ H + 2) W3 (W3.setCell ⟨H + 2, 0, none⟩ (.slice none 0 0)) := (Stays.refl _ _).setCell _ _ (fun h => h rfl)
            have hc3 := hst3.b4.cell
            have hf3 := hst3.b4.frozen
            obtain ⟨W4, hW4⟩ : ∃ W4, W3.setCell ⟨H + 1 + 1, 0, none⟩ (.slice none 0 0) = W4 := ⟨_, rfl⟩
            rw [show W3.setCell ⟨H + 2, 0, none⟩ (.slice none 0 0) = W4 from hW4] at hst4 hS4
            have hst5 := hst4.begin n
            have hS5 : Stays (fun k => k ≠ H + 1) W4 (W4.setCell ⟨H + 1, 0, none⟩ (.int .i64 (n : Int))) := (Stays.refl _ _).setCell _ _ (fun h => h rfl)
            have hc4 := hst4.b4.cell
            have hc4b := hst4.b3.cell
            have hf4b := hst4.b3.frozen
            obtain ⟨W5, hW5⟩ : ∃ W5, W4.setCell ⟨H + 1, 0, none⟩ (.int .i64 (n : Int)) = W5 := ⟨_, rfl⟩
            rw [hW5] at hst5 hS5
            have hc5 := hst5.b4.cell
            have hf5 := hst5.b4.frozen
            have hrow1 := hst5.row
            have hz4 := hS4.size
            have hz5 := hS5.size
            have hA : 0 + 1 ≤ maxLen := by decide
            have hA2 : (0 + 1) * 16 ≤ 140737488355328 := by decide
            have hA3 : H ≤ (W5.alloc (.cells #[.string ⟨x.toArray⟩] 9)).heap.size := by simp; omega
            clear hc2
            gi_wp2_with (gi_at_builtin; refine App.walk_append _ rfl _ _ 39 rfl H 9 i0 (.string .empty) 1 16 Tryz.underlying39 hi hz0 hz1 hz2 rfl (by decide) _ 0 (scells []) rfl (hrow1.alloc _) ⟨W5.heap.size, 0, none⟩ 1 1 [.string ⟨x.toArray⟩] rfl rfl (cell_one_new _ _ _) (by simp [Value.oneCell']) hA hA2 hA3 (by decide) ?_; intro v' w1 hown' hgrow hwhere; obtain ⟨g', cap', rfl⟩ := ownsRow_succ hown'; obtain ⟨hv4, hst6, hfresh, hSt⟩ := hst5.append hown' hgrow hwhere; have hc6 := hv4.cell; have hf6 := hv4.frozen)
            have hfin := unf_close (R := R) hJ hst3 hst6 (fun k hk => by have := hOW k hk; omega) hvO (fun k hk => hRH k (.inr hk)) ((hS4.mono fun k hk => hk.2.2.1).trans ((hS5.mono fun k hk => hk.2.1).trans (hSt.mono fun k hk => ⟨by have := hk.1; omega, hk.2.2.1, by simp [Value.ownBlock]⟩))) (fun g e => .inr (by rcases hfresh g e with h | h; simp [Value.ownBlock] at h; omega)) hJ3 HE1 ⟨by simp, by simp [bytes]⟩
            exact ⟨(hS3.mono fun k hk => by rcases hk with hk | hk; exact .inl (.inl hk); exact .inr (.inr hk)).trans hfin.1, hfin.2⟩
          · gi_wp2_with fail
            exact ⟨hS3.mono fun k hk => by rcases hk with hk | hk; exact .inl (.inl hk); exact .inr (.inr hk), rfl, em ++ [(bg, fl)], .slice sa ps.length sc, HP.out, fun g e => by have := hst.le g e; omega, hJ3⟩
      · have HE1 := Lib.hid (goes_on hp hps hg HE.out)
        rw [hg] at CG
        have hc := hst.b4.cell
        have hf := hst.b4.frozen
        have hrow1 := hst.row
        have HP1 := Lib.hid hp1
        have HP2 := Lib.hid hp2
        have hA : ps.length + 1 ≤ maxLen := by unfold maxLen; omega
        have hA2 : (ps.length + 1) * 16 ≤ 140737488355328 := by omega
        have hA3 : H ≤ (V.alloc (.cells #[.string ⟨x.toArray⟩] 9)).heap.size := by simp; omega
        clear hp1 hp2 hb1 hb2 hn2 HE hps
        gi_wp2_with (first | (refine ⟨trivial, ?_⟩; gi_at_call 85; refine (CallsIn.inRound l (callsIn_wide.2 (CG.out _))).mono ?_; rintro e w' ⟨rfl, rfl⟩) | (gi_at_builtin; refine App.walk_append _ rfl _ _ 39 rfl H 9 i0 (.string .empty) 1 16 Tryz.underlying39 hi hz0 hz1 hz2 rfl (by decide) _ ps.length (scells ps) rfl (hrow1.alloc _) ⟨V.heap.size, 0, none⟩ 1 1 [.string ⟨x.toArray⟩] rfl rfl (cell_one_new _ _ _) (by simp [Value.oneCell']) hA hA2 hA3 (by decide) ?_; intro v' w1 hown' hgrow hwhere; obtain ⟨g', cap', rfl⟩ := ownsRow_succ hown'; obtain ⟨hv4, hst2, hfresh, hSt⟩ := hst.append hown' hgrow hwhere; have hc4 := hv4.cell; have hf4 := hv4.frozen))
        exact unf_close hJ hst hst2 (fun k hk => by have := hOW k hk; omega) hvO (fun k hk => hRH k (.inr hk)) (hSt.mono fun k hk => ⟨hk.1, hk.2.2⟩) hfresh hJv HE1 ⟨by have := HP1.out; simp; omega, by have := HP2.out; simp [bytes] at this ⊢; omega⟩
  case done =>
    rintro D O V hD hOD hO hRW ⟨em, bg, ps, v, HE, ⟨hp1, hp2⟩, hst, hvO, hJv⟩ hK
    have hMine := hst.mine' (O := O) (fun k hk => by have := hO k hk; omega)
    obtain ⟨sa, sc, rfl⟩ := Strs.shape (show V.ownsRow H _ 1 v ps.length _ from hst.row)
    have hHV : H + 3 ≤ V.heap.size := by have := hst.b4.lt; omega
    have hc := hst.b4.cell
    by_cases hps : ps = []
    · subst hps
      have HE1 := Lib.hid (goes_end HE.out)
      gi_wp2_with fail
      refine ⟨by simp, .inl ⟨_, _, rfl, run_takeDeferred hK, ?_⟩⟩
      refine ⟨_, results_none rfl _ _ _, ⟨_, rfl⟩, ?_⟩
      try rw [hH]
      exact unf_out hJ hJx hMine (.inl hOD) _ (.inl (by rw [← HE1.out]; exact hJv))
    · have HE1 := Lib.hid (goes_last hps HE.out)
      have hlen : 0 < ps.length := by cases ps with | nil => exact absurd rfl hps | cons a r => simp
      have hlen1 : (ps.length : Int) > 0 := by omega
      have hmix : Tryz.prog.follows .mixedOrders = true := by kernel_rfl
      have hstD : St H (.func fy #[] ca) bg ps (.slice sa ps.length sc) V.drew := hst.keep (Below.refl _ _).drew
      have CJ := Lib.hid (join_any (.slice sa ps.length sc) ps hps (by have := H1.out; omega) (by have := H2.out; omega) V.drew hstD.row.reads)
      have hMv : ∀ k, Mine H (.slice sa ps.length sc) (fun k => k = D) k → H ≤ k ∧ k < V.heap.size := fun k hk => ⟨by have := hst.mine' (O := fun k => k = D) (fun k hk => by omega) k hk; exact this, hst.mine_lt (fun k hk => by rw [hk]; exact (Array.getElem?_eq_some_iff.1 hK).1) k hk⟩
      have hJw : J em (Mine H (.slice sa ps.length sc) (fun k => k = D)) V := hJ em _ _ V V hJv hMine (Stays.refl _ _) (fun k hk => by
        rcases hk with rfl | hk
        · exact .inl (.inl hOD)
        · exact .inl (.inr hk))
      have TY := Lib.hid (unf_yield (R := fun k => k = Bf ∨ R k) (Jx := Jx) hJ hJw hMv (fun k hk => by have := hRH k hk; omega) (fun w2 h2 h3 h4 => HY.out em (bg, ps.flatten) _ w2 h2 h3 (by omega) ⟨[], by rw [List.append_nil]; exact HE1.out⟩))
      have hc2 := hstD.b2.cell
      have hc3 := hstD.b3.cell
      have hc4 := hstD.b4.cell
      generalize hfl : ps.flatten = fl at HE1 CJ TY
      gi_wp2_with fail
      refine Code.wpIn_mono (Q := fun e a' V' => e = .normal ∧ ∃ ok, a' = { tmps := #[.func fy #[] ca, .pointer (some ⟨Bf, 0, none⟩), .pointer (some ⟨H, 0, none⟩), .pointer (some ⟨H + 1, 0, none⟩), .pointer (some ⟨H + 1 + 1, 0, none⟩), undef, undef, .func (.func gf) #[] lb, undef, undef, undef, undef, undef, undef, undef, undef, undef, undef, undef, undef, undef, undef, undef, undef, undef, undef, undef, undef, undef, undef, undef, undef, .slice sa ps.length sc, .int .i64 (ps.length : Int), .bool true, .func fy #[] ca, .int .i64 (bg : Int), .slice sa ps.length sc, .string ⟨fl.toArray⟩, .bool ok], defers := [{ target := .collected D, args := #[] }] } ∧ UnfZ J Jx (Mine H (.slice sa ps.length sc) (fun k => k = D)) (fun k => k = Bf ∨ R k) (em ++ [(bg, fl)]) V ok V') ?tail ?region
      case region =>
        clear HE1 hJv hIf hXf hst0 hJ1 HY hRW hJ hJx H1 H2 hseq hRV HE hp1 hp2 hps hJw hMv hMine hvO hfl hlen hlen1
        rcases hy with ⟨l', hyy⟩ | ⟨g, ca', hyy, egy⟩
        · cases hyy
          gi_region_with_o (first
            | (refine ⟨trivial, ?_⟩; gi_at_call 86; refine (callsIn_wide.2 CJ.out).mono ?_; rintro e w2 ⟨rfl, b2⟩; have hst2 := hstD.keep b2; have hc5 := hst2.b2.cell; have hc6 := hst2.b3.cell; obtain ⟨fn, tmps, assign, body, hyy, hR⟩ := (TY.out w2 b2).loop 4)
            | (refine RoundIn.mono hR ?_; rintro e W3 ⟨ok, rfl, hS3, hJ3⟩))
          all_goals exact ⟨rfl, ok, rfl, hS3, hJ3⟩
        · cases hyy
          gi_region_with_o (first
            | (refine ⟨trivial, ?_⟩; gi_at_call 86; refine (callsIn_wide.2 CJ.out).mono ?_; rintro e w2 ⟨rfl, b2⟩; have hst2 := hstD.keep b2; have hc5 := hst2.b2.cell; have hc6 := hst2.b3.cell; have hR := (callsIn_wide (n := 4)).2 (TY.out w2 b2).named)
            | (refine ⟨trivial, CallsIn.mono hR ?_⟩; rintro e W3 ⟨ok, rfl, hS3, hJ3⟩))
          all_goals exact ⟨rfl, ok, rfl, hS3, hJ3⟩
      case tail =>
        rintro e a' W3 ⟨rfl, ok, rfl, hS3, hJ3⟩
        have hK3 := (hS3.block D (.inl (.inl rfl))).trans hK
        gi_wp2_with fail
        refine ⟨by simp, .inl ⟨_, _, rfl, run_takeDeferred hK3, ?_⟩⟩
        refine ⟨_, results_none rfl _ _ _, ⟨_, rfl⟩, ?_⟩
        try rw [hH]
        refine unf_out hJ hJx (fun k hk => (hMv k hk).1) (.inl rfl) _ ?_
        rcases hJ3 with ⟨_, h⟩ | ⟨_, h⟩
        · exact .inl (by rw [← HE1.out]; exact h)
        · exact .inr ⟨_, ⟨[], by rw [List.append_nil]; exact HE1.out⟩, h⟩
  case stop =>
    rintro D c pre O V hD hOD hO hRW hpre ⟨rfl, em, v, h1, h2, h3⟩ hK
    gi_wp2_with fail
    refine ⟨by simp, .inl ⟨_, _, rfl, run_takeDeferred hK, ?_⟩⟩
    refine ⟨_, results_none rfl _ _ _, ⟨_, rfl⟩, ?_⟩
    try rw [hH]
    refine unf_out hJ hJx (fun k hk => ?_) (.inl hOD) _ (.inr ⟨em, h1, h3⟩)
    rcases hk with hk | rfl | rfl | rfl | hk
    · have := hO k hk; omega
    · omega
    · omega
    · omega
    · exact h2 k hk
end Go.Proofs.YtpdodknldhbbhaaGreatDoor.Ln

namespace Go.Proofs.YtpdodknldhbbhaaGreatDoor.Ln
set_option maxRecDepth 100000
open Go.RowKit Strs Sq

/-- Numbers in a row of the call's own. -/
def icells (l : List Nat) : List Value := l.map fun n : Nat => Value.int .i64 (n : Int)
theorem icells_snoc (l : List Nat) (n : Nat) : icells (l ++ [n]) = icells l ++ [.int .i64 (n : Int)] := by simp [icells]
def Ints (w : World) (base : Nat) (v : Value) (l : List Nat) : Prop := w.ownsRow base 3 1 v l.length (icells l)
theorem Ints.snoc {w : World} {base : Nat} {v : Value} {l : List Nat} {n : Nat} (h : w.ownsRow base 3 1 v (l.length + 1) (icells l ++ [.int .i64 (n : Int)])) : Ints w base v (l ++ [n]) := by
  unfold Ints; rw [icells_snoc, List.length_append]; exact h
theorem row_set {w : World} {b n s g k : Nat} {e : TypeId} {v : Value} {xs : List Value} {u : Value} (h : w.ownsRow b e s v n xs) (hg : ∀ j, v.ownBlock = some j → j ≠ g) : (w.setCell ⟨g, k, none⟩ u).ownsRow b e s v n xs := by
  refine ⟨h.1, ?_⟩
  rcases h.2 with h | ⟨g', cap, cur, rfl, hb, hh, rest⟩
  · exact .inl h
  · exact .inr ⟨g', cap, cur, rfl, hb, (heap_setCell_other w ⟨g, k, none⟩ g' u (hg g' rfl)).trans hh, rest⟩

theorem row_last {w : World} {base g n cap : Nat} {cur em : List (Nat × List UInt8)} {p : Nat × List UInt8} (h : w.ownsRow base 9 1 (.slice (some ⟨g, 0, none⟩) n cap) cur.length (scells (cur.map (·.2)))) (hc : cur = em ++ [p]) : w.cell? ⟨g, em.length, none⟩ = some (.string ⟨p.2.toArray⟩) := by
  have := h.cells (g := g) rfl em.length (.string ⟨p.2.toArray⟩) (by subst hc; simp [scells])
  rwa [Lib.addr_add, Nat.zero_add] at this

/-- What has been gathered, and what is left. -/
def Gath (cur rest all : List (Nat × List UInt8)) : Prop := (cur = [] ∧ unf none rest = all) ∨ ∃ em p, cur = em ++ [p] ∧ em ++ unf (some p) rest = all
theorem Gath.new {cur r all : List (Nat × List UInt8)} {x : Nat × List UInt8} (h : Gath cur (x :: r) all) (hg : goes x.2 = false ∨ cur = []) : Gath (cur ++ [x]) r all := by
  refine .inr ⟨cur, x, rfl, ?_⟩
  rcases h with ⟨rfl, h⟩ | ⟨em, p, rfl, h⟩
  · exact h
  · rcases hg with hg | hg
    · rw [← h]; simp [unf, hg]
    · simp at hg
theorem Gath.on {em r all : List (Nat × List UInt8)} {p x : Nat × List UInt8} (h : Gath (em ++ [p]) (x :: r) all) (hg : goes x.2 = true) : Gath (em ++ [(p.1, p.2 ++ x.2)]) r all := by
  refine .inr ⟨em, _, rfl, ?_⟩
  rcases h with ⟨h, _⟩ | ⟨em', p', he, h⟩
  · simp at h
  · obtain ⟨rfl, hp⟩ := List.append_inj' he rfl
    simp only [List.cons.injEq, and_true] at hp
    subst hp
    rw [← h]; simp [unf, hg]
theorem Gath.done {cur all : List (Nat × List UInt8)} (h : Gath cur [] all) : cur = all := by
  rcases h with ⟨rfl, h⟩ | ⟨em, p, rfl, h⟩
  · exact h
  · exact h
end Go.Proofs.YtpdodknldhbbhaaGreatDoor.Ln

namespace Go.Proofs.YtpdodknldhbbhaaGreatDoor.Ln
set_option maxRecDepth 100000
open Go.RowKit Strs

theorem drop_at (t : ByteArray) (k : Nat) (h : k < t.size) : t.data.toList.drop k = t[k] :: t.data.toList.drop (k + 1) := by
  rw [List.drop_eq_getElem_cons (by rw [list_size]; exact h)]; rfl
theorem drop_end (t : ByteArray) (k : Nat) (h : ¬ k < t.size) : t.data.toList.drop k = [] := List.drop_eq_nil_of_le (by rw [list_size]; omega)
end Go.Proofs.YtpdodknldhbbhaaGreatDoor.Ln

namespace Go.Proofs.YtpdodknldhbbhaaGreatDoor.Ln
set_option maxRecDepth 100000
open Go.RowKit Strs Sq

theorem each_any (s : ByteArray) (w : World) :
    Calls Tryz.prog 28 #[.string s] w fun e w' => e = .returned (.func (.func 84) #[] #[.pointer (some ⟨w.heap.size + 1, 0, none⟩)]) ∧
      w' = (w.alloc (.cells #[.string s] 9)).alloc (.cells #[.func (.func 87) #[] #[.pointer (some ⟨w.heap.size, 0, none⟩)]] 80) := by
  have C1 := Lib.hid (fun W => numbered_any s W)
  have C2 := Lib.hid (fun W => unfolded_any (.func (.func 87) #[] #[.pointer (some ⟨w.heap.size, 0, none⟩)]) W _ _ _ rfl)
  go_enter Tryz.func28, Tryz.ntmps28
  go_wp2_with (first
    | (go_at_call 49; refine (C1.out _).mono ?_; rintro e w' ⟨rfl, rfl⟩)
    | (go_at_call 48; refine (C2.out _).mono ?_; rintro e w' ⟨rfl, rfl⟩))
  go_ret
  exact ⟨rfl, rfl⟩
/-- What it hands on. -/
def eachL (s : ByteArray) : List (Nat × List UInt8) := unf none (num 1 (split s.data.toList))
theorem each_sq (s : ByteArray) (hs : s.size ≤ 1099511627776) (B : Nat) (w : World) (hB : Boxed w B 9 (.string s)) (hF : Boxed w (B + 1) 80 (.func (.func 87) #[] #[.pointer (some ⟨B, 0, none⟩)])) :
    Sq Tryz.prog 84 #[.pointer (some ⟨B + 1, 0, none⟩)] encL (fun k => k = B + 1 ∨ k = B) (eachL s) w := by
  have h1 := split_length s.data.toList
  have h2 := split_bytes s.data.toList
  rw [list_size] at h1 h2
  exact unfolded_sq (numbered_sq s hs B w hB) eg_numbered (fun k hk => by rw [hk]; exact hB.lt) (B + 1) hF (by rw [num_length]; omega) (by rw [num_snd]; omega)
/-- One number of a row. -/
theorem Ints.at_ {w : World} {base : Nat} {v : Value} {l : List Nat} (h : Ints w base v l) : ∃ a cap, v = .slice a l.length cap ∧ ∀ i (hi : i < l.length), ∃ g, a = some ⟨g, 0, none⟩ ∧ g < w.heap.size ∧ w.cell? ⟨g, i, none⟩ = some (.int .i64 (l[i] : Int)) := by
  obtain ⟨hl, ⟨rfl, h0⟩ | ⟨g, cap, cur, rfl, _, hg, _, _, _, ht⟩⟩ := h
  · exact ⟨none, 0, by rw [h0], fun i hi => by omega⟩
  · refine ⟨_, cap, rfl, fun i hi => ⟨g, rfl, (Array.getElem?_eq_some_iff.1 hg).1, ?_⟩⟩
    have hn : (icells l)[i]? = some (.int .i64 (l[i] : Int)) := by simp [icells, hi]
    rw [← ht] at hn
    have h2 := Lib.cells_of_row hg _ i _ hn
    rwa [Lib.addr_add, Nat.zero_add] at h2
theorem strs_at {w : World} {base : Nat} {v : Value} {l : List (List UInt8)} (h : Strs w base v l) : ∃ a cap, v = .slice a l.length cap ∧ ∀ i (hi : i < l.length), ∃ g, a = some ⟨g, 0, none⟩ ∧ g < w.heap.size ∧ w.cell? ⟨g, i, none⟩ = some (.string ⟨l[i].toArray⟩) := by
  obtain ⟨hl, ⟨rfl, h0⟩ | ⟨g, cap, cur, rfl, _, hg, _, _, _, ht⟩⟩ := h
  · exact ⟨none, 0, by rw [h0], fun i hi => by omega⟩
  · refine ⟨_, cap, rfl, fun i hi => ⟨g, rfl, (Array.getElem?_eq_some_iff.1 hg).1, ?_⟩⟩
    have hn : (scells l)[i]? = some (.string ⟨l[i].toArray⟩) := by simp [scells, hi]
    rw [← ht] at hn
    have h2 := Lib.cells_of_row hg _ i _ hn
    rwa [Lib.addr_add, Nat.zero_add] at h2
end Go.Proofs.YtpdodknldhbbhaaGreatDoor.Ln

namespace Go.Proofs.YtpdodknldhbbhaaGreatDoor.Ln
set_option maxRecDepth 100000
open Go.RowKit Strs

end Go.Proofs.YtpdodknldhbbhaaGreatDoor.Ln
