/-
Texts joined in one file, each with its own conditions: Contracts of Go's library at this program's numbers, and the program's helpers on letters: withoutBlanks, faultAt, fault. Conditions: the text has at most 2^36 bytes. · The three bytes that up to four letters say. Conditions: there are at most four, and each is a letter. · Plain functions on bytes: the pieces of right letters, one by one. No program in it, no conditions. · Plain functions on bytes and letters: a text's letters, whether it is right, texts in three charsets and back. No program in it, no conditions. · The first byte that no value of a property has: in plain words, and over the model's own reading of letters. No program in it, no conditions.
-/
import Derived.Test.YtpdodknldhbbhaaGreatDoorShelf
import Derived.Test.YtpdodknldhbbhaaGreatDoorJ06
import Derived.Test.YtpdodknldhbbhaaGreatDoorJ09
import Derived.IntWalk
import Derived.Laws.BitsAllLaws
import Derived.WalkKit
import Derived.Lib.Hide
import Derived.Lib.ValidLaws
import Derived.Lib.ValidAsc
import Derived.Lib.RuneBytes
import Derived.Lib.MapLaws
import Derived.Test.YtpdodknldhbbhaaGreatDoorJ02
import Derived.Lib.IndexAny
import Derived.Laws.RangeAny
namespace Go.Proofs.YtpdodknldhbbhaaGreatDoor.Sx
set_option maxRecDepth 100000
open Go.RowKit

theorem trim_any (s : ByteArray) (w : World) (hs : s.size ≤ 9223372036854775807) :
    Calls Tryz.prog 178 #[.string s, .string ⟨#[61, 61]⟩] w fun e w' => e = .returned (.string ⟨(said s.data.toList).toArray⟩) ∧ Below w.heap.size w w' :=
  Any.strings_TrimRight_laid Tryz.lays162 (by kernel_rfl) s ⟨#[61, 61]⟩ w hs (by decide) (by
    intro j b hj
    match j with
    | 0 => obtain rfl : 61 = b := Option.some.inj hj; decide
    | 1 => obtain rfl : 61 = b := Option.some.inj hj; decide
    | j + 2 => cases hj)
theorem index_any (s : ByteArray) (c : UInt8) (w : World) :
    Calls Tryz.prog 165 #[.string s, .int .u8 (c.toNat : Int)] w fun e w' => e = .returned (.int .i64 (Lib.indexByte s.data.toList c)) ∧ w = w' :=
  (Tryz.strings_IndexByte s (c.toNat : Int) w).mono fun e w' ⟨h1, h2⟩ => ⟨by rw [h1]; congr 3; simp, h2.symm⟩
theorem letter_any (c : UInt8) (w : World) :
    Calls Tryz.prog 165 #[.string { data := #[65, 66, 67, 68, 69, 70, 71, 72, 73, 74, 75, 76, 77, 78, 79, 80, 81, 82, 83, 84, 85, 86, 87, 88, 89, 90, 97, 98, 99, 100, 101, 102, 103, 104, 105, 106, 107, 108, 109, 110, 111, 112, 113, 114, 115, 116, 117, 118, 119, 120, 121, 122, 48, 49, 50, 51, 52, 53, 54, 55, 56, 57, 43, 47] }, .int .u8 (c.toNat : Int)] w fun e w' => e = .returned (.int .i64 (wI c)) ∧ w = w' := index_any _ c w
theorem blank_any (c : UInt8) (w : World) :
    Calls Tryz.prog 165 #[.string { data := #[32, 9, 13, 10] }, .int .u8 (c.toNat : Int)] w fun e w' => e = .returned (.int .i64 (Lib.indexByte [32, 9, 13, 10] c)) ∧ w = w' := index_any _ c w
theorem blank_bd {c : UInt8} (h : blankB c = true) : 0 ≤ Lib.indexByte [32, 9, 13, 10] c := by unfold blankB at h; exact of_decide_eq_true h
theorem blank_no {c : UInt8} (h : blankB c = false) : Lib.indexByte [32, 9, 13, 10] c < 0 := by unfold blankB at h; have := of_decide_eq_false h; omega
theorem drop_at (s : ByteArray) (k : Nat) (h : k < s.size) : s.data.toList.drop k = s[k] :: s.data.toList.drop (k + 1) := by
  rw [List.drop_eq_getElem_cons (by rw [list_size]; exact h)]; rfl
theorem drop_end (s : ByteArray) {k : Nat} (h : ¬ k < s.size) : s.data.toList.drop k = [] := List.drop_eq_nil_of_le (by rw [list_size]; omega)

set_option maxHeartbeats 800000 in
theorem without_any (s : ByteArray) (w : World) (hs : s.size ≤ 68719476736) :
    Calls Tryz.prog 176 #[.string s] w fun e w' => e = .returned (.string ⟨(strip s.data.toList).toArray⟩) ∧ Below w.heap.size w w' := by
  obtain ⟨i0, hi, hz0, hz1, hz2⟩ := info_parts Bytes.infoByte
  go_enter Tryz.func176, Tryz.ntmps176
  go_wp2
  go_loopw [3, 7] (fun v i wr => ∃ (k : Nat) (l : List UInt8), k ≤ s.size ∧ i = .int .i64 k ∧ Hid (l ++ strip (s.data.toList.drop k) = strip s.data.toList) ∧ l.length ≤ k ∧ Bytes.Has wr w.heap.size v l ∧ Below w.heap.size w wr) (fun _ i _ => s.size - (intOf i).toNat)
  case atStart => exact ⟨0, [], Nat.zero_le _, rfl, Lib.hid (by simp), by simp, Bytes.Has.nil _ _, Below.refl _ _⟩
  case round =>
    obtain ⟨k, l, hk, rfl, hl, hll, hown, hbel⟩ := hrel
    by_cases hlt : k < s.size
    · have C := Lib.hid (fun W => blank_any s[k] W)
      have hdr := drop_at s k hlt
      have hb := s[k].toNat_lt
      have hz := hbel.size
      cases hbl : blankB s[k]
      · have hn := blank_no hbl
        have HL := Lib.hid (show (l ++ [s[k]]) ++ strip (s.data.toList.drop (k + 1)) = strip s.data.toList by rw [← hl.out, hdr, strip_no _ hbl]; simp)
        have hA : l.length + 1 ≤ maxLen := by unfold maxLen; omega
        have hB : (l.length + 1) * 1 ≤ 140737488355328 := by omega
        have hown0 := Lib.hid hown
        clear hdr hbl
        generalize Lib.indexByte [32, 9, 13, 10] s[k] = z at C hn
        go_wp2_with (first | (go_at_call 165; refine (C.out _).mono ?_; rintro e w' ⟨rfl, rfl⟩) | (at_builtin; refine wpList_append_own _ rfl _ _ 60 rfl w.heap.size 5 i0 (.int .u8 0) 1 1 Tryz.underlying60 hi hz0 hz1 hz2 rfl Bytes.one_pos _ _ _ rfl (hown.alloc _) ⟨wr.heap.size, 0, none⟩ 1 1 [.int .u8 s[k].toNat] rfl rfl (World.news_of_block (cs := #[.int .u8 s[k].toNat]) (t := 5) (fr := (0, 0)) (heap_alloc_new wr _)) (by simp [Value.oneCell']) hA hB (Bytes.base_ok' hz _) ?_; intro v' w1 hown' hgrow _))
        go_roundw
        case rel => exact ⟨k + 1, _, by omega, by go_num, HL, by simp; omega, Bytes.Has.laid1 hown', Bytes.Has.below hown0.out hbel hz _ hgrow⟩
        case measure => simp [intOf]; omega
      · have hn := blank_bd hbl
        have HL := Lib.hid (show l ++ strip (s.data.toList.drop (k + 1)) = strip s.data.toList by rw [← hl.out, hdr, strip_yes _ hbl])
        clear hdr hbl
        generalize Lib.indexByte [32, 9, 13, 10] s[k] = z at C hn
        go_wp2_with (go_at_call 165; refine (C.out _).mono ?_; rintro e w' ⟨rfl, rfl⟩)
        go_roundw
        case rel => exact ⟨k + 1, _, by omega, by go_num, HL, by omega, hown, hbel⟩
        case measure => simp [intOf]; omega
    · have hc := hown.text
      have HE := Lib.hid (show l = strip s.data.toList by rw [← hl.out, drop_end s hlt, strip_nil, List.append_nil])
      rw [HE.out] at hc
      go_wp2
      go_ret
      exact ⟨rfl, hbel⟩

/-- Whether the letter ahead is a pad. -/
def bpAt (s : ByteArray) (i : Nat) : Bool := decide (0 < i) && isP (s.data.toList.getD (i - 1) 0)
theorem isP_num (c : UInt8) : ((c.toNat : Int) == 61) = isP c := by
  unfold isP
  rw [Bool.eq_iff_iff, beq_iff_eq, beq_iff_eq, ← UInt8.toNat_inj]
  show _ ↔ c.toNat = 61
  omega
theorem isL_num {c : UInt8} (h : isL c = true) : 0 ≤ wI c := by unfold isL at h; exact of_decide_eq_true h
theorem isL_no {c : UInt8} (h : isL c = false) : wI c < 0 := by unfold isL at h; have := of_decide_eq_false h; omega

set_option maxHeartbeats 2000000 in
theorem faultAt_0 (c : UInt8) (s : ByteArray) (h : 0 < s.size) (hc : s[0] = c) (w : World) :
    Calls Tryz.prog 190 #[.string s, .int .i64 0] w fun e w' => e = .returned (.int .i64 (fa 0 false c : Int)) ∧ w = w' := by
  have hx := isP_num c
  have C := Lib.hid (fun W => letter_any c W)
  cases hp : isP c
  · rw [hp] at hx
    cases hl : isL c
    · have hn := isL_no hl
      have HF := Lib.hid (show fa 0 false c = 3 by unfold fa; simp [hp, hl])
      clear hp hl
      generalize wI c = z at C hn
      go_enter Tryz.func190, Tryz.ntmps190
      go_wp2_with (go_at_call 165; refine (C.out _).mono ?_; rintro e w' ⟨rfl, rfl⟩)
      go_ret
      exact ⟨by rw [HF.out]; rfl, rfl⟩
    · have hn := isL_num hl
      have HF := Lib.hid (show fa 0 false c = 0 by unfold fa; simp [hp, hl])
      clear hp hl
      generalize wI c = z at C hn
      go_enter Tryz.func190, Tryz.ntmps190
      go_wp2_with (go_at_call 165; refine (C.out _).mono ?_; rintro e w' ⟨rfl, rfl⟩)
      go_ret
      exact ⟨by rw [HF.out]; rfl, rfl⟩
  · rw [hp] at hx
    have HF := Lib.hid (show fa 0 false c = 3 by unfold fa; simp [hp])
    clear hp
    go_enter Tryz.func190, Tryz.ntmps190
    go_wp2_with (go_at_call 165; refine (C.out _).mono ?_; rintro e w' ⟨rfl, rfl⟩)
    go_ret
    exact ⟨by rw [HF.out]; rfl, rfl⟩

set_option maxHeartbeats 4000000 in
theorem faultAt_1 (c p : UInt8) (i : Nat) (s : ByteArray) (h0 : 0 < i) (h : i < s.size) (hs : s.size ≤ 68719476736) (hc : s[i] = c) (hp' : s[i - 1] = p) (w : World) :
    Calls Tryz.prog 190 #[.string s, .int .i64 (i : Int)] w fun e w' => e = .returned (.int .i64 (fa i (isP p) c : Int)) ∧ w = w' := by
  have hx := isP_num c
  have hb := isP_num p
  have C := Lib.hid (fun W => letter_any c W)
  have hi1 : ((i : Int) - 1).toNat = i - 1 := by omega
  have h1 : 1 ≤ (i : Int) := by omega
  have hm4 : i % 4 = 0 ∨ i % 4 = 1 ∨ i % 4 = 2 ∨ i % 4 = 3 := by omega
  cases hp : isP c
  · rw [hp] at hx
    cases hl : isL c
    · have hn := isL_no hl
      have HF := Lib.hid (show fa i (isP p) c = 3 by unfold fa; simp [hp, hl])
      clear hp hl hm4
      generalize wI c = z at C hn
      go_enter Tryz.func190, Tryz.ntmps190
      go_wp2_with (go_at_call 165; refine (C.out _).mono ?_; rintro e w' ⟨rfl, rfl⟩)
      go_ret
      exact ⟨by rw [HF.out]; rfl, rfl⟩
    · have hn := isL_num hl
      cases hq : isP p
      · rw [hq] at hb
        have HF := Lib.hid (show fa i false c = 0 by unfold fa; simp [hp, hl])
        clear hp hl hm4; have HQ := Lib.hid hq; clear hq
        generalize wI c = z at C hn
        go_enter Tryz.func190, Tryz.ntmps190
        go_wp2_with (go_at_call 165; refine (C.out _).mono ?_; rintro e w' ⟨rfl, rfl⟩)
        go_ret
        exact ⟨by rw [HF.out]; rfl, rfl⟩
      · rw [hq] at hb
        rcases hm4 with hm | hm | hm | hm
        · have hmi : (i : Int) % 4 = 0 := by omega
          have HF := Lib.hid (show fa i true c = 6 by unfold fa; simp [hp, hl, hm])
          clear hp hl hq hm
          generalize wI c = z at C hn
          go_enter Tryz.func190, Tryz.ntmps190
          go_wp2_with (go_at_call 165; refine (C.out _).mono ?_; rintro e w' ⟨rfl, rfl⟩)
          go_ret
          exact ⟨by rw [HF.out]; rfl, rfl⟩
        · have hmi : (i : Int) % 4 = 1 := by omega
          have HF := Lib.hid (show fa i true c = 3 by unfold fa; simp [hp, hl, hm])
          clear hp hl hq hm
          generalize wI c = z at C hn
          go_enter Tryz.func190, Tryz.ntmps190
          go_wp2_with (go_at_call 165; refine (C.out _).mono ?_; rintro e w' ⟨rfl, rfl⟩)
          go_ret
          exact ⟨by rw [HF.out]; rfl, rfl⟩
        · have hmi : (i : Int) % 4 = 2 := by omega
          have HF := Lib.hid (show fa i true c = 3 by unfold fa; simp [hp, hl, hm])
          clear hp hl hq hm
          generalize wI c = z at C hn
          go_enter Tryz.func190, Tryz.ntmps190
          go_wp2_with (go_at_call 165; refine (C.out _).mono ?_; rintro e w' ⟨rfl, rfl⟩)
          go_ret
          exact ⟨by rw [HF.out]; rfl, rfl⟩
        · have hmi : (i : Int) % 4 = 3 := by omega
          have HF := Lib.hid (show fa i true c = 3 by unfold fa; simp [hp, hl, hm])
          clear hp hl hq hm
          generalize wI c = z at C hn
          go_enter Tryz.func190, Tryz.ntmps190
          go_wp2_with (go_at_call 165; refine (C.out _).mono ?_; rintro e w' ⟨rfl, rfl⟩)
          go_ret
          exact ⟨by rw [HF.out]; rfl, rfl⟩
  · rw [hp] at hx
    cases hq : isP p
    · rw [hq] at hb
      rcases hm4 with hm | hm | hm | hm
      · have hmi : (i : Int) % 4 = 0 := by omega
        have HF := Lib.hid (show fa i false c = 3 by unfold fa; simp [hp, hm])
        clear hp hq hm
        go_enter Tryz.func190, Tryz.ntmps190
        go_wp2_with (go_at_call 165; refine (C.out _).mono ?_; rintro e w' ⟨rfl, rfl⟩)
        go_ret
        exact ⟨by rw [HF.out]; rfl, rfl⟩
      · have hmi : (i : Int) % 4 = 1 := by omega
        have HF := Lib.hid (show fa i false c = 3 by unfold fa; simp [hp, hm])
        clear hp hq hm
        go_enter Tryz.func190, Tryz.ntmps190
        go_wp2_with (go_at_call 165; refine (C.out _).mono ?_; rintro e w' ⟨rfl, rfl⟩)
        go_ret
        exact ⟨by rw [HF.out]; rfl, rfl⟩
      · have hmi : (i : Int) % 4 = 2 := by omega
        have HF := Lib.hid (show fa i false c = 0 by unfold fa; simp [hp, hm])
        clear hp hq hm
        go_enter Tryz.func190, Tryz.ntmps190
        go_wp2_with (go_at_call 165; refine (C.out _).mono ?_; rintro e w' ⟨rfl, rfl⟩)
        go_ret
        exact ⟨by rw [HF.out]; rfl, rfl⟩
      · have hmi : (i : Int) % 4 = 3 := by omega
        have HF := Lib.hid (show fa i false c = 0 by unfold fa; simp [hp, hm])
        clear hp hq hm
        go_enter Tryz.func190, Tryz.ntmps190
        go_wp2_with (go_at_call 165; refine (C.out _).mono ?_; rintro e w' ⟨rfl, rfl⟩)
        go_ret
        exact ⟨by rw [HF.out]; rfl, rfl⟩
    · rw [hq] at hb
      rcases hm4 with hm | hm | hm | hm
      · have hmi : (i : Int) % 4 = 0 := by omega
        have HF := Lib.hid (show fa i true c = 6 by unfold fa; simp [hp, hm])
        clear hp hq hm
        go_enter Tryz.func190, Tryz.ntmps190
        go_wp2_with (go_at_call 165; refine (C.out _).mono ?_; rintro e w' ⟨rfl, rfl⟩)
        go_ret
        exact ⟨by rw [HF.out]; rfl, rfl⟩
      · have hmi : (i : Int) % 4 = 1 := by omega
        have HF := Lib.hid (show fa i true c = 3 by unfold fa; simp [hp, hm])
        clear hp hq hm
        go_enter Tryz.func190, Tryz.ntmps190
        go_wp2_with (go_at_call 165; refine (C.out _).mono ?_; rintro e w' ⟨rfl, rfl⟩)
        go_ret
        exact ⟨by rw [HF.out]; rfl, rfl⟩
      · have hmi : (i : Int) % 4 = 2 := by omega
        have HF := Lib.hid (show fa i true c = 0 by unfold fa; simp [hp, hm])
        clear hp hq hm
        go_enter Tryz.func190, Tryz.ntmps190
        go_wp2_with (go_at_call 165; refine (C.out _).mono ?_; rintro e w' ⟨rfl, rfl⟩)
        go_ret
        exact ⟨by rw [HF.out]; rfl, rfl⟩
      · have hmi : (i : Int) % 4 = 3 := by omega
        have HF := Lib.hid (show fa i true c = 0 by unfold fa; simp [hp, hm])
        clear hp hq hm
        go_enter Tryz.func190, Tryz.ntmps190
        go_wp2_with (go_at_call 165; refine (C.out _).mono ?_; rintro e w' ⟨rfl, rfl⟩)
        go_ret
        exact ⟨by rw [HF.out]; rfl, rfl⟩

theorem flt_go {s : ByteArray} {k : Nat} (h : k < s.size) {bp : Bool} {f : Nat} (hf : fa k bp s[k] = f) (h0 : f = 0) {r : Nat} (hr : flt k bp (s.data.toList.drop k) = r) : flt (k + 1) (bpAt s (k + 1)) (s.data.toList.drop (k + 1)) = r := by
  rw [← hr, drop_at s k h, flt, if_pos (by rw [hf]; exact h0)]
  unfold bpAt
  rw [show k + 1 - 1 = k by omega, List.getD_eq_getElem?_getD, List.getElem?_eq_getElem (by rw [list_size]; exact h)]
  simp; rfl
theorem flt_out {s : ByteArray} {k : Nat} (h : k < s.size) {bp : Bool} {f : Nat} (hf : fa k bp s[k] = f) (h0 : ¬ f = 0) {r : Nat} (hr : flt k bp (s.data.toList.drop k) = r) : r = f := by
  rw [← hr, drop_at s k h, flt, if_neg (by rw [hf]; exact h0), hf]
theorem bpAt_pos {s : ByteArray} {k : Nat} (h0 : 0 < k) (h : k - 1 < s.size) : bpAt s k = isP s[k - 1] := by
  unfold bpAt
  rw [List.getD_eq_getElem?_getD, List.getElem?_eq_getElem (by rw [list_size]; exact h)]
  simp [h0]; rfl
theorem ret_i64 {a b : Int} (h : a = b) : Ending.returned (.int .i64 a) = .returned (.int .i64 b) := by rw [h]
theorem faultAt_any (s : ByteArray) (k : Nat) (h : k < s.size) (hs : s.size ≤ 68719476736) (w : World) :
    Calls Tryz.prog 190 #[.string s, .int .i64 (k : Int)] w fun e w' => e = .returned (.int .i64 (fa k (bpAt s k) s[k] : Int)) ∧ w = w' := by
  by_cases h0 : 0 < k
  · rw [bpAt_pos h0 (by omega)]; exact faultAt_1 s[k] s[k - 1] k s h0 h hs rfl rfl w
  · obtain rfl : k = 0 := by omega
    exact faultAt_0 s[0] s h rfl w

set_option maxHeartbeats 800000 in
theorem fault_any (s : ByteArray) (hs : s.size ≤ 68719476736) (w : World) :
    Calls Tryz.prog 177 #[.string s] w fun e w' => e = .returned (.int .i64 (flt 0 false s.data.toList : Int)) ∧ w = w' := by
  obtain ⟨r, hr⟩ : ∃ r, flt 0 false s.data.toList = r := ⟨_, rfl⟩
  rw [hr]
  have HR := Lib.hid hr
  clear hr
  go_enter Tryz.func177, Tryz.ntmps177
  go_wp2
  go_loop [7] (fun i => ∃ k : Nat, k ≤ s.size ∧ i = .int .i64 k ∧ Hid (flt k (bpAt s k) (s.data.toList.drop k) = r)) (fun i => s.size - (intOf i).toNat)
  case atStart => exact ⟨0, Nat.zero_le _, rfl, Lib.hid (by rw [← HR.out]; rfl)⟩
  case round =>
    obtain ⟨k, hk, rfl, hl⟩ := hrel
    by_cases hlt : k < s.size
    · have C := Lib.hid (fun W => faultAt_any s k hlt hs W)
      obtain ⟨f, hf⟩ : ∃ f, fa k (bpAt s k) s[k] = f := ⟨_, rfl⟩
      rw [hf] at C
      by_cases h0 : f = 0
      · have HG := Lib.hid (flt_go hlt hf h0 hl.out)
        have HF := Lib.hid hf
        clear hf
        subst h0
        go_wp2_with (go_at_call 190; refine (C.out _).mono ?_; rintro e w' ⟨rfl, rfl⟩)
        go_round
        case rel => exact ⟨k + 1, by omega, by go_num, HG⟩
        case measure => simp [intOf]; omega
      · have HG := Lib.hid (flt_out hlt hf h0 hl.out)
        have hfb : ((f : Int) != 0) = true := by simp; omega
        have HF := Lib.hid hf
        clear hf h0
        go_wp2_with (go_at_call 190; refine (C.out _).mono ?_; rintro e w' ⟨rfl, rfl⟩)
        go_ret
        exact ⟨ret_i64 (by rw [HG.out]), rfl⟩
    · have hn := Lib.hid (show r = if k % 4 = 0 then 0 else 1 by rw [← hl.out, drop_end s hlt]; rfl)
      by_cases h4 : s.size % 4 = 0
      · have hb : ((s.size : Int) % 4 != 0) = false := by simp; omega
        go_wp2
        go_ret
        exact ⟨ret_i64 (by rw [hn.out, if_pos (by rw [show k = s.size by omega]; exact h4)]; rfl), rfl⟩
      · have hb : ((s.size : Int) % 4 != 0) = true := by simp; omega
        go_wp2
        go_ret
        exact ⟨ret_i64 (by rw [hn.out, if_neg (by rw [show k = s.size by omega]; exact h4)]; rfl), rfl⟩
end Go.Proofs.YtpdodknldhbbhaaGreatDoor.Sx

namespace Go.Proofs.YtpdodknldhbbhaaGreatDoor.Sx
set_option maxRecDepth 100000
open Go.RowKit

theorem worth_any (c : UInt8) (h : isL c = true) (w : World) :
    Calls Tryz.prog 165 #[.string { data := #[65, 66, 67, 68, 69, 70, 71, 72, 73, 74, 75, 76, 77, 78, 79, 80, 81, 82, 83, 84, 85, 86, 87, 88, 89, 90, 97, 98, 99, 100, 101, 102, 103, 104, 105, 106, 107, 108, 109, 110, 111, 112, 113, 114, 115, 116, 117, 118, 119, 120, 121, 122, 48, 49, 50, 51, 52, 53, 54, 55, 56, 57, 43, 47] }, .int .u8 (c.toNat : Int)] w fun e w' => e = .returned (.int .i64 (w6 c : Int)) ∧ w = w' := by
  rw [← w6_of h]; exact letter_any c w
theorem gn_lt (l : List UInt8) (i : Nat) : gn l i < 64 := by
  unfold gn; split
  · exact w6_lt _
  · decide
theorem gn_at {l : List UInt8} {i : Nat} (h : i < l.length) : gn l i = w6 l[i] := by unfold gn; rw [List.getElem?_eq_getElem h]
theorem gn_out {l : List UInt8} {i : Nat} (h : l.length ≤ i) : gn l i = 0 := by unfold gn; rw [List.getElem?_eq_none h]
/-- The first k letters' numbers. -/
def gk (l : List UInt8) (k j : Nat) : Nat := if j < k then gn l j else 0
theorem gk_all {l : List UInt8} {k j : Nat} (h : l.length ≤ k) : gk l k j = gn l j := by
  unfold gk; split
  · rfl
  · rw [gn_out (by omega)]
/-- Three bytes as an array. -/
def triV (l : List UInt8) : Value := .agg #[.int .u8 ((gn l 0 * 4 + gn l 1 / 16 : Nat) : Int), .int .u8 ((gn l 1 % 16 * 16 + gn l 2 / 4 : Nat) : Int), .int .u8 ((gn l 2 % 4 * 64 + gn l 3 : Nat) : Int)]
theorem orA (a b : Nat) (ha : a < 64) (hb : b < 64) : bits .or .u8 ((a : Int) * 4) ((b : Int) / 16) = ((a * 4 + b / 16 : Nat) : Int) := by
  rw [bits_join .u8 8 (by decide) wraps_u8 2 _ _ (by omega) (by omega) (by omega) (by omega) (by omega) (by omega)]
  omega
theorem orB (a b : Nat) (hb : b < 64) : bits .or .u8 ((a : Int) * 16 % 256) ((b : Int) / 4) = ((a % 16 * 16 + b / 4 : Nat) : Int) := by
  rw [bits_join .u8 8 (by decide) wraps_u8 4 _ _ (by omega) (by omega) (by omega) (by omega) (by omega) (by omega)]
  omega
theorem orC (a b : Nat) (hb : b < 64) : bits .or .u8 ((a : Int) * 64 % 256) (b : Int) = ((a % 4 * 64 + b : Nat) : Int) := by
  rw [bits_join .u8 8 (by decide) wraps_u8 6 _ _ (by omega) (by omega) (by omega) (by omega) (by omega) (by omega)]
  omega

set_option maxHeartbeats 2000000 in
theorem saidBy_any (s : ByteArray) (hs : s.size ≤ 4) (hL : ∀ c ∈ s.data.toList, isL c = true) (w : World) :
    Calls Tryz.prog 179 #[.string s] w fun e w' => e = .returned (triV s.data.toList) ∧ Below w.heap.size w w' := by
  have HG : Hid (∀ k (h : k < s.size), gn s.data.toList k = w6 s[k]) := Lib.hid (fun k h => gn_at (by rw [list_size]; exact h))
  have HL : Hid (∀ k (h : k < s.size), isL s[k] = true) := Lib.hid (fun k h => hL _ (by have := List.getElem_mem (l := s.data.toList) (by rw [list_size]; exact h : k < s.data.toList.length); exact this))
  have HA : Hid (∀ j, gk s.data.toList s.size j = gn s.data.toList j) := Lib.hid (fun j => gk_all (by rw [list_size]; exact Nat.le_refl _))
  have n0 := gn_lt s.data.toList 0
  have n1 := gn_lt s.data.toList 1
  have n2 := gn_lt s.data.toList 2
  have n3 := gn_lt s.data.toList 3
  unfold triV
  generalize s.data.toList = l at *
  clear hL
  go_enter Tryz.func179, Tryz.ntmps179
  go_wp2
  go_loopw [7] (fun iv wr => ∃ k : Nat, k ≤ s.size ∧ iv = .int .i64 (k : Int) ∧ Hid (wr = (w.alloc (.cells #[.int .u8 0, .int .u8 0, .int .u8 0] 138)).alloc (.cells #[.int .u8 (gk l k 0 : Int), .int .u8 (gk l k 1 : Int), .int .u8 (gk l k 2 : Int), .int .u8 (gk l k 3 : Int)] 136))) (fun iv _ => s.size - (intOf iv).toNat)
  case atStart => exact ⟨0, Nat.zero_le _, rfl, Lib.hid rfl⟩
  case round =>
    obtain ⟨k, hk, rfl, hwr⟩ := hrel
    by_cases hlt : k < s.size
    · obtain rfl := hwr.out
      have C := Lib.hid (fun W => worth_any s[k] (HL.out k hlt) W)
      have hg := HG.out k hlt
      have hgl := w6_lt s[k]
      obtain ⟨z, hz⟩ : ∃ z, w6 s[k] = z := ⟨_, rfl⟩
      rw [hz] at C hg hgl
      have HZ := Lib.hid hg
      clear hwr hz hg
      rcases (by omega : k = 0 ∨ k = 1 ∨ k = 2 ∨ k = 3) with rfl | rfl | rfl | rfl
      all_goals
        go_wp2_with (go_at_call 165; refine (C.out _).mono ?_; rintro e w' ⟨rfl, rfl⟩)
        go_roundw
        case rel => exact ⟨_ + 1, hlt, by go_num, Lib.hid (by simp [gk, HZ.out])⟩
        case measure => simp [intOf]; omega
    · obtain rfl : k = s.size := by omega
      rw [HA.out 0, HA.out 1, HA.out 2, HA.out 3] at hwr
      obtain rfl := hwr.out
      clear hwr HA HG HL
      have o1 := orA (gn l 0) (gn l 1) n0 n1
      have o2 := orB (gn l 1) (gn l 2) n2
      have o3 := orC (gn l 2) (gn l 3) n3
      obtain ⟨x0, h0⟩ : ∃ x : Nat, gn l 0 * 4 + gn l 1 / 16 = x := ⟨_, rfl⟩
      obtain ⟨x1, h1⟩ : ∃ x : Nat, gn l 1 % 16 * 16 + gn l 2 / 4 = x := ⟨_, rfl⟩
      obtain ⟨x2, h2⟩ : ∃ x : Nat, gn l 2 % 4 * 64 + gn l 3 = x := ⟨_, rfl⟩
      have HX := Lib.hid (show (.returned (.agg #[.int .u8 (x0 : Int), .int .u8 (x1 : Int), .int .u8 (x2 : Int)]) : Ending) = .returned (.agg #[.int .u8 ((gn l 0 * 4 + gn l 1 / 16 : Nat) : Int), .int .u8 ((gn l 1 % 16 * 16 + gn l 2 / 4 : Nat) : Int), .int .u8 ((gn l 2 % 4 * 64 + gn l 3 : Nat) : Int)]) by rw [h0, h1, h2])
      rw [h0] at o1
      rw [h1] at o2
      rw [h2] at o3
      clear h0 h1 h2
      go_wp2_with fail
      exact bodyPost_ret (v := .agg #[.int .u8 (x0 : Int), .int .u8 (x1 : Int), .int .u8 (x2 : Int)]) (by simp [results, Tryz.results179, go_sem]) rfl ⟨HX.out, ((Below.refl _ _).alloc (Nat.le_refl _) _).alloc (by simp) _⟩
end Go.Proofs.YtpdodknldhbbhaaGreatDoor.Sx

namespace Go.Proofs.YtpdodknldhbbhaaGreatDoor.Sx
open Go.RowKit

theorem pieces_ok : ∀ t, flt 0 false t = 0 → ∀ x ∈ cut 4 t, ok4 x := by
  refine cut_induct (k := 4) (by decide) (fun _ x hx => by rw [cut_nil] at hx; cases hx) fun t h0 ih h x hx => ?_
  obtain ⟨a, b, c, d, r, rfl, ho, hr, _⟩ := flt_group h h0
  rw [cut_step (by decide) h0] at hx
  rcases List.mem_cons.1 hx with rfl | hx
  · exact ho
  · exact ih hr x hx
theorem not_pad {c : UInt8} (h : isL c = true) : ([61, 61] : List UInt8).contains c = false := by
  have := isP_not c h
  unfold isP at this
  have h2 : c ≠ 61 := by simpa using this
  simp [h2]
theorem said_4 {a b c d : UInt8} (h : isL d = true) : said [a, b, c, d] = [a, b, c, d] := by
  unfold said Lib.trimRightS
  simp only [List.reverse_cons, List.reverse_nil, List.nil_append, List.cons_append]
  rw [List.dropWhile_cons_of_neg (by rw [not_pad h]; decide)]; rfl
theorem said_3 {a b c : UInt8} (h : isL c = true) : said [a, b, c, 61] = [a, b, c] := by
  unfold said Lib.trimRightS
  simp only [List.reverse_cons, List.reverse_nil, List.nil_append, List.cons_append]
  rw [List.dropWhile_cons_of_pos (by decide), List.dropWhile_cons_of_neg (by rw [not_pad h]; decide)]; rfl
theorem said_2 {a b : UInt8} (h : isL b = true) : said [a, b, 61, 61] = [a, b] := by
  unfold said Lib.trimRightS
  simp only [List.reverse_cons, List.reverse_nil, List.nil_append, List.cons_append]
  rw [List.dropWhile_cons_of_pos (by decide), List.dropWhile_cons_of_pos (by decide), List.dropWhile_cons_of_neg (by rw [not_pad h]; decide)]; rfl
/-- The letters of a right group. -/
theorem said_ok {x : List UInt8} (h : ok4 x) : (∀ c ∈ said x, isL c = true) ∧ ((said x).length = 2 ∨ (said x).length = 3 ∨ (said x).length = 4) := by
  obtain ⟨a, b, c, d, rfl, ha, hb, ⟨hc, hd⟩ | ⟨hc, rfl⟩ | ⟨rfl, rfl⟩⟩ := h
  · rw [said_4 hd]; exact ⟨by simp [ha, hb, hc, hd], by simp⟩
  · rw [said_3 hc]; exact ⟨by simp [ha, hb, hc], by simp⟩
  · rw [said_2 hb]; exact ⟨by simp [ha, hb], by simp⟩
theorem good_n {x : List UInt8} {p q r : UInt8} (ht : tri (said x) = [p, q, r]) :
    ((said x).length = 2 → good x = [p] ∧ bad x = !(p.toNat == p.toNat && (q.toNat == 0 && r.toNat == 0))) ∧
    ((said x).length = 3 → good x = [p, q] ∧ bad x = !(p.toNat == p.toNat && (q.toNat == q.toNat && r.toNat == 0))) ∧
    ((said x).length = 4 → good x = [p, q, r] ∧ bad x = false) := by
  have z : ∀ c : UInt8, (c.toNat == 0) = (c == 0) := fun c => by
    rw [Bool.eq_iff_iff, beq_iff_eq, beq_iff_eq, ← UInt8.toNat_inj]; rfl
  refine ⟨fun h => ?_, fun h => ?_, fun h => ?_⟩
  · have hg : good x = [p] := by unfold good; rw [ht, h]; rfl
    refine ⟨hg, ?_⟩
    unfold bad; rw [hg, ht, z, z]
    show (!([p, q, r] == [p, 0, 0])) = _
    simp
  · have hg : good x = [p, q] := by unfold good; rw [ht, h]; rfl
    refine ⟨hg, ?_⟩
    unfold bad; rw [hg, ht, z]
    show (!([p, q, r] == [p, q, 0])) = _
    simp
  · have hg : good x = [p, q, r] := by unfold good; rw [ht, h]; rfl
    refine ⟨hg, ?_⟩
    unfold bad; rw [hg, ht]
    show (!([p, q, r] == [p, q, r])) = _
    simp
end Go.Proofs.YtpdodknldhbbhaaGreatDoor.Sx

namespace Go.Proofs.YtpdodknldhbbhaaGreatDoor.Cs
open Go.Lib

/-- No right letter stands at the beginning. -/
def bad (l : List UInt8) : Bool := decide ((decodeL l).1 = 65533 ∧ (decodeL l).2 = 1)
def lgo : Nat → List UInt8 → List Nat
  | 0, _ => []
  | n + 1, l => if l = [] then [] else if bad l = true then [] else (decodeL l).1 :: lgo n (l.drop (decodeL l).2)
/-- The letters of the longest right beginning. -/
def lets (l : List UInt8) : List Nat := lgo l.length l

theorem lgo_nil : ∀ n, lgo n [] = []
  | 0 => rfl
  | _ + 1 => by simp [lgo]
theorem lgo_fuel : ∀ (n m : Nat) (l : List UInt8), l.length ≤ n → l.length ≤ m → lgo n l = lgo m l
  | 0, m, l, hn, _ => by
    have : l = [] := List.eq_nil_of_length_eq_zero (by omega)
    subst this
    rw [lgo_nil, lgo_nil]
  | n + 1, 0, l, _, hm => by
    have : l = [] := List.eq_nil_of_length_eq_zero (by omega)
    subst this
    rw [lgo_nil, lgo_nil]
  | n + 1, m + 1, l, hn, hm => by
    unfold lgo
    by_cases hne : l = []
    · simp [hne]
    · have hw := decodeL_width l
      have hl : 0 < l.length := List.length_pos_iff.2 hne
      rw [if_neg hne, if_neg hne, lgo_fuel n m (l.drop (decodeL l).2) (by rw [List.length_drop]; omega) (by rw [List.length_drop]; omega)]
theorem lets_nil : lets [] = [] := rfl
theorem lets_step {l : List UInt8} (hne : l ≠ []) : lets l = if bad l = true then [] else (decodeL l).1 :: lets (l.drop (decodeL l).2) := by
  have hl : 0 < l.length := List.length_pos_iff.2 hne
  have hw := decodeL_width l
  obtain ⟨n, hn⟩ : ∃ n, l.length = n + 1 := ⟨l.length - 1, by omega⟩
  unfold lets
  rw [hn]
  show (if l = [] then [] else _) = _
  rw [if_neg hne, lgo_fuel n (l.drop (decodeL l).2).length _ (by rw [List.length_drop]; omega) (Nat.le_refl _)]
theorem lets_bad {l : List UInt8} (hne : l ≠ []) (h : bad l = true) : lets l = [] := by rw [lets_step hne, if_pos h]
theorem lets_good {l : List UInt8} (hne : l ≠ []) (h : bad l = false) : lets l = (decodeL l).1 :: lets (l.drop (decodeL l).2) := by rw [lets_step hne, h, if_neg (by simp)]
theorem valid_good {l : List UInt8} (hne : l ≠ []) (h : bad l = false) : validD l = validD (l.drop (decodeL l).2) := by rw [validD_step l hne, if_neg (of_decide_eq_false h)]
theorem letter_induct {P : List UInt8 → Prop} (h0 : P []) (h1 : ∀ l, l ≠ [] → P (l.drop (decodeL l).2) → P l) : ∀ l, P l := by
  intro l
  obtain ⟨n, hn⟩ : ∃ n, l.length = n := ⟨_, rfl⟩
  induction n using Nat.strongRecOn generalizing l with
  | ind n ih =>
    by_cases h : l = []
    · subst h; exact h0
    · have hl : 0 < l.length := List.length_pos_iff.2 h
      have hw := decodeL_width l
      exact h1 l h (ih _ (by rw [List.length_drop]; omega) _ rfl)
theorem lets_length : ∀ l, (lets l).length ≤ l.length :=
  letter_induct (by rw [lets_nil]; exact Nat.le_refl _) fun l h ih => by
    have hl : 0 < l.length := List.length_pos_iff.2 h
    have hw := decodeL_width l
    rw [List.length_drop] at ih
    rcases hb : bad l with _ | _
    · rw [lets_good h hb, List.length_cons]; omega
    · rw [lets_bad h hb]; simp
theorem lets_le : ∀ l, ∀ x ∈ lets l, x ≤ 1114111 :=
  letter_induct (by rw [lets_nil]; intro x hx; cases hx) fun l h ih => by
    rcases hb : bad l with _ | _
    · rw [lets_good h hb]
      intro x hx
      rcases List.mem_cons.1 hx with rfl | hx
      · exact decodeL_rune l
      · exact ih x hx
    · rw [lets_bad h hb]; intro x hx; cases hx
/-! ### bytes as letters -/
theorem enc1 (c : UInt8) : (c.toNat < 128 ∧ encodeRune (c.toNat : Int) = [c]) ∨ (128 ≤ c.toNat ∧ encodeRune (c.toNat : Int) = [UInt8.ofNat (192 + c.toNat / 64), UInt8.ofNat (128 + c.toNat % 64)]) := by
  have hc := c.toNat_lt
  unfold encodeRune
  by_cases h : c.toNat < 128
  · left
    refine ⟨h, ?_⟩
    rw [encodeRuneZ_one (by omega) (by omega)]
    simp [Nat.toUInt8]
  · right
    refine ⟨by omega, ?_⟩
    rw [encodeRuneZ_two (by omega) (by omega)]
    have e1 : (192 + (c.toNat : Int) / 64).toNat = 192 + c.toNat / 64 := by omega
    have e2 : (128 + (c.toNat : Int) % 64).toNat = 128 + c.toNat % 64 := by omega
    simp only [List.map_cons, List.map_nil, Nat.toUInt8, e1, e2]
theorem dec1 (c : UInt8) (t : List UInt8) : decodeL (encodeRune (c.toNat : Int) ++ t) = (c.toNat, (encodeRune (c.toNat : Int)).length) := by
  have hc := c.toNat_lt
  rcases enc1 c with ⟨h, e⟩ | ⟨h, e⟩
  · rw [e]; exact decodeL_ascii c t h
  · rw [e, decodeL_N]
    have a0 : (UInt8.ofNat (192 + c.toNat / 64)).toNat = 192 + c.toNat / 64 := by rw [UInt8.toNat_ofNat']; omega
    have a1 : (UInt8.ofNat (128 + c.toNat % 64)).toNat = 128 + c.toNat % 64 := by rw [UInt8.toNat_ofNat']; omega
    simp only [List.cons_append, List.nil_append, List.getD_cons_zero, List.getD_cons_succ, List.length_cons, a0, a1, List.length_nil]
    unfold decodeN
    rw [if_neg (by omega), if_pos ⟨by omega, by omega, by omega⟩, if_pos (by omega)]
    rw [show (192 + c.toNat / 64) % 32 * 64 + (128 + c.toNat % 64) % 64 = c.toNat by omega]
theorem enc1_ne (c : UInt8) (t : List UInt8) : encodeRune (c.toNat : Int) ++ t ≠ [] := by
  rcases enc1 c with ⟨_, e⟩ | ⟨_, e⟩ <;> rw [e] <;> simp
theorem enc1_good (c : UInt8) (t : List UInt8) : bad (encodeRune (c.toNat : Int) ++ t) = false := by
  have hc := c.toNat_lt
  unfold bad
  rw [dec1]
  exact decide_eq_false (fun h => by have h1 : c.toNat = 65533 := h.1; omega)
/-- The text whose letters are bytes. -/
def latin (l : List UInt8) : List UInt8 := l.flatMap fun c => encodeRune (c.toNat : Int)
theorem latin_cons (c : UInt8) (l : List UInt8) : latin (c :: l) = encodeRune (c.toNat : Int) ++ latin l := rfl
theorem latin_length : ∀ l, (latin l).length ≤ 2 * l.length
  | [] => Nat.le_refl _
  | c :: l => by
    have := latin_length l
    rw [latin_cons, List.length_append, List.length_cons]
    rcases enc1 c with ⟨_, e⟩ | ⟨_, e⟩ <;> rw [e] <;> simp <;> omega
theorem latin_valid : ∀ l, validD (latin l) = true
  | [] => rfl
  | c :: l => by
    rw [latin_cons, valid_good (enc1_ne c _) (enc1_good c _), dec1, List.drop_left]
    exact latin_valid l
theorem latin_lets : ∀ l, lets (latin l) = l.map UInt8.toNat
  | [] => rfl
  | c :: l => by
    rw [latin_cons, lets_good (enc1_ne c _) (enc1_good c _), dec1, List.drop_left, latin_lets l]
    rfl
/-- No letter is above one. -/
def within (m : Int) (l : List Nat) : Bool := l.all fun x => decide ((x : Int) ≤ m)
theorem within_all (l : List UInt8) : within 1114111 (lets l) = true :=
  List.all_eq_true.2 fun x hx => decide_eq_true (by have := lets_le l x hx; omega)
theorem within_cons (m : Int) (x : Nat) (l : List Nat) : within m (x :: l) = (decide ((x : Int) ≤ m) && within m l) := rfl
/-- Letters as bytes. -/
def bytesOf (l : List Nat) : List UInt8 := l.map UInt8.ofNat
/-! ### charsets -/
/-- The greatest letter of a charset. -/
def lastL (k : Int) : Int := if k = 1 then 127 else if k = 2 then 255 else if k = 3 then 1114111 else -1
/-- What bytes say, and an error's number: 5 no charset, 16 no bytes of it. -/
def dec (k : Int) (l : List UInt8) : List UInt8 × Int :=
  if k = 1 ∨ k = 2 then (if within (lastL k) (l.map UInt8.toNat) = true then (latin l, 0) else ([], 16))
  else if k = 3 then (if validD l = true then (l, 0) else ([], 16)) else ([], 5)
/-- A text's bytes, and an error's number: 5 no charset, 3 not right, 16 a letter that the charset lacks. -/
def enc (k : Int) (l : List UInt8) : List UInt8 × Int :=
  if k = 1 ∨ k = 2 then (if validD l = true then (if within (lastL k) (lets l) = true then (bytesOf (lets l), 0) else ([], 16)) else ([], 3))
  else if k = 3 then (if validD l = true then (l, 0) else ([], 3)) else ([], 5)
def least (l : List UInt8) : Int := if (enc 1 l).2 = 0 then 1 else if (enc 2 l).2 = 0 then 2 else if (enc 3 l).2 = 0 then 3 else 0
theorem enc_size (k : Int) (l : List UInt8) : (enc k l).1.length ≤ l.length := by
  have := lets_length l
  unfold enc
  split
  · split
    · split
      · simp [bytesOf]; exact this
      · simp
    · simp
  · split
    · split <;> simp
    · simp
end Go.Proofs.YtpdodknldhbbhaaGreatDoor.Cs

namespace Go.Proofs.YtpdodknldhbbhaaGreatDoor.Pp
open Go.RowKit

/-- The bytes that no value has, as a text. -/
def odd3 : ByteArray := ⟨#[0, 10, 13]⟩
/-- The place of the first of them, or -1. -/
def idxO (s : ByteArray) : Int := if s.data.toList.findIdx oddb < s.size then (s.data.toList.findIdx oddb : Int) else -1
theorem odd3_has (x : UInt8) : odd3.data.toList.contains x = oddb x := by
  unfold odd3 oddb
  rw [Bool.eq_iff_iff]
  simp only [List.contains_cons, List.contains_nil, Bool.or_false, Bool.or_eq_true, beq_iff_eq, decide_eq_true_eq]
  have e : ∀ c : UInt8, x = c ↔ (x.toNat : Int) = (c.toNat : Int) := fun c => ⟨fun h => by rw [h], fun h => UInt8.toNat_inj.1 (by omega)⟩
  rw [e 0, e 10, e 13]
  rfl
theorem idxO_lib (s : ByteArray) : Lib.indexAny s.data.toList odd3.data.toList = idxO s := by
  unfold idxO
  by_cases h : s.data.toList.findIdx oddb < s.size
  · rw [if_pos h]
    have hl : s.data.toList.findIdx oddb < s.data.toList.length := by rw [list_size]; exact h
    refine Lib.indexAny_hit (x := s.data.toList[s.data.toList.findIdx oddb]) ?_ (List.getElem?_eq_getElem hl) ?_
    · intro j b hj hb
      rw [odd3_has]
      obtain ⟨hj', rfl⟩ := List.getElem?_eq_some_iff.1 hb
      have := List.not_of_lt_findIdx hj
      simpa using this
    · rw [odd3_has]; exact List.findIdx_getElem
  · rw [if_neg h]
    refine Lib.indexAny_none ?_
    intro j b hj hb
    rw [odd3_has]
    obtain ⟨hj', rfl⟩ := List.getElem?_eq_some_iff.1 hb
    have := List.not_of_lt_findIdx (p := oddb) (xs := s.data.toList) (i := j) (by rw [list_size] at hj; omega)
    simpa using this

theorem get_list (s : ByteArray) (j : Nat) (x : UInt8) (h : s.data.toList[j]? = some x) : s.get! j = x := by
  obtain ⟨hj, rfl⟩ := List.getElem?_eq_some_iff.1 h
  have hj' : j < s.data.size := by simpa using hj
  show s.data[j]! = _
  simp [getElem!_pos s.data j hj']
/-- What a letter that is no ASCII takes: no byte of it is below 128. -/
theorem decode_cover (s : ByteArray) (pos : Nat) (h : pos < s.size) (ha : 128 ≤ (s[pos]'h).toNat) : pos + (Utf8.decode s pos).2 ≤ s.size ∧ ∀ j, pos ≤ j → j < pos + (Utf8.decode s pos).2 → 128 ≤ (s.get! j).toNat := by
  have h0 : 128 ≤ (s.get! pos).toNat := by have e := get_at s pos h; rw [Nat.add_zero] at e; rw [e]; exact ha
  have hn : ¬ (s[pos]'h).toNat < 128 := by omega
  simp only [Utf8.decode, get_at s pos h, hn, if_false]
  repeat' split
  all_goals (simp only [Bool.and_eq_true, decide_eq_true_eq, beq_iff_eq] at *)
  all_goals (refine ⟨by omega, fun j h1 h2 => ?_⟩)
  all_goals (obtain rfl | rfl | rfl | rfl : j = pos ∨ j = pos + 1 ∨ j = pos + 2 ∨ j = pos + 3 := by omega)
  all_goals omega
/-- The letter is none of those that UTF-8 leaves out. -/
theorem decode_valid (s : ByteArray) (pos : Nat) : Utf8.valid ((Utf8.decode s pos).1 : Int) = true := by
  have hb : ∀ k, (s.get! (pos + k)).toNat < 256 := fun k => (s.get! (pos + k)).toNat_lt
  have h0 := hb 0; have h1 := hb 1; have h2 := hb 2; have h3 := hb 3
  have e : Utf8.valid ((Utf8.runeError : Nat) : Int) = true := by decide
  have hz : (s.get! (pos + 0)).toNat = (s.get! pos).toNat := by rw [Nat.add_zero]
  simp only [Utf8.decode]
  repeat' split
  all_goals first | with_reducible exact e | (simp only [Bool.and_eq_true, decide_eq_true_eq, beq_iff_eq] at *; first | (rename_i hv; exact hv.2) | (unfold Utf8.valid; simp; omega))
/-- A letter that is no ASCII, as bytes: two, three or four, the last from 128 on. -/
theorem encode_high (c : Nat) (h : 128 ≤ c) (hv : Utf8.valid (c : Int) = true) : (∃ a b : UInt8, Utf8.encode (c : Int) = ⟨#[a, b]⟩ ∧ 128 ≤ b.toNat) ∨ (∃ a b d : UInt8, Utf8.encode (c : Int) = ⟨#[a, b, d]⟩ ∧ 128 ≤ d.toNat) ∨ (∃ a b d x : UInt8, Utf8.encode (c : Int) = ⟨#[a, b, d, x]⟩ ∧ 128 ≤ x.toNat) := by
  unfold Utf8.encode
  simp only [hv, if_true, Int.toNat_natCast]
  rw [if_neg (by omega)]
  have e : ∀ n : Nat, 128 ≤ (UInt8.ofNat (128 + n % 64)).toNat := fun n => by
    rw [UInt8.toNat_ofNat']; omega
  split
  · exact .inl ⟨_, _, rfl, e _⟩
  · split
    · exact .inr (.inl ⟨_, _, _, rfl, e _⟩)
    · exact .inr (.inr ⟨_, _, _, _, rfl, e _⟩)
theorem index_high (l : List UInt8) (b : UInt8) (hl : ∀ x ∈ l, x.toNat < 128) (hb : 128 ≤ b.toNat) : Lib.indexByte l b = -1 := by
  induction l with
  | nil => rfl
  | cons a r ih =>
    have h1 := hl a (List.mem_cons_self ..)
    have h2 := ih fun x hx => hl x (List.mem_cons_of_mem _ hx)
    unfold Lib.indexByte
    have : ¬ a = b := fun e => by subst e; omega
    simp [this, h2]
end Go.Proofs.YtpdodknldhbbhaaGreatDoor.Pp
