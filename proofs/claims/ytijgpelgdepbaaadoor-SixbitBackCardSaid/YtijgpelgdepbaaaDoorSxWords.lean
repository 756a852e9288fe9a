/-
Contracts of Go's library at this program's numbers, and the program's helpers on letters: withoutBlanks, faultAt, fault. Conditions: the text has at most 2^36 bytes.
-/
import Derived.Test.YtijgpelgdepbaaaDoorShelf
import Derived.Test.YtijgpelgdepbaaaDoorBytes
import Derived.Test.YtijgpelgdepbaaaDoorSxDecMath
import Derived.IntWalk
namespace Go.Proofs.YtijgpelgdepbaaaDoor.Sx
open Go.RowKit

theorem trim_any (s : ByteArray) (w : World) (hs : s.size ≤ 9223372036854775807) :
    Calls Tryd.prog 12 #[.string s, .string ⟨#[61, 61]⟩] w fun e w' => e = .returned (.string ⟨(said s.data.toList).toArray⟩) ∧ Below w.heap.size w w' :=
  Any.strings_TrimRight_laid Tryd.lays162 (by kernel_rfl) s ⟨#[61, 61]⟩ w hs (by decide) (by
    intro j b hj
    match j with
    | 0 => obtain rfl : 61 = b := Option.some.inj hj; decide
    | 1 => obtain rfl : 61 = b := Option.some.inj hj; decide
    | j + 2 => cases hj)
theorem index_any (s : ByteArray) (c : UInt8) (w : World) :
    Calls Tryd.prog 17 #[.string s, .int .u8 (c.toNat : Int)] w fun e w' => e = .returned (.int .i64 (Lib.indexByte s.data.toList c)) ∧ w = w' :=
  (Tryd.strings_IndexByte s (c.toNat : Int) w).mono fun e w' ⟨h1, h2⟩ => ⟨by rw [h1]; congr 3; simp, h2.symm⟩
theorem letter_any (c : UInt8) (w : World) :
    Calls Tryd.prog 17 #[.string { data := #[65, 66, 67, 68, 69, 70, 71, 72, 73, 74, 75, 76, 77, 78, 79, 80, 81, 82, 83, 84, 85, 86, 87, 88, 89, 90, 97, 98, 99, 100, 101, 102, 103, 104, 105, 106, 107, 108, 109, 110, 111, 112, 113, 114, 115, 116, 117, 118, 119, 120, 121, 122, 48, 49, 50, 51, 52, 53, 54, 55, 56, 57, 43, 47] }, .int .u8 (c.toNat : Int)] w fun e w' => e = .returned (.int .i64 (wI c)) ∧ w = w' := index_any _ c w
theorem blank_any (c : UInt8) (w : World) :
    Calls Tryd.prog 17 #[.string { data := #[32, 9, 13, 10] }, .int .u8 (c.toNat : Int)] w fun e w' => e = .returned (.int .i64 (Lib.indexByte [32, 9, 13, 10] c)) ∧ w = w' := index_any _ c w
theorem blank_bd {c : UInt8} (h : blankB c = true) : 0 ≤ Lib.indexByte [32, 9, 13, 10] c := by unfold blankB at h; exact of_decide_eq_true h
theorem blank_no {c : UInt8} (h : blankB c = false) : Lib.indexByte [32, 9, 13, 10] c < 0 := by unfold blankB at h; have := of_decide_eq_false h; omega
theorem drop_at (s : ByteArray) (k : Nat) (h : k < s.size) : s.data.toList.drop k = s[k] :: s.data.toList.drop (k + 1) := by
  rw [List.drop_eq_getElem_cons (by rw [list_size]; exact h)]; rfl
theorem drop_end (s : ByteArray) {k : Nat} (h : ¬ k < s.size) : s.data.toList.drop k = [] := List.drop_eq_nil_of_le (by rw [list_size]; omega)

set_option maxHeartbeats 800000 in
theorem without_any (s : ByteArray) (w : World) (hs : s.size ≤ 68719476736) :
    Calls Tryd.prog 9 #[.string s] w fun e w' => e = .returned (.string ⟨(strip s.data.toList).toArray⟩) ∧ Below w.heap.size w w' := by
  obtain ⟨i0, hi, hz0, hz1, hz2⟩ := info_parts Bytes.infoByte
  go_enter Tryd.func9, Tryd.ntmps9
  go_wp2
  go_loopw [3, 7] (fun v i wr => ∃ (k : Nat) (l : List UInt8), k ≤ s.size ∧ i = .int .i64 k ∧ Hid (l ++ strip (s.data.toList.drop k) = strip s.data.toList) ∧ l.length ≤ k ∧ Bytes.Has wr w.heap.size v l ∧ Below w.heap.size w wr) (fun _ i _ => s.size - (intOf i).toNat)
  case atStart => exact ⟨0, [], Nat.zero_le _, rfl, Lib.hid (by simp), by simp, Bytes.Has.nil _ _, Below.refl _ _⟩
  case round =>
    obtain ⟨k, l, hk, rfl, hl, hll, hown, hbel⟩ := hrel
    by_cases hlt : k < s.size
    · have C := Lib.hid (fun W => blank_any s[k] W)
      have hdr := drop_at s k hlt
      have hb := s[k].toNat_lt
      have hz := hbel.size
      cases hbl : blankB s[k]
      · have hn := blank_no hbl
        have HL := Lib.hid (show (l ++ [s[k]]) ++ strip (s.data.toList.drop (k + 1)) = strip s.data.toList by rw [← hl.out, hdr, strip_no _ hbl]; simp)
        have hA : l.length + 1 ≤ maxLen := by unfold maxLen; omega
        have hB : (l.length + 1) * 1 ≤ 140737488355328 := by omega
        have hown0 := Lib.hid hown
        clear hdr hbl
        generalize Lib.indexByte [32, 9, 13, 10] s[k] = z at C hn
        go_wp2_with (first | (go_at_call 17; refine (C.out _).mono ?_; rintro e w' ⟨rfl, rfl⟩) | (at_builtin; refine wpList_append_own _ rfl _ _ 32 rfl w.heap.size 5 i0 (.int .u8 0) 1 1 Tryd.underlying32 hi hz0 hz1 hz2 rfl Bytes.one_pos _ _ _ rfl (hown.alloc _) ⟨wr.heap.size, 0, none⟩ 1 1 [.int .u8 s[k].toNat] rfl rfl (World.news_of_block (cs := #[.int .u8 s[k].toNat]) (t := 5) (fr := (0, 0)) (heap_alloc_new wr _)) (by simp [Value.oneCell']) hA hB (Bytes.base_ok' hz _) ?_; intro v' w1 hown' hgrow _))
        go_roundw
        case rel => exact ⟨k + 1, _, by omega, by go_num, HL, by simp; omega, Bytes.Has.laid1 hown', Bytes.Has.below hown0.out hbel hz _ hgrow⟩
        case measure => simp [intOf]; omega
      · have hn := blank_bd hbl
        have HL := Lib.hid (show l ++ strip (s.data.toList.drop (k + 1)) = strip s.data.toList by rw [← hl.out, hdr, strip_yes _ hbl])
        clear hdr hbl
        generalize Lib.indexByte [32, 9, 13, 10] s[k] = z at C hn
        go_wp2_with (go_at_call 17; refine (C.out _).mono ?_; rintro e w' ⟨rfl, rfl⟩)
        go_roundw
        case rel => exact ⟨k + 1, _, by omega, by go_num, HL, by omega, hown, hbel⟩
        case measure => simp [intOf]; omega
    · have hc := hown.text
      have HE := Lib.hid (show l = strip s.data.toList by rw [← hl.out, drop_end s hlt, strip_nil, List.append_nil])
      rw [HE.out] at hc
      go_wp2
      go_ret
      exact ⟨rfl, hbel⟩

/-- Whether the letter ahead is a pad. -/
def bpAt (s : ByteArray) (i : Nat) : Bool := decide (0 < i) && isP (s.data.toList.getD (i - 1) 0)
theorem isP_num (c : UInt8) : ((c.toNat : Int) == 61) = isP c := by
  unfold isP
  rw [Bool.eq_iff_iff, beq_iff_eq, beq_iff_eq, ← UInt8.toNat_inj]
  show _ ↔ c.toNat = 61
  omega
theorem isL_num {c : UInt8} (h : isL c = true) : 0 ≤ wI c := by unfold isL at h; exact of_decide_eq_true h
theorem isL_no {c : UInt8} (h : isL c = false) : wI c < 0 := by unfold isL at h; have := of_decide_eq_false h; omega

set_option maxHeartbeats 2000000 in
theorem faultAt_0 (c : UInt8) (s : ByteArray) (h : 0 < s.size) (hc : s[0] = c) (w : World) :
    Calls Tryd.prog 18 #[.string s, .int .i64 0] w fun e w' => e = .returned (.int .i64 (fa 0 false c : Int)) ∧ w = w' := by
  have hx := isP_num c
  have C := Lib.hid (fun W => letter_any c W)
  cases hp : isP c
  · rw [hp] at hx
    cases hl : isL c
    · have hn := isL_no hl
      have HF := Lib.hid (show fa 0 false c = 3 by unfold fa; simp [hp, hl])
      clear hp hl
      generalize wI c = z at C hn
      go_enter Tryd.func18, Tryd.ntmps18
      go_wp2_with (go_at_call 17; refine (C.out _).mono ?_; rintro e w' ⟨rfl, rfl⟩)
      go_ret
      exact ⟨by rw [HF.out]; rfl, rfl⟩
    · have hn := isL_num hl
      have HF := Lib.hid (show fa 0 false c = 0 by unfold fa; simp [hp, hl])
      clear hp hl
      generalize wI c = z at C hn
      go_enter Tryd.func18, Tryd.ntmps18
      go_wp2_with (go_at_call 17; refine (C.out _).mono ?_; rintro e w' ⟨rfl, rfl⟩)
      go_ret
      exact ⟨by rw [HF.out]; rfl, rfl⟩
  · rw [hp] at hx
    have HF := Lib.hid (show fa 0 false c = 3 by unfold fa; simp [hp])
    clear hp
    go_enter Tryd.func18, Tryd.ntmps18
    go_wp2_with (go_at_call 17; refine (C.out _).mono ?_; rintro e w' ⟨rfl, rfl⟩)
    go_ret
    exact ⟨by rw [HF.out]; rfl, rfl⟩

set_option maxHeartbeats 4000000 in
theorem faultAt_1 (c p : UInt8) (i : Nat) (s : ByteArray) (h0 : 0 < i) (h : i < s.size) (hs : s.size ≤ 68719476736) (hc : s[i] = c) (hp' : s[i - 1] = p) (w : World) :
    Calls Tryd.prog 18 #[.string s, .int .i64 (i : Int)] w fun e w' => e = .returned (.int .i64 (fa i (isP p) c : Int)) ∧ w = w' := by
  have hx := isP_num c
  have hb := isP_num p
  have C := Lib.hid (fun W => letter_any c W)
  have hi1 : ((i : Int) - 1).toNat = i - 1 := by omega
  have h1 : 1 ≤ (i : Int) := by omega
  have hm4 : i % 4 = 0 ∨ i % 4 = 1 ∨ i % 4 = 2 ∨ i % 4 = 3 := by omega
  cases hp : isP c
  · rw [hp] at hx
    cases hl : isL c
    · have hn := isL_no hl
      have HF := Lib.hid (show fa i (isP p) c = 3 by unfold fa; simp [hp, hl])
      clear hp hl hm4
      generalize wI c = z at C hn
      go_enter Tryd.func18, Tryd.ntmps18
      go_wp2_with (go_at_call 17; refine (C.out _).mono ?_; rintro e w' ⟨rfl, rfl⟩)
      go_ret
      exact ⟨by rw [HF.out]; rfl, rfl⟩
    · have hn := isL_num hl
      cases hq : isP p
      · rw [hq] at hb
        have HF := Lib.hid (show fa i false c = 0 by unfold fa; simp [hp, hl])
        clear hp hl hm4; have HQ := Lib.hid hq; clear hq
        generalize wI c = z at C hn
        go_enter Tryd.func18, Tryd.ntmps18
        go_wp2_with (go_at_call 17; refine (C.out _).mono ?_; rintro e w' ⟨rfl, rfl⟩)
        go_ret
        exact ⟨by rw [HF.out]; rfl, rfl⟩
      · rw [hq] at hb
        rcases hm4 with hm | hm | hm | hm
        · have hmi : (i : Int) % 4 = 0 := by omega
          have HF := Lib.hid (show fa i true c = 6 by unfold fa; simp [hp, hl, hm])
          clear hp hl hq hm
          generalize wI c = z at C hn
          go_enter Tryd.func18, Tryd.ntmps18
          go_wp2_with (go_at_call 17; refine (C.out _).mono ?_; rintro e w' ⟨rfl, rfl⟩)
          go_ret
          exact ⟨by rw [HF.out]; rfl, rfl⟩
        · have hmi : (i : Int) % 4 = 1 := by omega
          have HF := Lib.hid (show fa i true c = 3 by unfold fa; simp [hp, hl, hm])
          clear hp hl hq hm
          generalize wI c = z at C hn
          go_enter Tryd.func18, Tryd.ntmps18
          go_wp2_with (go_at_call 17; refine (C.out _).mono ?_; rintro e w' ⟨rfl, rfl⟩)
          go_ret
          exact ⟨by rw [HF.out]; rfl, rfl⟩
        · have hmi : (i : Int) % 4 = 2 := by omega
          have HF := Lib.hid (show fa i true c = 3 by unfold fa; simp [hp, hl, hm])
          clear hp hl hq hm
          generalize wI c = z at C hn
          go_enter Tryd.func18, Tryd.ntmps18
          go_wp2_with (go_at_call 17; refine (C.out _).mono ?_; rintro e w' ⟨rfl, rfl⟩)
          go_ret
          exact ⟨by rw [HF.out]; rfl, rfl⟩
        · have hmi : (i : Int) % 4 = 3 := by omega
          have HF := Lib.hid (show fa i true c = 3 by unfold fa; simp [hp, hl, hm])
          clear hp hl hq hm
          generalize wI c = z at C hn
          go_enter Tryd.func18, Tryd.ntmps18
          go_wp2_with (go_at_call 17; refine (C.out _).mono ?_; rintro e w' ⟨rfl, rfl⟩)
          go_ret
          exact ⟨by rw [HF.out]; rfl, rfl⟩
  · rw [hp] at hx
    cases hq : isP p
    · rw [hq] at hb
      rcases hm4 with hm | hm | hm | hm
      · have hmi : (i : Int) % 4 = 0 := by omega
        have HF := Lib.hid (show fa i false c = 3 by unfold fa; simp [hp, hm])
        clear hp hq hm
        go_enter Tryd.func18, Tryd.ntmps18
        go_wp2_with (go_at_call 17; refine (C.out _).mono ?_; rintro e w' ⟨rfl, rfl⟩)
        go_ret
        exact ⟨by rw [HF.out]; rfl, rfl⟩
      · have hmi : (i : Int) % 4 = 1 := by omega
        have HF := Lib.hid (show fa i false c = 3 by unfold fa; simp [hp, hm])
        clear hp hq hm
        go_enter Tryd.func18, Tryd.ntmps18
        go_wp2_with (go_at_call 17; refine (C.out _).mono ?_; rintro e w' ⟨rfl, rfl⟩)
        go_ret
        exact ⟨by rw [HF.out]; rfl, rfl⟩
      · have hmi : (i : Int) % 4 = 2 := by omega
        have HF := Lib.hid (show fa i false c = 0 by unfold fa; simp [hp, hm])
        clear hp hq hm
        go_enter Tryd.func18, Tryd.ntmps18
        go_wp2_with (go_at_call 17; refine (C.out _).mono ?_; rintro e w' ⟨rfl, rfl⟩)
        go_ret
        exact ⟨by rw [HF.out]; rfl, rfl⟩
      · have hmi : (i : Int) % 4 = 3 := by omega
        have HF := Lib.hid (show fa i false c = 0 by unfold fa; simp [hp, hm])
        clear hp hq hm
        go_enter Tryd.func18, Tryd.ntmps18
        go_wp2_with (go_at_call 17; refine (C.out _).mono ?_; rintro e w' ⟨rfl, rfl⟩)
        go_ret
        exact ⟨by rw [HF.out]; rfl, rfl⟩
    · rw [hq] at hb
      rcases hm4 with hm | hm | hm | hm
      · have hmi : (i : Int) % 4 = 0 := by omega
        have HF := Lib.hid (show fa i true c = 6 by unfold fa; simp [hp, hm])
        clear hp hq hm
        go_enter Tryd.func18, Tryd.ntmps18
        go_wp2_with (go_at_call 17; refine (C.out _).mono ?_; rintro e w' ⟨rfl, rfl⟩)
        go_ret
        exact ⟨by rw [HF.out]; rfl, rfl⟩
      · have hmi : (i : Int) % 4 = 1 := by omega
        have HF := Lib.hid (show fa i true c = 3 by unfold fa; simp [hp, hm])
        clear hp hq hm
        go_enter Tryd.func18, Tryd.ntmps18
        go_wp2_with (go_at_call 17; refine (C.out _).mono ?_; rintro e w' ⟨rfl, rfl⟩)
        go_ret
        exact ⟨by rw [HF.out]; rfl, rfl⟩
      · have hmi : (i : Int) % 4 = 2 := by omega
        have HF := Lib.hid (show fa i true c = 0 by unfold fa; simp [hp, hm])
        clear hp hq hm
        go_enter Tryd.func18, Tryd.ntmps18
        go_wp2_with (go_at_call 17; refine (C.out _).mono ?_; rintro e w' ⟨rfl, rfl⟩)
        go_ret
        exact ⟨by rw [HF.out]; rfl, rfl⟩
      · have hmi : (i : Int) % 4 = 3 := by omega
        have HF := Lib.hid (show fa i true c = 0 by unfold fa; simp [hp, hm])
        clear hp hq hm
        go_enter Tryd.func18, Tryd.ntmps18
        go_wp2_with (go_at_call 17; refine (C.out _).mono ?_; rintro e w' ⟨rfl, rfl⟩)
        go_ret
        exact ⟨by rw [HF.out]; rfl, rfl⟩

theorem flt_go {s : ByteArray} {k : Nat} (h : k < s.size) {bp : Bool} {f : Nat} (hf : fa k bp s[k] = f) (h0 : f = 0) {r : Nat} (hr : flt k bp (s.data.toList.drop k) = r) : flt (k + 1) (bpAt s (k + 1)) (s.data.toList.drop (k + 1)) = r := by
  rw [← hr, drop_at s k h, flt, if_pos (by rw [hf]; exact h0)]
  unfold bpAt
  rw [show k + 1 - 1 = k by omega, List.getD_eq_getElem?_getD, List.getElem?_eq_getElem (by rw [list_size]; exact h)]
  simp; rfl
theorem flt_out {s : ByteArray} {k : Nat} (h : k < s.size) {bp : Bool} {f : Nat} (hf : fa k bp s[k] = f) (h0 : ¬ f = 0) {r : Nat} (hr : flt k bp (s.data.toList.drop k) = r) : r = f := by
  rw [← hr, drop_at s k h, flt, if_neg (by rw [hf]; exact h0), hf]
theorem bpAt_pos {s : ByteArray} {k : Nat} (h0 : 0 < k) (h : k - 1 < s.size) : bpAt s k = isP s[k - 1] := by
  unfold bpAt
  rw [List.getD_eq_getElem?_getD, List.getElem?_eq_getElem (by rw [list_size]; exact h)]
  simp [h0]; rfl
theorem ret_i64 {a b : Int} (h : a = b) : Ending.returned (.int .i64 a) = .returned (.int .i64 b) := by rw [h]
theorem faultAt_any (s : ByteArray) (k : Nat) (h : k < s.size) (hs : s.size ≤ 68719476736) (w : World) :
    Calls Tryd.prog 18 #[.string s, .int .i64 (k : Int)] w fun e w' => e = .returned (.int .i64 (fa k (bpAt s k) s[k] : Int)) ∧ w = w' := by
  by_cases h0 : 0 < k
  · rw [bpAt_pos h0 (by omega)]; exact faultAt_1 s[k] s[k - 1] k s h0 h hs rfl rfl w
  · obtain rfl : k = 0 := by omega
    exact faultAt_0 s[0] s h rfl w

set_option maxHeartbeats 800000 in
theorem fault_any (s : ByteArray) (hs : s.size ≤ 68719476736) (w : World) :
    Calls Tryd.prog 10 #[.string s] w fun e w' => e = .returned (.int .i64 (flt 0 false s.data.toList : Int)) ∧ w = w' := by
  obtain ⟨r, hr⟩ : ∃ r, flt 0 false s.data.toList = r := ⟨_, rfl⟩
  rw [hr]
  have HR := Lib.hid hr
  clear hr
  go_enter Tryd.func10, Tryd.ntmps10
  go_wp2
  go_loop [7] (fun i => ∃ k : Nat, k ≤ s.size ∧ i = .int .i64 k ∧ Hid (flt k (bpAt s k) (s.data.toList.drop k) = r)) (fun i => s.size - (intOf i).toNat)
  case atStart => exact ⟨0, Nat.zero_le _, rfl, Lib.hid (by rw [← HR.out]; rfl)⟩
  case round =>
    obtain ⟨k, hk, rfl, hl⟩ := hrel
    by_cases hlt : k < s.size
    · have C := Lib.hid (fun W => faultAt_any s k hlt hs W)
      obtain ⟨f, hf⟩ : ∃ f, fa k (bpAt s k) s[k] = f := ⟨_, rfl⟩
      rw [hf] at C
      by_cases h0 : f = 0
      · have HG := Lib.hid (flt_go hlt hf h0 hl.out)
        have HF := Lib.hid hf
        clear hf
        subst h0
        go_wp2_with (go_at_call 18; refine (C.out _).mono ?_; rintro e w' ⟨rfl, rfl⟩)
        go_round
        case rel => exact ⟨k + 1, by omega, by go_num, HG⟩
        case measure => simp [intOf]; omega
      · have HG := Lib.hid (flt_out hlt hf h0 hl.out)
        have hfb : ((f : Int) != 0) = true := by simp; omega
        have HF := Lib.hid hf
        clear hf h0
        go_wp2_with (go_at_call 18; refine (C.out _).mono ?_; rintro e w' ⟨rfl, rfl⟩)
        go_ret
        exact ⟨ret_i64 (by rw [HG.out]), rfl⟩
    · have hn := Lib.hid (show r = if k % 4 = 0 then 0 else 1 by rw [← hl.out, drop_end s hlt]; rfl)
      by_cases h4 : s.size % 4 = 0
      · have hb : ((s.size : Int) % 4 != 0) = false := by simp; omega
        go_wp2
        go_ret
        exact ⟨ret_i64 (by rw [hn.out, if_pos (by rw [show k = s.size by omega]; exact h4)]; rfl), rfl⟩
      · have hb : ((s.size : Int) % 4 != 0) = true := by simp; omega
        go_wp2
        go_ret
        exact ⟨ret_i64 (by rw [hn.out, if_neg (by rw [show k = s.size by omega]; exact h4)]; rfl), rfl⟩
end Go.Proofs.YtijgpelgdepbaaaDoor.Sx
