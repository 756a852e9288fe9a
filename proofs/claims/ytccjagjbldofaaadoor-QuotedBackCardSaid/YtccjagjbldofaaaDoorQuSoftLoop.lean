/-
Letters in lines: the program's Soft answers what the plain function 'softA' says. Conditions: the text has at most 2^32 bytes; the width is an int; the library's tables hold what the rows list.
-/
import Derived.Test.YtccjagjbldofaaaDoorQuSoft
namespace Go.Proofs.YtccjagjbldofaaaDoor.Qu
open Go.RowKit Fig

theorem softA_low {l : List UInt8} {n : Int} (h : n < 4) : softA l n = ([], 2) := by unfold softA; rw [if_pos (.inl h)]
theorem softA_high {l : List UInt8} {n : Int} (h : 200 < n) : softA l n = ([], 2) := by unfold softA; rw [if_pos (.inr h)]
theorem softA_no {l : List UInt8} {n : Int} (h : 4 ≤ n) (h' : n ≤ 200) (he : isEnc l = false) : softA l n = ([], 3) := by unfold softA; rw [if_neg (by omega), he]; rfl
theorem softA_yes {l : List UInt8} {n : Int} (h : 4 ≤ n) (h' : n ≤ 200) (he : isEnc l = true) : softA l n = (soft n.toNat l, 0) := by unfold softA; rw [if_neg (by omega), he]; rfl
theorem ext_to (s : ByteArray) (n : Nat) : s.extract 0 n = ⟨(s.data.toList.take n).toArray⟩ := by
  apply ByteArray.ext
  rw [ByteArray.data_extract, ← Array.toList_inj, Array.toList_extract, List.extract_eq_take_drop]
  simp
theorem ext_from (s : ByteArray) (n : Nat) : (s.extract n s.size).data.toList = s.data.toList.drop n := by
  rw [ByteArray.data_extract, Array.toList_extract, List.extract_eq_take_drop, List.take_of_length_le]
  simp
theorem own_text {s : ByteArray} : s = ⟨s.data.toList.toArray⟩ := by cases s; simp
theorem take_len (s : ByteArray) (n : Nat) (h : n ≤ s.size) : (s.data.toList.take n).length = n := by
  rw [List.length_take]; simp; omega
theorem list_size (s : ByteArray) : s.data.toList.length = s.size := by rw [Array.length_toList]; rfl
theorem soft_cut {w n : Nat} {t : ByteArray} {l r : List UInt8} (hw : 4 ≤ w) (h : w < t.size) (hn : lineLen (w - 1) t.data.toList = n) (hl : l ++ soft w t.data.toList = r) :
    (l ++ t.data.toList.take n ++ [61] ++ [13, 10]) ++ soft w (t.extract n t.size).data.toList = r := by
  have e := soft_step (l := t.data.toList) hw (by rw [list_size]; exact h)
  rw [hn] at e
  rw [ext_from, ← hl, e]
  simp

theorem laidT {w : World} {base : Nat} {v : Value} {l : List UInt8} {t : ByteArray} (h : w.ownsRow base 5 1 v (l.length + t.size) (Bytes.cells l ++ Lib.strCells t)) : Bytes.Has w base v (l ++ t.data.toList) :=
  Bytes.Has.laid (list_size t).symm h
theorem retSoft {a b : List UInt8} (h : a = b) : Ending.returned (.tuple #[.string ⟨a.toArray⟩, .int .i64 0]) = Ending.returned (.tuple #[.string ⟨b.toArray⟩, .int .i64 0]) := by rw [h]
theorem cap_max {n : Nat} (h : n ≤ 140737488355328) : n ≤ maxLen := by unfold maxLen; omega
theorem cap_one {n : Nat} (h : n ≤ 140737488355328) : n * 1 ≤ 140737488355328 := by omega

set_option maxRecDepth 100000 in
set_option maxHeartbeats 400000 in
theorem soft_in (s : ByteArray) (m : Nat) (hm4 : 4 ≤ m) (hm : m ≤ 200) (he : isEnc s.data.toList = true) (hs : s.size ≤ 4294967296) (w : World) (T : Tabs w) :
    Calls Tryd.prog 8 #[.string s, .int .i64 (m : Int)] w fun e w' => e = .returned (.tuple #[.string ⟨(soft m s.data.toList).toArray⟩, .int .i64 0]) ∧ Below w.heap.size w w' := by
  obtain ⟨i0, hi, hz0, hz1, hz2⟩ := info_parts Bytes.infoByte
  have C1 := Lib.hid (within_in (m : Int) w (by omega) (by omega))
  have C2 := Lib.hid (encoded_any s hs w T)
  have hF0 := isEnc_far he
  rw [he] at C2
  clear he
  have hm1 : ((m : Int) - 1).toNat = m - 1 := by omega
  have hm2 : (m : Int) - 1 = ((m - 1 : Nat) : Int) := by omega
  go_enter Tryd.func8, Tryd.ntmps8
  go_wp2_with fail
  refine C1.out.mono ?_
  rintro e w1 ⟨rfl, rfl⟩
  go_wp2_with fail
  refine C2.out.mono ?_
  rintro e w1 ⟨rfl, b1⟩
  go_wp2_with fail
  go_loopw [0, 6] (fun tv v wr => ∃ (t : ByteArray) (l : List UInt8), tv = .string t ∧ Hid (l ++ soft m t.data.toList = soft m s.data.toList) ∧ Far t.data.toList ∧ l.length + 4 * t.size ≤ 4 * s.size ∧ t.size ≤ s.size ∧ Bytes.Has wr w.heap.size v l ∧ Below w.heap.size w wr) (fun tv _ _ => match tv with | .string t => t.size | _ => 0)
  case atStart => exact ⟨s, [], rfl, Lib.hid (by simp), hF0, by simp, Nat.le_refl _, Bytes.Has.nil _ _, b1⟩
  case round =>
    obtain ⟨t, l, rfl, hl, hF, hll, hts, hown, hbel⟩ := hrel
    by_cases hlt : m < t.size
    · have hz := hbel.size
      have C := Lib.hid (fun W => lineSize_any t (m - 1) (by omega) (by omega) (by omega) (by omega) hF W)
      have hb := lineLen_bd t.data.toList (m := m - 1) (by omega)
      obtain ⟨n, hn⟩ : ∃ n, lineLen (m - 1) t.data.toList = n := ⟨_, rfl⟩
      have HL := Lib.hid (soft_cut hm4 hlt hn hl.out)
      have HF : Far (t.extract n t.size).data.toList := by rw [ext_from]; exact hF.drop n
      rw [hn] at C hb
      have hnz : (n : Int) ≤ (t.size : Int) := by omega
      have hto := ext_to t n
      have htl := take_len t n (by omega)
      have hfs : (t.extract n t.size).size = t.size - n := by rw [ByteArray.size_extract]; omega
      obtain ⟨u, hu2⟩ : ∃ u, t.data.toList.take n = u := ⟨_, rfl⟩
      rw [hu2] at HL hto htl
      have H1 : Hid (l.length + (⟨u.toArray⟩ : ByteArray).size ≤ 140737488355328) := by rw [ulen htl]; show _ ≤ _; omega
      have H2 : Hid ((l ++ u).length + 1 ≤ 140737488355328) := by rw [List.length_append]; show _ ≤ _; omega
      have H3 : Hid ((l ++ u ++ [61]).length + (⟨#[13, 10]⟩ : ByteArray).size ≤ 140737488355328) := by rw [List.length_append, List.length_append]; show _ + 2 ≤ _; simp; omega
      clear hn hu2 hm1
      go_wp2_with fail
      refine (C.out _).mono ?_
      rintro e w' ⟨rfl, rfl⟩
      go_wp2_with (first
        | (at_builtin; refine Lib.wpList_append_own_string _ rfl _ _ 31 9 rfl w.heap.size 5 i0 Tryd.underlying31 Tryd.underlying9 hi hz0 hz1 hz2 _ _ _ rfl hown _ rfl (cap_max H1.out) H1.out hz ?_; intro v1 w1 hown1 hgrow1 _; have hown1 := laidS0 hown1; have hbel1 : Below w.heap.size w w1 := hbel.grown hgrow1 hz (fun k e => (World.ownsRow.lt hown k e).1); have hz1' := hbel1.size)
        | (at_builtin; refine wpList_append_own _ rfl _ _ 31 rfl w.heap.size 5 i0 (.int .u8 0) 1 1 Tryd.underlying31 hi hz0 hz1 hz2 rfl Bytes.one_pos _ _ _ rfl (hown1.alloc _) ⟨w1.heap.size, 0, none⟩ 1 1 [.int .u8 61] rfl rfl (World.news_of_block (cs := #[.int .u8 61]) (t := 5) (fr := (0, 0)) (heap_alloc_new w1 _)) (by simp [Value.oneCell']) (cap_max H2.out) (cap_one H2.out) (Bytes.base_ok' hz1' _) ?_; intro v2 w2 hown2 hgrow2 _; have hown2 := Bytes.Has.laid1 (c := 61) hown2; have hbel2 := Bytes.Has.below hown1 hbel1 hz1' _ hgrow2; have hz2' := hbel2.size)
        | (at_builtin; refine Lib.wpList_append_own_string _ rfl _ _ 31 9 rfl w.heap.size 5 i0 Tryd.underlying31 Tryd.underlying9 hi hz0 hz1 hz2 _ _ _ rfl hown2 _ rfl (cap_max H3.out) H3.out hz2' ?_; intro v3 w3 hown3 hgrow3 _; have hown3 := laidS0 (u := [13, 10]) hown3; have hbel3 : Below w.heap.size w w3 := hbel2.grown hgrow3 hz2' (fun k e => (World.ownsRow.lt hown2 k e).1)))
      go_roundw
      case rel => exact ⟨_, _, rfl, HL, HF, by rw [hfs]; simp only [List.length_append, List.length_cons, List.length_nil]; omega, by rw [hfs]; omega, hown3, hbel3⟩
      case measure => show (t.extract n t.size).size < t.size; rw [hfs]; omega
    · have hz := hbel.size
      have HL := Lib.hid (show l ++ t.data.toList = soft m s.data.toList by rw [← hl.out, soft_end (by rw [list_size]; exact hlt)])
      have H1 : Hid (l.length + t.size ≤ 140737488355328) := by show _ ≤ _; omega
      clear hl hF
      go_wp2_with (at_builtin; refine Lib.wpList_append_own_string _ rfl _ _ 31 9 rfl w.heap.size 5 i0 Tryd.underlying31 Tryd.underlying9 hi hz0 hz1 hz2 _ _ _ rfl hown _ rfl (cap_max H1.out) H1.out hz ?_; intro v1 w1 hown1 hgrow1 _; have hown1 := laidT hown1; have hc := hown1.text; have hbel1 : Below w.heap.size w w1 := hbel.grown hgrow1 hz (fun k e => (World.ownsRow.lt hown k e).1))
      go_ret2
      exact ⟨retSoft HL.out, hbel1⟩

set_option maxHeartbeats 400000 in
theorem soft_any (s : ByteArray) (n : Int) (hs : s.size ≤ 4294967296) (w : World) (T : Tabs w) :
    Calls Tryd.prog 8 #[.string s, .int .i64 n] w fun e w' => e = .returned (.tuple #[.string ⟨(softA s.data.toList n).1.toArray⟩, .int .i64 ((softA s.data.toList n).2 : Int)]) ∧ Below w.heap.size w w' := by
  by_cases h4 : n < 4
  · rw [softA_low h4]
    have C1 := Lib.hid (within_low n w h4)
    go_enter Tryd.func8, Tryd.ntmps8
    go_wp2_with fail
    refine C1.out.mono ?_
    rintro e w1 ⟨rfl, rfl⟩
    go_wp2_with fail
    go_ret2
    exact ⟨rfl, Below.refl _ _⟩
  · by_cases h200 : 200 < n
    · rw [softA_high h200]
      have C1 := Lib.hid (within_high n w h200)
      go_enter Tryd.func8, Tryd.ntmps8
      go_wp2_with fail
      refine C1.out.mono ?_
      rintro e w1 ⟨rfl, rfl⟩
      go_wp2_with fail
      go_ret2
      exact ⟨rfl, Below.refl _ _⟩
    · cases he : isEnc s.data.toList
      · rw [softA_no (by omega) (by omega) he]
        have C1 := Lib.hid (within_in n w (by omega) (by omega))
        have C2 := Lib.hid (encoded_any s hs w T)
        rw [he] at C2
        clear he
        go_enter Tryd.func8, Tryd.ntmps8
        go_wp2_with fail
        refine C1.out.mono ?_
        rintro e w1 ⟨rfl, rfl⟩
        go_wp2_with fail
        refine C2.out.mono ?_
        rintro e w1 ⟨rfl, b1⟩
        go_wp2_with fail
        go_ret2
        exact ⟨rfl, b1⟩
      · rw [softA_yes (by omega) (by omega) he]
        obtain ⟨m, rfl⟩ := Int.eq_ofNat_of_zero_le (by omega : 0 ≤ n)
        exact soft_in s m (by omega) (by omega) he hs w T
end Go.Proofs.YtccjagjbldofaaaDoor.Qu
