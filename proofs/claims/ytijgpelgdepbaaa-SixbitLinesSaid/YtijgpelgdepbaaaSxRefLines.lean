/-
The document's own Lines answers a text's pieces. Conditions: the text has at most 10000 bytes.
-/
import Derived.Test.YtijgpelgdepbaaaSxPieces
namespace Go.Proofs.Ytijgpelgdepbaaa.Sx
open Go.RowKit

/-- A row of pieces. -/
def Row1 (w : World) (base : Nat) (l : List (List UInt8)) (e : Ending) (W' : World) : Prop := ∃ v, e = .returned v ∧ Strs W' base v l ∧ Below base w W'
theorem strs_row {base : Nat} {l : List (List UInt8)} {x : List UInt8} {r : List (List UInt8)} (hr : r = l ++ [x]) {w' : World} {v' : Value} (hown : w'.ownsRow base 9 1 v' (l.length + 1) (scells l ++ [.string ⟨x.toArray⟩])) : Strs w' base v' r := by
  subst hr; unfold Strs; rw [scells_snoc, List.length_append]; exact hown
theorem cut_more {k : Nat} {t : ByteArray} {l r : List (List UInt8)} (hk : 0 < k) (h : k < t.size) (hl : l ++ cut k t.data.toList = r) :
    (l ++ [t.data.toList.take k]) ++ cut k (t.extract k t.size).data.toList = r := by
  have := list_size t
  rw [← hl, ext_from, cut_step (l := t.data.toList) hk (by omega), List.append_assoc]; rfl
theorem cut_last {k : Nat} {t : ByteArray} {l r : List (List UInt8)} (hk : 0 < k) (h : ¬ k < t.size) (h0 : 0 < t.size) (hl : l ++ cut k t.data.toList = r) : r = l ++ [t.data.toList] := by
  have := list_size t
  rw [← hl, cut_short hk (by omega) (by omega)]
theorem cut_end {k : Nat} {t : ByteArray} {l r : List (List UInt8)} (h0 : ¬ 0 < t.size) (hl : l ++ cut k t.data.toList = r) : l = r := by
  have := list_size t
  rw [← hl, List.eq_nil_of_length_eq_zero (l := t.data.toList) (by omega), cut_nil, List.append_nil]
theorem str_full {t : ByteArray} (h : 0 < t.size) : (!t.toList.isEmpty) = true := by
  rw [ByteArray.toList_eq]; cases e : t.data.toList with | nil => have := list_size t; rw [e] at this; simp at this; omega | cons a r => rfl
theorem str_none {t : ByteArray} (h : ¬ 0 < t.size) : (!t.toList.isEmpty) = false := by
  rw [ByteArray.toList_eq, List.eq_nil_of_length_eq_zero (l := t.data.toList) (by rw [list_size]; omega)]; rfl

set_option maxHeartbeats 1000000 in
theorem refLines_one (n : Int) (hn : n < 1) (s : ByteArray) (hs : s.size ≤ 10000) (w : World) :
    Calls Try.prog 7 #[.string s, .int .i64 n] w (Row1 w w.heap.size (cut 1 s.data.toList)) := by
  obtain ⟨i0, hi, hz0, hz1, hz2⟩ := info_parts infoStr
  go_enter Try.func7, Try.ntmps7
  go_wp2_with fail
  go_loopw [0, 5] (fun tv v wr => ∃ (t : ByteArray) (l : List (List UInt8)), tv = .string t ∧ Hid (l ++ cut 1 t.data.toList = cut 1 s.data.toList) ∧ l.length + t.size ≤ s.size ∧ Strs wr w.heap.size v l ∧ Below w.heap.size w wr) (fun tv _ _ => match tv with | .string t => t.size | _ => 0)
  case atStart => exact ⟨s, [], rfl, Lib.hid (by rw [List.nil_append]), by simp, World.ownsRow_nil _ _ _ _, Below.refl _ _⟩
  case round =>
    obtain ⟨t, l, rfl, hl, hll, hown, hbel⟩ := hrel
    have hz := hbel.size
    by_cases hlt : 1 < t.size
    · have HL := Lib.hid (cut_more (k := 1) Nat.one_pos hlt hl.out)
      have hsz : (t.extract 1 t.size).size = t.size - 1 := by rw [ByteArray.size_extract]; omega
      have HSZ := Lib.hid hsz
      have HX := Lib.hid (ext_to t 1)
      have hk1 : (1 : Int) ≤ (t.size : Int) := by omega
      clear hsz
      go_wp2_with (at_builtin; refine wpList_append_own _ rfl _ _ 24 rfl w.heap.size 9 i0 (.string .empty) 1 16 Try.underlying24 hi hz0 hz1 hz2 rfl (by decide) _ _ _ rfl (World.ownsRow.alloc hown _) ⟨wr.heap.size, 0, none⟩ 1 1 [.string (t.extract 0 1)] rfl rfl (World.news_of_block (cs := #[.string (t.extract 0 1)]) (t := 9) (fr := (0, 0)) (heap_alloc_new wr _)) (by simp [Value.oneCell']) (by unfold maxLen; omega) (by omega) (by simp; omega) ?_; intro v' w1 hown' hgrow _)
      go_roundw
      case rel => exact ⟨_, _, rfl, HL, by rw [List.length_append, HSZ.out]; simp; omega, strs_row rfl (by rw [← HX.out]; exact hown'), (hbel.alloc hz _).grown hgrow (by simp; omega) (fun k e => (World.ownsRow.lt hown k e).1)⟩
      case measure => show (t.extract _ t.size).size < t.size; rw [HSZ.out]; omega
    · by_cases h0 : 0 < t.size
      · have HL := Lib.hid (cut_last Nat.one_pos hlt h0 hl.out)
        have hse := str_full h0
        go_wp2_with (at_builtin; refine wpList_append_own _ rfl _ _ 24 rfl w.heap.size 9 i0 (.string .empty) 1 16 Try.underlying24 hi hz0 hz1 hz2 rfl (by decide) _ _ _ rfl (World.ownsRow.alloc hown _) ⟨wr.heap.size, 0, none⟩ 1 1 [.string t] rfl rfl (World.news_of_block (cs := #[.string t]) (t := 9) (fr := (0, 0)) (heap_alloc_new wr _)) (by simp [Value.oneCell']) (by unfold maxLen; omega) (by omega) (by simp; omega) ?_; intro v' w1 hown' hgrow _)
        go_ret
        exact ⟨_, rfl, strs_row HL.out hown', (hbel.alloc hz _).grown hgrow (by simp; omega) (fun k e => (World.ownsRow.lt hown k e).1)⟩
      · have HL := Lib.hid (cut_end h0 hl.out)
        have hse := str_none h0
        go_wp2_with fail
        go_ret
        exact ⟨_, rfl, by rw [← HL.out]; exact hown, hbel⟩

set_option maxHeartbeats 1000000 in
theorem refLines_k (k : Nat) (hk : 0 < k) (s : ByteArray) (hs : s.size ≤ 10000) (w : World) :
    Calls Try.prog 7 #[.string s, .int .i64 (k : Int)] w (Row1 w w.heap.size (cut k s.data.toList)) := by
  obtain ⟨i0, hi, hz0, hz1, hz2⟩ := info_parts infoStr
  go_enter Try.func7, Try.ntmps7
  go_wp2_with fail
  go_loopw [0, 5] (fun tv v wr => ∃ (t : ByteArray) (l : List (List UInt8)), tv = .string t ∧ Hid (l ++ cut k t.data.toList = cut k s.data.toList) ∧ l.length + t.size ≤ s.size ∧ Strs wr w.heap.size v l ∧ Below w.heap.size w wr) (fun tv _ _ => match tv with | .string t => t.size | _ => 0)
  case atStart => exact ⟨s, [], rfl, Lib.hid (by rw [List.nil_append]), by simp, World.ownsRow_nil _ _ _ _, Below.refl _ _⟩
  case round =>
    obtain ⟨t, l, rfl, hl, hll, hown, hbel⟩ := hrel
    have hz := hbel.size
    by_cases hlt : k < t.size
    · have HL := Lib.hid (cut_more (k := k) hk hlt hl.out)
      have hsz : (t.extract k t.size).size = t.size - k := by rw [ByteArray.size_extract]; omega
      have HSZ := Lib.hid hsz
      have HX := Lib.hid (ext_to t k)
      have hk1 : (k : Int) ≤ (t.size : Int) := by omega
      clear hsz
      go_wp2_with (at_builtin; refine wpList_append_own _ rfl _ _ 24 rfl w.heap.size 9 i0 (.string .empty) 1 16 Try.underlying24 hi hz0 hz1 hz2 rfl (by decide) _ _ _ rfl (World.ownsRow.alloc hown _) ⟨wr.heap.size, 0, none⟩ 1 1 [.string (t.extract 0 k)] rfl rfl (World.news_of_block (cs := #[.string (t.extract 0 k)]) (t := 9) (fr := (0, 0)) (heap_alloc_new wr _)) (by simp [Value.oneCell']) (by unfold maxLen; omega) (by omega) (by simp; omega) ?_; intro v' w1 hown' hgrow _)
      go_roundw
      case rel => exact ⟨_, _, rfl, HL, by rw [List.length_append, HSZ.out]; simp; omega, strs_row rfl (by rw [← HX.out]; exact hown'), (hbel.alloc hz _).grown hgrow (by simp; omega) (fun k e => (World.ownsRow.lt hown k e).1)⟩
      case measure => show (t.extract _ t.size).size < t.size; rw [HSZ.out]; omega
    · by_cases h0 : 0 < t.size
      · have HL := Lib.hid (cut_last hk hlt h0 hl.out)
        have hse := str_full h0
        go_wp2_with (at_builtin; refine wpList_append_own _ rfl _ _ 24 rfl w.heap.size 9 i0 (.string .empty) 1 16 Try.underlying24 hi hz0 hz1 hz2 rfl (by decide) _ _ _ rfl (World.ownsRow.alloc hown _) ⟨wr.heap.size, 0, none⟩ 1 1 [.string t] rfl rfl (World.news_of_block (cs := #[.string t]) (t := 9) (fr := (0, 0)) (heap_alloc_new wr _)) (by simp [Value.oneCell']) (by unfold maxLen; omega) (by omega) (by simp; omega) ?_; intro v' w1 hown' hgrow _)
        go_ret
        exact ⟨_, rfl, strs_row HL.out hown', (hbel.alloc hz _).grown hgrow (by simp; omega) (fun k e => (World.ownsRow.lt hown k e).1)⟩
      · have HL := Lib.hid (cut_end h0 hl.out)
        have hse := str_none h0
        go_wp2_with fail
        go_ret
        exact ⟨_, rfl, by rw [← HL.out]; exact hown, hbel⟩
theorem refLines_any (s : ByteArray) (n : Int) (hs : s.size ≤ 10000) (w : World) :
    Calls Try.prog 7 #[.string s, .int .i64 n] w (Row1 w w.heap.size (cut (wid n) s.data.toList)) := by
  by_cases hn : n < 1
  · rw [show wid n = 1 by unfold wid; rw [if_pos hn]]; exact refLines_one n hn s hs w
  · obtain ⟨k, rfl⟩ := Int.eq_ofNat_of_zero_le (by omega : 0 ≤ n)
    rw [show wid (k : Int) = k by unfold wid; rw [if_neg hn]; rfl]; exact refLines_k k (by omega) s hs w
end Go.Proofs.Ytijgpelgdepbaaa.Sx
