/-
strings.Cut at a line feed, and strings.TrimSuffix at a carriage return. Conditions: the text's length is at most maxLen.
-/
import Derived.Test.YtpdodknldhbbhaaGreatDoorJ10
import Derived.Test.YtpdodknldhbbhaaGreatDoorJ02
import Derived.Test.YtpdodknldhbbhaaGreatDoorShelf
import Derived.Lib.Bytealg
import Derived.BigCall
import Derived.BigQuiet
import Derived.Deep.QuietTactic
import Derived.Laws.DeepStrings4
namespace Go.Proofs.YtpdodknldhbbhaaGreatDoor.Ln
set_option maxRecDepth 100000
open Go.RowKit Strs

theorem idx_of : ∀ (l : List UInt8), Lib.indexByte l 10 = if l.idxOf 10 < l.length then (l.idxOf 10 : Int) else -1
  | [] => rfl
  | b :: l => by
    have ih := idx_of l
    unfold Lib.indexByte
    rw [List.idxOf_cons]
    by_cases hb : b = 10
    · subst hb; simp
    · have : (b == 10) = false := by simpa using hb
      rw [this, ih]
      by_cases hl : l.idxOf 10 < l.length
      · simp [hl]
      · simp [hl]

set_option maxHeartbeats 400000 in
theorem indexByte_any (s : ByteArray) (w : World) :
    Calls Tryz.prog 171 #[.string s, .int .u8 10] w fun e w' => e = .returned (.int .i64 (Lib.indexByte s.data.toList 10)) ∧ w = w' := by
  go_enter Tryz.func171, Tryz.ntmps171
  go_wp2
  rw [run_callFunc_extern Tryz.func186 (by kernel_rfl) (by kernel_rfl) (by kernel_rfl) (e := Extern.BytealgIndexByte.indexByte) (by kernel_rfl), Lib.run_indexByteString]
  simp only [Result.andThen]
  rw [Oper.upon_value]
  go_wp2
  go_ret
  exact ⟨rfl, rfl⟩

set_option maxHeartbeats 400000 in
theorem index_any (s : ByteArray) (w : World) :
    Calls Tryz.prog 154 #[.string s, .string { data := #[10] }] w fun e w' => e = .returned (.int .i64 (Lib.indexByte s.data.toList 10)) ∧ w = w' := by
  have C := Lib.hid (fun W => indexByte_any s W)
  have h0 : ([10] == s.toList) = true → Lib.indexByte s.data.toList 10 = 0 := fun h => by
    rw [ByteArray.toList_eq] at h
    rw [← eq_of_beq h]; rfl
  cases hb : ([10] == s.toList)
  · clear h0
    generalize Lib.indexByte s.data.toList 10 = r at C ⊢
    go_enter Tryz.func154, Tryz.ntmps154
    go_wp2_with fail
    refine (C.out _).mono ?_
    rintro e w' ⟨rfl, rfl⟩
    go_wp2_with fail
    go_ret
    exact ⟨rfl, rfl⟩
  · have H := Lib.hid (h0 hb)
    clear h0
    go_enter Tryz.func154, Tryz.ntmps154
    go_wp2_with fail
    go_ret
    exact ⟨by rw [H.out]; rfl, rfl⟩

set_option maxHeartbeats 400000 in
theorem cut_no (s : ByteArray) (w : World) (h : ¬ s.data.toList.idxOf 10 < s.data.toList.length) :
    Calls Tryz.prog 126 #[.string s, .string { data := #[10] }] w fun e w' => e = .returned (.tuple #[.string s, .string { data := #[] }, .bool false]) ∧ Below w.heap.size w w' := by
  have C := Lib.hid (fun W => index_any s W)
  rw [idx_of, if_neg h] at C
  go_enter Tryz.func126, Tryz.ntmps126
  go_wp2_with fail
  refine (C.out _).mono ?_
  rintro e w' ⟨rfl, rfl⟩
  go_wp2_with fail
  go_ret3
  exact ⟨rfl, Below.refl _ _⟩

set_option maxHeartbeats 400000 in
theorem cut_yes (s : ByteArray) (w : World) (hs : s.size ≤ maxLen) (h : s.data.toList.idxOf 10 < s.data.toList.length) :
    Calls Tryz.prog 126 #[.string s, .string { data := #[10] }] w fun e w' => e = .returned (.tuple #[.string (s.extract 0 (s.data.toList.idxOf 10)), .string (s.extract (s.data.toList.idxOf 10 + 1) s.size), .bool true]) ∧ Below w.heap.size w w' := by
  unfold maxLen at hs
  have C := Lib.hid (fun W => index_any s W)
  rw [idx_of, if_pos h] at C
  rw [list_size] at h
  generalize s.data.toList.idxOf 10 = j at C h ⊢
  go_enter Tryz.func126, Tryz.ntmps126
  go_wp2_with fail
  refine (C.out _).mono ?_
  rintro e w' ⟨rfl, rfl⟩
  have h2 : ((j : Int) + 1).toNat = j + 1 := by omega
  go_wp2_with fail
  go_quiet (fail)
  go_wp2
  go_ret3
  exact ⟨rfl, ⟨rfl, rfl, rfl, Nat.le_refl _, fun _ _ => rfl⟩⟩

set_option maxHeartbeats 400000 in
theorem scut_no (s : ByteArray) (w : World) (h : ¬ s.data.toList.idxOf 10 < s.data.toList.length) :
    Calls Tryz.prog 88 #[.string s, .string { data := #[10] }] w fun e w' => e = .returned (.tuple #[.string s, .string { data := #[] }, .bool false]) ∧ Below w.heap.size w w' := by
  have C := Lib.hid (fun W => cut_no s W h)
  go_enter Tryz.func88, Tryz.ntmps88
  go_wp2_with fail
  refine (C.out _).mono ?_
  rintro e w' ⟨rfl, b1⟩
  go_wp2_with fail
  go_ret3
  exact ⟨rfl, b1⟩
set_option maxHeartbeats 400000 in
theorem scut_yes (s : ByteArray) (w : World) (hs : s.size ≤ maxLen) (h : s.data.toList.idxOf 10 < s.data.toList.length) :
    Calls Tryz.prog 88 #[.string s, .string { data := #[10] }] w fun e w' => e = .returned (.tuple #[.string (s.extract 0 (s.data.toList.idxOf 10)), .string (s.extract (s.data.toList.idxOf 10 + 1) s.size), .bool true]) ∧ Below w.heap.size w w' := by
  have C := Lib.hid (fun W => cut_yes s W hs h)
  generalize s.data.toList.idxOf 10 = j at C h ⊢
  clear hs h
  go_enter Tryz.func88, Tryz.ntmps88
  go_wp2_with fail
  refine (C.out _).mono ?_
  rintro e w' ⟨rfl, b1⟩
  go_wp2_with fail
  go_ret3
  exact ⟨rfl, b1⟩
theorem trimSuffix_r (l : List UInt8) : Lib.trimSuffix l [13] = trimR l := by
  unfold Lib.trimSuffix trimR Lib.hasSuffix
  rcases List.eq_nil_or_concat l with rfl | ⟨r, b, rfl⟩
  · rfl
  · by_cases h : b = 13
    · subst h; simp
    · have h' : ¬ 13 = b := fun e => h e.symm
      simp [h, h']
theorem trim_any (t : ByteArray) (w : World) (ht : t.size ≤ maxLen) :
    Calls Tryz.prog 89 #[.string t, .string { data := #[13] }] w fun e w' => e = .returned (.string ⟨(trimR t.data.toList).toArray⟩) ∧ w = w' := by
  unfold maxLen at ht
  refine (Tryz.strings_TrimSuffix t { data := #[13] } w (by omega)).mono ?_
  rintro e w' ⟨rfl, rfl⟩
  exact ⟨by rw [← trimSuffix_r], rfl⟩
end Go.Proofs.YtpdodknldhbbhaaGreatDoor.Ln
