/-
strings.Cut at the separator of one nought, and 'textHere' out of it. Conditions: the reader's place is within its text, the text's length is at most maxLen.
-/
import Derived.Test.YtpapakkcomegnaaMbMath
import Derived.Test.YtpapakkcomegnaaMbState
import Derived.Test.YtpapakkcomegnaaMbHere
import Derived.Lib.Bytealg
import Derived.BigCall
import Derived.Laws.Strings3
namespace Go.Proofs.Ytpapakkcomegnaa.Mb
open Go.RowKit

theorem idx_of : ∀ (l : List UInt8), Lib.indexByte l 0 = if l.idxOf 0 < l.length then (l.idxOf 0 : Int) else -1
  | [] => rfl
  | b :: l => by
    have ih := idx_of l
    unfold Lib.indexByte
    rw [List.idxOf_cons]
    by_cases hb : b = 0
    · subst hb; simp
    · have : (b == 0) = false := by simpa using hb
      rw [this, ih]
      by_cases hl : l.idxOf 0 < l.length
      · simp [hl]
      · simp [hl]

set_option maxHeartbeats 400000 in
theorem indexByte_any (s : ByteArray) (w : World) :
    Calls Try.prog 38 #[.string s, .int .u8 0] w fun e w' => e = .returned (.int .i64 (Lib.indexByte s.data.toList 0)) ∧ w = w' := by
  go_enter Try.func38, Try.ntmps38
  go_wp2
  rw [run_callFunc_extern Try.func42 (by kernel_rfl) (by kernel_rfl) (by kernel_rfl) (e := Extern.BytealgIndexByte.indexByte) (by kernel_rfl), Lib.run_indexByteString]
  simp only [Result.andThen]
  rw [Oper.upon_value]
  go_wp2
  go_ret
  exact ⟨rfl, rfl⟩

set_option maxHeartbeats 400000 in
set_option maxRecDepth 100000 in
theorem index_any (s : ByteArray) (w : World) :
    Calls Try.prog 37 #[.string s, .string { data := #[0] }] w fun e w' => e = .returned (.int .i64 (Lib.indexByte s.data.toList 0)) ∧ w = w' := by
  have C := Lib.hid (fun W => indexByte_any s W)
  have h0 : ([0] == s.toList) = true → Lib.indexByte s.data.toList 0 = 0 := fun h => by
    rw [ByteArray.toList_eq] at h
    rw [← eq_of_beq h]; rfl
  cases hb : ([0] == s.toList)
  · clear h0
    generalize Lib.indexByte s.data.toList 0 = r at C ⊢
    go_enter Try.func37, Try.ntmps37
    go_wp2_with fail
    refine (C.out _).mono ?_
    rintro e w' ⟨rfl, rfl⟩
    go_wp2_with fail
    go_ret
    exact ⟨rfl, rfl⟩
  · have H := Lib.hid (h0 hb)
    clear h0
    go_enter Try.func37, Try.ntmps37
    go_wp2_with fail
    go_ret
    exact ⟨by rw [H.out]; rfl, rfl⟩

theorem txt_no {l : List UInt8} (h : ¬ l.idxOf 0 < l.length) : txtOf l = ([], 0, 1) := by unfold txtOf; rw [if_neg h]
theorem txt_yes {l : List UInt8} (h : l.idxOf 0 < l.length) : txtOf l = (l.take (l.idxOf 0), l.idxOf 0 + 1, 0) := by unfold txtOf; rw [if_pos h]

set_option maxHeartbeats 400000 in
theorem cut_no (s : ByteArray) (w : World) (h : ¬ s.data.toList.idxOf 0 < s.data.toList.length) :
    Calls Try.prog 36 #[.string s, .string { data := #[0] }] w fun e w' => e = .returned (.tuple #[.string s, .string { data := #[] }, .bool false]) ∧ Below w.heap.size w w' := by
  have C := Lib.hid (fun W => index_any s W)
  rw [idx_of, if_neg h] at C
  go_enter Try.func36, Try.ntmps36
  go_wp2_with fail
  refine (C.out _).mono ?_
  rintro e w' ⟨rfl, rfl⟩
  go_wp2_with fail
  go_ret3
  exact ⟨rfl, Below.refl _ _⟩

set_option maxHeartbeats 400000 in
theorem cut_yes (s : ByteArray) (w : World) (hs : s.size ≤ maxLen) (h : s.data.toList.idxOf 0 < s.data.toList.length) :
    Calls Try.prog 36 #[.string s, .string { data := #[0] }] w fun e w' => ∃ t : ByteArray, e = .returned (.tuple #[.string (s.extract 0 (s.data.toList.idxOf 0)), .string t, .bool true]) ∧ Below w.heap.size w w' := by
  unfold maxLen at hs
  have C := Lib.hid (fun W => index_any s W)
  rw [idx_of, if_pos h] at C
  rw [len_data] at h
  generalize s.data.toList.idxOf 0 = j at C h ⊢
  go_enter Try.func36, Try.ntmps36
  go_wp2_with fail
  refine (C.out _).mono ?_
  rintro e w' ⟨rfl, rfl⟩
  go_wp2_with fail
  go_quiet (fail)
  go_wp2
  go_ret3
  exact ⟨_, rfl, below_drewN (Below.refl _ _) _⟩

set_option maxHeartbeats 400000 in
theorem scut_no (s : ByteArray) (w : World) (h : ¬ s.data.toList.idxOf 0 < s.data.toList.length) :
    Calls Try.prog 35 #[.string s, .string { data := #[0] }] w fun e w' => e = .returned (.tuple #[.string s, .string { data := #[] }, .bool false]) ∧ Below w.heap.size w w' := by
  have C := Lib.hid (fun W => cut_no s W h)
  go_enter Try.func35, Try.ntmps35
  go_wp2_with fail
  refine (C.out _).mono ?_
  rintro e w' ⟨rfl, b1⟩
  go_wp2_with fail
  go_ret3
  exact ⟨rfl, b1⟩
set_option maxHeartbeats 400000 in
theorem scut_yes (s : ByteArray) (w : World) (hs : s.size ≤ maxLen) (h : s.data.toList.idxOf 0 < s.data.toList.length) :
    Calls Try.prog 35 #[.string s, .string { data := #[0] }] w fun e w' => ∃ t : ByteArray, e = .returned (.tuple #[.string (s.extract 0 (s.data.toList.idxOf 0)), .string t, .bool true]) ∧ Below w.heap.size w w' := by
  have C := Lib.hid (fun W => cut_yes s W hs h)
  generalize s.data.toList.idxOf 0 = j at C h ⊢
  clear hs h
  go_enter Try.func35, Try.ntmps35
  go_wp2_with fail
  refine (C.out _).mono ?_
  rintro e w' ⟨t, rfl, b1⟩
  go_wp2_with fail
  go_ret3
  exact ⟨t, rfl, b1⟩

set_option maxHeartbeats 400000 in
theorem textHere_any (b : Nat) (s : ByteArray) (i : Nat) (e : Int) (w : World) (h : Rd w b s i e) (hi : i ≤ s.size) (hs : s.size ≤ maxLen) :
    Calls Try.prog 32 #[.pointer (some ⟨b, 0, none⟩)] w fun x w' => x = .returned (.tuple #[.string ⟨(txtOf (s.data.toList.drop i)).1.toArray⟩, .int .i64 ((txtOf (s.data.toList.drop i)).2.1 : Int), .int .i64 ((txtOf (s.data.toList.drop i)).2.2 : Int)]) ∧ Below w.heap.size w w' := by
  have CR := Lib.hid (fun W h => rest_any b s i e W h hi)
  have hd := rest_data s i
  have hz : (s.extract i s.size).size ≤ s.size := by simp
  generalize s.extract i s.size = r at CR hd hz
  rw [← hd]
  have hz2 : r.size ≤ maxLen := by omega
  clear hd hz hs hi
  have hlen := len_data r
  by_cases hj : r.data.toList.idxOf 0 < r.data.toList.length
  · have HB := Lib.hid (txt_yes hj)
    have C := Lib.hid (fun W => scut_yes r W hz2 hj)
    rw [hlen] at hj
    have hx := ext_data r 0 (r.data.toList.idxOf 0)
    rw [List.drop_zero, Nat.sub_zero] at hx
    generalize r.data.toList.idxOf 0 = j at C HB hj hx
    have HT := Lib.hid (show txtOf r.data.toList = ((r.extract 0 j).data.toList, j + 1, 0) by rw [HB.out, hx])
    have hej : (r.extract 0 j).size = j := by simp; omega
    unfold maxLen at hz2
    clear HB hx
    generalize r.extract 0 j = v at HT C hej
    have hv : v.size ≤ 9223372036854775806 := by omega
    have HJ := Lib.hid hej
    clear hej hj hz2 hlen
    go_enter Try.func32, Try.ntmps32
    go_wp2_with fail
    refine (CR.out _ h).mono ?_
    rintro x w1 ⟨rfl, b1⟩
    go_wp2_with fail
    refine (C.out _).mono ?_
    rintro x w2 ⟨t, rfl, b2⟩
    go_wp2
    go_ret3
    exact ⟨by rw [HT.out, ← HJ.out, str_mk]; rfl, b1.trans (b2.mono b1.size)⟩
  · have HB := Lib.hid (txt_no hj)
    have C := Lib.hid (fun W => scut_no r W hj)
    clear hj hz2 hlen
    go_enter Try.func32, Try.ntmps32
    go_wp2_with fail
    refine (CR.out _ h).mono ?_
    rintro x w1 ⟨rfl, b1⟩
    go_wp2_with fail
    refine (C.out _).mono ?_
    rintro x w2 ⟨rfl, b2⟩
    go_wp2
    go_ret3
    exact ⟨by rw [HB.out]; rfl, b1.trans (b2.mono b1.size)⟩
end Go.Proofs.Ytpapakkcomegnaa.Mb
