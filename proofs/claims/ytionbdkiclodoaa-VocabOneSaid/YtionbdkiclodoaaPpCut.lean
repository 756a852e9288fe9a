/-
strings.Cut and strings.Index at any one byte. Conditions: the text's length is at most maxLen.
-/
import Derived.Test.YtionbdkiclodoaaPpMath
import Derived.Test.YtionbdkiclodoaaRows
import Derived.RegionTactic
import Derived.IntWalk
import Derived.Lib.Bytealg
import Derived.BigCall
import Derived.BigQuiet
import Derived.Deep.QuietTactic
import Derived.Laws.DeepStrings4
namespace Go.Proofs.Ytionbdkiclodoaa.Pp
open Go.RowKit

theorem idx_of (c : UInt8) : ∀ (l : List UInt8), Lib.indexByte l c = if l.idxOf c < l.length then (l.idxOf c : Int) else -1
  | [] => rfl
  | b :: l => by
    have ih := idx_of c l
    unfold Lib.indexByte
    rw [List.idxOf_cons]
    by_cases hb : b = c
    · subst hb; simp
    · have : (b == c) = false := by simpa using hb
      rw [this, ih]
      by_cases hl : l.idxOf c < l.length
      · simp [hl]
      · simp [hl]

set_option maxRecDepth 100000 in
set_option maxHeartbeats 400000 in
theorem indexByte_any (c : UInt8) (s : ByteArray) (w : World) :
    Calls Try.prog 21 #[.string s, .int .u8 (c.toNat : Int)] w fun e w' => e = .returned (.int .i64 (Lib.indexByte s.data.toList c)) ∧ w = w' := by
  go_enter Try.func21, Try.ntmps21
  go_wp2
  rw [run_callFunc_extern Try.func25 (by kernel_rfl) (by kernel_rfl) (by kernel_rfl) (e := Extern.BytealgIndexByte.indexByte) (by kernel_rfl), Lib.run_indexByteString]
  simp only [Result.andThen]
  rw [Oper.upon_value]
  go_wp2
  go_ret
  exact ⟨rfl, rfl⟩

set_option maxHeartbeats 400000 in
set_option maxRecDepth 100000 in
theorem indexOne_any (c : UInt8) (s : ByteArray) (w : World) :
    Calls Try.prog 20 #[.string s, .string { data := #[c] }] w fun e w' => e = .returned (.int .i64 (Lib.indexByte s.data.toList c)) ∧ w = w' := by
  have C := Lib.hid (fun W => indexByte_any c s W)
  have h0 : ([c] == s.toList) = true → Lib.indexByte s.data.toList c = 0 := fun h => by
    rw [ByteArray.toList_eq] at h
    rw [← eq_of_beq h]; simp [Lib.indexByte]
  cases hb : ([c] == s.toList)
  · clear h0
    generalize Lib.indexByte s.data.toList c = r at C ⊢
    go_enter Try.func20, Try.ntmps20
    go_wp2_with fail
    refine (C.out _).mono ?_
    rintro e w' ⟨rfl, rfl⟩
    go_wp2_with fail
    go_ret
    exact ⟨rfl, rfl⟩
  · have H := Lib.hid (h0 hb)
    clear h0
    go_enter Try.func20, Try.ntmps20
    go_wp2_with fail
    go_ret
    exact ⟨by rw [H.out]; rfl, rfl⟩

set_option maxHeartbeats 400000 in
theorem cut_no (c : UInt8) (s : ByteArray) (w : World) (h : ¬ s.data.toList.idxOf c < s.data.toList.length) :
    Calls Try.prog 19 #[.string s, .string { data := #[c] }] w fun e w' => e = .returned (.tuple #[.string s, .string { data := #[] }, .bool false]) ∧ Below w.heap.size w w' := by
  have C := Lib.hid (fun W => indexOne_any c s W)
  rw [idx_of c, if_neg h] at C
  go_enter Try.func19, Try.ntmps19
  go_wp2_with fail
  refine (C.out _).mono ?_
  rintro e w' ⟨rfl, rfl⟩
  go_wp2_with fail
  go_ret3
  exact ⟨rfl, Below.refl _ _⟩

set_option maxHeartbeats 400000 in
theorem cut_yes (c : UInt8) (s : ByteArray) (w : World) (hs : s.size ≤ maxLen) (h : s.data.toList.idxOf c < s.data.toList.length) :
    Calls Try.prog 19 #[.string s, .string { data := #[c] }] w fun e w' => e = .returned (.tuple #[.string (s.extract 0 (s.data.toList.idxOf c)), .string (s.extract (s.data.toList.idxOf c + 1) s.size), .bool true]) ∧ Below w.heap.size w w' := by
  unfold maxLen at hs
  have C := Lib.hid (fun W => indexOne_any c s W)
  rw [idx_of c, if_pos h] at C
  rw [list_size] at h
  generalize s.data.toList.idxOf c = j at C h ⊢
  go_enter Try.func19, Try.ntmps19
  go_wp2_with fail
  refine (C.out _).mono ?_
  rintro e w' ⟨rfl, rfl⟩
  have h2 : ((j : Int) + 1).toNat = j + 1 := by omega
  go_wp2_with fail
  go_quiet (fail)
  go_wp2
  go_ret3
  exact ⟨rfl, ⟨rfl, rfl, rfl, Nat.le_refl _, fun _ _ => rfl⟩⟩

set_option maxHeartbeats 400000 in
theorem scut_no (c : UInt8) (s : ByteArray) (w : World) (h : ¬ s.data.toList.idxOf c < s.data.toList.length) :
    Calls Try.prog 18 #[.string s, .string { data := #[c] }] w fun e w' => e = .returned (.tuple #[.string s, .string { data := #[] }, .bool false]) ∧ Below w.heap.size w w' := by
  have C := Lib.hid (fun W => cut_no c s W h)
  go_enter Try.func18, Try.ntmps18
  go_wp2_with fail
  refine (C.out _).mono ?_
  rintro e w' ⟨rfl, b1⟩
  go_wp2_with fail
  go_ret3
  exact ⟨rfl, b1⟩
set_option maxHeartbeats 400000 in
theorem scut_yes (c : UInt8) (s : ByteArray) (w : World) (hs : s.size ≤ maxLen) (h : s.data.toList.idxOf c < s.data.toList.length) :
    Calls Try.prog 18 #[.string s, .string { data := #[c] }] w fun e w' => e = .returned (.tuple #[.string (s.extract 0 (s.data.toList.idxOf c)), .string (s.extract (s.data.toList.idxOf c + 1) s.size), .bool true]) ∧ Below w.heap.size w w' := by
  have C := Lib.hid (fun W => cut_yes c s W hs h)
  generalize s.data.toList.idxOf c = j at C h ⊢
  clear hs h
  go_enter Try.func18, Try.ntmps18
  go_wp2_with fail
  refine (C.out _).mono ?_
  rintro e w' ⟨rfl, b1⟩
  go_wp2_with fail
  go_ret3
  exact ⟨rfl, b1⟩
end Go.Proofs.Ytionbdkiclodoaa.Pp
