/-
Letters in lines: the program's Soft answers what the plain function 'softA' says. Conditions: the text has at most 2^32 bytes; the width is an int; the library's tables hold what the rows list.
-/
import Derived.Test.YtccjagjbldofaaaDoorQuDec
import Derived.Test.YtccjagjbldofaaaDoorQuSoftMath
import Derived.Laws.IdiomStrings
namespace Go.Proofs.YtccjagjbldofaaaDoor.Qu
open Go.RowKit Fig

theorem ret_num {a b : Int} (h : b = a) : Ending.returned (.int .i64 a) = .returned (.int .i64 b) := by rw [h]
theorem within_low (n : Int) (w : World) (h : n < 4) :
    Calls Tryd.prog 16 #[.int .i64 n, .int .i64 4, .int .i64 200] w fun e w' => e = .returned (.int .i64 4) ∧ w = w' := by
  go_enter Tryd.func16, Tryd.ntmps16
  go_wp2
  go_ret
  exact ⟨rfl, rfl⟩
theorem within_high (n : Int) (w : World) (h : 200 < n) :
    Calls Tryd.prog 16 #[.int .i64 n, .int .i64 4, .int .i64 200] w fun e w' => e = .returned (.int .i64 200) ∧ w = w' := by
  go_enter Tryd.func16, Tryd.ntmps16
  go_wp2
  go_ret
  exact ⟨rfl, rfl⟩
theorem within_in (n : Int) (w : World) (h : 4 ≤ n) (h' : n ≤ 200) :
    Calls Tryd.prog 16 #[.int .i64 n, .int .i64 4, .int .i64 200] w fun e w' => e = .returned (.int .i64 n) ∧ w = w' := by
  go_enter Tryd.func16, Tryd.ntmps16
  go_wp2
  go_ret
  exact ⟨rfl, rfl⟩

set_option maxHeartbeats 400000 in
theorem lineSize_any (s : ByteArray) (m : Nat) (h3 : 3 ≤ m) (h199 : m ≤ 199) (hm : m < s.size) (hs : s.size ≤ 4294967296) (hF : Far s.data.toList) (w : World) :
    Calls Tryd.prog 18 #[.string s, .int .i64 (m : Int)] w fun e w' => e = .returned (.int .i64 (lineLen m s.data.toList : Int)) ∧ w = w' := by
  obtain ⟨hb, hx⟩ := line_last h3 hm hF _ rfl
  have C := Lib.hid (fun W => Tryd.strings_LastIndexByte (s.extract 0 m) 61 (by rw [ByteArray.size_extract]; omega) W)
  generalize Lib.lastIndexByte (s.extract 0 m) 61 = x at C hb hx
  generalize (lineLen m s.data.toList : Int) = y at hx ⊢
  have hmz : (m : Int) ≤ (s.size : Int) := by omega
  by_cases h0 : 0 ≤ x ∧ (m : Int) < x + 3
  · rw [if_pos h0] at hx
    obtain ⟨h0, h1⟩ := h0
    have HX := Lib.hid hx
    clear hx
    go_enter Tryd.func18, Tryd.ntmps18
    go_wp2_with (go_at_call 25; refine (C.out _).mono ?_; rintro e w' ⟨rfl, rfl⟩)
    go_ret
    exact ⟨ret_num HX.out.symm, rfl⟩
  · rw [if_neg h0] at hx
    have HX := Lib.hid hx
    clear hx
    by_cases hx0 : 0 ≤ x
    · have h1 : x + 3 ≤ (m : Int) := by omega
      clear h0
      go_enter Tryd.func18, Tryd.ntmps18
      go_wp2_with (go_at_call 25; refine (C.out _).mono ?_; rintro e w' ⟨rfl, rfl⟩)
      go_ret
      exact ⟨ret_num HX.out.symm, rfl⟩
    · have h1 : x < 0 := by omega
      clear h0
      go_enter Tryd.func18, Tryd.ntmps18
      go_wp2_with (go_at_call 25; refine (C.out _).mono ?_; rintro e w' ⟨rfl, rfl⟩)
      go_ret
      exact ⟨ret_num HX.out.symm, rfl⟩

theorem beq_enc (l : List UInt8) (s : ByteArray) : ((⟨(enc l).toArray⟩ : ByteArray).toList == s.toList) = (enc l == s.data.toList) := by
  rw [ByteArray.toList_eq, ByteArray.toList_eq]
set_option maxHeartbeats 400000 in
theorem encoded_any (s : ByteArray) (hs : s.size ≤ 4294967296) (w : World) (T : Tabs w) :
    Calls Tryd.prog 17 #[.string s] w fun e w' => e = .returned (.bool (isEnc s.data.toList)) ∧ Below w.heap.size w w' := by
  have C1 := Lib.hid (decode_any s w (by omega) T)
  have C2 := Lib.hid (fun W => encode_any ⟨(dec s.data.toList).1.toArray⟩ W (by
    have := dec_length _ s.data.toList (Nat.le_refl _)
    have h2 : s.data.toList.length = s.size := by rw [Array.length_toList]; rfl
    rw [ulen rfl]; omega))
  have hq := beq_enc (dec s.data.toList).1 s
  unfold isEnc
  simp only [] at C2
  generalize enc (dec s.data.toList).1 = u at C2 hq ⊢
  generalize (dec s.data.toList).1.toArray = x at C1 C2
  generalize (dec s.data.toList).2 = q at C1 ⊢
  generalize (⟨u.toArray⟩ : ByteArray) = v at C2 hq
  rw [← hq]
  clear hq
  by_cases h0 : q = 0
  · subst h0
    go_enter Tryd.func17, Tryd.ntmps17
    go_wp2_with fail
    refine C1.out.mono ?_
    rintro e w1 ⟨rfl, b1⟩
    go_wp2_with fail
    refine (C2.out _).mono ?_
    rintro e w2 ⟨rfl, b2⟩
    go_wp2_with fail
    go_ret
    exact ⟨rfl, b1.trans (b2.mono b1.size)⟩
  · have hqb : ((q : Int) == 0) = false := by simp; omega
    have hqn : (q == 0) = false := by simpa using h0
    rw [hqn]
    clear hqn h0
    go_enter Tryd.func17, Tryd.ntmps17
    go_wp2_with fail
    refine C1.out.mono ?_
    rintro e w1 ⟨rfl, b1⟩
    go_wp2_with fail
    go_ret
    exact ⟨rfl, b1⟩
end Go.Proofs.YtccjagjbldofaaaDoor.Qu
