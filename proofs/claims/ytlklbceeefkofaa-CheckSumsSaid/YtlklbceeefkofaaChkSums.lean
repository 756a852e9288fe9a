/-
For every text the law CheckSums returns true and changes nothing that was there. Conditions: the text's length is at most 2^47 bytes.
-/
import Derived.Test.YtlklbceeefkofaaChkOf
import Derived.Deep.QuietTactic
import Derived.BigQuiet
namespace Go.Proofs.Ytlklbceeefkofaa.ChkLaw
open Go.RowKit Chk

theorem nine : crc [49, 50, 51, 52, 53, 54, 55, 56, 57] = 0x29b1#16 := by decide +kernel

theorem sums (s : ByteArray) (w : World) (hs : s.size ≤ maxLen) :
    Calls Try.prog 3 #[.string s] w fun e w' => e = .returned (.bool true) ∧ Below w.heap.size w w' := by
  unfold maxLen at hs
  by_cases hl : 5000 < s.size
  · go_enter Try.func3, Try.ntmps3
    go_wp2
    go_ret
    exact ⟨rfl, Below.refl _ _⟩
  · have C1 := Lib.hid (fun W => of_any s W (by omega))
    have C2 := Lib.hid (fun W => refOf_any s W (by omega))
    have C3 := Lib.hid (fun W => of_any ⟨#[49, 50, 51, 52, 53, 54, 55, 56, 57]⟩ W (by decide))
    rw [nine] at C3
    generalize crc s.data.toList = x at C1 C2
    go_enter Try.func3, Try.ntmps3
    go_wp2_with fail
    refine (C1.out _).mono ?_
    rintro e w1 ⟨rfl, rfl⟩
    go_wp2_with fail
    refine (C2.out _).mono ?_
    rintro e w1 ⟨rfl, rfl⟩
    go_wp2_with fail
    refine (C3.out _).mono ?_
    rintro e w1 ⟨rfl, rfl⟩
    go_wp2_with fail
    go_ret
    exact ⟨rfl, Below.refl _ _⟩
end Go.Proofs.Ytlklbceeefkofaa.ChkLaw
