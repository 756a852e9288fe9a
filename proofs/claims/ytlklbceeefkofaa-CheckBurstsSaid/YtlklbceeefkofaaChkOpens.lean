/-
For every text the law CheckOpens returns true and changes nothing that was there. Conditions: the text's length is at most 2^47 bytes.
-/
import Derived.Test.YtlklbceeefkofaaChkSeal
namespace Go.Proofs.Ytlklbceeefkofaa.Chk
open Go.RowKit

theorem sealed_size (s : ByteArray) : (sealed s).size = s.size + 2 := by
  unfold sealed; rw [ByteArray.size_append, tail_size]
theorem front_sealed (s : ByteArray) : front (sealed s) = s := by
  unfold front
  rw [sealed_size, show s.size + 2 - 2 = s.size by omega]
  unfold sealed
  exact ByteArray.extract_append_eq_left rfl
theorem sealed_is (s : ByteArray) : Sealed (sealed s) := ⟨by rw [sealed_size]; omega, by rw [front_sealed]⟩
end Go.Proofs.Ytlklbceeefkofaa.Chk
namespace Go.Proofs.Ytlklbceeefkofaa.ChkLaw
open Go.RowKit Chk

theorem chain {a b c : World} (h : Below a.heap.size a b) (k : Below b.heap.size b c) : Below a.heap.size a c := h.trans (k.mono h.size)

set_option maxHeartbeats 400000 in
theorem opens_of (s x t : ByteArray) (b : Bool) (w : World) (hl : s.size ≤ 5000)
    (C1 : Hid (∀ W : World, Calls Try.prog 9 #[.string s] W fun e w' => e = .returned (.tuple #[.string x, .bool b]) ∧ Below W.heap.size W w'))
    (C2 : Hid (∀ W : World, Calls Try.prog 10 #[.string s] W fun e w' => e = .returned (.tuple #[.string x, .bool b]) ∧ Below W.heap.size W w'))
    (C3 : Hid (∀ W : World, Calls Try.prog 11 #[.string s] W fun e w' => e = .returned (.string t) ∧ Below W.heap.size W w'))
    (C4 : Hid (∀ W : World, Calls Try.prog 12 #[.string s] W fun e w' => e = .returned (.string t) ∧ Below W.heap.size W w'))
    (C5 : Hid (∀ W : World, Calls Try.prog 9 #[.string t] W fun e w' => e = .returned (.tuple #[.string s, .bool true]) ∧ Below W.heap.size W w')) :
    Calls Try.prog 4 #[.string s] w fun e w' => e = .returned (.bool true) ∧ Below w.heap.size w w' := by
  have hbb : (b == b) = true := by simp
  go_enter Try.func4, Try.ntmps4
  go_wp2_with fail
  refine (C1.out _).mono ?_
  rintro e w1 ⟨rfl, b1⟩
  go_wp2_with fail
  refine (C2.out _).mono ?_
  rintro e w2 ⟨rfl, b2⟩
  go_wp2_with fail
  refine (C3.out _).mono ?_
  rintro e w3 ⟨rfl, b3⟩
  go_wp2_with fail
  refine (C5.out _).mono ?_
  rintro e w4 ⟨rfl, b4⟩
  go_wp2_with fail
  refine (C3.out _).mono ?_
  rintro e w5 ⟨rfl, b5⟩
  go_wp2_with fail
  refine (C4.out _).mono ?_
  rintro e w6 ⟨rfl, b6⟩
  go_wp2_with fail
  go_ret
  exact ⟨rfl, chain (chain (chain (chain (chain b1 b2) b3) b4) b5) b6⟩

theorem opens (s : ByteArray) (w : World) (hs : s.size ≤ maxLen) :
    Calls Try.prog 4 #[.string s] w fun e w' => e = .returned (.bool true) ∧ Below w.heap.size w w' := by
  unfold maxLen at hs
  by_cases hl : 5000 < s.size
  · go_enter Try.func4, Try.ntmps4
    go_wp2
    go_ret
    exact ⟨rfl, Below.refl _ _⟩
  · have hz := sealed_size s
    have C3 := Lib.hid (fun W => seal_any s W (by omega))
    have C4 := Lib.hid (fun W => refSeal_any s W (by omega))
    have C5 := Lib.hid (fun W => open_yes (sealed s) W (by omega) (sealed_is s))
    rw [front_sealed] at C5
    rcases Classical.em (Sealed s) with h | h
    · exact opens_of s _ _ true w (by omega) (Lib.hid fun W => open_yes s W (by omega) h) (Lib.hid fun W => refOpen_yes s W (by omega) h) C3 C4 C5
    · exact opens_of s _ _ false w (by omega) (Lib.hid fun W => open_no s W (by omega) h) (Lib.hid fun W => refOpen_no s W (by omega) h) C3 C4 C5
end Go.Proofs.Ytlklbceeefkofaa.ChkLaw
