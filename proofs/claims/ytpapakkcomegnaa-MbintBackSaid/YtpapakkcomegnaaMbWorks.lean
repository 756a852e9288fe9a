/-
The law's own check that the layer does something: works returns true and changes nothing that was there. No conditions.
-/
import Derived.Test.YtpapakkcomegnaaMbCalls
import Derived.Test.YtpapakkcomegnaaMbWrite
namespace Go.Proofs.Ytpapakkcomegnaa.MbLaw
open Go.RowKit Mb

/-- The text 82 2c 61 62 00. -/
def s1 : ByteArray := { data := #[130, 44, 97, 98, 0] }
/-- The text 80 01. -/
def s2 : ByteArray := { data := #[128, 1] }
theorem s1_le : s1.size ≤ maxLen := by unfold maxLen; decide
theorem s2_le : s2.size ≤ maxLen := by unfold maxLen; decide
theorem num1 : numOf (s1.data.toList.drop 0) = (300, 2, 0) := by decide
theorem num2 : numOf (s2.data.toList.drop 0) = (0, 0, 3) := by decide
theorem txt1 : txtOf (s1.data.toList.drop 2) = ([97, 98], 3, 0) := by decide
theorem mb300 : mb 300 = [130, 44] := by decide

theorem number1 (b : Nat) (W : World) (h : Rd W b s1 0 0) : Calls Try.prog 12 #[.pointer (some ⟨b, 0, none⟩)] W fun x w' => x = .returned (.int .u32 300) ∧ Rd w' b s1 2 0 ∧ W.grownBy w' (some b) := by
  have := number_any b s1 0 0 W h (Nat.zero_le _) s1_le
  rw [num1] at this
  exact this
theorem text1 (b : Nat) (W : World) (h : Rd W b s1 2 0) : Calls Try.prog 16 #[.pointer (some ⟨b, 0, none⟩)] W fun x w' => x = .returned (.string { data := #[97, 98] }) ∧ Rd w' b s1 5 0 ∧ W.grownBy w' (some b) := by
  have := text_any b s1 2 0 W h (by decide) s1_le
  rw [txt1] at this
  exact this
theorem number2 (b : Nat) (W : World) (h : Rd W b s2 0 0) : Calls Try.prog 12 #[.pointer (some ⟨b, 0, none⟩)] W fun x w' => x = .returned (.int .u32 0) ∧ Rd w' b s2 0 3 ∧ W.grownBy w' (some b) := by
  have := number_any b s2 0 0 W h (Nat.zero_le _) s2_le
  rw [num2] at this
  exact this
theorem write300 (W : World) : Calls Try.prog 7 #[.int .u32 300] W fun x w' => x = .returned (.string { data := #[130, 44] }) ∧ Below W.heap.size W w' := by
  have := write_any 300 W (by decide)
  rw [mb300] at this
  exact this
theorem bel_grown {w a c : World} {A : Nat} (h : Below w.heap.size w a) (hg : a.grownBy c (some A)) (hA : w.heap.size ≤ A) : Below w.heap.size w c :=
  h.grown hg h.size (fun k e => by cases e; exact hA)

set_option maxRecDepth 100000 in
set_option maxHeartbeats 1000000 in
theorem works_any (w : World) :
    Calls Try.prog 23 #[] w fun e w' => e = .returned (.bool true) ∧ Below w.heap.size w w' := by
  go_enter Try.func23, Try.ntmps23
  go_wp2_with fail
  refine (new_any s1 _).mono ?_
  rintro x w1 ⟨rfl, h1, b1⟩
  go_wp2_with fail
  refine (number1 _ _ h1).mono ?_
  rintro x w2 ⟨rfl, h2, g2⟩
  have b2 := bel_grown b1 g2 (Nat.le_refl _)
  go_wp2_with fail
  refine (text1 _ _ h2).mono ?_
  rintro x w3 ⟨rfl, h3, g3⟩
  have b3 := bel_grown b2 g3 (Nat.le_refl _)
  go_wp2_with fail
  refine (err_any _ s1 5 0 _ h3).mono ?_
  rintro x w4 ⟨rfl, b4'⟩
  have b4 := b3.trans (b4'.mono b3.size)
  go_wp2_with fail
  refine (new_any s2 _).mono ?_
  rintro x w5 ⟨rfl, h5, b5'⟩
  have b5 := b4.trans (b5'.mono b4.size)
  go_wp2_with fail
  refine (number2 _ _ h5).mono ?_
  rintro x w6 ⟨rfl, h6, g6⟩
  have b6 := bel_grown b5 g6 b4.size
  go_wp2_with fail
  refine (err_any _ s2 0 3 _ h6).mono ?_
  rintro x w7 ⟨rfl, b7'⟩
  have b7 := b6.trans (b7'.mono b6.size)
  go_wp2_with fail
  refine (write300 _).mono ?_
  rintro x w8 ⟨rfl, b8'⟩
  have b8 := b7.trans (b8'.mono b7.size)
  go_wp2_with fail
  go_ret
  exact ⟨rfl, b8⟩
end Go.Proofs.Ytpapakkcomegnaa.MbLaw
