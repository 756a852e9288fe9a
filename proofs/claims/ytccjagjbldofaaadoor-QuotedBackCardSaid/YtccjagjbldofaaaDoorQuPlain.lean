/-
Whether a byte is plain: the program's and the document's answers are the plain function's. Conditions: the place lies within the text.
-/
import Derived.Test.YtccjagjbldofaaaDoorQuMath
import Derived.Test.YtccjagjbldofaaaDoorBytes
namespace Go.Proofs.YtccjagjbldofaaaDoor.Qu
open Go.RowKit Fig

theorem ret_bool {a b : Bool} (h : a = b) : Ending.returned (.bool a) = .returned (.bool b) := by rw [h]

theorem isInk_any (c : UInt8) (w : World) :
    Calls Tryd.prog 13 #[.int .u8 (c.toNat : Int)] w fun e w' => e = .returned (.bool (ink c)) ∧ w = w' := by
  have hb := c.toNat_lt
  go_enter Tryd.func13, Tryd.ntmps13
  go_wp2
  all_goals (go_ret; exact ⟨ret_bool (by unfold ink; rw [Bool.eq_iff_iff]; simp; try omega), rfl⟩)
theorem isBlank_any (c : UInt8) (w : World) :
    Calls Tryd.prog 14 #[.int .u8 (c.toNat : Int)] w fun e w' => e = .returned (.bool (blank c)) ∧ w = w' := by
  have hb := c.toNat_lt
  go_enter Tryd.func14, Tryd.ntmps14
  go_wp2
  all_goals (go_ret; exact ⟨ret_bool (by unfold blank; rw [Bool.eq_iff_iff]; simp; try omega), rfl⟩)

theorem plainAt_any (s : ByteArray) (k : Nat) (hk : k < s.size) (w : World) (hs : s.size ≤ 1099511627776) :
    Calls Tryd.prog 21 #[.string s, .int .i64 (k : Int)] w fun e w' => e = .returned (.bool (plainB s[k] (decide (k + 1 < s.size)))) ∧ w = w' := by
  have C1 := Lib.hid (fun W => isInk_any s[k] W)
  have C2 := Lib.hid (fun W => isBlank_any s[k] W)
  unfold plainB
  generalize ink s[k] = p at C1 ⊢
  generalize blank s[k] = q at C2 ⊢
  cases p <;> cases q <;>
  · go_enter Tryd.func21, Tryd.ntmps21
    go_wp2_with (first | (go_at_call 13; refine (C1.out _).mono ?_; rintro e w' ⟨rfl, rfl⟩) | (go_at_call 14; refine (C2.out _).mono ?_; rintro e w' ⟨rfl, rfl⟩))
    all_goals (go_ret; exact ⟨ret_bool (by simp; try omega), rfl⟩)

theorem refPlain_any (s : ByteArray) (k : Nat) (hk : k < s.size) (w : World) (hs : s.size ≤ 1099511627776) :
    Calls Tryd.prog 26 #[.string s, .int .i64 (k : Int)] w fun e w' => e = .returned (.bool (plainB s[k] (decide (k + 1 < s.size)))) ∧ w = w' := by
  have hb := s[k].toNat_lt
  obtain ⟨c, hc⟩ : ∃ c : UInt8, s[k] = c := ⟨_, rfl⟩
  rw [hc] at hb ⊢
  go_enter Tryd.func26, Tryd.ntmps26
  go_wp2
  all_goals (go_ret; exact ⟨ret_bool (by unfold plainB ink blank; rw [Bool.eq_iff_iff]; simp; try omega), rfl⟩)
end Go.Proofs.YtccjagjbldofaaaDoor.Qu
