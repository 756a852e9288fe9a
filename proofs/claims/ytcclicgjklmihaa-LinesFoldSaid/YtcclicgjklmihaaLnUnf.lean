/-
unfolded is an iterator of lines, each with those that go on with it, over whatever iterator hands on the lines. Conditions: the lines have at most 2^40 bytes in all, and there are at most 2^40 of them.
-/
import Derived.Test.YtcclicgjklmihaaStrAll
namespace Go.Proofs.Ytcclicgjklmihaa.Ln
open Go.RowKit Strs Sq
attribute [local go_sem] Oper.semAt_some

theorem isBlank_any (b : UInt8) (w : World) :
    Calls Try.prog 28 #[.int .u8 (b.toNat : Int)] w fun e w' => e = .returned (.bool (b == 32 || b == 9)) ∧ w = w' := by
  by_cases h1 : b = 32
  · subst h1
    go_enter Try.func28, Try.ntmps28
    go_wp2
    go_ret
    exact ⟨rfl, rfl⟩
  · have n1 : ((b.toNat : Int) == 32) = false := by simp; exact fun h => h1 (UInt8.toNat_inj.1 (by show b.toNat = 32; omega))
    have e1 : (b == 32) = false := by simpa using h1
    by_cases h2 : b = 9
    · subst h2
      go_enter Try.func28, Try.ntmps28
      go_wp2
      go_ret
      exact ⟨rfl, rfl⟩
    · have n2 : ((b.toNat : Int) == 9) = false := by simp; exact fun h => h2 (UInt8.toNat_inj.1 (by show b.toNat = 9; omega))
      have e2 : (b == 9) = false := by simpa using h2
      rw [e1, e2]
      clear e1 e2 h1 h2
      go_enter Try.func28, Try.ntmps28
      go_wp2
      go_ret
      exact ⟨rfl, rfl⟩
theorem goes_get : ∀ (l : List UInt8) (h : 0 < l.length), goes l = (l[0] == 32 || l[0] == 9)
  | _ :: _, _ => rfl
theorem goes_at (t : ByteArray) (h : 0 < t.size) : goes t.data.toList = (t[0] == 32 || t[0] == 9) := goes_get t.data.toList (by rw [list_size]; exact h)
theorem goesOn_any (t : ByteArray) (w : World) :
    Calls Try.prog 30 #[.string t] w fun e w' => e = .returned (.bool (goes t.data.toList)) ∧ w = w' := by
  rcases Nat.eq_zero_or_pos t.size with h0 | h0
  · have h1 := List.eq_nil_of_length_eq_zero (l := t.data.toList) (by rw [list_size]; exact h0)
    have h := str_none h1
    rw [h1]
    clear h1 h0
    go_enter Try.func30, Try.ntmps30
    go_wp2
    go_ret
    exact ⟨rfl, rfl⟩
  · have h := str_full (t := t) (fun e => by have := list_size t; rw [e] at this; simp at this; omega)
    have C := Lib.hid (fun W => isBlank_any t[0] W)
    rw [goes_at t h0]
    generalize (t[0] == 32 || t[0] == 9) = q at C
    go_enter Try.func30, Try.ntmps30
    go_wp2_with (go_at_call 28; refine (C.out _).mono ?_; rintro e w' ⟨rfl, rfl⟩)
    go_ret
    exact ⟨rfl, rfl⟩
end Go.Proofs.Ytcclicgjklmihaa.Ln
