/-
Small words of the document's cards: ways of writing, frames' names, plain and blank texts. Conditions: a text has at most 2^47 bytes.
-/
import Derived.Test.YtjgfbicllgalkaaGreatDoorJ01
import Derived.Laws.DeepStrings4
namespace Go.Proofs.YtjgfbicllgalkaaGreatDoor.Vc
open Go.RowKit Pp

/-- Is a text, without a name, a way of writing? -/
def how (s : ByteArray) : Bool := decide (s.toList = [81, 85, 79, 84, 69, 68, 45, 80, 82, 73, 78, 84, 65, 66, 76, 69]) || decide (s.toList = [66, 65, 83, 69, 54, 52]) || decide (s.toList = [56, 66, 73, 84]) || decide (s.toList = [55, 66, 73, 84])
def framed (s : ByteArray) : Bool := decide (s.toList = [66, 69, 71, 73, 78]) || decide (s.toList = [69, 78, 68]) || decide (s.toList = [86, 69, 82, 83, 73, 79, 78])

theorem how_any (s : ByteArray) (w : World) : Calls Tryz.prog 116 #[.string s] w fun e w' => e = .returned (.bool (how s)) ∧ w = w' := by
  by_cases h0 : s.toList = [81, 85, 79, 84, 69, 68, 45, 80, 82, 73, 78, 84, 65, 66, 76, 69]
  · skip
    go_enter Tryz.func116, Tryz.ntmps116
    go_wp2_with fail
    go_ret
    exact ⟨by simp [how, *], rfl⟩
  · skip
    by_cases h1 : s.toList = [66, 65, 83, 69, 54, 52]
    · skip
      go_enter Tryz.func116, Tryz.ntmps116
      go_wp2_with fail
      go_ret
      exact ⟨by simp [how, *], rfl⟩
    · skip
      by_cases h2 : s.toList = [56, 66, 73, 84]
      · skip
        go_enter Tryz.func116, Tryz.ntmps116
        go_wp2_with fail
        go_ret
        exact ⟨by simp [how, *], rfl⟩
      · skip
        by_cases h3 : s.toList = [55, 66, 73, 84]
        · skip
          go_enter Tryz.func116, Tryz.ntmps116
          go_wp2_with fail
          go_ret
          exact ⟨by simp [how, *], rfl⟩
        · skip
          go_enter Tryz.func116, Tryz.ntmps116
          go_wp2_with fail
          go_ret
          exact ⟨by simp [how, *], rfl⟩
theorem framed_any (s : ByteArray) (w : World) : Calls Tryz.prog 117 #[.string s] w fun e w' => e = .returned (.bool (framed s)) ∧ w = w' := by
  by_cases h0 : s.toList = [66, 69, 71, 73, 78]
  · skip
    go_enter Tryz.func117, Tryz.ntmps117
    go_wp2_with fail
    go_ret
    exact ⟨by simp [framed, *], rfl⟩
  · skip
    by_cases h1 : s.toList = [69, 78, 68]
    · skip
      go_enter Tryz.func117, Tryz.ntmps117
      go_wp2_with fail
      go_ret
      exact ⟨by simp [framed, *], rfl⟩
    · skip
      by_cases h2 : s.toList = [86, 69, 82, 83, 73, 79, 78]
      · skip
        go_enter Tryz.func117, Tryz.ntmps117
        go_wp2_with fail
        go_ret
        exact ⟨by simp [framed, *], rfl⟩
      · skip
        go_enter Tryz.func117, Tryz.ntmps117
        go_wp2_with fail
        go_ret
        exact ⟨by simp [framed, *], rfl⟩

theorem list_size (t : ByteArray) : t.data.toList.length = t.size := by rw [Array.length_toList]; rfl
theorem drop_at (t : ByteArray) (k : Nat) (h : k < t.size) : t.data.toList.drop k = t[k] :: t.data.toList.drop (k + 1) := by
  rw [List.drop_eq_getElem_cons (by rw [list_size]; exact h)]; rfl
theorem drop_end (t : ByteArray) (k : Nat) (h : ¬ k < t.size) : t.data.toList.drop k = [] := List.drop_eq_nil_of_le (by rw [list_size]; omega)
/-- Does a value stay as it is? -/
def plainB (c : UInt8) : Bool := decide (32 ≤ c.toNat) && decide (c.toNat ≤ 126)
def plain (l : List UInt8) : Bool := l.all plainB
def blankB (c : UInt8) : Bool := c == 32 || c == 9
def blank (l : List UInt8) : Bool := l.all blankB
theorem all_yes {f : UInt8 → Bool} {t : ByteArray} {k : Nat} {q : Bool} (h : k < t.size) (hf : f t[k] = true) (hq : (t.data.toList.drop k).all f = q) : (t.data.toList.drop (k + 1)).all f = q := by
  rw [drop_at t k h, List.all_cons, hf, Bool.true_and] at hq; exact hq
theorem all_no {f : UInt8 → Bool} {t : ByteArray} {k : Nat} {q : Bool} (h : k < t.size) (hf : f t[k] = false) (hq : (t.data.toList.drop k).all f = q) : q = false := by
  rw [drop_at t k h, List.all_cons, hf, Bool.false_and] at hq; exact hq.symm
theorem all_end {f : UInt8 → Bool} {t : ByteArray} {k : Nat} {q : Bool} (h : ¬ k < t.size) (hq : (t.data.toList.drop k).all f = q) : q = true := by
  rw [drop_end t k h] at hq; exact hq.symm

set_option maxRecDepth 100000 in
theorem plain_any (s : ByteArray) (hs : s.size ≤ 140737488355328) (w : World) : Calls Tryz.prog 69 #[.string s] w fun e w' => e = .returned (.bool (plain s.data.toList)) ∧ w = w' := by
  obtain ⟨q, hq⟩ : ∃ q, plain s.data.toList = q := ⟨_, rfl⟩
  have H0 := Lib.hid (show (s.data.toList.drop 0).all plainB = q by rw [List.drop_zero]; exact hq)
  rw [hq]
  clear hq
  go_enter Tryz.func69, Tryz.ntmps69
  go_wp2_with fail
  go_loopw [3] (fun kv wr => ∃ k : Nat, kv = .int .i64 (k : Int) ∧ k ≤ s.size ∧ Hid ((s.data.toList.drop k).all plainB = q) ∧ w = wr) (fun kv _ => s.size - (intOf kv).toNat)
  case atStart => exact ⟨0, rfl, Nat.zero_le _, H0, rfl⟩
  case round =>
    obtain ⟨k, rfl, hk, hp, rfl⟩ := hrel
    by_cases hlt : k < s.size
    · have hk1 : (k : Int) < (s.size : Int) := by omega
      by_cases h1 : s[k].toNat < 32
      · have HE := Lib.hid (all_no hlt (by unfold plainB; simp; omega) hp.out)
        have h1z : (s[k].toNat : Int) < 32 := by omega
        go_wp2_with fail
        go_ret
        exact ⟨by rw [HE.out]; rfl, rfl⟩
      · have h1z : ¬ (s[k].toNat : Int) < 32 := by omega
        by_cases h2 : 126 < s[k].toNat
        · have HE := Lib.hid (all_no hlt (by unfold plainB; simp; omega) hp.out)
          have h2z : (126 : Int) < (s[k].toNat : Int) := by omega
          go_wp2_with fail
          go_ret
          exact ⟨by rw [HE.out]; rfl, rfl⟩
        · have HE := Lib.hid (all_yes hlt (by unfold plainB; simp; omega) hp.out)
          have h2z : ¬ (126 : Int) < (s[k].toNat : Int) := by omega
          go_wp2_with fail
          go_roundw
          case rel => exact ⟨k + 1, by go_num, by omega, HE, trivial⟩
          case measure => simp [intOf]; omega
    · have HE := Lib.hid (all_end hlt hp.out)
      go_wp2_with fail
      go_ret
      exact ⟨by rw [HE.out]; rfl, rfl⟩
set_option maxRecDepth 100000 in
theorem blank_any (s : ByteArray) (hs : s.size ≤ 140737488355328) (w : World) : Calls Tryz.prog 87 #[.string s] w fun e w' => e = .returned (.bool (blank s.data.toList)) ∧ w = w' := by
  obtain ⟨q, hq⟩ : ∃ q, blank s.data.toList = q := ⟨_, rfl⟩
  have H0 := Lib.hid (show (s.data.toList.drop 0).all blankB = q by rw [List.drop_zero]; exact hq)
  rw [hq]
  clear hq
  go_enter Tryz.func87, Tryz.ntmps87
  go_wp2_with fail
  go_loopw [3] (fun kv wr => ∃ k : Nat, kv = .int .i64 (k : Int) ∧ k ≤ s.size ∧ Hid ((s.data.toList.drop k).all blankB = q) ∧ w = wr) (fun kv _ => s.size - (intOf kv).toNat)
  case atStart => exact ⟨0, rfl, Nat.zero_le _, H0, rfl⟩
  case round =>
    obtain ⟨k, rfl, hk, hp, rfl⟩ := hrel
    by_cases hlt : k < s.size
    · have hk1 : (k : Int) < (s.size : Int) := by omega
      by_cases h1 : s[k] = 32
      · have HE := Lib.hid (all_yes hlt (by rw [h1]; rfl) hp.out)
        have n1 : ((s[k].toNat : Int) == 32) = true := by rw [h1]; rfl
        have n1' : (s[k].toNat : Int) = 32 := by rw [h1]; rfl
        clear h1
        go_wp2_with fail
        go_roundw
        case rel => exact ⟨k + 1, by go_num, by omega, HE, trivial⟩
        case measure => simp [intOf]; omega
      · have n1 : ((s[k].toNat : Int) == 32) = false := by simp; exact fun h => h1 (UInt8.toNat_inj.1 (by show s[k].toNat = 32; omega))
        by_cases h2 : s[k] = 9
        · have HE := Lib.hid (all_yes hlt (by rw [h2]; rfl) hp.out)
          have n2 : ((s[k].toNat : Int) == 9) = true := by rw [h2]; rfl
          have n2' : (s[k].toNat : Int) = 9 := by rw [h2]; rfl
          clear h1 h2
          go_wp2_with fail
          go_roundw
          case rel => exact ⟨k + 1, by go_num, by omega, HE, trivial⟩
          case measure => simp [intOf]; omega
        · have HE := Lib.hid (all_no hlt (by simp [blankB, h1, h2]) hp.out)
          have n2 : ((s[k].toNat : Int) == 9) = false := by simp; exact fun h => h2 (UInt8.toNat_inj.1 (by show s[k].toNat = 9; omega))
          have n1' : ¬ (s[k].toNat : Int) = 32 := by simpa using n1
          have n2' : ¬ (s[k].toNat : Int) = 9 := by simpa using n2
          have m1 : ((s[k].toNat : Int) != 32) = true := by rw [bne, n1]; rfl
          have m2 : ((s[k].toNat : Int) != 9) = true := by rw [bne, n2]; rfl
          clear h1 h2
          go_wp2_with fail
          go_ret
          exact ⟨by rw [HE.out]; rfl, rfl⟩
    · have HE := Lib.hid (all_end hlt hp.out)
      go_wp2_with fail
      go_ret
      exact ⟨by rw [HE.out]; rfl, rfl⟩
end Go.Proofs.YtjgfbicllgalkaaGreatDoor.Vc
