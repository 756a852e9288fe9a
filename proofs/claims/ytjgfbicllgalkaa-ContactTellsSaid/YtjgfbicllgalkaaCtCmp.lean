/-
Which of two fields comes first: the program's answer and the document's are the plain order. Conditions: none.
-/
import Derived.Test.YtjgfbicllgalkaaProg
import Derived.Test.YtjgfbicllgalkaaChecked
import Derived.Test.YtjgfbicllgalkaaCtMath
import Derived.Test.YtjgfbicllgalkaaShelf
import Derived.WalkKit
import Derived.ProofKit
import Derived.Lib.Hide
import Derived.Deep.RegionHeld3
import Derived.BigQuiet
import Derived.Deep.QuietTactic
import Derived.RegionTactic
import Derived.Laws.Cover1
namespace Go.Proofs.Ytjgfbicllgalkaa.Ct
set_option maxRecDepth 100000
open Go.RowKit

def or3 (a b c : Int) : Int := if a ≠ 0 then a else if b ≠ 0 then b else c
theorem or_any (B : Nat) (a b c : Int) (w : World) (h0 : w.cell? ⟨B, 0, none⟩ = some (.int .i64 a)) (h1 : w.cell? ⟨B, 1, none⟩ = some (.int .i64 b)) (h2 : w.cell? ⟨B, 2, none⟩ = some (.int .i64 c)) :
    Calls Try.prog 12 #[.slice (some ⟨B, 0, none⟩) 3 3] w fun e w' => e = .returned (.int .i64 (or3 a b c)) ∧ w = w' := by
  obtain ⟨R, hR⟩ : ∃ R, or3 a b c = R := ⟨_, rfl⟩
  rw [hR]
  have HR := Lib.hid hR
  clear hR
  go_enter Try.func12, Try.ntmps12
  go_wp2_with fail
  go_loopw [8] (fun iv wr => ∃ k : Nat, k ≤ 3 ∧ iv = .int .i64 (k : Int) ∧ wr = w ∧ Hid ((1 ≤ k → a = 0) ∧ (2 ≤ k → b = 0) ∧ (3 ≤ k → c = 0))) (fun iv _ => 3 - (intOf iv).toNat)
  case atStart => exact ⟨0, by omega, rfl, rfl, Lib.hid ⟨fun h => by omega, fun h => by omega, fun h => by omega⟩⟩
  case round =>
    obtain ⟨k, hk, rfl, rfl, hz⟩ := hrel
    obtain rfl | rfl | rfl | rfl : k = 0 ∨ k = 1 ∨ k = 2 ∨ k = 3 := by omega
    · by_cases ha : a = 0
      · have hab : (a == 0) = true := by simpa using ha
        have HA := Lib.hid ha
        clear ha hk
        go_wp2_with fail
        go_roundw
        case rel => exact ⟨1, by omega, by go_num, trivial, Lib.hid ⟨fun _ => HA.out, fun h => by omega, fun h => by omega⟩⟩
        case measure => simp [intOf]
      · have hab : (a == 0) = false := by simpa using ha
        obtain rfl : a = R := by rw [← HR.out]; unfold or3; rw [if_pos ha]
        clear ha hk
        go_wp2_with fail
        go_ret
        exact ⟨rfl, rfl⟩
    · by_cases ha : b = 0
      · have hab : (b == 0) = true := by simpa using ha
        have HA := Lib.hid ha
        clear ha hk
        go_wp2_with fail
        go_roundw
        case rel => exact ⟨2, by omega, by go_num, trivial, Lib.hid ⟨fun _ => hz.out.1 (by omega), fun _ => HA.out, fun h => by omega⟩⟩
        case measure => simp [intOf]
      · have hab : (b == 0) = false := by simpa using ha
        obtain rfl : b = R := by rw [← HR.out]; unfold or3; rw [if_neg (fun h => h (hz.out.1 (by omega))), if_pos ha]
        clear ha hk
        go_wp2_with fail
        go_ret
        exact ⟨rfl, rfl⟩
    · by_cases ha : c = 0
      · have hab : (c == 0) = true := by simpa using ha
        have HA := Lib.hid ha
        clear ha hk
        go_wp2_with fail
        go_roundw
        case rel => exact ⟨3, by omega, by go_num, trivial, Lib.hid ⟨fun _ => hz.out.1 (by omega), fun _ => hz.out.2.1 (by omega), fun _ => HA.out⟩⟩
        case measure => simp [intOf]
      · have hab : (c == 0) = false := by simpa using ha
        obtain rfl : c = R := by rw [← HR.out]; unfold or3; rw [if_neg (fun h => h (hz.out.1 (by omega))), if_neg (fun h => h (hz.out.2.1 (by omega)))]
        clear ha hk
        go_wp2_with fail
        go_ret
        exact ⟨rfl, rfl⟩
    · obtain rfl : (0 : Int) = R := by
        rw [← HR.out]; unfold or3
        rw [if_neg (fun h => h (hz.out.1 (by omega))), if_neg (fun h => h (hz.out.2.1 (by omega)))]
        exact (hz.out.2.2 (by omega)).symm
      clear hk
      go_wp2_with fail
      go_ret
      exact ⟨rfl, rfl⟩

theorem order_any (a b : ByteArray) (w : World) : Calls Try.prog 14 #[.string a, .string b] w fun e w' => e = .returned (.int .i64 (cmpS a b)) ∧ w = w' := by
  have hc : cmpS a b = if Op.bytesLess a.toList b.toList = true then -1 else if Op.bytesLess b.toList a.toList = true then 1 else 0 := by
    unfold cmpS; rw [ByteArray.toList_eq, ByteArray.toList_eq]; exact cmp_less _ _
  have hs := cmpS_zero (a := a) (b := b)
  obtain ⟨R, hR⟩ : ∃ R, cmpS a b = R := ⟨_, rfl⟩
  rw [hR] at hc hs ⊢
  clear hR
  cases h1 : Op.bytesLess a.toList b.toList
  · rw [h1, if_neg (by simp)] at hc
    by_cases he : a = b
    · obtain rfl : (0 : Int) = R := (hs.2 he).symm
      have heb : (a.toList == b.toList) = true := by rw [he]; simp
      clear hs hc he
      go_enter Try.func14, Try.ntmps14
      go_wp2_with fail
      go_ret
      exact ⟨rfl, rfl⟩
    · obtain rfl : (1 : Int) = R := by
        cases h2 : Op.bytesLess b.toList a.toList
        · rw [h2, if_neg (by simp)] at hc; exact absurd (hs.1 hc) he
        · rw [h2, if_pos rfl] at hc; exact hc.symm
      have heb : (a.toList == b.toList) = false := by
        rw [beq_eq_false_iff_ne]; intro e; rw [ByteArray.toList_eq, ByteArray.toList_eq] at e; exact he (by cases a; cases b; simp only at e; rw [Array.toList_inj.1 e])
      clear hs hc he
      go_enter Try.func14, Try.ntmps14
      go_wp2_with fail
      go_ret
      exact ⟨rfl, rfl⟩
  · rw [h1, if_pos rfl] at hc
    subst hc
    clear hs
    go_enter Try.func14, Try.ntmps14
    go_wp2_with fail
    go_ret
    exact ⟨rfl, rfl⟩

/-- A field as a value. -/
def fdV (x : Fd) : Value := .agg #[.string x.1, .string x.2.1, .string x.2.2]
theorem two_boxes (w : World) (o o' : Obj) : Below w.heap.size w ((w.alloc o).alloc o') := ((Below.refl _ _).alloc (Nat.le_refl _) _).alloc (by simp) _

theorem three_new (W : World) (a b c : Int) (z : Nat) (hz : W.heap.size = z) : ((W.alloc (.cells #[.int .i64 a, .int .i64 b, .int .i64 c] 3)).drew.cell? ⟨z, 0, none⟩ = some (.int .i64 a) ∧ (W.alloc (.cells #[.int .i64 a, .int .i64 b, .int .i64 c] 3)).drew.cell? ⟨z, 1, none⟩ = some (.int .i64 b) ∧ (W.alloc (.cells #[.int .i64 a, .int .i64 b, .int .i64 c] 3)).drew.cell? ⟨z, 2, none⟩ = some (.int .i64 c)) ∧ Below W.heap.size W (W.alloc (.cells #[.int .i64 a, .int .i64 b, .int .i64 c] 3)).drew := by
  subst hz
  have hZ := heap_alloc_new W (.cells #[.int .i64 a, .int .i64 b, .int .i64 c] 3)
  exact ⟨⟨cell_of_row _ _ 0 _ _ _ hZ, cell_of_row _ _ 1 _ _ _ hZ, cell_of_row _ _ 2 _ _ _ hZ⟩, ((Below.refl _ _).alloc (Nat.le_refl _) _).drew⟩
theorem rcmp_any (x y : Fd) (w : World) : Calls Try.prog 6 #[fdV x, fdV y] w fun e w' => e = .returned (.int .i64 (cmpF x y)) ∧ Below w.heap.size w w' := by
  obtain ⟨x0, x1, x2⟩ := x
  obtain ⟨y0, y1, y2⟩ := y
  have HB := Lib.hid (two_boxes w (.cells #[.string x0, .string x1, .string x2] 28) (.cells #[.string y0, .string y1, .string y2] 28))
  have CO := Lib.hid (fun a b W => order_any a b W)
  unfold fdV cmpF
  simp only
  by_cases h0 : x0 = y0
  · have b0 : (x0.toList == y0.toList) = true := by rw [h0]; simp
    rw [if_neg (fun h => h (cmpS_zero.2 h0))]
    by_cases h1 : x1 = y1
    · have b1 : (x1.toList == y1.toList) = true := by rw [h1]; simp
      rw [if_neg (fun h => h (cmpS_zero.2 h1))]
      clear h0 h1
      go_enter Try.func6, Try.ntmps6
      go_wp2_with fail
      refine (CO.out _ _ _).mono ?_
      rintro e w1 ⟨rfl, rfl⟩
      go_wp2_with fail
      go_ret
      exact ⟨rfl, HB.out⟩
    · have b1 : (x1.toList == y1.toList) = false := by
        rw [beq_eq_false_iff_ne]; intro e; rw [ByteArray.toList_eq, ByteArray.toList_eq] at e; exact h1 (by cases x1; cases y1; simp only at e; rw [Array.toList_inj.1 e])
      rw [if_pos (fun h => h1 (cmpS_zero.1 h))]
      clear h0 h1
      go_enter Try.func6, Try.ntmps6
      go_wp2_with fail
      refine (CO.out _ _ _).mono ?_
      rintro e w1 ⟨rfl, rfl⟩
      go_wp2_with fail
      go_ret
      exact ⟨rfl, HB.out⟩
  · have b0 : (x0.toList == y0.toList) = false := by
      rw [beq_eq_false_iff_ne]; intro e; rw [ByteArray.toList_eq, ByteArray.toList_eq] at e; exact h0 (by cases x0; cases y0; simp only at e; rw [Array.toList_inj.1 e])
    rw [if_pos (fun h => h0 (cmpS_zero.1 h))]
    clear h0
    go_enter Try.func6, Try.ntmps6
    go_wp2_with fail
    refine (CO.out _ _ _).mono ?_
    rintro e w1 ⟨rfl, rfl⟩
    go_wp2_with fail
    go_ret
    exact ⟨rfl, HB.out⟩

end Go.Proofs.Ytjgfbicllgalkaa.Ct
