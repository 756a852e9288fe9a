/-
check.Seal, check.Open and the document's own: what they answer. Conditions: the text has at most 2^40 bytes.
-/
import Derived.Test.YtlklbceeefkofaaChkOf
import Derived.Test.YtlklbceeefkofaaBytes
import Derived.Laws.Concat
import Derived.Deep.RegionHeld3
namespace Go.Proofs.Ytlklbceeefkofaa.Chk
open Go.RowKit

/-- A text with its sum behind it. -/
def sealed (s : ByteArray) : ByteArray := s ++ ⟨(tail2 (crc s.data.toList)).toArray⟩

/-- The two bytes of a sum, just made, are a text. -/
theorem tail_text (w : World) (x : BitVec 16) :
    (convert 28 9 (.slice (some ⟨w.heap.size, 0, none⟩) 2 2)).run Try.prog (w.alloc (.cells #[.int .u8 ((x.toNat : Int) / 256), .int .u8 ((x.toNat : Int) % 256)] 5)) =
      .ok (.string ⟨(tail2 x).toArray⟩) (w.alloc (.cells #[.int .u8 ((x.toNat : Int) / 256), .int .u8 ((x.toNat : Int) % 256)] 5)) := by
  have e1 : (x.toNat : Int) / 256 = ((UInt8.ofNat (x.toNat / 256)).toNat : Int) := by rw [toNat_hi]; omega
  have e2 : (x.toNat : Int) % 256 = ((UInt8.ofNat (x.toNat % 256)).toNat : Int) := by rw [toNat_lo]; omega
  rw [e1, e2]
  have h : Bytes.Has (w.alloc (.cells #[.int .u8 ((UInt8.ofNat (x.toNat / 256)).toNat : Int), .int .u8 ((UInt8.ofNat (x.toNat % 256)).toNat : Int)] 5)) w.heap.size (.slice (some ⟨w.heap.size, 0, none⟩) 2 2) (tail2 x) :=
    ⟨rfl, .inr ⟨w.heap.size, 2, _, rfl, Nat.le_refl _, heap_alloc_new w _, Nat.le_refl _, by unfold maxLen; simp, rfl, rfl⟩⟩
  exact h.text
theorem tail_size (x : BitVec 16) : (⟨(tail2 x).toArray⟩ : ByteArray).size = 2 := rfl

theorem seal_any (s : ByteArray) (w : World) (hs : s.size ≤ 1099511627776) :
    Calls Try.prog 11 #[.string s] w fun e w' => e = .returned (.string (sealed s)) ∧ Below w.heap.size w w' := by
  have C1 := Lib.hid (fun W => of_any s W hs)
  have hsz := tail_size (crc s.data.toList)
  unfold sealed
  have hx := (crc s.data.toList).isLt
  have hc := tail_text w (crc s.data.toList)
  generalize crc s.data.toList = x at C1 hx hc hsz
  generalize (⟨(tail2 x).toArray⟩ : ByteArray) = t at hc hsz
  have hsum : ¬ 9223372036854775807 < s.size + 2 := by omega
  go_enter Try.func11, Try.ntmps11
  go_wp2_with fail
  refine (C1.out _).mono ?_
  rintro e w1 ⟨rfl, rfl⟩
  go_wp2_with fail
  go_ret
  exact ⟨rfl, (Below.refl _ _).alloc (Nat.le_refl _) _⟩

theorem refSeal_any (s : ByteArray) (w : World) (hs : s.size ≤ 1099511627776) :
    Calls Try.prog 12 #[.string s] w fun e w' => e = .returned (.string (sealed s)) ∧ Below w.heap.size w w' := by
  have C1 := Lib.hid (fun W => refOf_any s W hs)
  have hsz := tail_size (crc s.data.toList)
  unfold sealed
  have hx := (crc s.data.toList).isLt
  have hc := tail_text w (crc s.data.toList)
  generalize crc s.data.toList = x at C1 hx hc hsz
  generalize (⟨(tail2 x).toArray⟩ : ByteArray) = t at hc hsz
  have hsum : ¬ 9223372036854775807 < s.size + 2 := by omega
  go_enter Try.func12, Try.ntmps12
  go_wp2_with fail
  refine (C1.out _).mono ?_
  rintro e w1 ⟨rfl, rfl⟩
  go_wp2_with fail
  go_ret
  exact ⟨rfl, (Below.refl _ _).alloc (Nat.le_refl _) _⟩

/-- The text without its last two bytes. -/
def front (s : ByteArray) : ByteArray := s.extract 0 (s.size - 2)
/-- The last two bytes are the sum of what stands before them. -/
def Sealed (s : ByteArray) : Prop := 2 ≤ s.size ∧ sealed (front s) = s
theorem str_eq {a b : ByteArray} (h : a.toList = b.toList) : a = b := by
  rw [ByteArray.toList_eq, ByteArray.toList_eq] at h
  exact ByteArray.ext (Array.ext' h)

theorem open_yes (s : ByteArray) (w : World) (hs : s.size ≤ 1099511627776) (h : Sealed s) :
    Calls Try.prog 9 #[.string s] w fun e w' => e = .returned (.tuple #[.string (front s), .bool true]) ∧ Below w.heap.size w w' := by
  obtain ⟨h2, he⟩ := h
  have hf : (front s).size ≤ 1099511627776 := by unfold front; simp; omega
  have C1 := Lib.hid (fun W => seal_any (front s) W hf)
  rw [he] at C1
  have HF := Lib.hid (rfl : front s = s.extract 0 (s.size - 2))
  have hd1 : decide ((s.size : Int) - 2 < 0) = false := by rw [decide_eq_false_iff_not]; omega
  have hsub : ((s.size : Int) - 2).toNat = s.size - 2 := by omega
  have h3 : 0 ≤ (s.size : Int) - 2 := by omega
  clear he hf
  go_enter Try.func9, Try.ntmps9
  go_wp2_with fail
  refine (C1.out _).mono ?_
  rintro e w1 ⟨rfl, b1⟩
  go_wp2_with fail
  go_ret2
  exact ⟨rfl, b1⟩
theorem open_no (s : ByteArray) (w : World) (hs : s.size ≤ 1099511627776) (h : ¬ Sealed s) :
    Calls Try.prog 9 #[.string s] w fun e w' => e = .returned (.tuple #[.string .empty, .bool false]) ∧ Below w.heap.size w w' := by
  by_cases h2 : 2 ≤ s.size
  · have hf : (front s).size ≤ 1099511627776 := by unfold front; simp; omega
    have C1 := Lib.hid (fun W => seal_any (front s) W hf)
    have hne : ¬ sealed (front s) = s := fun e => h ⟨h2, e⟩
    have HF := Lib.hid (rfl : front s = s.extract 0 (s.size - 2))
    generalize sealed (front s) = t at C1 hne
    have hb1 : (t.toList == s.toList) = false := by
      rw [beq_eq_false_iff_ne]; intro e; exact hne (str_eq e)
    have hd1 : decide ((s.size : Int) - 2 < 0) = false := by rw [decide_eq_false_iff_not]; omega
    have hsub : ((s.size : Int) - 2).toNat = s.size - 2 := by omega
    have h3 : 0 ≤ (s.size : Int) - 2 := by omega
    clear h hf hne
    go_enter Try.func9, Try.ntmps9
    go_wp2_with fail
    refine (C1.out _).mono ?_
    rintro e w1 ⟨rfl, b1⟩
    go_wp2_with fail
    go_ret2
    exact ⟨rfl, b1⟩
  · clear h
    go_enter Try.func9, Try.ntmps9
    go_wp2_with fail
    go_ret2
    exact ⟨rfl, Below.refl _ _⟩

theorem refOpen_yes (s : ByteArray) (w : World) (hs : s.size ≤ 1099511627776) (h : Sealed s) :
    Calls Try.prog 10 #[.string s] w fun e w' => e = .returned (.tuple #[.string (front s), .bool true]) ∧ Below w.heap.size w w' := by
  obtain ⟨h2, he⟩ := h
  have hf : (front s).size ≤ 1099511627776 := by unfold front; simp; omega
  have C1 := Lib.hid (fun W => refSeal_any (front s) W hf)
  rw [he] at C1
  have HF := Lib.hid (rfl : front s = s.extract 0 (s.size - 2))
  have hd1 : decide ((s.size : Int) - 2 < 0) = false := by rw [decide_eq_false_iff_not]; omega
  have hsub : ((s.size : Int) - 2).toNat = s.size - 2 := by omega
  have h3 : 0 ≤ (s.size : Int) - 2 := by omega
  clear he hf
  go_enter Try.func10, Try.ntmps10
  go_wp2_with fail
  refine (C1.out _).mono ?_
  rintro e w1 ⟨rfl, b1⟩
  go_wp2_with fail
  go_ret2
  exact ⟨rfl, b1⟩
theorem refOpen_no (s : ByteArray) (w : World) (hs : s.size ≤ 1099511627776) (h : ¬ Sealed s) :
    Calls Try.prog 10 #[.string s] w fun e w' => e = .returned (.tuple #[.string .empty, .bool false]) ∧ Below w.heap.size w w' := by
  by_cases h2 : 2 ≤ s.size
  · have hf : (front s).size ≤ 1099511627776 := by unfold front; simp; omega
    have C1 := Lib.hid (fun W => refSeal_any (front s) W hf)
    have hne : ¬ sealed (front s) = s := fun e => h ⟨h2, e⟩
    have HF := Lib.hid (rfl : front s = s.extract 0 (s.size - 2))
    generalize sealed (front s) = t at C1 hne
    have hb1 : (t.toList == s.toList) = false := by
      rw [beq_eq_false_iff_ne]; intro e; exact hne (str_eq e)
    have hd1 : decide ((s.size : Int) - 2 < 0) = false := by rw [decide_eq_false_iff_not]; omega
    have hsub : ((s.size : Int) - 2).toNat = s.size - 2 := by omega
    have h3 : 0 ≤ (s.size : Int) - 2 := by omega
    clear h hf hne
    go_enter Try.func10, Try.ntmps10
    go_wp2_with fail
    refine (C1.out _).mono ?_
    rintro e w1 ⟨rfl, b1⟩
    go_wp2_with fail
    go_ret2
    exact ⟨rfl, b1⟩
  · clear h
    go_enter Try.func10, Try.ntmps10
    go_wp2_with fail
    go_ret2
    exact ⟨rfl, Below.refl _ _⟩

end Go.Proofs.Ytlklbceeefkofaa.Chk
