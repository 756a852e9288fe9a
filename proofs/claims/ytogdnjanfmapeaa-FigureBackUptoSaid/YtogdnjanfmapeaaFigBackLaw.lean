/-
For every int n and every text s of at most 2^38 bytes the law FigureBack returns true and changes nothing that was there. Conditions: those bounds.
-/
import Derived.Test.YtogdnjanfmapeaaFigRead
import Derived.Test.YtogdnjanfmapeaaFigHex
import Derived.Test.YtogdnjanfmapeaaFigUnhex
import Derived.Test.YtogdnjanfmapeaaFigText
import Derived.Test.YtogdnjanfmapeaaFigBackMath
namespace Go.Proofs.Ytogdnjanfmapeaa.FigLaw
open Go.RowKit Fig

theorem chain' {a b c : World} (h : Below a.heap.size a b) (k : Below b.heap.size b c) : Below a.heap.size a c := h.trans (k.mono h.size)
theorem size_of (l : List UInt8) : (⟨l.toArray⟩ : ByteArray).size = l.length := by simp [ByteArray.size]

/-- The parts that every case has: the text, the digits of s, and s out of them. -/
theorem read_of (n : Int) (h0 : -9223372036854775808 ≤ n) (h1 : n ≤ 9223372036854775807) {a e : Nat} (h : count (txt n) = (a, e)) (W : World) :
    Calls Try.prog 11 #[.string ⟨(txt n).toArray⟩] W fun x w' => x = .returned (.tuple #[.int .i64 (a : Int), .int .i64 (e : Int)]) ∧ W = w' := by
  have hl : (txt n).length ≤ 21 := txt_length n (by omega)
  have := read_any ⟨(txt n).toArray⟩ W (by rw [size_of]; unfold maxLen; omega)
  simp only [h] at this
  exact this
theorem unhex_of (s : ByteArray) (hs : s.size ≤ 274877906944) (W : World) :
    Calls Try.prog 13 #[.string ⟨(hexOf s.data.toList).toArray⟩] W fun x w' => x = .returned (.tuple #[.string s, .int .i64 0]) ∧ Below W.heap.size W w' := by
  have hl : (hexOf s.data.toList).length = 2 * s.data.toList.length := hexOf_length _
  have hd : s.data.toList.length = s.size := by simp
  have := unhex_any ⟨(hexOf s.data.toList).toArray⟩ W (by rw [size_of]; omega)
  simp only [unhex_hexOf, toArray_data] at this
  exact this

set_option maxHeartbeats 400000 in
theorem back (n : Int) (s : ByteArray) (w : World) (h0 : -9223372036854775808 ≤ n) (h1 : n ≤ 9223372036854775807) (hs : s.size ≤ 274877906944) :
    Calls Try.prog 7 #[.int .i64 n, .string s] w fun e w' => e = .returned (.bool true) ∧ Below w.heap.size w w' := by
  have CT := Lib.hid (fun W => text_any n W h0 h1)
  have CH := Lib.hid (fun W => hex_any s W (by omega))
  have CU := Lib.hid (fun W => unhex_of s hs W)
  have hpos : 0 < (⟨(txt n).toArray⟩ : ByteArray).size := by rw [size_of]; exact txt_pos n
  have hmain : ∀ a e : Nat, count (txt n) = (a, e) → (n < 0 ∧ a = 0 ∧ e = 3 ∨ 268435456 < n ∧ a = 0 ∧ e = 2 ∨ 0 ≤ n ∧ n ≤ 268435456 ∧ (a : Int) = n ∧ e = 0) →
      Calls Try.prog 7 #[.int .i64 n, .string s] w fun e w' => e = .returned (.bool true) ∧ Below w.heap.size w w' := by
    intro a e hc hcase
    have CR := Lib.hid (read_of n h0 h1 hc)
    clear hc
    generalize (⟨(txt n).toArray⟩ : ByteArray) = tn at CT CR hpos
    generalize (⟨(hexOf s.data.toList).toArray⟩ : ByteArray) = hx at CH CU
    rcases hcase with ⟨hn, rfl, rfl⟩ | ⟨hn, rfl, rfl⟩ | ⟨hn, hn2, ha, rfl⟩
    · go_enter Try.func7, Try.ntmps7
      go_wp2_with fail
      refine (CT.out _).mono ?_
      rintro e w1 ⟨rfl, b1⟩
      go_wp2_with fail
      refine (CR.out _).mono ?_
      rintro e w2 ⟨rfl, rfl⟩
      go_wp2_with fail
      refine (CH.out _).mono ?_
      rintro e w2 ⟨rfl, b2⟩
      go_wp2_with fail
      refine (CU.out _).mono ?_
      rintro e w3 ⟨rfl, b3⟩
      go_wp2_with fail
      go_ret
      exact ⟨rfl, chain' (chain' b1 b2) b3⟩
    · go_enter Try.func7, Try.ntmps7
      go_wp2_with fail
      refine (CT.out _).mono ?_
      rintro e w1 ⟨rfl, b1⟩
      go_wp2_with fail
      refine (CR.out _).mono ?_
      rintro e w2 ⟨rfl, rfl⟩
      go_wp2_with fail
      refine (CH.out _).mono ?_
      rintro e w2 ⟨rfl, b2⟩
      go_wp2_with fail
      refine (CU.out _).mono ?_
      rintro e w3 ⟨rfl, b3⟩
      go_wp2_with fail
      go_ret
      exact ⟨rfl, chain' (chain' b1 b2) b3⟩
    · rw [ha] at CR
      clear ha
      go_enter Try.func7, Try.ntmps7
      go_wp2_with fail
      refine (CT.out _).mono ?_
      rintro e w1 ⟨rfl, b1⟩
      go_wp2_with fail
      refine (CR.out _).mono ?_
      rintro e w2 ⟨rfl, rfl⟩
      go_wp2_with fail
      refine (CH.out _).mono ?_
      rintro e w2 ⟨rfl, b2⟩
      go_wp2_with fail
      refine (CU.out _).mono ?_
      rintro e w3 ⟨rfl, b3⟩
      go_wp2_with fail
      refine (CT.out _).mono ?_
      rintro e w4 ⟨rfl, b4⟩
      go_wp2_with fail
      go_ret
      exact ⟨rfl, chain' (chain' (chain' b1 b2) b3) b4⟩
  by_cases hn : n < 0
  · exact hmain 0 3 (count_txt_neg n hn) (.inl ⟨hn, rfl, rfl⟩)
  · by_cases hb : 268435456 < n
    · exact hmain 0 2 (count_txt_big n hb h1) (.inr (.inl ⟨hb, rfl, rfl⟩))
    · exact hmain n.toNat 0 (count_txt_ok n (by omega) (by omega)) (.inr (.inr ⟨by omega, by omega, by omega, rfl⟩))
end Go.Proofs.Ytogdnjanfmapeaa.FigLaw
