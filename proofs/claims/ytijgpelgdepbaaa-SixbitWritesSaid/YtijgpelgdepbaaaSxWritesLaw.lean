/-
For every text the law SixbitWrites returns true and changes nothing that was there. Conditions: none but that the text's length is at most maxLen.
-/
import Derived.Test.YtijgpelgdepbaaaSxEnc
import Derived.Test.YtijgpelgdepbaaaSxRefEnc
namespace Go.Proofs.Ytijgpelgdepbaaa.Sx
open Go.RowKit

theorem chain {a b c : World} (h : Below a.heap.size a b) (k : Below b.heap.size b c) : Below a.heap.size a c := h.trans (k.mono h.size)
theorem enc_a : enc [97] = [89, 81, 61, 61] := by
  unfold enc; rw [cut_step (by decide) (by decide), show ([97] : List UInt8).drop 3 = [] from rfl, cut_nil]; rfl

set_option maxHeartbeats 400000 in
theorem writes_law (s : ByteArray) (w : World) (hs : s.size ≤ maxLen) :
    Calls Try.prog 3 #[.string s] w fun e w' => e = .returned (.bool true) ∧ Below w.heap.size w w' := by
  unfold maxLen at hs
  by_cases hl : 3000 < s.size
  · have hl' : (3000 : Int) < (s.size : Int) := by omega
    go_enter Try.func3, Try.ntmps3
    go_wp2
    go_ret
    exact ⟨rfl, Below.refl _ _⟩
  · have C1 := Lib.hid (fun W => encode_any s (by omega) W)
    have C2 := Lib.hid (fun W => refEncode_any s (by omega) W)
    have C3 := Lib.hid (fun W => encode_any ⟨#[97]⟩ (by decide) W)
    rw [show (⟨#[97]⟩ : ByteArray).data.toList = [97] from rfl, enc_a] at C3
    have hl' : ¬ (3000 : Int) < (s.size : Int) := by omega
    generalize (⟨(enc s.data.toList).toArray⟩ : ByteArray) = x at C1 C2
    have hx : (x.toList == x.toList) = true := by simp
    go_enter Try.func3, Try.ntmps3
    go_wp2_with fail
    refine (C1.out _).mono ?_
    rintro e w1 ⟨rfl, b1⟩
    go_wp2_with fail
    refine (C2.out _).mono ?_
    rintro e w2 ⟨rfl, b2⟩
    go_wp2_with fail
    refine (C3.out _).mono ?_
    rintro e w3 ⟨rfl, b3⟩
    go_wp2_with fail
    go_ret
    exact ⟨rfl, chain (chain b1 b2) b3⟩
end Go.Proofs.Ytijgpelgdepbaaa.Sx
