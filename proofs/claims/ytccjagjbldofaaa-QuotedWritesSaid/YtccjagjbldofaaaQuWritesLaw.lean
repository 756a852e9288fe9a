/-
For every text the law QuotedWrites returns true and changes nothing that was there. Conditions: none but that the text's length is at most maxLen.
-/
import Derived.Test.YtccjagjbldofaaaQuRefEnc
namespace Go.Proofs.Ytccjagjbldofaaa.QuLaw
open Go.RowKit Qu

theorem chain {a b c : World} (h : Below a.heap.size a b) (k : Below b.heap.size b c) : Below a.heap.size a c := h.trans (k.mono h.size)
theorem beq_enc (s : ByteArray) : ((⟨(enc s.data.toList).toArray⟩ : ByteArray).toList == s.toList) = plainAll s.data.toList := by
  rw [ByteArray.toList_eq, ByteArray.toList_eq, ← enc_beq]

set_option maxHeartbeats 400000 in
theorem writes (s : ByteArray) (w : World) (hs : s.size ≤ maxLen) :
    Calls Try.prog 3 #[.string s] w fun e w' => e = .returned (.bool true) ∧ Below w.heap.size w w' := by
  unfold maxLen at hs
  by_cases hl : 3000 < s.size
  · go_enter Try.func3, Try.ntmps3
    go_wp2
    go_ret
    exact ⟨rfl, Below.refl _ _⟩
  · have C1 := Lib.hid (fun W => refEncode_any s W (by omega))
    have C2 := Lib.hid (fun W => encode_any s W (by omega))
    have C3 := Lib.hid (fun W => plain_any s W (by omega))
    have hq := beq_enc s
    generalize (⟨(enc s.data.toList).toArray⟩ : ByteArray) = x at C1 C2 hq
    generalize plainAll s.data.toList = q at C3 hq
    go_enter Try.func3, Try.ntmps3
    go_wp2_with fail
    refine (C1.out _).mono ?_
    rintro e w1 ⟨rfl, b1⟩
    go_wp2_with fail
    refine (C2.out _).mono ?_
    rintro e w2 ⟨rfl, b2⟩
    go_wp2_with fail
    refine (C3.out _).mono ?_
    rintro e w3 ⟨rfl, rfl⟩
    go_wp2_with fail
    go_ret
    exact ⟨rfl, chain b1 b2⟩
end Go.Proofs.Ytccjagjbldofaaa.QuLaw
