/-
For every text and every list of texts the law LinesSplit returns true and changes nothing that was there. Conditions: the list has at most maxLen texts, each of at most 2^47 bytes.
-/
import Derived.Test.YtcclicgjklmihaaLnRefSplit
import Derived.Test.YtcclicgjklmihaaLnJoin
namespace Go.Proofs.Ytcclicgjklmihaa.Ln
open Go.RowKit Strs

set_option maxRecDepth 100000 in
set_option maxHeartbeats 2000000 in
theorem split_law (s : ByteArray) (v : Value) (l : List (List UInt8)) (hb : ∀ x ∈ l, x.length ≤ 140737488355328) (w : World) (h : Reads w v l) :
    Calls Try.prog 3 #[.string s, v] w fun e W' => e = .returned (.bool true) ∧ Below w.heap.size w W' := by
  obtain ⟨a, cap, rfl⟩ := h.shape
  by_cases hs : 2000 < s.size
  · have hs' : (2000 : Int) < (s.size : Int) := by omega
    go_enter Try.func3, Try.ntmps3
    go_wp2_with fail
    go_ret
    exact ⟨rfl, Below.refl _ _⟩
  · have CG := Lib.hid (great_any _ l hb w h)
    have hs' : ¬ (2000 : Int) < (s.size : Int) := by omega
    cases hg : gr 0 0 l
    · obtain ⟨g1, g2⟩ := gr_small l 0 0 (by omega) (by omega) hg
      rw [hg] at CG
      have H := Lib.hid h
      have CS := Lib.hid (fun W => split_any s (by omega) W)
      have CR := Lib.hid (fun W => refSplit_any s (by omega) W)
      have hsl := split_length s.data.toList
      rw [list_size] at hsl
      generalize split s.data.toList = q at CS CR hsl
      have CM := Lib.hid (fun v v' W h h' => same_any v v' q (by unfold maxLen; omega) W h h')
      have CP := Lib.hid (fun W h => progJoin_any (.slice a l.length cap) l (by omega) (by omega) W h)
      have CJ := Lib.hid (fun W h => refJoin_any (.slice a l.length cap) l (by omega) (by omega) W h)
      generalize (⟨(join l).toArray⟩ : ByteArray) = x at CP CJ
      have hx : (x.toList == x.toList) = true := by simp
      clear h hg g1 g2 hsl
      go_enter Try.func3, Try.ntmps3
      go_wp2_with (go_at_call 6; refine CG.out.mono ?_; rintro e w' ⟨rfl, rfl⟩)
      refine (CS.out _).mono ?_
      rintro e w1 ⟨v1, rfl, hS1, b1⟩
      go_wp2_with fail
      refine (CR.out _).mono ?_
      rintro e w2 ⟨v2, rfl, hS2, b2⟩
      go_wp2_with fail
      refine (CM.out _ _ _ (hS1.reads.keep (Nat.le_refl _) b2) hS2.reads).mono ?_
      rintro e w3 ⟨rfl, b3⟩
      have B2 := b1.trans (b2.mono b1.size)
      have B3 := B2.trans (b3.mono B2.size)
      go_wp2_with fail
      refine (CP.out _ (H.out.keep (Nat.le_refl _) B3)).mono ?_
      rintro e w4 ⟨rfl, b4⟩
      have B4 := B3.trans (b4.mono B3.size)
      go_wp2_with fail
      refine (CJ.out _ (H.out.keep (Nat.le_refl _) B4)).mono ?_
      rintro e w5 ⟨rfl, rfl⟩
      go_wp2_with fail
      go_ret
      exact ⟨rfl, B4⟩
    · rw [hg] at CG
      go_enter Try.func3, Try.ntmps3
      go_wp2_with (go_at_call 6; refine CG.out.mono ?_; rintro e w' ⟨rfl, rfl⟩)
      go_ret
      exact ⟨rfl, Below.refl _ _⟩
end Go.Proofs.Ytcclicgjklmihaa.Ln
