/-
For every list of texts and every text the law PartsBack returns true and changes nothing that was there. Conditions: the list has at most maxLen texts, each of at most 2^47 bytes.
-/
import Derived.Test.YtbaigaenglhebaaPtTellsLaw
import Derived.Test.YtbaigaenglhebaaPtWorks
namespace Go.Proofs.Ytbaigaenglhebaa.Pt
open Go.RowKit Strs

theorem splitL_jn {l : List (List UInt8)} (h : l ≠ []) : splitL (jn l) = (l, 0, 0) := by unfold splitL; rw [parts_jn h]
theorem splitL_ok {t : List UInt8} (h : (splitL t).2.2 = 0) : jn (splitL t).1 = t := by
  unfold splitL at h ⊢
  cases hp : (parts t).2 with
  | none => exact jn_parts hp
  | some k => rw [hp] at h; simp at h
theorem splitL_err (t : List UInt8) : (splitL t).2.2 = 0 ∨ (splitL t).2.2 = 3 := by
  unfold splitL
  cases (parts t).2 with
  | none => exact .inl rfl
  | some k => exact .inr rfl

set_option maxRecDepth 100000 in
set_option maxHeartbeats 2000000 in
theorem back_law (v : Value) (l : List (List UInt8)) (s : ByteArray) (hb : ∀ x ∈ l, x.length ≤ 140737488355328) (w : World) (h : Reads w v l) :
    Calls Try.prog 6 #[v, .string s] w fun e W' => e = .returned (.bool true) ∧ Below w.heap.size w W' := by
  obtain ⟨a, cap, rfl⟩ := h.shape
  have CW := Lib.hid (works_any w)
  have CG := Lib.hid (fun W h => great_any (.slice a l.length cap) l hb W h)
  cases hg : gr 0 0 l
  · rw [hg] at CG
    have H := Lib.hid h
    by_cases hs : 3000 < s.size
    · have hs' : (3000 : Int) < (s.size : Int) := by omega
      go_enter Try.func6, Try.ntmps6
      go_wp2_with (first
        | (go_at_call 22; refine CW.out.mono ?_; rintro e w1 ⟨rfl, b1⟩)
        | (go_at_call 14; refine (CG.out _ (H.out.keep (Nat.le_refl _) b1)).mono ?_; rintro e w' ⟨rfl, rfl⟩))
      go_ret
      exact ⟨rfl, b1⟩
    · have hs' : ¬ (3000 : Int) < (s.size : Int) := by omega
      obtain ⟨g1, g2⟩ := gr_small l 0 0 (by omega) (by omega) hg
      have hjl := jn_length l
      have CJ := Lib.hid (fun v W h => join_any v l (by omega) (by omega) W h)
      have CS := Lib.hid (fun W => split_any ⟨(jn l).toArray⟩ (by rw [mk_size]; omega) W)
      rw [mk_list] at CS
      have CM := Lib.hid (fun v v' W h h' => same_any v v' l (by unfold maxLen; omega) W h h')
      have CS2 := Lib.hid (fun W => split_any s (by omega) W)
      have hsl := splitL_length s.data.toList
      have hsb := splitL_bytes s.data.toList
      rw [list_size] at hsl hsb
      have CJ2 := Lib.hid (fun v W h => join_any v (splitL s.data.toList).1 (by omega) (by omega) W h)
      have hok := Lib.hid (fun h => splitL_ok (t := s.data.toList) h)
      have hss : (s.toList == s.toList) = true := by simp
      by_cases hl0 : l = []
      · have hl2 : ¬ (l.length : Int) > 0 := by rw [hl0]; simp
        rcases splitL_err s.data.toList with he | he
        · have hj := hok.out he
          rw [hj, str_mk] at CJ2
          have HE := Lib.hid he
          generalize splitL s.data.toList = q at CS2 CJ2 HE
          obtain ⟨q1, q2, q3⟩ := q
          have hq3 : ((q3 : Int) == 0) = true := by have := HE.out; simp at this; simp; omega
          clear hok hl0 he hj hg hsl hsb hjl g1 g2 hs
          go_enter Try.func6, Try.ntmps6
          go_wp2_with (first
            | (go_at_call 22; refine CW.out.mono ?_; rintro e w1 ⟨rfl, b1⟩)
            | (go_at_call 14; refine (CG.out _ (H.out.keep (Nat.le_refl _) b1)).mono ?_; rintro e w' ⟨rfl, rfl⟩)
            | (go_at_call 15; refine (CS2.out _).mono ?_; rintro e w2 ⟨v2, rfl, hS2, b2⟩; have B2 := b1.trans (b2.mono b1.size))
            | (go_at_call 18; refine (CJ2.out _ _ hS2.reads).mono ?_; rintro e w3 ⟨rfl, b3⟩))
          go_ret
          exact ⟨rfl, B2.trans (b3.mono B2.size)⟩
        · have HE := Lib.hid he
          generalize splitL s.data.toList = q at CS2 HE
          obtain ⟨q1, q2, q3⟩ := q
          obtain rfl : q3 = 3 := HE.out
          clear hl0 he hg hsl hsb hjl g1 g2 hs hok
          go_enter Try.func6, Try.ntmps6
          go_wp2_with (first
            | (go_at_call 22; refine CW.out.mono ?_; rintro e w1 ⟨rfl, b1⟩)
            | (go_at_call 14; refine (CG.out _ (H.out.keep (Nat.le_refl _) b1)).mono ?_; rintro e w' ⟨rfl, rfl⟩)
            | (go_at_call 15; refine (CS2.out _).mono ?_; rintro e w2 ⟨v2, rfl, hS2, b2⟩; have B2 := b1.trans (b2.mono b1.size)))
          go_ret
          exact ⟨rfl, B2⟩
      · have hl1 : 0 < l.length := by cases l with | nil => exact absurd rfl hl0 | cons a r => simp
        have hl2 : (l.length : Int) > 0 := by omega
        rw [splitL_jn hl0] at CS
        generalize (⟨(jn l).toArray⟩ : ByteArray) = J at CJ CS
        rcases splitL_err s.data.toList with he | he
        · have hj := hok.out he
          rw [hj, str_mk] at CJ2
          have HE := Lib.hid he
          generalize splitL s.data.toList = q at CS2 CJ2 HE
          obtain ⟨q1, q2, q3⟩ := q
          have hq3 : ((q3 : Int) == 0) = true := by have := HE.out; simp at this; simp; omega
          clear hok hl0 he hj hg hsl hsb hjl g1 g2 hs
          go_enter Try.func6, Try.ntmps6
          go_wp2_with (first
            | (go_at_call 22; refine CW.out.mono ?_; rintro e w1 ⟨rfl, b1⟩)
            | (go_at_call 14; refine (CG.out _ (H.out.keep (Nat.le_refl _) b1)).mono ?_; rintro e w' ⟨rfl, rfl⟩)
            | (go_at_call 18; refine (CJ.out _ _ (H.out.keep (Nat.le_refl _) b1)).mono ?_; rintro e w4 ⟨rfl, b4⟩; have B4 := b1.trans (b4.mono b1.size))
            | (go_at_call 15; refine (CS.out _).mono ?_; rintro e w5 ⟨v5, rfl, hS5, b5⟩; have B5 := B4.trans (b5.mono B4.size)))
          refine (CM.out _ _ _ hS5.reads (H.out.keep (Nat.le_refl _) B5)).mono ?_
          rintro e w6 ⟨rfl, b6⟩
          have B6 := B5.trans (b6.mono B5.size)
          go_wp2_with fail
          refine (CS2.out _).mono ?_
          rintro e w2 ⟨v2, rfl, hS2, b2⟩
          have B2 := B6.trans (b2.mono B6.size)
          go_wp2_with fail
          refine (CJ2.out _ _ hS2.reads).mono ?_
          rintro e w3 ⟨rfl, b3⟩
          go_wp2_with fail
          go_ret
          exact ⟨rfl, B2.trans (b3.mono B2.size)⟩
        · have HE := Lib.hid he
          generalize splitL s.data.toList = q at CS2 HE
          obtain ⟨q1, q2, q3⟩ := q
          obtain rfl : q3 = 3 := HE.out
          clear hl0 he hg hsl hsb hjl g1 g2 hs hok
          go_enter Try.func6, Try.ntmps6
          go_wp2_with (first
            | (go_at_call 22; refine CW.out.mono ?_; rintro e w1 ⟨rfl, b1⟩)
            | (go_at_call 14; refine (CG.out _ (H.out.keep (Nat.le_refl _) b1)).mono ?_; rintro e w' ⟨rfl, rfl⟩)
            | (go_at_call 18; refine (CJ.out _ _ (H.out.keep (Nat.le_refl _) b1)).mono ?_; rintro e w4 ⟨rfl, b4⟩; have B4 := b1.trans (b4.mono b1.size))
            | (go_at_call 15; refine (CS.out _).mono ?_; rintro e w5 ⟨v5, rfl, hS5, b5⟩; have B5 := B4.trans (b5.mono B4.size)))
          refine (CM.out _ _ _ hS5.reads (H.out.keep (Nat.le_refl _) B5)).mono ?_
          rintro e w6 ⟨rfl, b6⟩
          have B6 := B5.trans (b6.mono B5.size)
          go_wp2_with fail
          refine (CS2.out _).mono ?_
          rintro e w2 ⟨v2, rfl, hS2, b2⟩
          have B2 := B6.trans (b2.mono B6.size)
          go_wp2_with fail
          go_ret
          exact ⟨rfl, B2⟩
  · rw [hg] at CG
    have H := Lib.hid h
    go_enter Try.func6, Try.ntmps6
    go_wp2_with (first
      | (go_at_call 22; refine CW.out.mono ?_; rintro e w1 ⟨rfl, b1⟩)
      | (go_at_call 14; refine (CG.out _ (H.out.keep (Nat.le_refl _) b1)).mono ?_; rintro e w' ⟨rfl, rfl⟩))
    go_ret
    exact ⟨rfl, b1⟩
end Go.Proofs.Ytbaigaenglhebaa.Pt
