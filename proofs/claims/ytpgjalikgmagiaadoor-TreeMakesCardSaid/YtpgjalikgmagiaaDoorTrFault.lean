/-
What is wrong with an element by itself: the program's answer. Conditions: its text has at most 2^36 bytes; the two tables of UTF-8 hold what the rows list.
-/
import Derived.Test.YtpgjalikgmagiaaDoorTrWords
import Derived.Test.YtpgjalikgmagiaaDoorTrRefTop
namespace Go.Proofs.YtpgjalikgmagiaaDoor.Tr
set_option maxRecDepth 100000
open Go.RowKit Sq Pp

theorem ret_int {a b : Int} (h : a = b) : Ending.returned (.int .i64 a) = .returned (.int .i64 b) := by rw [h]
set_option maxHeartbeats 2000000 in
theorem pFault_any (x : Iv) (w : World) (ht : x.1.text.size ≤ 68719476736) (hl : x.1.kids.length ≤ maxLen) (hk : ∃ a c, x.2 = .slice a x.1.kids.length c) (T : Cs.Tabs w) :
    Calls Tryd.prog 18 #[elV x] w fun e w' => e = .returned (.int .i64 (flaw x.1)) ∧ Below w.heap.size w w' := by
  obtain ⟨⟨p, n, t, q, ks⟩, kv⟩ := x
  obtain ⟨a, c, hkv⟩ := hk
  simp only [El.kids, El.text] at hkv ht hl
  subst hkv
  unfold elV
  simp only [El.page, El.name, El.text, El.bare]
  obtain ⟨R, hR⟩ : ∃ R, flaw (.mk p n t q ks) = R := ⟨_, rfl⟩
  rw [hR]
  unfold flaw at hR
  simp only [El.page, El.name, El.text, El.bare, El.kids] at hR
  generalize hm : ks.length = m at hR hl ⊢
  have hbw : Below w.heap.size w (w.alloc (.cells #[.int .i64 p, .string n, .string t, .bool q, .slice a m c] 24)) := (Below.refl _ _).alloc (Nat.le_refl _) _
  have hbox : ElAt (w.alloc (.cells #[.int .i64 p, .string n, .string t, .bool q, .slice a m c] 24)) w.heap.size (.mk p n t q []) (.slice a m c) := heap_alloc_new w _
  have q0 := hbox.c0
  have q1 := hbox.c1
  have q2 := hbox.c2
  have q3 := hbox.c3
  have q4 := hbox.c4
  simp only [El.page, El.name, El.text, El.bare] at q0 q1 q2 q3
  have C1 := Lib.hid (fun W => pName_any n W)
  have C2 := Lib.hid (pPlain_any t _ ht (T.below hbw (Nat.le_refl _)))
  have HB := Lib.hid hbw
  generalize nameB n = nb at C1 hR
  generalize shownB t = sb at C2 hR
  unfold flawM at hR
  clear hbox hbw T
  by_cases h1 : p < 0
  · have HE := Lib.hid (show R = 5 by rw [if_pos (.inl h1)] at hR; exact hR.symm)
    clear hR
    go_enter Tryd.func18, Tryd.ntmps18
    go_wp2_with fail
    go_ret
    exact ⟨by rw [HE.out]; rfl, HB.out⟩
  by_cases h2 : 2 < p
  · have HE := Lib.hid (show R = 5 by rw [if_pos (.inr h2)] at hR; exact hR.symm)
    clear hR
    go_enter Tryd.func18, Tryd.ntmps18
    go_wp2_with fail
    go_ret
    exact ⟨by rw [HE.out]; rfl, HB.out⟩
  rw [if_neg (fun h => h.elim h1 h2)] at hR
  cases nb with
  | false =>
    have HE := Lib.hid (show R = 14 by rw [if_pos rfl] at hR; exact hR.symm)
    clear hR
    go_enter Tryd.func18, Tryd.ntmps18
    go_wp2_with (go_at_call 26; refine (C1.out _).mono ?_; rintro e w' ⟨rfl, rfl⟩)
    go_ret
    exact ⟨by rw [HE.out]; rfl, HB.out⟩
  | true =>
  rw [if_neg (by simp)] at hR
  by_cases h3 : 200 < (m : Int)
  · have HE := Lib.hid (show R = 4 by rw [if_pos (by omega)] at hR; exact hR.symm)
    clear hR
    go_enter Tryd.func18, Tryd.ntmps18
    go_wp2_with (go_at_call 26; refine (C1.out _).mono ?_; rintro e w' ⟨rfl, rfl⟩)
    go_ret
    exact ⟨by rw [HE.out]; rfl, HB.out⟩
  rw [if_neg (by omega)] at hR
  by_cases h4 : 0 < m ∧ ¬ t.size = 0
  · have HE := Lib.hid (show R = 7 by rw [if_pos h4] at hR; exact hR.symm)
    have e1 := str_some h4.2
    have e2 := Cs.full_not (t := t) (by omega)
    have e3 : 0 < (m : Int) := by omega
    clear hR h4
    go_enter Tryd.func18, Tryd.ntmps18
    go_wp2_with (go_at_call 26; refine (C1.out _).mono ?_; rintro e w' ⟨rfl, rfl⟩)
    go_ret
    exact ⟨by rw [HE.out]; rfl, HB.out⟩
  rw [if_neg h4] at hR
  by_cases h0 : t.size = 0
  · have e1 := str_none h0
    have e2 := Cs.none_not (t := t) (by omega)
    have e4 : ¬ 4000 < (t.size : Int) := by omega
    rw [if_neg (by omega)] at hR
    cases q with
    | true =>
      have HE := Lib.hid (show R = 3 by rw [if_pos (.inl ⟨rfl, h0⟩)] at hR; exact hR.symm)
      clear hR h4 h0
      go_enter Tryd.func18, Tryd.ntmps18
      go_wp2_with (go_at_call 26; refine (C1.out _).mono ?_; rintro e w' ⟨rfl, rfl⟩)
      go_ret
      exact ⟨by rw [HE.out]; rfl, HB.out⟩
    | false =>
      cases sb with
      | false =>
        have HE := Lib.hid (show R = 3 by rw [if_pos (.inr ⟨rfl, rfl⟩)] at hR; exact hR.symm)
        clear hR h4 h0
        go_enter Tryd.func18, Tryd.ntmps18
        go_wp2_with (first | (go_at_call 26; refine (C1.out _).mono ?_; rintro e w' ⟨rfl, rfl⟩) | (go_at_call 27; refine C2.out.mono ?_; rintro e w1 ⟨rfl, b1⟩))
        go_ret
        exact ⟨by rw [HE.out]; rfl, HB.out.trans (b1.mono HB.out.size)⟩
      | true =>
        have HE := Lib.hid (show R = 0 by rw [if_neg (by simp)] at hR; exact hR.symm)
        clear hR h4 h0
        go_enter Tryd.func18, Tryd.ntmps18
        go_wp2_with (first | (go_at_call 26; refine (C1.out _).mono ?_; rintro e w' ⟨rfl, rfl⟩) | (go_at_call 27; refine C2.out.mono ?_; rintro e w1 ⟨rfl, b1⟩))
        go_ret
        exact ⟨by rw [HE.out]; rfl, HB.out.trans (b1.mono HB.out.size)⟩
  · have e1 := str_some h0
    have e2 := Cs.full_not (t := t) (by omega)
    have hm0 : m = 0 := by
      rcases Nat.eq_zero_or_pos m with h | h
      · exact h
      · exact absurd ⟨h, h0⟩ h4
    subst hm0
    by_cases h5 : 4000 < (t.size : Int)
    · have HE := Lib.hid (show R = 8 by rw [if_pos (by omega)] at hR; exact hR.symm)
      clear hR h4 h0
      go_enter Tryd.func18, Tryd.ntmps18
      go_wp2_with (go_at_call 26; refine (C1.out _).mono ?_; rintro e w' ⟨rfl, rfl⟩)
      go_ret
      exact ⟨by rw [HE.out]; rfl, HB.out⟩
    rw [if_neg (by omega)] at hR
    cases q with
    | true =>
      have HE := Lib.hid (show R = 0 by rw [if_neg (by simp [h0])] at hR; exact hR.symm)
      clear hR h4 h0
      go_enter Tryd.func18, Tryd.ntmps18
      go_wp2_with (go_at_call 26; refine (C1.out _).mono ?_; rintro e w' ⟨rfl, rfl⟩)
      go_ret
      exact ⟨by rw [HE.out]; rfl, HB.out⟩
    | false =>
      cases sb with
      | false =>
        have HE := Lib.hid (show R = 3 by rw [if_pos (.inr ⟨rfl, rfl⟩)] at hR; exact hR.symm)
        clear hR h4 h0
        go_enter Tryd.func18, Tryd.ntmps18
        go_wp2_with (first | (go_at_call 26; refine (C1.out _).mono ?_; rintro e w' ⟨rfl, rfl⟩) | (go_at_call 27; refine C2.out.mono ?_; rintro e w1 ⟨rfl, b1⟩))
        go_ret
        exact ⟨by rw [HE.out]; rfl, HB.out.trans (b1.mono HB.out.size)⟩
      | true =>
        have HE := Lib.hid (show R = 0 by rw [if_neg (by simp)] at hR; exact hR.symm)
        clear hR h4 h0
        go_enter Tryd.func18, Tryd.ntmps18
        go_wp2_with (first | (go_at_call 26; refine (C1.out _).mono ?_; rintro e w' ⟨rfl, rfl⟩) | (go_at_call 27; refine C2.out.mono ?_; rintro e w1 ⟨rfl, b1⟩))
        go_ret
        exact ⟨by rw [HE.out]; rfl, HB.out.trans (b1.mono HB.out.size)⟩
end Go.Proofs.YtpgjalikgmagiaaDoor.Tr
