/-
For every kind and every text the law CharsetBack returns true and changes nothing that was there. Conditions: the text's length is at most maxLen; the library's tables hold what the rows list.
-/
import Derived.Test.YtmahdlaifbbjgaaDoorCsTurns
namespace Go.Proofs.YtmahdlaifbbjgaaDoor.CsBack
open Go.RowKit Cs

theorem k1 : dec 2 [233] = ([195, 169], 0) := by decide +kernel
theorem k2 : enc 1 [195, 169] = ([], 16) := by decide +kernel
theorem k3 : least [97] = 1 := by decide +kernel

set_option maxRecDepth 100000 in
set_option maxHeartbeats 800000 in
theorem works_any (w : World) (T : Tabs w) :
    Calls Tryd.prog 15 #[] w fun e w' => e = .returned (.bool true) ∧ Below w.heap.size w w' := by
  have C1 := Lib.hid (decode_turns 2 ⟨#[233]⟩ (by decide) w T)
  have C2 := Lib.hid (fun W (TW : Tabs W) => encode_turns 1 ⟨#[195, 169]⟩ (by decide) W TW)
  have C3 := Lib.hid (fun W (TW : Tabs W) => least_any ⟨#[97]⟩ (by decide) W TW)
  unfold Cs.Pair at C1 C2
  rw [k1] at C1
  rw [k2] at C2
  rw [k3] at C3
  go_enter Tryd.func15, Tryd.ntmps15
  go_wp2_with fail
  refine C1.out.mono ?_
  rintro e w1 ⟨rfl, b1⟩
  go_wp2_with fail
  refine (C2.out _ (T.on b1)).mono ?_
  rintro e w2 ⟨rfl, b2⟩
  have c2 := below3 b1 b2
  clear b1 b2
  go_wp2_with fail
  refine (C3.out _ (T.on c2)).mono ?_
  rintro e w3 ⟨rfl, b3⟩
  go_wp2_with fail
  go_ret
  exact ⟨rfl, below3 c2 b3⟩

/-- What the law's calls answer. -/
theorem answers (k : Int) (s : ByteArray) (hs : s.size ≤ 2000) : ∃ (b t : ByteArray) (e f : Int),
    (∀ w, Tabs w → Calls Tryd.prog 11 #[.int .i64 k, .string s] w fun r w' => r = .returned (.tuple #[.string b, .int .i64 e]) ∧ Below w.heap.size w w') ∧
    (e = 0 → ∀ w, Tabs w → Calls Tryd.prog 9 #[.int .i64 k, .string b] w fun r w' => r = .returned (.tuple #[.string s, .int .i64 0]) ∧ Below w.heap.size w w') ∧
    (∀ w, Tabs w → Calls Tryd.prog 9 #[.int .i64 k, .string s] w fun r w' => r = .returned (.tuple #[.string t, .int .i64 f]) ∧ Below w.heap.size w w') ∧
    (f = 0 → ∀ w, Tabs w → Calls Tryd.prog 11 #[.int .i64 k, .string t] w fun r w' => r = .returned (.tuple #[.string s, .int .i64 0]) ∧ Below w.heap.size w w') ∧
    (f = 0 → ∀ w, Tabs w → Calls Tryd.prog 8 #[.string t] w fun r w' => r = .returned (.bool true) ∧ Below w.heap.size w w') := by
  have hss : (⟨s.data.toList.toArray⟩ : ByteArray) = s := own_text.symm
  have h1 := enc_size k s.data.toList
  have h2 := dec_size k s.data.toList
  rw [list_size] at h1 h2
  have hb : (⟨(enc k s.data.toList).1.toArray⟩ : ByteArray).size ≤ 4000 := by rw [ulen rfl]; omega
  have ht : (⟨(dec k s.data.toList).1.toArray⟩ : ByteArray).size ≤ 4000 := by rw [ulen rfl]; omega
  refine ⟨⟨(enc k s.data.toList).1.toArray⟩, ⟨(dec k s.data.toList).1.toArray⟩, (enc k s.data.toList).2, (dec k s.data.toList).2, fun w T => encode_turns k s (by omega) w T, fun he w T => ?_, fun w T => decode_turns k s (by omega) w T, fun hf w T => ?_, fun hf w T => ?_⟩
  · have h := decode_turns k ⟨(enc k s.data.toList).1.toArray⟩ (by omega) w T
    unfold Cs.Pair at h
    rw [udata, dec_enc he] at h
    simp only [hss] at h
    exact h
  · have h := encode_turns k ⟨(dec k s.data.toList).1.toArray⟩ (by omega) w T
    unfold Cs.Pair at h
    rw [udata, (enc_dec hf).1] at h
    simp only [hss] at h
    exact h
  · have h := valid_any ⟨(dec k s.data.toList).1.toArray⟩ w (by omega) T
    rw [udata, (enc_dec hf).2] at h
    exact h

set_option maxRecDepth 100000 in
set_option maxHeartbeats 1600000 in
theorem back (k : Int) (s : ByteArray) (w : World) (hs : s.size ≤ maxLen) (T : Tabs w) :
    Calls Tryd.prog 5 #[.int .i64 k, .string s] w fun e w' => e = .returned (.bool true) ∧ Below w.heap.size w w' := by
  unfold maxLen at hs
  have CW := Lib.hid (works_any w T)
  by_cases hl : 2000 < s.size
  · go_enter Tryd.func5, Tryd.ntmps5
    go_wp2_with fail
    refine CW.out.mono ?_
    rintro e v1 ⟨rfl, b1⟩
    go_wp2_with fail
    go_ret
    exact ⟨rfl, b1⟩
  · obtain ⟨b, t, e1, e2, C1, C2, C3, C4, C5⟩ := answers k s (by omega)
    have C1 := Lib.hid C1
    have C2 := Lib.hid C2
    have C3 := Lib.hid C3
    have C4 := Lib.hid C4
    have C5 := Lib.hid C5
    by_cases h1 : e1 = 0
    · have D2 := Lib.hid (C2.out h1)
      subst h1
      by_cases h2 : e2 = 0
      · have D4 := Lib.hid (C4.out h2)
        have D5 := Lib.hid (C5.out h2)
        subst h2
        clear C2 C4 C5
        go_enter Tryd.func5, Tryd.ntmps5
        go_wp2_with fail
        refine CW.out.mono ?_
        rintro e w1 ⟨rfl, b1⟩
        go_wp2_with fail
        refine (C1.out _ (T.on b1)).mono ?_
        rintro e w2 ⟨rfl, b2⟩
        have c2 := below3 b1 b2
        clear b1 b2
        go_wp2_with fail
        refine (D2.out _ (T.on c2)).mono ?_
        rintro e w3 ⟨rfl, b3⟩
        have c3 := below3 c2 b3
        clear c2 b3
        go_wp2_with fail
        refine (C3.out _ (T.on c3)).mono ?_
        rintro e w4 ⟨rfl, b4⟩
        have c4 := below3 c3 b4
        clear c3 b4
        go_wp2_with fail
        refine (D4.out _ (T.on c4)).mono ?_
        rintro e w5 ⟨rfl, b5⟩
        have c5 := below3 c4 b5
        clear c4 b5
        go_wp2_with fail
        refine (D5.out _ (T.on c5)).mono ?_
        rintro e w6 ⟨rfl, b6⟩
        go_wp2_with fail
        go_ret
        exact ⟨rfl, below3 c5 b6⟩
      · have hf : (e2 != 0) = true := by simpa using h2
        clear C2 C4 C5 h2
        go_enter Tryd.func5, Tryd.ntmps5
        go_wp2_with fail
        refine CW.out.mono ?_
        rintro e w1 ⟨rfl, b1⟩
        go_wp2_with fail
        refine (C1.out _ (T.on b1)).mono ?_
        rintro e w2 ⟨rfl, b2⟩
        have c2 := below3 b1 b2
        clear b1 b2
        go_wp2_with fail
        refine (D2.out _ (T.on c2)).mono ?_
        rintro e w3 ⟨rfl, b3⟩
        have c3 := below3 c2 b3
        clear c2 b3
        go_wp2_with fail
        refine (C3.out _ (T.on c3)).mono ?_
        rintro e w4 ⟨rfl, b4⟩
        have c4 := below3 c3 b4
        clear c3 b4
        go_wp2_with fail
        go_ret
        exact ⟨rfl, c4⟩
    · have hf1 : (e1 == 0) = false := by simpa using h1
      clear C2 h1
      by_cases h2 : e2 = 0
      · have D4 := Lib.hid (C4.out h2)
        have D5 := Lib.hid (C5.out h2)
        subst h2
        clear C4 C5
        go_enter Tryd.func5, Tryd.ntmps5
        go_wp2_with fail
        refine CW.out.mono ?_
        rintro e w1 ⟨rfl, b1⟩
        go_wp2_with fail
        refine (C1.out _ (T.on b1)).mono ?_
        rintro e w2 ⟨rfl, b2⟩
        have c2 := below3 b1 b2
        clear b1 b2
        go_wp2_with fail
        refine (C3.out _ (T.on c2)).mono ?_
        rintro e w4 ⟨rfl, b4⟩
        have c4 := below3 c2 b4
        clear c2 b4
        go_wp2_with fail
        refine (D4.out _ (T.on c4)).mono ?_
        rintro e w5 ⟨rfl, b5⟩
        have c5 := below3 c4 b5
        clear c4 b5
        go_wp2_with fail
        refine (D5.out _ (T.on c5)).mono ?_
        rintro e w6 ⟨rfl, b6⟩
        go_wp2_with fail
        go_ret
        exact ⟨rfl, below3 c5 b6⟩
      · have hf : (e2 != 0) = true := by simpa using h2
        clear C4 C5 h2
        go_enter Tryd.func5, Tryd.ntmps5
        go_wp2_with fail
        refine CW.out.mono ?_
        rintro e w1 ⟨rfl, b1⟩
        go_wp2_with fail
        refine (C1.out _ (T.on b1)).mono ?_
        rintro e w2 ⟨rfl, b2⟩
        have c2 := below3 b1 b2
        clear b1 b2
        go_wp2_with fail
        refine (C3.out _ (T.on c2)).mono ?_
        rintro e w4 ⟨rfl, b4⟩
        go_wp2_with fail
        go_ret
        exact ⟨rfl, below3 c2 b4⟩
end Go.Proofs.YtmahdlaifbbjgaaDoor.CsBack
