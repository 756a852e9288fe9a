/-
For every kind and every text the law CharsetTurns returns true and changes nothing that was there. Conditions: the text's length is at most maxLen; the library's tables hold what the rows list.
-/
import Derived.Test.YtmahdlaifbbjgaaDoorCsTurns
import Derived.Test.YtmahdlaifbbjgaaDoorCsRefTurns
namespace Go.Proofs.YtmahdlaifbbjgaaDoor.CsR
open Go.RowKit Cs
theorem refEncode_turns (k : Int) (s : ByteArray) (hs : s.size ≤ 34359738368) (w : World) :
    Calls Tryd.prog 12 #[.int .i64 k, .string s] w (Pair (enc k s.data.toList) w) := by
  by_cases h : k = 1 ∨ k = 2 ∨ k = 3
  · rw [encM_eq h]; exact refEncode_1 k _ (by omega) (by omega) rfl s hs w
  · exact refEncode_X k (by omega) (by omega) (by omega) s w
end Go.Proofs.YtmahdlaifbbjgaaDoor.CsR
namespace Go.Proofs.YtmahdlaifbbjgaaDoor.CsLaw
open Go.RowKit Cs

set_option maxHeartbeats 800000 in
theorem refLeast_any (s : ByteArray) (hs : s.size ≤ 34359738368) (w : World) :
    Calls Tryd.prog 14 #[.string s] w fun e w' => e = .returned (.int .i64 (least s.data.toList)) ∧ Below w.heap.size w w' := by
  have C := Lib.hid (fun k W => CsR.refEncode_turns k s hs W)
  obtain ⟨r, hr⟩ : ∃ r, least s.data.toList = r := ⟨_, rfl⟩
  have HH : Hid (∀ k, 1 ≤ k → k ≤ 3 → (∀ j, 1 ≤ j → j < k → ¬ (enc j s.data.toList).2 = 0) → (enc k s.data.toList).2 = 0 → r = k) := Lib.hid (fun k h1 h3 hb h => by rw [← hr]; exact least_here h1 h3 hb h)
  have HN : Hid ((∀ j, 1 ≤ j → j < 4 → ¬ (enc j s.data.toList).2 = 0) → r = 0) := Lib.hid (fun hb => by rw [← hr]; exact least_none hb)
  rw [hr]
  clear hr
  unfold CsR.Pair at C
  generalize s.data.toList = l at *
  go_enter Tryd.func14, Tryd.ntmps14
  go_wp2_with fail
  go_loopw [3] (fun iv wr => ∃ k : Int, iv = .int .i64 k ∧ 1 ≤ k ∧ k ≤ 4 ∧ Hid (∀ j, 1 ≤ j → j < k → ¬ (enc j l).2 = 0) ∧ Below w.heap.size w wr) (fun iv _ => (4 - intOf iv).toNat)
  case atStart => exact ⟨1, rfl, by omega, by omega, Lib.hid (fun j h1 h2 => by omega), Below.refl _ _⟩
  case round =>
    obtain ⟨k, rfl, k1, k4, hj, hbel⟩ := hrel
    by_cases hlt : k ≤ 3
    · obtain ⟨en, hen⟩ : ∃ en, (enc k l).2 = en := ⟨_, rfl⟩
      have CK := Lib.hid (C.out k wr)
      rw [hen] at CK
      generalize (enc k l).1.toArray = a at CK
      by_cases he : en = 0
      · subst he
        obtain rfl := HH.out k k1 hlt hj.out hen
        clear hen
        go_wp2_with fail
        refine CK.out.mono ?_
        rintro e w2 ⟨rfl, b2⟩
        go_wp2_with fail
        go_ret
        exact ⟨rfl, hbel.trans (b2.mono hbel.size)⟩
      · have hf : (en == 0) = false := by simpa using he
        have HF := Lib.hid (show ∀ j, 1 ≤ j → j < k + 1 → ¬ (enc j l).2 = 0 from fun j h1 h2 => by
          by_cases e : j = k
          · rw [e, hen]; exact he
          · exact hj.out j h1 (by omega))
        clear he hen
        go_wp2_with fail
        refine CK.out.mono ?_
        rintro e w2 ⟨rfl, b2⟩
        go_wp2_with fail
        go_roundw
        case rel => exact ⟨k + 1, by go_num, by omega, by omega, HF, hbel.trans (b2.mono hbel.size)⟩
        case measure => simp [intOf]; omega
    · obtain rfl : k = 4 := by omega
      obtain rfl := HN.out hj.out
      go_wp2_with fail
      go_ret
      exact ⟨rfl, hbel⟩

set_option maxRecDepth 100000 in
set_option maxHeartbeats 800000 in
theorem turns (k : Int) (s : ByteArray) (w : World) (hs : s.size ≤ maxLen) (T : Tabs w) :
    Calls Tryd.prog 4 #[.int .i64 k, .string s] w fun e w' => e = .returned (.bool true) ∧ Below w.heap.size w w' := by
  unfold maxLen at hs
  by_cases hl : 2000 < s.size
  · go_enter Tryd.func4, Tryd.ntmps4
    go_wp2
    go_ret
    exact ⟨rfl, Below.refl _ _⟩
  · have C1 := Lib.hid (fun W (TW : Tabs W) => decode_turns k s (by omega) W TW)
    have C2 := Lib.hid (fun W => CsR.refDecode_turns k s (by omega) W)
    have C3 := Lib.hid (fun W (TW : Tabs W) => encode_turns k s (by omega) W TW)
    have C4 := Lib.hid (fun W => CsR.refEncode_turns k s (by omega) W)
    have C5 := Lib.hid (fun W (TW : Tabs W) => least_any s (by omega) W TW)
    have C6 := Lib.hid (fun W => refLeast_any s (by omega) W)
    unfold Cs.Pair at C1 C3
    unfold CsR.Pair at C2 C4
    generalize (dec k s.data.toList).1.toArray = x at C1 C2
    generalize (dec k s.data.toList).2 = e1 at C1 C2
    generalize (enc k s.data.toList).1.toArray = y at C3 C4
    generalize (enc k s.data.toList).2 = e2 at C3 C4
    generalize least s.data.toList = r at C5 C6
    go_enter Tryd.func4, Tryd.ntmps4
    go_wp2_with fail
    refine (C1.out _ T).mono ?_
    rintro e w1 ⟨rfl, b1⟩
    go_wp2_with fail
    refine (C2.out _).mono ?_
    rintro e w2 ⟨rfl, b2⟩
    have c2 := below3 b1 b2
    clear b1 b2
    go_wp2_with fail
    refine (C3.out _ (T.on c2)).mono ?_
    rintro e w3 ⟨rfl, b3⟩
    have c3 := below3 c2 b3
    clear c2 b3
    go_wp2_with fail
    refine (C4.out _).mono ?_
    rintro e w4 ⟨rfl, b4⟩
    have c4 := below3 c3 b4
    clear c3 b4
    go_wp2_with fail
    refine (C5.out _ (T.on c4)).mono ?_
    rintro e w5 ⟨rfl, b5⟩
    have c5 := below3 c4 b5
    clear c4 b5
    go_wp2_with fail
    refine (C6.out _).mono ?_
    rintro e w6 ⟨rfl, b6⟩
    go_wp2_with fail
    go_ret
    exact ⟨rfl, below3 c5 b6⟩
end Go.Proofs.YtmahdlaifbbjgaaDoor.CsLaw
