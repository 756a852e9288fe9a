/-
Bytes, names and texts of elements: the program's answers and the document's are the plain functions'. Conditions: the text has at most 2^36 bytes; the two tables of UTF-8 hold what the rows list.
-/
import Derived.Test.YtpgjalikgmagiaaDoorTrTree
import Derived.Test.YtpgjalikgmagiaaDoorCsRefLets
namespace Go.Proofs.YtpgjalikgmagiaaDoor.Tr
set_option maxRecDepth 100000
open Go.RowKit Pp

theorem ret_bool {a b : Bool} (h : a = b) : Ending.returned (.bool a) = .returned (.bool b) := by rw [h]
theorem pLetter_any (c : UInt8) (w : World) :
    Calls Tryd.prog 31 #[.int .u8 (c.toNat : Int)] w fun e w' => e = .returned (.bool (letB c)) ∧ w = w' := by
  have hb := c.toNat_lt
  go_enter Tryd.func31, Tryd.ntmps31
  go_wp2
  all_goals (go_ret; exact ⟨ret_bool (by unfold letB; rw [Bool.eq_iff_iff]; simp; try omega), rfl⟩)
theorem pDigit_any (c : UInt8) (w : World) :
    Calls Tryd.prog 32 #[.int .u8 (c.toNat : Int)] w fun e w' => e = .returned (.bool (digB c)) ∧ w = w' := by
  have hb := c.toNat_lt
  go_enter Tryd.func32, Tryd.ntmps32
  go_wp2
  all_goals (go_ret; exact ⟨ret_bool (by unfold digB; rw [Bool.eq_iff_iff]; simp; try omega), rfl⟩)
theorem rLetter_any (c : UInt8) (w : World) :
    Calls Tryd.prog 28 #[.int .u8 (c.toNat : Int)] w fun e w' => e = .returned (.bool (letB c)) ∧ w = w' := by
  have hb := c.toNat_lt
  go_enter Tryd.func28, Tryd.ntmps28
  go_wp2
  all_goals (go_ret; exact ⟨ret_bool (by unfold letB; rw [Bool.eq_iff_iff]; simp; try omega), rfl⟩)

set_option maxHeartbeats 1600000 in
theorem rName_any (s : ByteArray) (w : World) :
    Calls Tryd.prog 19 #[.string s] w fun e w' => e = .returned (.bool (nameB s)) ∧ w = w' := by
  by_cases hz : s.size = 0
  · rw [nameB_none hz]
    have hs0 := str_none hz
    go_enter Tryd.func19, Tryd.ntmps19
    go_wp2_with fail
    go_ret
    exact ⟨rfl, rfl⟩
  have hs0 := str_some hz
  by_cases hl : 32 < (s.size : Int)
  · rw [nameB_long (by omega)]
    go_enter Tryd.func19, Tryd.ntmps19
    go_wp2_with fail
    go_ret
    exact ⟨rfl, rfl⟩
  have hp : 0 < s.size := by omega
  rw [nameB_some hp (by omega)]
  obtain ⟨r, hr⟩ : ∃ r, s.data.toList.all wordB = r := ⟨_, rfl⟩
  rw [hr]
  have C1 := Lib.hid (fun W => rLetter_any s[0] W)
  generalize letB s[0] = p at C1 ⊢
  have HE := Lib.hid (all_end (P := wordB) (s := s))
  cases p with
  | false =>
    go_enter Tryd.func19, Tryd.ntmps19
    go_wp2_with (go_at_call 28; refine (C1.out _).mono ?_; rintro e w' ⟨rfl, rfl⟩)
    go_ret
    exact ⟨rfl, rfl⟩
  | true =>
    go_enter Tryd.func19, Tryd.ntmps19
    go_wp2_with (go_at_call 28; refine (C1.out _).mono ?_; rintro e w' ⟨rfl, rfl⟩)
    go_loop [3] (fun iv => ∃ k : Nat, iv = .int .i64 k ∧ k ≤ s.size ∧ Hid ((s.data.toList.drop k).all wordB = r)) (fun iv => s.size - (intOf iv).toNat)
    case atStart => exact ⟨0, rfl, Nat.zero_le _, Lib.hid (by rw [List.drop_zero]; exact hr)⟩
    case round =>
      obtain ⟨k, rfl, hk, HK⟩ := hrel
      clear hr C1
      by_cases hlt : k < s.size
      · have HN := Lib.hid (all_no (P := wordB) hlt)
        have HY := Lib.hid (all_yes (P := wordB) hlt)
        have C2 := Lib.hid (fun W => rLetter_any s[k] W)
        obtain ⟨c, hc⟩ : ∃ c : UInt8, s[k] = c := ⟨_, rfl⟩
        have hb := c.toNat_lt
        have HU := Lib.hid (show wordB c = (letB c || decide (48 ≤ (c.toNat : Int) ∧ (c.toNat : Int) ≤ 57)) from rfl)
        rw [hc] at HN HY C2
        generalize letB c = q at C2 HU
        cases q with
        | true =>
          have HK' := Lib.hid ((HY.out (by rw [HU.out]; rfl)).symm.trans HK.out)
          go_wp2_with (go_at_call 28; refine (C2.out _).mono ?_; rintro e w' ⟨rfl, rfl⟩)
          go_round
          case rel => exact ⟨k + 1, by go_num, by omega, HK'⟩
          case measure => simp [intOf]; omega
        | false =>
          by_cases h1 : (c.toNat : Int) < 48
          · obtain rfl : false = r := by rw [← HK.out]; exact (HN.out (by rw [HU.out, decide_eq_false (by omega)]; rfl)).symm
            go_wp2_with (go_at_call 28; refine (C2.out _).mono ?_; rintro e w' ⟨rfl, rfl⟩)
            go_ret
            exact ⟨rfl, rfl⟩
          · by_cases h2 : 57 < (c.toNat : Int)
            · obtain rfl : false = r := by rw [← HK.out]; exact (HN.out (by rw [HU.out, decide_eq_false (by omega)]; rfl)).symm
              go_wp2_with (go_at_call 28; refine (C2.out _).mono ?_; rintro e w' ⟨rfl, rfl⟩)
              go_ret
              exact ⟨rfl, rfl⟩
            · have HK' := Lib.hid ((HY.out (by rw [HU.out, decide_eq_true (by omega)]; rfl)).symm.trans HK.out)
              go_wp2_with (go_at_call 28; refine (C2.out _).mono ?_; rintro e w' ⟨rfl, rfl⟩)
              go_round
              case rel => exact ⟨k + 1, by go_num, by omega, HK'⟩
              case measure => simp [intOf]; omega
      · obtain rfl : k = s.size := by omega
        obtain rfl : true = r := by rw [← HK.out]; exact HE.out.symm
        go_wp2_with fail
        go_ret
        exact ⟨rfl, rfl⟩

set_option maxHeartbeats 1600000 in
theorem pName_any (s : ByteArray) (w : World) :
    Calls Tryd.prog 26 #[.string s] w fun e w' => e = .returned (.bool (nameB s)) ∧ w = w' := by
  by_cases hz : s.size = 0
  · rw [nameB_none hz]
    have hs0 := str_none hz
    go_enter Tryd.func26, Tryd.ntmps26
    go_wp2_with fail
    go_ret
    exact ⟨rfl, rfl⟩
  have hs0 := str_some hz
  by_cases hl : 32 < (s.size : Int)
  · rw [nameB_long (by omega)]
    go_enter Tryd.func26, Tryd.ntmps26
    go_wp2_with fail
    go_ret
    exact ⟨rfl, rfl⟩
  have hp : 0 < s.size := by omega
  rw [nameB_some hp (by omega)]
  obtain ⟨r, hr⟩ : ∃ r, s.data.toList.all wordB = r := ⟨_, rfl⟩
  rw [hr]
  have C1 := Lib.hid (fun W => pLetter_any s[0] W)
  generalize letB s[0] = p at C1 ⊢
  have HE := Lib.hid (all_end (P := wordB) (s := s))
  cases p with
  | false =>
    go_enter Tryd.func26, Tryd.ntmps26
    go_wp2_with (go_at_call 31; refine (C1.out _).mono ?_; rintro e w' ⟨rfl, rfl⟩)
    go_ret
    exact ⟨rfl, rfl⟩
  | true =>
    go_enter Tryd.func26, Tryd.ntmps26
    go_wp2_with (go_at_call 31; refine (C1.out _).mono ?_; rintro e w' ⟨rfl, rfl⟩)
    go_loop [19] (fun iv => ∃ k : Nat, iv = .int .i64 k ∧ k ≤ s.size ∧ Hid ((s.data.toList.drop k).all wordB = r)) (fun iv => s.size - (intOf iv).toNat)
    case atStart => exact ⟨0, rfl, Nat.zero_le _, Lib.hid (by rw [List.drop_zero]; exact hr)⟩
    case round =>
      obtain ⟨k, rfl, hk, HK⟩ := hrel
      clear hr C1
      by_cases hlt : k < s.size
      · have HN := Lib.hid (all_no (P := wordB) hlt)
        have HY := Lib.hid (all_yes (P := wordB) hlt)
        have C2 := Lib.hid (fun W => pLetter_any s[k] W)
        have C3 := Lib.hid (fun W => pDigit_any s[k] W)
        obtain ⟨c, hc⟩ : ∃ c : UInt8, s[k] = c := ⟨_, rfl⟩
        have HU := Lib.hid (show wordB c = (letB c || digB c) from rfl)
        rw [hc] at HN HY C2 C3
        generalize letB c = q at C2 HU
        generalize digB c = q2 at C3 HU
        cases q with
        | true =>
          have HK' := Lib.hid ((HY.out (by rw [HU.out]; rfl)).symm.trans HK.out)
          go_wp2_with (go_at_call 31; refine (C2.out _).mono ?_; rintro e w' ⟨rfl, rfl⟩)
          go_round
          case rel => exact ⟨k + 1, by go_num, by omega, HK'⟩
          case measure => simp [intOf]; omega
        | false =>
          cases q2 with
          | false =>
            obtain rfl : false = r := by rw [← HK.out]; exact (HN.out (by rw [HU.out]; rfl)).symm
            go_wp2_with (first | (go_at_call 31; refine (C2.out _).mono ?_; rintro e w' ⟨rfl, rfl⟩) | (go_at_call 32; refine (C3.out _).mono ?_; rintro e w' ⟨rfl, rfl⟩))
            go_ret
            exact ⟨rfl, rfl⟩
          | true =>
            have HK' := Lib.hid ((HY.out (by rw [HU.out]; rfl)).symm.trans HK.out)
            go_wp2_with (first | (go_at_call 31; refine (C2.out _).mono ?_; rintro e w' ⟨rfl, rfl⟩) | (go_at_call 32; refine (C3.out _).mono ?_; rintro e w' ⟨rfl, rfl⟩))
            go_round
            case rel => exact ⟨k + 1, by go_num, by omega, HK'⟩
            case measure => simp [intOf]; omega
      · obtain rfl : k = s.size := by omega
        obtain rfl : true = r := by rw [← HK.out]; exact HE.out.symm
        go_wp2_with fail
        go_ret
        exact ⟨rfl, rfl⟩

set_option maxHeartbeats 1600000 in
theorem pPlain_any (s : ByteArray) (w : World) (hs : s.size ≤ 68719476736) (T : Cs.Tabs w) :
    Calls Tryd.prog 27 #[.string s] w fun e w' => e = .returned (.bool (shownB s)) ∧ Below w.heap.size w w' := by
  have C := Lib.hid (Cs.utf8_valid s w (by omega) T)
  unfold shownB
  generalize Lib.validD s.data.toList = v at C ⊢
  obtain ⟨r, hr⟩ : ∃ r, s.data.toList.all inkB = r := ⟨_, rfl⟩
  rw [hr]
  have HE := Lib.hid (all_end (P := inkB) (s := s))
  go_enter Tryd.func27, Tryd.ntmps27
  go_wp2_with fail
  go_loop [6] (fun iv => ∃ k : Nat, iv = .int .i64 k ∧ k ≤ s.size ∧ Hid ((s.data.toList.drop k).all inkB = r)) (fun iv => s.size - (intOf iv).toNat)
  case atStart => exact ⟨0, rfl, Nat.zero_le _, Lib.hid (by rw [List.drop_zero]; exact hr)⟩
  case round =>
    obtain ⟨k, rfl, hk, HK⟩ := hrel
    clear hr
    by_cases hlt : k < s.size
    · have HN := Lib.hid (all_no (P := inkB) hlt)
      have HY := Lib.hid (all_yes (P := inkB) hlt)
      obtain ⟨c, hc⟩ : ∃ c : UInt8, s[k] = c := ⟨_, rfl⟩
      have hb := c.toNat_lt
      have HU := Lib.hid (show inkB c = decide (32 ≤ (c.toNat : Int) ∨ (c.toNat : Int) = 9 ∨ (c.toNat : Int) = 10) from rfl)
      rw [hc] at HN HY
      by_cases h1 : (c.toNat : Int) < 32
      · by_cases h2 : (c.toNat : Int) = 9
        · have HK' := Lib.hid ((HY.out (by rw [HU.out, decide_eq_true (by omega)])).symm.trans HK.out)
          go_wp2_with fail
          go_round
          case rel => exact ⟨k + 1, by go_num, by omega, HK'⟩
          case measure => simp [intOf]; omega
        · by_cases h3 : (c.toNat : Int) = 10
          · have HK' := Lib.hid ((HY.out (by rw [HU.out, decide_eq_true (by omega)])).symm.trans HK.out)
            go_wp2_with fail
            go_round
            case rel => exact ⟨k + 1, by go_num, by omega, HK'⟩
            case measure => simp [intOf]; omega
          · obtain rfl : false = r := by rw [← HK.out]; exact (HN.out (by rw [HU.out, decide_eq_false (by omega)])).symm
            have h2b : ((c.toNat : Int) != 9) = true := by simpa using h2
            have h3b : ((c.toNat : Int) != 10) = true := by simpa using h3
            go_wp2_with fail
            go_ret
            exact ⟨rfl, Below.refl _ _⟩
      · have HK' := Lib.hid ((HY.out (by rw [HU.out, decide_eq_true (by omega)])).symm.trans HK.out)
        go_wp2_with fail
        go_round
        case rel => exact ⟨k + 1, by go_num, by omega, HK'⟩
        case measure => simp [intOf]; omega
    · obtain rfl : k = s.size := by omega
      obtain rfl : true = r := by rw [← HK.out]; exact HE.out.symm
      go_wp2_with (go_at_call 33; refine C.out.mono ?_; rintro e w1 ⟨rfl, b1⟩)
      go_ret
      exact ⟨rfl, b1⟩
set_option maxHeartbeats 1600000 in
theorem rShown_any (s : ByteArray) (w : World) (hs : s.size ≤ 68719476736) :
    Calls Tryd.prog 20 #[.string s] w fun e w' => e = .returned (.bool (shownB s)) ∧ Below w.heap.size w w' := by
  have C := Lib.hid (Cs.refValid_any s hs w)
  unfold shownB
  generalize Lib.validD s.data.toList = v at C ⊢
  obtain ⟨r, hr⟩ : ∃ r, s.data.toList.all inkB = r := ⟨_, rfl⟩
  rw [hr]
  have HE := Lib.hid (all_end (P := inkB) (s := s))
  go_enter Tryd.func20, Tryd.ntmps20
  go_wp2_with fail
  go_loop [3] (fun iv => ∃ k : Nat, iv = .int .i64 k ∧ k ≤ s.size ∧ Hid ((s.data.toList.drop k).all inkB = r)) (fun iv => s.size - (intOf iv).toNat)
  case atStart => exact ⟨0, rfl, Nat.zero_le _, Lib.hid (by rw [List.drop_zero]; exact hr)⟩
  case round =>
    obtain ⟨k, rfl, hk, HK⟩ := hrel
    clear hr
    by_cases hlt : k < s.size
    · have HN := Lib.hid (all_no (P := inkB) hlt)
      have HY := Lib.hid (all_yes (P := inkB) hlt)
      obtain ⟨c, hc⟩ : ∃ c : UInt8, s[k] = c := ⟨_, rfl⟩
      have hb := c.toNat_lt
      have HU := Lib.hid (show inkB c = decide (32 ≤ (c.toNat : Int) ∨ (c.toNat : Int) = 9 ∨ (c.toNat : Int) = 10) from rfl)
      rw [hc] at HN HY
      by_cases h1 : (c.toNat : Int) < 32
      · by_cases h2 : (c.toNat : Int) = 9
        · have HK' := Lib.hid ((HY.out (by rw [HU.out, decide_eq_true (by omega)])).symm.trans HK.out)
          go_wp2_with fail
          go_round
          case rel => exact ⟨k + 1, by go_num, by omega, HK'⟩
          case measure => simp [intOf]; omega
        · by_cases h3 : (c.toNat : Int) = 10
          · have HK' := Lib.hid ((HY.out (by rw [HU.out, decide_eq_true (by omega)])).symm.trans HK.out)
            go_wp2_with fail
            go_round
            case rel => exact ⟨k + 1, by go_num, by omega, HK'⟩
            case measure => simp [intOf]; omega
          · obtain rfl : false = r := by rw [← HK.out]; exact (HN.out (by rw [HU.out, decide_eq_false (by omega)])).symm
            have h2b : ((c.toNat : Int) != 9) = true := by simpa using h2
            have h3b : ((c.toNat : Int) != 10) = true := by simpa using h3
            go_wp2_with fail
            go_ret
            exact ⟨rfl, Below.refl _ _⟩
      · have HK' := Lib.hid ((HY.out (by rw [HU.out, decide_eq_true (by omega)])).symm.trans HK.out)
        go_wp2_with fail
        go_round
        case rel => exact ⟨k + 1, by go_num, by omega, HK'⟩
        case measure => simp [intOf]; omega
    · obtain rfl : k = s.size := by omega
      obtain rfl : true = r := by rw [← HK.out]; exact HE.out.symm
      go_wp2_with (go_at_call 29; refine C.out.mono ?_; rintro e w1 ⟨rfl, b1⟩)
      go_ret
      exact ⟨rfl, b1⟩
end Go.Proofs.YtpgjalikgmagiaaDoor.Tr
