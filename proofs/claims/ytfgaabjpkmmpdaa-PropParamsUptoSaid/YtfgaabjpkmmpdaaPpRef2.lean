/-
Names and parameters' values, as the document says them: the answers are the plain functions'. No conditions.
-/
import Derived.Test.YtfgaabjpkmmpdaaPpRef1
namespace Go.Proofs.Ytfgaabjpkmmpdaa.Pp
open Go.RowKit

set_option maxHeartbeats 1600000 in
theorem rName_any (s : ByteArray) (w : World) :
    Calls Try.prog 12 #[.string s] w fun e w' => e = .returned (.bool (nameB s)) ∧ w = w' := by
  by_cases hz : s.size = 0
  · rw [nameB_none hz]
    have hs0 := str_none hz
    go_enter Try.func12, Try.ntmps12
    go_wp2_with fail
    go_ret
    exact ⟨rfl, rfl⟩
  have hs0 := str_some hz
  by_cases hl : 32 < (s.size : Int)
  · rw [nameB_long (by omega)]
    go_enter Try.func12, Try.ntmps12
    go_wp2_with fail
    go_ret
    exact ⟨rfl, rfl⟩
  have hp : 0 < s.size := by omega
  rw [nameB_some hp (by omega)]
  obtain ⟨r, hr⟩ : ∃ r, s.data.toList.all nmc = r := ⟨_, rfl⟩
  rw [hr]
  have C1 := Lib.hid (fun W => rLetter_any s[0] W)
  generalize lett s[0] = p at C1 ⊢
  have HE := Lib.hid (all_end (P := nmc) (s := s))
  cases p with
  | false =>
    go_enter Try.func12, Try.ntmps12
    go_wp2_with fail
    refine (C1.out _).mono ?_
    rintro e w' ⟨rfl, rfl⟩
    go_wp2_with fail
    go_ret
    exact ⟨rfl, rfl⟩
  | true =>
    go_enter Try.func12, Try.ntmps12
    go_wp2_with fail
    refine (C1.out _).mono ?_
    rintro e w' ⟨rfl, rfl⟩
    go_wp2_with fail
    go_loop [3] (fun iv => ∃ k : Nat, iv = .int .i64 k ∧ k ≤ s.size ∧ Hid ((s.data.toList.drop k).all nmc = r)) (fun iv => s.size - (intOf iv).toNat)
    case atStart => exact ⟨0, rfl, Nat.zero_le _, Lib.hid (by rw [List.drop_zero]; exact hr)⟩
    case round =>
      obtain ⟨k, rfl, hk, HK⟩ := hrel
      clear hr C1
      by_cases hlt : k < s.size
      · have HN := Lib.hid (all_no (P := nmc) hlt)
        have HY := Lib.hid (all_yes (P := nmc) hlt)
        have C2 := Lib.hid (fun W => rLetter_any s[k] W)
        obtain ⟨c, hc⟩ : ∃ c : UInt8, s[k] = c := ⟨_, rfl⟩
        have hb := c.toNat_lt
        have HU := Lib.hid (show nmc c = (lett c || decide (48 ≤ (c.toNat : Int) ∧ (c.toNat : Int) ≤ 57) || decide ((c.toNat : Int) = 45)) from rfl)
        rw [hc] at HN HY C2
        generalize lett c = q at C2 HU
        cases q with
        | true =>
          have HK' := Lib.hid ((HY.out (by rw [HU.out]; rfl)).symm.trans HK.out)
          go_wp2_with fail
          refine (C2.out _).mono ?_
          rintro e w' ⟨rfl, rfl⟩
          go_wp2_with fail
          go_round
          case rel => exact ⟨k + 1, by go_num, by omega, HK'⟩
          case measure => simp [intOf]; omega
        | false =>
          by_cases h1 : (c.toNat : Int) < 48
          · by_cases h3 : (c.toNat : Int) = 45
            · rw [h3] at C2
              have HK' := Lib.hid ((HY.out (by rw [HU.out, decide_eq_true h3, Bool.or_true])).symm.trans HK.out)
              go_wp2_with fail
              refine (C2.out _).mono ?_
              rintro e w' ⟨rfl, rfl⟩
              go_wp2_with fail
              go_round
              case rel => exact ⟨k + 1, by go_num, by omega, HK'⟩
              case measure => simp [intOf]; omega
            · obtain rfl : false = r := by rw [← HK.out]; exact (HN.out (by rw [HU.out, decide_eq_false h3, decide_eq_false (by omega)]; rfl)).symm
              go_wp2_with fail
              refine (C2.out _).mono ?_
              rintro e w' ⟨rfl, rfl⟩
              go_wp2_with fail
              go_ret
              exact ⟨rfl, rfl⟩
          · by_cases h2 : 57 < (c.toNat : Int)
            · have h3 : ¬ (c.toNat : Int) = 45 := by omega
              obtain rfl : false = r := by rw [← HK.out]; exact (HN.out (by rw [HU.out, decide_eq_false h3, decide_eq_false (by omega)]; rfl)).symm
              go_wp2_with fail
              refine (C2.out _).mono ?_
              rintro e w' ⟨rfl, rfl⟩
              go_wp2_with fail
              go_ret
              exact ⟨rfl, rfl⟩
            · have HK' := Lib.hid ((HY.out (by rw [HU.out, decide_eq_true (show 48 ≤ (c.toNat : Int) ∧ (c.toNat : Int) ≤ 57 by omega)]; rfl)).symm.trans HK.out)
              go_wp2_with fail
              refine (C2.out _).mono ?_
              rintro e w' ⟨rfl, rfl⟩
              go_wp2_with fail
              go_round
              case rel => exact ⟨k + 1, by go_num, by omega, HK'⟩
              case measure => simp [intOf]; omega
      · obtain rfl : k = s.size := by omega
        obtain rfl : true = r := by rw [← HK.out]; exact HE.out.symm
        go_wp2_with fail
        go_ret
        exact ⟨rfl, rfl⟩

set_option maxHeartbeats 400000 in
theorem rValue_any (s : ByteArray) (w : World) :
    Calls Try.prog 32 #[.string s] w fun e w' => e = .returned (.bool (valB s)) ∧ w = w' := by
  by_cases hz : s.size = 0
  · rw [valB_none hz]
    have hs0 := str_none hz
    go_enter Try.func32, Try.ntmps32
    go_wp2_with fail
    go_ret
    exact ⟨rfl, rfl⟩
  have hs0 := str_some hz
  by_cases hl : 32 < (s.size : Int)
  · rw [valB_long (by omega)]
    go_enter Try.func32, Try.ntmps32
    go_wp2_with fail
    go_ret
    exact ⟨rfl, rfl⟩
  have hp : 0 < s.size := by omega
  rw [valB_some hp (by omega)]
  obtain ⟨r, hr⟩ : ∃ r, s.data.toList.all valc = r := ⟨_, rfl⟩
  rw [hr]
  have HE := Lib.hid (all_end (P := valc) (s := s))
  go_enter Try.func32, Try.ntmps32
  go_wp2_with fail
  go_loop [3] (fun iv => ∃ k : Nat, iv = .int .i64 k ∧ k ≤ s.size ∧ Hid ((s.data.toList.drop k).all valc = r)) (fun iv => s.size - (intOf iv).toNat)
  case atStart => exact ⟨0, rfl, Nat.zero_le _, Lib.hid (by rw [List.drop_zero]; exact hr)⟩
  case round =>
    obtain ⟨k, rfl, hk, HK⟩ := hrel
    clear hr
    by_cases hlt : k < s.size
    · have HN := Lib.hid (all_no (P := valc) hlt)
      have HY := Lib.hid (all_yes (P := valc) hlt)
      obtain ⟨c, hc⟩ : ∃ c : UInt8, s[k] = c := ⟨_, rfl⟩
      have hb := c.toNat_lt
      rw [hc] at HN HY
      by_cases h1 : (c.toNat : Int) < 33
      · obtain rfl : false = r := by rw [← HK.out]; exact (HN.out (by unfold valc; rw [decide_eq_false (by omega)])).symm
        go_wp2_with fail
        go_ret
        exact ⟨rfl, rfl⟩
      by_cases h2 : 126 < (c.toNat : Int)
      · obtain rfl : false = r := by rw [← HK.out]; exact (HN.out (by unfold valc; rw [decide_eq_false (by omega)])).symm
        go_wp2_with fail
        go_ret
        exact ⟨rfl, rfl⟩
      by_cases h3 : (c.toNat : Int) = 59
      · obtain rfl : false = r := by rw [← HK.out]; exact (HN.out (by unfold valc; rw [decide_eq_false (by omega)])).symm
        go_wp2_with fail
        go_ret
        exact ⟨rfl, rfl⟩
      by_cases h4 : (c.toNat : Int) = 58
      · obtain rfl : false = r := by rw [← HK.out]; exact (HN.out (by unfold valc; rw [decide_eq_false (by omega)])).symm
        go_wp2_with fail
        go_ret
        exact ⟨rfl, rfl⟩
      by_cases h5 : (c.toNat : Int) = 61
      · obtain rfl : false = r := by rw [← HK.out]; exact (HN.out (by unfold valc; rw [decide_eq_false (by omega)])).symm
        go_wp2_with fail
        go_ret
        exact ⟨rfl, rfl⟩
      have e3 : ((c.toNat : Int) == 59) = false := by simpa using h3
      have e4 : ((c.toNat : Int) == 58) = false := by simpa using h4
      have e5 : ((c.toNat : Int) == 61) = false := by simpa using h5
      have HK' := Lib.hid ((HY.out (by unfold valc; rw [decide_eq_true ⟨by omega, by omega, h3, h4, h5⟩])).symm.trans HK.out)
      go_wp2_with fail
      go_round
      case rel => exact ⟨k + 1, by go_num, by omega, HK'⟩
      case measure => simp [intOf]; omega
    · obtain rfl : k = s.size := by omega
      obtain rfl : true = r := by rw [← HK.out]; exact HE.out.symm
      go_wp2_with fail
      go_ret
      exact ⟨rfl, rfl⟩
end Go.Proofs.Ytfgaabjpkmmpdaa.Pp
