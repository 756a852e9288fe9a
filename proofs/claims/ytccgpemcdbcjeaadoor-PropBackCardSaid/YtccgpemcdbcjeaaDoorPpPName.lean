/-
The program's questions about bytes and names: the answers are the plain functions'. No conditions.
-/
import Derived.Test.YtccgpemcdbcjeaaDoorPpRef1
namespace Go.Proofs.YtccgpemcdbcjeaaDoor.Pp
open Go.RowKit

/-- A digit. -/
def digb (c : UInt8) : Bool := decide (48 ≤ (c.toNat : Int) ∧ (c.toNat : Int) ≤ 57)
theorem pCap_any (c : UInt8) (w : World) :
    Calls Tryd.prog 39 #[.int .u8 (c.toNat : Int)] w fun e w' => e = .returned (.bool (lett c)) ∧ w = w' := by
  have hb := c.toNat_lt
  go_enter Tryd.func39, Tryd.ntmps39
  go_wp2
  all_goals (go_ret; exact ⟨ret_bool (by unfold lett; rw [Bool.eq_iff_iff]; simp; try omega), rfl⟩)
theorem pDig_any (c : UInt8) (w : World) :
    Calls Tryd.prog 40 #[.int .u8 (c.toNat : Int)] w fun e w' => e = .returned (.bool (digb c)) ∧ w = w' := by
  have hb := c.toNat_lt
  go_enter Tryd.func40, Tryd.ntmps40
  go_wp2
  all_goals (go_ret; exact ⟨ret_bool (by unfold digb; rw [Bool.eq_iff_iff]; simp; try omega), rfl⟩)

set_option maxHeartbeats 1600000 in
theorem pName_any (s : ByteArray) (w : World) :
    Calls Tryd.prog 28 #[.string s] w fun e w' => e = .returned (.bool (nameB s)) ∧ w = w' := by
  by_cases hz : s.size = 0
  · rw [nameB_none hz]
    have hs0 := str_none hz
    go_enter Tryd.func28, Tryd.ntmps28
    go_wp2_with fail
    go_ret
    exact ⟨rfl, rfl⟩
  have hs0 := str_some hz
  by_cases hl : 32 < (s.size : Int)
  · rw [nameB_long (by omega)]
    go_enter Tryd.func28, Tryd.ntmps28
    go_wp2_with fail
    go_ret
    exact ⟨rfl, rfl⟩
  have hp : 0 < s.size := by omega
  rw [nameB_some hp (by omega)]
  obtain ⟨r, hr⟩ : ∃ r, s.data.toList.all nmc = r := ⟨_, rfl⟩
  rw [hr]
  have C1 := Lib.hid (fun W => pCap_any s[0] W)
  generalize lett s[0] = p at C1 ⊢
  have HE := Lib.hid (all_end (P := nmc) (s := s))
  cases p with
  | false =>
    go_enter Tryd.func28, Tryd.ntmps28
    go_wp2_with fail
    refine (C1.out _).mono ?_
    rintro e w' ⟨rfl, rfl⟩
    go_wp2_with fail
    go_ret
    exact ⟨rfl, rfl⟩
  | true =>
    go_enter Tryd.func28, Tryd.ntmps28
    go_wp2_with fail
    refine (C1.out _).mono ?_
    rintro e w' ⟨rfl, rfl⟩
    go_wp2_with fail
    go_loop [19] (fun iv => ∃ k : Nat, iv = .int .i64 k ∧ k ≤ s.size ∧ Hid ((s.data.toList.drop k).all nmc = r)) (fun iv => s.size - (intOf iv).toNat)
    case atStart => exact ⟨0, rfl, Nat.zero_le _, Lib.hid (by rw [List.drop_zero]; exact hr)⟩
    case round =>
      obtain ⟨k, rfl, hk, HK⟩ := hrel
      clear hr C1
      by_cases hlt : k < s.size
      · have HN := Lib.hid (all_no (P := nmc) hlt)
        have HY := Lib.hid (all_yes (P := nmc) hlt)
        have C2 := Lib.hid (fun W => pCap_any s[k] W)
        have C3 := Lib.hid (fun W => pDig_any s[k] W)
        obtain ⟨c, hc⟩ : ∃ c : UInt8, s[k] = c := ⟨_, rfl⟩
        have hb := c.toNat_lt
        have HU := Lib.hid (show nmc c = (lett c || digb c || decide ((c.toNat : Int) = 45)) from rfl)
        rw [hc] at HN HY C2 C3
        generalize lett c = q at C2 HU
        generalize digb c = d at C3 HU
        cases q with
        | true =>
          have HK' := Lib.hid ((HY.out (by rw [HU.out]; rfl)).symm.trans HK.out)
          go_wp2_with fail
          refine (C2.out _).mono ?_
          rintro e w' ⟨rfl, rfl⟩
          go_wp2_with fail
          go_round
          case rel => exact ⟨k + 1, by go_num, by omega, HK'⟩
          case measure => simp [intOf]; omega
        | false =>
          cases d with
          | true =>
            have HK' := Lib.hid ((HY.out (by rw [HU.out]; rfl)).symm.trans HK.out)
            go_wp2_with fail
            refine (C2.out _).mono ?_
            rintro e w' ⟨rfl, rfl⟩
            go_wp2_with fail
            refine (C3.out _).mono ?_
            rintro e w' ⟨rfl, rfl⟩
            go_wp2_with fail
            go_round
            case rel => exact ⟨k + 1, by go_num, by omega, HK'⟩
            case measure => simp [intOf]; omega
          | false =>
            by_cases h3 : (c.toNat : Int) = 45
            · have h4 : ((c.toNat : Int) != 45) = false := by rw [h3]; rfl
              have HK' := Lib.hid ((HY.out (by rw [HU.out, decide_eq_true h3]; rfl)).symm.trans HK.out)
              clear h3
              go_wp2_with fail
              refine (C2.out _).mono ?_
              rintro e w' ⟨rfl, rfl⟩
              go_wp2_with fail
              refine (C3.out _).mono ?_
              rintro e w' ⟨rfl, rfl⟩
              go_wp2_with fail
              go_round
              case rel => exact ⟨k + 1, by go_num, by omega, HK'⟩
              case measure => simp [intOf]; omega
            · have h4 : ((c.toNat : Int) != 45) = true := bne_iff_ne.2 h3
              obtain rfl : false = r := by rw [← HK.out]; exact (HN.out (by rw [HU.out, decide_eq_false h3]; rfl)).symm
              clear h3
              go_wp2_with fail
              refine (C2.out _).mono ?_
              rintro e w' ⟨rfl, rfl⟩
              go_wp2_with fail
              refine (C3.out _).mono ?_
              rintro e w' ⟨rfl, rfl⟩
              go_wp2_with fail
              go_ret
              exact ⟨rfl, rfl⟩
      · obtain rfl : k = s.size := by omega
        obtain rfl : true = r := by rw [← HK.out]; exact HE.out.symm
        go_wp2_with fail
        go_ret
        exact ⟨rfl, rfl⟩
end Go.Proofs.YtccgpemcdbcjeaaDoor.Pp
