/-
What is wrong with a property, as the document says it: the answer is the plain function's. Conditions: its parameters lie where the slice says, below the caller's blocks; the value has at most 2^40 bytes.
-/
import Derived.Test.YtfgaabjpkmmpdaaPpChk
namespace Go.Proofs.Ytfgaabjpkmmpdaa.Pp
open Go.RowKit

set_option maxHeartbeats 1000000 in
theorem rCheck_any (g n : ByteArray) (pv : Value) (v : ByteArray) (aa : Option Addr) (m ac : Nat) (ps : List (ByteArray × ByteArray)) (w : World) (hps : Ps w w.heap.size pv ps) (hl : ps.length ≤ 1099511627776) (hv : v.size ≤ 1099511627776) :
    Calls Try.prog 10 #[prV g n pv v (.slice aa m ac)] w fun e w' => e = .returned (.int .i64 (chk g n ps v m)) ∧ Below w.heap.size w w' := by
  obtain ⟨pa, pc, rfl⟩ := hps.shape
  unfold prV
  obtain ⟨r, hr⟩ : ∃ r, chk g n ps v m = r := ⟨_, rfl⟩
  rw [hr]
  have HR := Lib.hid hr
  clear hr
  have C1 := Lib.hid (fun W => rName_any g W)
  have C2 := Lib.hid (fun W => rName_any n W)
  have HG : Hid (goodNames g n = ((decide (g.size = 0) || nameB g) && nameB n)) := Lib.hid rfl
  have HR2 := Lib.hid (show goodNames g n = false → r = 14 from fun h => by rw [← HR.out]; unfold chk; rw [if_pos h])
  generalize nameB g = x at C1 HG
  generalize nameB n = y at C2 HG
  by_cases hz : g.size = 0
  · rw [decide_eq_true hz, Bool.true_or, Bool.true_and] at HG
    have hs0 := str_none hz
    cases y with
    | false =>
      obtain rfl := HR2.out HG.out
      clear HR HR2 HG
      go_enter Try.func10, Try.ntmps10
      go_wp2_with fail
      refine (C2.out _).mono ?_
      rintro e w' ⟨rfl, rfl⟩
      go_wp2_with fail
      go_ret
      exact ⟨rfl, (Below.refl _ _).alloc (Nat.le_refl _) _⟩
    | true =>
      clear HR2
      by_cases h6 : 6 < (ps.length : Int)
      · obtain rfl : r = 4 := by rw [← HR.out]; unfold chk; rw [HG.out, if_neg (by simp), if_pos (by omega)]
        go_enter Try.func10, Try.ntmps10
        go_wp2_with fail
        refine (C2.out _).mono ?_
        rintro e w' ⟨rfl, rfl⟩
        go_wp2_with fail
        go_ret
        exact ⟨rfl, (Below.refl _ _).alloc (Nat.le_refl _) _⟩
      obtain ⟨q, hq⟩ : ∃ q, goodPs ps = q := ⟨_, rfl⟩
      have HQ := Lib.hid hq
      have HB : Below w.heap.size w (w.alloc (.cells #[.string g, .string n, .slice pa ps.length pc, .string v, .slice aa m ac] 25)) := (Below.refl _ _).alloc (Nat.le_refl _) _
      have HP := hps.below HB
      go_enter Try.func10, Try.ntmps10
      go_wp2_with fail
      refine (C2.out _).mono ?_
      rintro e w' ⟨rfl, rfl⟩
      go_wp2_with fail
      go_loopw [3] (fun iv wr => ∃ k : Nat, k ≤ ps.length ∧ iv = .int .i64 k ∧ PrAt wr w.heap.size g n (.slice pa ps.length pc) v (.slice aa m ac) ∧ Below w.heap.size w wr ∧ Hid ((ps.drop k).all (fun p => paramB p.1 p.2) = q)) (fun iv _ => ps.length - (intOf iv).toNat)
      case atStart => exact ⟨0, Nat.zero_le _, rfl, heap_alloc_new w _, HB, Lib.hid hq⟩
      case round =>
        obtain ⟨k, hk, rfl, hcell, hbel, HK⟩ := hrel
        have k2 := hcell.c2
        have k3 := hcell.c3
        have k4 := hcell.c4
        by_cases hlt : k < ps.length
        · obtain ⟨b, o, cap, hv1, hbB, hc0, hc1⟩ := (hps.below hbel).at_ hlt
          simp only [Value.slice.injEq, true_and] at hv1
          obtain ⟨rfl, rfl⟩ := hv1
          have HN := Lib.hid (ps_no (P := fun p => paramB p.1 p.2) hlt)
          have HY := Lib.hid (ps_yes (P := fun p => paramB p.1 p.2) hlt)
          generalize ps[k] = x at hc0 hc1 HN HY
          obtain ⟨n', v'⟩ := x
          have C3 := Lib.hid (fun W => rParam_any n' v' W)
          simp only at HN HY hc0 hc1
          generalize paramB n' v' = z at C3 HN HY
          cases z with
          | false =>
            obtain rfl : false = q := by rw [← HK.out]; exact (HN.out rfl).symm
            obtain rfl : r = 3 := by rw [← HR.out]; unfold chk; rw [HG.out, if_neg (by simp), if_neg (by omega), if_pos HQ.out]
            go_wp2_with fail
            refine (C3.out _).mono ?_
            rintro e w2 ⟨rfl, b2⟩
            go_wp2_with fail
            go_ret
            exact ⟨rfl, hbel.trans (b2.mono hbel.size)⟩
          | true =>
            have HK' := Lib.hid ((HY.out rfl).symm.trans HK.out)
            go_wp2_with fail
            refine (C3.out _).mono ?_
            rintro e w2 ⟨rfl, b2⟩
            have hcell2 := hcell.below b2
            go_wp2_with fail
            go_roundw
            case rel => exact ⟨k + 1, by omega, by go_num, hcell2, hbel.trans (b2.mono hbel.size), HK'⟩
            case measure => simp [intOf]; omega
        · obtain rfl : k = ps.length := by omega
          obtain rfl : true = q := by rw [← HK.out, List.drop_length]; rfl
          by_cases hm : 0 < (m : Int)
          · obtain rfl : r = 5 := by rw [← HR.out]; unfold chk; rw [HG.out, if_neg (by simp), if_neg (by omega), if_neg (by rw [HQ.out]; simp), if_pos (by omega)]
            go_wp2_with fail
            go_ret
            exact ⟨rfl, hbel⟩
          by_cases hv2 : 2400 < (v.size : Int)
          · obtain rfl : r = 8 := by rw [← HR.out]; unfold chk; rw [HG.out, if_neg (by simp), if_neg (by omega), if_neg (by rw [HQ.out]; simp), if_neg (by omega), if_pos (by omega)]
            go_wp2_with fail
            go_ret
            exact ⟨rfl, hbel⟩
          obtain ⟨t, ht⟩ : ∃ t, goodV v = t := ⟨_, rfl⟩
          have HT := Lib.hid (show r = if t = false then 3 else 0 by rw [← HR.out]; unfold chk; rw [HG.out, if_neg (by simp), if_neg (by omega), if_neg (by rw [HQ.out]; simp), if_neg (by omega), if_neg (by omega), ht])
          have HE := Lib.hid (all_end (P := fun c => !oddb c) (s := v))
          go_wp2_with fail
          go_loopw [4] (fun iv wx => ∃ k : Nat, k ≤ v.size ∧ iv = .int .i64 k ∧ wx = wr ∧ Hid ((v.data.toList.drop k).all (fun c => !oddb c) = t)) (fun iv _ => v.size - (intOf iv).toNat)
          case atStart => exact ⟨0, Nat.zero_le _, rfl, rfl, Lib.hid ht⟩
          case round =>
            obtain ⟨k, hk, rfl, rfl, HK⟩ := hrel
            by_cases hlt : k < v.size
            · have HN := Lib.hid (all_no (P := fun c => !oddb c) hlt)
              have HY := Lib.hid (all_yes (P := fun c => !oddb c) hlt)
              have C4 := Lib.hid (fun W => rOdd_any v[k] W)
              generalize oddb v[k] = z at C4 HN HY
              cases z with
              | true =>
                obtain rfl : false = t := by rw [← HK.out]; exact (HN.out rfl).symm
                obtain rfl : r = 3 := by rw [HT.out]; rfl
                go_wp2_with fail
                refine (C4.out _).mono ?_
                rintro e w2 ⟨rfl, rfl⟩
                go_wp2_with fail
                go_ret
                exact ⟨rfl, hbel⟩
              | false =>
                have HK' := Lib.hid ((HY.out rfl).symm.trans HK.out)
                go_wp2_with fail
                refine (C4.out _).mono ?_
                rintro e w2 ⟨rfl, rfl⟩
                go_wp2_with fail
                go_roundw
                case rel => exact ⟨k + 1, by omega, by go_num, by trivial, HK'⟩
                case measure => simp [intOf]; omega
            · obtain rfl : k = v.size := by omega
              obtain rfl : true = t := by rw [← HK.out]; exact HE.out.symm
              obtain rfl : r = 0 := by rw [HT.out]; rfl
              go_wp2_with fail
              go_ret
              exact ⟨rfl, hbel⟩
  · rw [decide_eq_false hz, Bool.false_or] at HG
    have hs0 := str_some hz
    cases x with
    | false =>
      obtain rfl := HR2.out (by rw [HG.out]; rfl)
      clear HR HR2 HG
      go_enter Try.func10, Try.ntmps10
      go_wp2_with fail
      refine (C1.out _).mono ?_
      rintro e w' ⟨rfl, rfl⟩
      go_wp2_with fail
      go_ret
      exact ⟨rfl, (Below.refl _ _).alloc (Nat.le_refl _) _⟩
    | true =>
      rw [Bool.true_and] at HG
      cases y with
      | false =>
        obtain rfl := HR2.out HG.out
        clear HR HR2 HG
        go_enter Try.func10, Try.ntmps10
        go_wp2_with fail
        refine (C1.out _).mono ?_
        rintro e w' ⟨rfl, rfl⟩
        go_wp2_with fail
        refine (C2.out _).mono ?_
        rintro e w' ⟨rfl, rfl⟩
        go_wp2_with fail
        go_ret
        exact ⟨rfl, (Below.refl _ _).alloc (Nat.le_refl _) _⟩
      | true =>
        clear HR2
        by_cases h6 : 6 < (ps.length : Int)
        · obtain rfl : r = 4 := by rw [← HR.out]; unfold chk; rw [HG.out, if_neg (by simp), if_pos (by omega)]
          go_enter Try.func10, Try.ntmps10
          go_wp2_with fail
          refine (C1.out _).mono ?_
          rintro e w' ⟨rfl, rfl⟩
          go_wp2_with fail
          refine (C2.out _).mono ?_
          rintro e w' ⟨rfl, rfl⟩
          go_wp2_with fail
          go_ret
          exact ⟨rfl, (Below.refl _ _).alloc (Nat.le_refl _) _⟩
        obtain ⟨q, hq⟩ : ∃ q, goodPs ps = q := ⟨_, rfl⟩
        have HQ := Lib.hid hq
        have HB : Below w.heap.size w (w.alloc (.cells #[.string g, .string n, .slice pa ps.length pc, .string v, .slice aa m ac] 25)) := (Below.refl _ _).alloc (Nat.le_refl _) _
        have HP := hps.below HB
        go_enter Try.func10, Try.ntmps10
        go_wp2_with fail
        refine (C1.out _).mono ?_
        rintro e w' ⟨rfl, rfl⟩
        go_wp2_with fail
        refine (C2.out _).mono ?_
        rintro e w' ⟨rfl, rfl⟩
        go_wp2_with fail
        go_loopw [3] (fun iv wr => ∃ k : Nat, k ≤ ps.length ∧ iv = .int .i64 k ∧ PrAt wr w.heap.size g n (.slice pa ps.length pc) v (.slice aa m ac) ∧ Below w.heap.size w wr ∧ Hid ((ps.drop k).all (fun p => paramB p.1 p.2) = q)) (fun iv _ => ps.length - (intOf iv).toNat)
        case atStart => exact ⟨0, Nat.zero_le _, rfl, heap_alloc_new w _, HB, Lib.hid hq⟩
        case round =>
          obtain ⟨k, hk, rfl, hcell, hbel, HK⟩ := hrel
          have k2 := hcell.c2
          have k3 := hcell.c3
          have k4 := hcell.c4
          by_cases hlt : k < ps.length
          · obtain ⟨b, o, cap, hv1, hbB, hc0, hc1⟩ := (hps.below hbel).at_ hlt
            simp only [Value.slice.injEq, true_and] at hv1
            obtain ⟨rfl, rfl⟩ := hv1
            have HN := Lib.hid (ps_no (P := fun p => paramB p.1 p.2) hlt)
            have HY := Lib.hid (ps_yes (P := fun p => paramB p.1 p.2) hlt)
            generalize ps[k] = x at hc0 hc1 HN HY
            obtain ⟨n', v'⟩ := x
            have C3 := Lib.hid (fun W => rParam_any n' v' W)
            simp only at HN HY hc0 hc1
            generalize paramB n' v' = z at C3 HN HY
            cases z with
            | false =>
              obtain rfl : false = q := by rw [← HK.out]; exact (HN.out rfl).symm
              obtain rfl : r = 3 := by rw [← HR.out]; unfold chk; rw [HG.out, if_neg (by simp), if_neg (by omega), if_pos HQ.out]
              go_wp2_with fail
              refine (C3.out _).mono ?_
              rintro e w2 ⟨rfl, b2⟩
              go_wp2_with fail
              go_ret
              exact ⟨rfl, hbel.trans (b2.mono hbel.size)⟩
            | true =>
              have HK' := Lib.hid ((HY.out rfl).symm.trans HK.out)
              go_wp2_with fail
              refine (C3.out _).mono ?_
              rintro e w2 ⟨rfl, b2⟩
              have hcell2 := hcell.below b2
              go_wp2_with fail
              go_roundw
              case rel => exact ⟨k + 1, by omega, by go_num, hcell2, hbel.trans (b2.mono hbel.size), HK'⟩
              case measure => simp [intOf]; omega
          · obtain rfl : k = ps.length := by omega
            obtain rfl : true = q := by rw [← HK.out, List.drop_length]; rfl
            by_cases hm : 0 < (m : Int)
            · obtain rfl : r = 5 := by rw [← HR.out]; unfold chk; rw [HG.out, if_neg (by simp), if_neg (by omega), if_neg (by rw [HQ.out]; simp), if_pos (by omega)]
              go_wp2_with fail
              go_ret
              exact ⟨rfl, hbel⟩
            by_cases hv2 : 2400 < (v.size : Int)
            · obtain rfl : r = 8 := by rw [← HR.out]; unfold chk; rw [HG.out, if_neg (by simp), if_neg (by omega), if_neg (by rw [HQ.out]; simp), if_neg (by omega), if_pos (by omega)]
              go_wp2_with fail
              go_ret
              exact ⟨rfl, hbel⟩
            obtain ⟨t, ht⟩ : ∃ t, goodV v = t := ⟨_, rfl⟩
            have HT := Lib.hid (show r = if t = false then 3 else 0 by rw [← HR.out]; unfold chk; rw [HG.out, if_neg (by simp), if_neg (by omega), if_neg (by rw [HQ.out]; simp), if_neg (by omega), if_neg (by omega), ht])
            have HE := Lib.hid (all_end (P := fun c => !oddb c) (s := v))
            go_wp2_with fail
            go_loopw [4] (fun iv wx => ∃ k : Nat, k ≤ v.size ∧ iv = .int .i64 k ∧ wx = wr ∧ Hid ((v.data.toList.drop k).all (fun c => !oddb c) = t)) (fun iv _ => v.size - (intOf iv).toNat)
            case atStart => exact ⟨0, Nat.zero_le _, rfl, rfl, Lib.hid ht⟩
            case round =>
              obtain ⟨k, hk, rfl, rfl, HK⟩ := hrel
              by_cases hlt : k < v.size
              · have HN := Lib.hid (all_no (P := fun c => !oddb c) hlt)
                have HY := Lib.hid (all_yes (P := fun c => !oddb c) hlt)
                have C4 := Lib.hid (fun W => rOdd_any v[k] W)
                generalize oddb v[k] = z at C4 HN HY
                cases z with
                | true =>
                  obtain rfl : false = t := by rw [← HK.out]; exact (HN.out rfl).symm
                  obtain rfl : r = 3 := by rw [HT.out]; rfl
                  go_wp2_with fail
                  refine (C4.out _).mono ?_
                  rintro e w2 ⟨rfl, rfl⟩
                  go_wp2_with fail
                  go_ret
                  exact ⟨rfl, hbel⟩
                | false =>
                  have HK' := Lib.hid ((HY.out rfl).symm.trans HK.out)
                  go_wp2_with fail
                  refine (C4.out _).mono ?_
                  rintro e w2 ⟨rfl, rfl⟩
                  go_wp2_with fail
                  go_roundw
                  case rel => exact ⟨k + 1, by omega, by go_num, by trivial, HK'⟩
                  case measure => simp [intOf]; omega
              · obtain rfl : k = v.size := by omega
                obtain rfl : true = t := by rw [← HK.out]; exact HE.out.symm
                obtain rfl : r = 0 := by rw [HT.out]; rfl
                go_wp2_with fail
                go_ret
                exact ⟨rfl, hbel⟩
end Go.Proofs.Ytfgaabjpkmmpdaa.Pp
