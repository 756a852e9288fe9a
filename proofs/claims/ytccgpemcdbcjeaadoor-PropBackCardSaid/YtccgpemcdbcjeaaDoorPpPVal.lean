/-
The program's questions about parameters' values, parameters and a property's value: the answers are the plain functions'. Conditions: a property's value has at most 2^31 bytes.
-/
import Derived.Test.YtccgpemcdbcjeaaDoorPpPName
import Derived.Test.YtccgpemcdbcjeaaDoorPpIdx
import Derived.Test.YtccgpemcdbcjeaaDoorPpChk
namespace Go.Proofs.YtccgpemcdbcjeaaDoor.Pp
open Go.RowKit

/-- The bytes by which a line is parted. -/
def part3 : ByteArray := ⟨#[59, 61, 58]⟩
theorem part3_has (x : UInt8) : decide (0 ≤ Lib.indexByte part3.data.toList x) = decide ((x.toNat : Int) = 59 ∨ (x.toNat : Int) = 61 ∨ (x.toNat : Int) = 58) := by
  rw [← Lib.contains_iff_indexByte]
  unfold part3
  rw [Bool.eq_iff_iff]
  simp only [List.contains_cons, List.contains_nil, Bool.or_false, Bool.or_eq_true, beq_iff_eq, decide_eq_true_eq]
  have e : ∀ c : UInt8, x = c ↔ (x.toNat : Int) = (c.toNat : Int) := fun c => ⟨fun h => by rw [h], fun h => UInt8.toNat_inj.1 (by omega)⟩
  rw [e 59, e 61, e 58]
  rfl

set_option maxHeartbeats 1600000 in
theorem pVal_any (s : ByteArray) (w : World) :
    Calls Tryd.prog 42 #[.string s] w fun e w' => e = .returned (.bool (valB s)) ∧ w = w' := by
  by_cases hz : s.size = 0
  · rw [valB_none hz]
    have hs0 := str_none hz
    go_enter Tryd.func42, Tryd.ntmps42
    go_wp2_with fail
    go_ret
    exact ⟨rfl, rfl⟩
  have hs0 := str_some hz
  by_cases hl : 32 < (s.size : Int)
  · rw [valB_long (by omega)]
    go_enter Tryd.func42, Tryd.ntmps42
    go_wp2_with fail
    go_ret
    exact ⟨rfl, rfl⟩
  rw [valB_some (by omega) (by omega)]
  obtain ⟨r, hr⟩ : ∃ r, s.data.toList.all valc = r := ⟨_, rfl⟩
  rw [hr]
  have HE := Lib.hid (all_end (P := valc) (s := s))
  have CI := Lib.hid (fun c W => ixb_any part3 c W)
  have HP := Lib.hid part3_has
  unfold part3 at CI HP
  go_enter Tryd.func42, Tryd.ntmps42
  go_wp2_with fail
  go_loop [13] (fun iv => ∃ k : Nat, iv = .int .i64 k ∧ k ≤ s.size ∧ Hid ((s.data.toList.drop k).all valc = r)) (fun iv => s.size - (intOf iv).toNat)
  case atStart => exact ⟨0, rfl, Nat.zero_le _, Lib.hid (by rw [List.drop_zero]; exact hr)⟩
  case round =>
    obtain ⟨k, rfl, hk, HK⟩ := hrel
    clear hr
    by_cases hlt : k < s.size
    · have HN := Lib.hid (all_no (P := valc) hlt)
      have HY := Lib.hid (all_yes (P := valc) hlt)
      have C := Lib.hid (fun W => CI.out s[k] W)
      have hp := HP.out s[k]
      obtain ⟨c, hc⟩ : ∃ c : UInt8, s[k] = c := ⟨_, rfl⟩
      have hb := c.toNat_lt
      rw [hc] at HN HY C hp
      generalize Lib.indexByte _ c = z at C hp
      by_cases h1 : (c.toNat : Int) ≤ 32
      · obtain rfl : false = r := by rw [← HK.out]; exact (HN.out (by unfold valc; rw [decide_eq_false (by omega)])).symm
        clear hp
        go_wp2_with fail
        go_ret
        exact ⟨rfl, rfl⟩
      by_cases h2 : 126 < (c.toNat : Int)
      · obtain rfl : false = r := by rw [← HK.out]; exact (HN.out (by unfold valc; rw [decide_eq_false (by omega)])).symm
        clear hp
        go_wp2_with fail
        go_ret
        exact ⟨rfl, rfl⟩
      by_cases h3 : 0 ≤ z
      · rw [decide_eq_true h3] at hp
        have hp' := of_decide_eq_true hp.symm
        obtain rfl : false = r := by rw [← HK.out]; exact (HN.out (by unfold valc; rw [decide_eq_false (by omega)])).symm
        clear hp hp'
        go_wp2_with fail
        refine (C.out _).mono ?_
        rintro e w' ⟨rfl, rfl⟩
        go_wp2_with fail
        go_ret
        exact ⟨rfl, rfl⟩
      · rw [decide_eq_false h3] at hp
        have hp' := of_decide_eq_false hp.symm
        have HK' := Lib.hid ((HY.out (by unfold valc; rw [decide_eq_true (by omega)])).symm.trans HK.out)
        clear hp hp'
        go_wp2_with fail
        refine (C.out _).mono ?_
        rintro e w' ⟨rfl, rfl⟩
        go_wp2_with fail
        go_round
        case rel => exact ⟨k + 1, by go_num, by omega, HK'⟩
        case measure => simp [intOf]; omega
    · obtain rfl : k = s.size := by omega
      obtain rfl : true = r := by rw [← HK.out]; exact HE.out.symm
      go_wp2_with fail
      go_ret
      exact ⟨rfl, rfl⟩

set_option maxHeartbeats 400000 in
theorem noParam_any (n v : ByteArray) (w : World) :
    Calls Tryd.prog 30 #[.agg #[.string n, .string v]] w fun e w' => e = .returned (.bool (!paramB n v)) ∧ Below w.heap.size w w' := by
  have C1 := Lib.hid (fun W => pName_any n W)
  have C2 := Lib.hid (fun W => pVal_any v W)
  unfold paramB
  generalize nameB n = p at C1 ⊢
  generalize valB v = q at C2 ⊢
  by_cases hz : n.size = 0
  · have hs0 := str_none hz
    rw [decide_eq_true hz, Bool.true_or, Bool.true_and]
    go_enter Tryd.func30, Tryd.ntmps30
    go_wp2_with fail
    refine (C2.out _).mono ?_
    rintro e w' ⟨rfl, rfl⟩
    go_wp2_with fail
    go_ret
    exact ⟨rfl, (Below.refl _ _).alloc (Nat.le_refl _) _⟩
  · have hs0 := str_some hz
    rw [decide_eq_false hz, Bool.false_or]
    cases p with
    | false =>
      go_enter Tryd.func30, Tryd.ntmps30
      go_wp2_with fail
      refine (C1.out _).mono ?_
      rintro e w' ⟨rfl, rfl⟩
      go_wp2_with fail
      go_ret
      exact ⟨rfl, (Below.refl _ _).alloc (Nat.le_refl _) _⟩
    | true =>
      go_enter Tryd.func30, Tryd.ntmps30
      go_wp2_with fail
      refine (C1.out _).mono ?_
      rintro e w' ⟨rfl, rfl⟩
      go_wp2_with fail
      refine (C2.out _).mono ?_
      rintro e w' ⟨rfl, rfl⟩
      go_wp2_with fail
      go_ret
      exact ⟨rfl, (Below.refl _ _).alloc (Nat.le_refl _) _⟩

/-- What is wrong with a value: its place, and the number of the error. -/
def vfA (v : ByteArray) : Int := if 2400 < v.size then 0 else if 0 ≤ idxO v then idxO v else 0
def vfE (v : ByteArray) : Int := if 2400 < v.size then 8 else if 0 ≤ idxO v then 3 else 0
set_option maxHeartbeats 400000 in
theorem pFault_any (v : ByteArray) (w : World) (hv : v.size ≤ 9223372036854775807) :
    Calls Tryd.prog 15 #[.string v] w fun e w' => e = .returned (.tuple #[.int .i64 (vfA v), .int .i64 (vfE v)]) ∧ Below w.heap.size w w' := by
  by_cases h1 : 2400 < (v.size : Int)
  · rw [vfA, vfE, if_pos (by omega), if_pos (by omega)]
    go_enter Tryd.func15, Tryd.ntmps15
    go_wp2_with fail
    go_ret2
    exact ⟨rfl, Below.refl _ _⟩
  · rw [vfA, vfE, if_neg (show ¬ 2400 < v.size by omega), if_neg (show ¬ 2400 < v.size by omega)]
    have C := Lib.hid (fun W => idxAny_any v W (by omega))
    unfold odd3 at C
    generalize idxO v = z at C ⊢
    by_cases h2 : 0 ≤ z
    · rw [if_pos h2, if_pos h2]
      go_enter Tryd.func15, Tryd.ntmps15
      go_wp2_with fail
      refine (C.out _).mono ?_
      rintro e w' ⟨rfl, b1⟩
      go_wp2_with fail
      go_ret2
      exact ⟨rfl, b1⟩
    · rw [if_neg h2, if_neg h2]
      go_enter Tryd.func15, Tryd.ntmps15
      go_wp2_with fail
      refine (C.out _).mono ?_
      rintro e w' ⟨rfl, b1⟩
      go_wp2_with fail
      go_ret2
      exact ⟨rfl, b1⟩

set_option maxHeartbeats 800000 in
/-- No parameter is right, from place k on: the first that is not, or -1. -/
theorem indexFunc_any (pv : Value) (ps : List (ByteArray × ByteArray)) (w : World) (hps : Ps w w.heap.size pv ps) (hl : ps.length ≤ 1099511627776) :
    Calls Tryd.prog 41 #[pv, .func (.func 30) #[] #[]] w fun e w' => (∃ i : Int, e = .returned (.int .i64 i) ∧ decide (0 ≤ i) = !goodPs ps) ∧ Below w.heap.size w w' := by
  obtain ⟨pa, pc, rfl⟩ := hps.shape
  unfold goodPs
  obtain ⟨r, hr⟩ : ∃ r, (ps.all fun p => paramB p.1 p.2) = r := ⟨_, rfl⟩
  rw [hr]
  have CN := Lib.hid (fun n v W => noParam_any n v W)
  go_enter Tryd.func41, Tryd.ntmps41
  go_wp2_with fail
  go_loopw [8] (fun iv wr => ∃ k : Nat, k ≤ ps.length ∧ iv = .int .i64 k ∧ Below w.heap.size w wr ∧ Hid ((ps.drop k).all (fun p => paramB p.1 p.2) = r)) (fun iv _ => ps.length - (intOf iv).toNat)
  case atStart => exact ⟨0, Nat.zero_le _, rfl, Below.refl _ _, Lib.hid hr⟩
  case round =>
    obtain ⟨k, hk, rfl, hbel, HK⟩ := hrel
    clear hr
    by_cases hlt : k < ps.length
    · obtain ⟨b, o, cap, hv1, hbB, hc0, hc1⟩ := (hps.below hbel).at_ hlt
      simp only [Value.slice.injEq, true_and] at hv1
      obtain ⟨rfl, rfl⟩ := hv1
      have HN := Lib.hid (ps_no (P := fun p => paramB p.1 p.2) hlt)
      have HY := Lib.hid (ps_yes (P := fun p => paramB p.1 p.2) hlt)
      generalize ps[k] = x at hc0 hc1 HN HY
      obtain ⟨n', v'⟩ := x
      simp only at HN HY hc0 hc1
      have C := Lib.hid (fun W => CN.out n' v' W)
      cases hp : paramB n' v' <;> rw [hp] at C
      · obtain rfl : false = r := by rw [← HK.out]; exact (HN.out hp).symm
        go_wp2_with fail
        refine (C.out _).mono ?_
        rintro e w2 ⟨rfl, b2⟩
        go_wp2_with fail
        go_ret
        exact ⟨⟨_, rfl, by simp⟩, hbel.trans (b2.mono hbel.size)⟩
      · have HK' := Lib.hid ((HY.out hp).symm.trans HK.out)
        go_wp2_with fail
        refine (C.out _).mono ?_
        rintro e w2 ⟨rfl, b2⟩
        go_wp2_with fail
        go_roundw
        case rel => exact ⟨k + 1, by omega, by go_num, hbel.trans (b2.mono hbel.size), HK'⟩
        case measure => simp [intOf]; omega
    · obtain rfl : k = ps.length := by omega
      obtain rfl : true = r := by rw [← HK.out, List.drop_length]; rfl
      go_wp2_with fail
      go_ret
      exact ⟨⟨_, rfl, by simp⟩, hbel⟩
set_option maxHeartbeats 400000 in
theorem containsFunc_any (pv : Value) (ps : List (ByteArray × ByteArray)) (w : World) (hps : Ps w w.heap.size pv ps) (hl : ps.length ≤ 1099511627776) :
    Calls Tryd.prog 29 #[pv, .func (.func 30) #[] #[]] w fun e w' => e = .returned (.bool (!goodPs ps)) ∧ Below w.heap.size w w' := by
  have C := Lib.hid (indexFunc_any pv ps w hps hl)
  obtain ⟨pa, pc, rfl⟩ := hps.shape
  go_enter Tryd.func29, Tryd.ntmps29
  go_wp2_with fail
  refine C.out.mono ?_
  rintro e w2 ⟨⟨i, rfl, hi⟩, b2⟩
  have HI := Lib.hid hi
  clear hi
  go_wp2_with fail
  go_ret
  exact ⟨ret_bool HI.out, b2⟩
end Go.Proofs.YtccgpemcdbcjeaaDoor.Pp
