/-
What is wrong with a property, as the program says it: the answer is the plain function's. Conditions: its parameters lie where the slice says, below the caller's blocks; at most 2^40 of them.
-/
import Derived.Test.YtccgpemcdbcjeaaDoorPpPVal
namespace Go.Proofs.YtccgpemcdbcjeaaDoor.Pp
open Go.RowKit

theorem vfE_good (v : ByteArray) : vfE v = if 2400 < v.size then 8 else if goodV v = false then 3 else 0 := by
  unfold vfE
  by_cases h : 2400 < v.size
  · rw [if_pos h, if_pos h]
  · rw [if_neg h, if_neg h]
    have e : (0 ≤ idxO v) ↔ goodV v = false := by
      unfold idxO goodV
      rw [List.all_eq_false]
      by_cases hf : v.data.toList.findIdx oddb < v.size
      · rw [if_pos hf]
        refine ⟨fun _ => ?_, fun _ => by omega⟩
        have hl : v.data.toList.findIdx oddb < v.data.toList.length := by rw [list_size]; exact hf
        exact ⟨_, List.getElem_mem hl, by rw [List.findIdx_getElem (w := hl)]; simp⟩
      · rw [if_neg hf]
        refine ⟨fun h => by omega, ?_⟩
        rintro ⟨x, hx, hn⟩
        exact absurd (List.findIdx_lt_length_of_exists ⟨x, hx, by simpa using hn⟩) (by rw [list_size]; exact hf)
    by_cases h0 : 0 ≤ idxO v
    · rw [if_pos h0, if_pos (e.1 h0)]
    · rw [if_neg h0, if_neg (fun h => h0 (e.2 h))]

set_option maxHeartbeats 2000000 in
theorem pCheck_any (g n : ByteArray) (pv : Value) (v : ByteArray) (aa : Option Addr) (m ac : Nat) (ps : List (ByteArray × ByteArray)) (w : World) (hps : Ps w w.heap.size pv ps) (hl : ps.length ≤ 1099511627776) (hv : v.size ≤ 9223372036854775807) :
    Calls Tryd.prog 21 #[prV g n pv v (.slice aa m ac)] w fun e w' => e = .returned (.int .i64 (chk g n ps v m)) ∧ Below w.heap.size w w' := by
  obtain ⟨pa, pc, rfl⟩ := hps.shape
  unfold prV
  have HB : Below w.heap.size w (w.alloc (.cells #[.string g, .string n, .slice pa ps.length pc, .string v, .slice aa m ac] 25)) := (Below.refl _ _).alloc (Nat.le_refl _) _
  have HP := (hps.below HB).up HB.size
  have HA : PrAt (w.alloc (.cells #[.string g, .string n, .slice pa ps.length pc, .string v, .slice aa m ac] 25)) w.heap.size g n (.slice pa ps.length pc) v (.slice aa m ac) := heap_alloc_new w _
  have CC := Lib.hid (containsFunc_any _ ps _ HP hl)
  have CV := Lib.hid (fun W => pFault_any v W hv)
  obtain ⟨r, hr⟩ : ∃ r, chk g n ps v m = r := ⟨_, rfl⟩
  rw [hr]
  unfold chk goodNames at hr
  rw [← vfE_good v] at hr
  have C1 := Lib.hid (fun W => pName_any g W)
  have C2 := Lib.hid (fun W => pName_any n W)
  generalize nameB g = x at C1 hr
  generalize nameB n = y at C2 hr
  generalize goodPs ps = q at CC hr
  generalize vfE v = ve at CV hr
  generalize vfA v = va at CV
  clear hps HP
  by_cases hz : g.size = 0
  · have hs0 := str_none hz
    cases y with
    | false =>
      obtain rfl : 14 = r := by rw [← hr]; simp [hz]
      clear hr
      go_enter Tryd.func21, Tryd.ntmps21
      go_wp2_with fail
      refine (C2.out _).mono ?_
      rintro e w' ⟨rfl, rfl⟩
      go_wp2_with fail
      go_ret
      exact ⟨rfl, HB⟩
    | true =>
      by_cases h6 : 6 < (ps.length : Int)
      · obtain rfl : 4 = r := by rw [← hr, if_neg (by simp [hz]), if_pos (by omega)]
        clear hr
        go_enter Tryd.func21, Tryd.ntmps21
        go_wp2_with fail
        refine (C2.out _).mono ?_
        rintro e w' ⟨rfl, rfl⟩
        go_wp2_with fail
        go_ret
        exact ⟨rfl, HB⟩
      rw [if_neg (by simp [hz]), if_neg (show ¬ 6 < ps.length by omega)] at hr
      cases q with
      | false =>
        obtain rfl : 3 = r := by rw [← hr]; rfl
        clear hr
        go_enter Tryd.func21, Tryd.ntmps21
        go_wp2_with fail
        refine (C2.out _).mono ?_
        rintro e w' ⟨rfl, rfl⟩
        go_wp2_with fail
        refine CC.out.mono ?_
        rintro e w2 ⟨rfl, b2⟩
        have HA2 := HA.below b2
        have B2 := HB.trans (b2.mono HB.size)
        have k4 := HA2.c4
        have k3 := HA2.c3
        go_wp2_with fail
        go_ret
        exact ⟨rfl, B2⟩
      | true =>
        rw [if_neg (by simp)] at hr
        by_cases hm : 0 < (m : Int)
        · obtain rfl : 5 = r := by rw [← hr, if_pos (by omega)]
          clear hr
          go_enter Tryd.func21, Tryd.ntmps21
          go_wp2_with fail
          refine (C2.out _).mono ?_
          rintro e w' ⟨rfl, rfl⟩
          go_wp2_with fail
          refine CC.out.mono ?_
          rintro e w2 ⟨rfl, b2⟩
          have HA2 := HA.below b2
          have B2 := HB.trans (b2.mono HB.size)
          have k4 := HA2.c4
          have k3 := HA2.c3
          go_wp2_with fail
          go_ret
          exact ⟨rfl, B2⟩
        rw [if_neg (show ¬ 0 < m by omega)] at hr
        subst hr
        go_enter Tryd.func21, Tryd.ntmps21
        go_wp2_with fail
        refine (C2.out _).mono ?_
        rintro e w' ⟨rfl, rfl⟩
        go_wp2_with fail
        refine CC.out.mono ?_
        rintro e w2 ⟨rfl, b2⟩
        have HA2 := HA.below b2
        have B2 := HB.trans (b2.mono HB.size)
        have k4 := HA2.c4
        have k3 := HA2.c3
        go_wp2_with fail
        refine (CV.out _).mono ?_
        rintro e w3 ⟨rfl, b3⟩
        go_wp2_with fail
        go_ret
        exact ⟨rfl, B2.trans (b3.mono B2.size)⟩
  have hs0 := str_some hz
  cases x with
  | false =>
    obtain rfl : 14 = r := by rw [← hr]; simp [hz]
    clear hr
    go_enter Tryd.func21, Tryd.ntmps21
    go_wp2_with fail
    refine (C1.out _).mono ?_
    rintro e w' ⟨rfl, rfl⟩
    go_wp2_with fail
    go_ret
    exact ⟨rfl, HB⟩
  | true =>
    cases y with
    | false =>
      obtain rfl : 14 = r := by rw [← hr]; simp [hz]
      clear hr
      go_enter Tryd.func21, Tryd.ntmps21
      go_wp2_with fail
      refine (C1.out _).mono ?_
      rintro e w' ⟨rfl, rfl⟩
      go_wp2_with fail
      refine (C2.out _).mono ?_
      rintro e w' ⟨rfl, rfl⟩
      go_wp2_with fail
      go_ret
      exact ⟨rfl, HB⟩
    | true =>
      by_cases h6 : 6 < (ps.length : Int)
      · obtain rfl : 4 = r := by rw [← hr, if_neg (by simp [hz]), if_pos (by omega)]
        clear hr
        go_enter Tryd.func21, Tryd.ntmps21
        go_wp2_with fail
        refine (C1.out _).mono ?_
        rintro e w' ⟨rfl, rfl⟩
        go_wp2_with fail
        refine (C2.out _).mono ?_
        rintro e w' ⟨rfl, rfl⟩
        go_wp2_with fail
        go_ret
        exact ⟨rfl, HB⟩
      rw [if_neg (by simp [hz]), if_neg (show ¬ 6 < ps.length by omega)] at hr
      cases q with
      | false =>
        obtain rfl : 3 = r := by rw [← hr]; rfl
        clear hr
        go_enter Tryd.func21, Tryd.ntmps21
        go_wp2_with fail
        refine (C1.out _).mono ?_
        rintro e w' ⟨rfl, rfl⟩
        go_wp2_with fail
        refine (C2.out _).mono ?_
        rintro e w' ⟨rfl, rfl⟩
        go_wp2_with fail
        refine CC.out.mono ?_
        rintro e w2 ⟨rfl, b2⟩
        have HA2 := HA.below b2
        have B2 := HB.trans (b2.mono HB.size)
        have k4 := HA2.c4
        have k3 := HA2.c3
        go_wp2_with fail
        go_ret
        exact ⟨rfl, B2⟩
      | true =>
        rw [if_neg (by simp)] at hr
        by_cases hm : 0 < (m : Int)
        · obtain rfl : 5 = r := by rw [← hr, if_pos (by omega)]
          clear hr
          go_enter Tryd.func21, Tryd.ntmps21
          go_wp2_with fail
          refine (C1.out _).mono ?_
          rintro e w' ⟨rfl, rfl⟩
          go_wp2_with fail
          refine (C2.out _).mono ?_
          rintro e w' ⟨rfl, rfl⟩
          go_wp2_with fail
          refine CC.out.mono ?_
          rintro e w2 ⟨rfl, b2⟩
          have HA2 := HA.below b2
          have B2 := HB.trans (b2.mono HB.size)
          have k4 := HA2.c4
          have k3 := HA2.c3
          go_wp2_with fail
          go_ret
          exact ⟨rfl, B2⟩
        rw [if_neg (show ¬ 0 < m by omega)] at hr
        subst hr
        go_enter Tryd.func21, Tryd.ntmps21
        go_wp2_with fail
        refine (C1.out _).mono ?_
        rintro e w' ⟨rfl, rfl⟩
        go_wp2_with fail
        refine (C2.out _).mono ?_
        rintro e w' ⟨rfl, rfl⟩
        go_wp2_with fail
        refine CC.out.mono ?_
        rintro e w2 ⟨rfl, b2⟩
        have HA2 := HA.below b2
        have B2 := HB.trans (b2.mono HB.size)
        have k4 := HA2.c4
        have k3 := HA2.c3
        go_wp2_with fail
        refine (CV.out _).mono ?_
        rintro e w3 ⟨rfl, b3⟩
        go_wp2_with fail
        go_ret
        exact ⟨rfl, B2.trans (b3.mono B2.size)⟩
end Go.Proofs.YtccgpemcdbcjeaaDoor.Pp
