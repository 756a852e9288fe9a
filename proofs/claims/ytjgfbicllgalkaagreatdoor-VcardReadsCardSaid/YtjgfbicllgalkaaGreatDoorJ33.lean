/-
A property's line read, by the document: the answer is the plain function's. Conditions: the line has at most 2^40 bytes.
-/
import Derived.Test.YtjgfbicllgalkaaGreatDoorJ20
import Derived.Deep.CutBlock
import Derived.Deep.CutRange
import Derived.Deep.DeepCutAuto
import Derived.Deep.RegionHeld3
namespace Go.Proofs.YtjgfbicllgalkaaGreatDoor.Pp
open Go.RowKit

set_option maxHeartbeats 4000000 in
set_option maxRecDepth 100000 in
theorem rParse_any (s : ByteArray) (w : World) (hs : s.size ≤ 1099511627776) :
    Calls Tryz.prog 144 #[.string s] w fun e w' => Told w (parse s) e w' := by
  have CF := Lib.hid (fun a z c W h1 h2 => rFind_any s a z c W h1 h2 hs)
  have CU := Lib.hid (fun (t : ByteArray) W (h : t.size ≤ 140737488355328) => rUpper_any t W h)
  have CN := Lib.hid (fun t W => rName_any t W)
  obtain ⟨i0, hi, hz0, hz1, hz2⟩ := info_parts infoP
  obtain ⟨R, hR⟩ : ∃ R, parse s = R := ⟨_, rfl⟩
  rw [hR]
  have HR := Lib.hid hR
  clear hR
  have C0 := Lib.hid (fun W => CF.out 0 s.size 58 W (Nat.le_refl _) (Nat.zero_le _))
  have hz := find_le (s := s) (a := 0) (z := s.size) (c := 58) (Nat.le_refl _) (Nat.zero_le _)
  have HP : Hid (parse s = if find s 0 s.size 58 = s.size then errP s.size 1 else groupP s (find s 0 s.size 58)) := Lib.hid rfl
  change Hid (∀ W, Calls Tryz.prog 207 #[.string s, .int .i64 0, .int .i64 s.size, .int .u8 58] W fun e w' => e = .returned (.int .i64 (find s 0 s.size 58 : Nat)) ∧ W = w') at C0
  generalize find s 0 s.size 58 = z at C0 hz HP
  by_cases hzz : z = s.size
  · obtain rfl : R = errP s.size 1 := by rw [← HR.out, HP.out, if_pos hzz]
    have hzz' : ((z : Int) == (s.size : Int)) = true := by rw [beq_iff_eq]; omega
    have b1 : Below w.heap.size w (w.alloc (.cells #[.string ⟨#[]⟩, .string ⟨#[]⟩, .slice none 0 0, .string ⟨#[]⟩, .slice none 0 0] 56)) := (Below.refl _ _).alloc (Nat.le_refl _) _
    have hR1 : PrAt (w.alloc (.cells #[.string ⟨#[]⟩, .string ⟨#[]⟩, .slice none 0 0, .string ⟨#[]⟩, .slice none 0 0] 56)) w.heap.size ⟨#[]⟩ ⟨#[]⟩ (.slice none 0 0) ⟨#[]⟩ (.slice none 0 0) := heap_alloc_new w _
    have q0 := hR1.c0
    have q1 := hR1.c1
    have q2 := hR1.c2
    have q3 := hR1.c3
    have q4 := hR1.c4
    go_enter Tryz.func144, Tryz.ntmps144
    go_wp2_with fail
    refine (C0.out _).mono ?_
    rintro e w' ⟨rfl, rfl⟩
    go_wp2_with fail
    exact bodyPost_ret (v := .tuple #[.agg #[.string ⟨#[]⟩, .string ⟨#[]⟩, .slice none 0 0, .string ⟨#[]⟩, .slice none 0 0], .int .i64 (s.size : Int), .int .i64 1]) (by simp [results, Tryz.results144, go_sem, q0, q1, q2, q3, q4]) rfl (told_err b1)
  · have HG := Lib.hid (show groupP s z = R by rw [← HR.out, HP.out, if_neg hzz])
    clear HR HP
    have hzz' : ((z : Int) == (s.size : Int)) = false := by rw [beq_eq_false_iff_ne]; omega
    have CS := Lib.hid (fun W => CF.out 0 z 59 W hz (Nat.zero_le _))
    have hst := find_le (s := s) (a := 0) (z := z) (c := 59) hz (Nat.zero_le _)
    change Hid (∀ W, Calls Tryz.prog 207 #[.string s, .int .i64 0, .int .i64 z, .int .u8 59] W fun e w' => e = .returned (.int .i64 (find s 0 z 59 : Nat)) ∧ W = w') at CS
    obtain ⟨stop, hstop⟩ : ∃ stop, find s 0 z 59 = stop := ⟨_, rfl⟩
    rw [hstop] at CS hst
    have CD := Lib.hid (fun W => CF.out 0 stop 46 W (by omega) (Nat.zero_le _))
    have hdt := find_le (s := s) (a := 0) (z := stop) (c := 46) (by omega) (Nat.zero_le _)
    change Hid (∀ W, Calls Tryz.prog 207 #[.string s, .int .i64 0, .int .i64 stop, .int .u8 46] W fun e w' => e = .returned (.int .i64 (find s 0 stop 46 : Nat)) ∧ W = w') at CD
    obtain ⟨dot, hdot⟩ : ∃ dot, find s 0 stop 46 = dot := ⟨_, rfl⟩
    rw [hdot] at CD hdt
    have HG2 : Hid ((if dot < stop then (if nameB (upB (s.extract 0 dot)) = false then errP 0 14 else nameP s z stop (upB (s.extract 0 dot)) (dot + 1)) else nameP s z stop ⟨#[]⟩ 0) = R) := Lib.hid (by rw [← HG.out]; unfold groupP; simp only [hstop, hdot])
    clear HG hstop hdot
    go_enter Tryz.func144, Tryz.ntmps144
    go_wp2_with fail
    refine (C0.out _).mono ?_
    rintro e w' ⟨rfl, rfl⟩
    go_wp2_with fail
    refine (CS.out _).mono ?_
    rintro e w' ⟨rfl, rfl⟩
    go_wp2_with fail
    refine (CD.out _).mono ?_
    rintro e w' ⟨rfl, rfl⟩
    go_upto_if 32 with fail
    have z1 : (w.alloc (.cells #[.string ⟨#[]⟩, .string ⟨#[]⟩, .slice none 0 0, .string ⟨#[]⟩, .slice none 0 0] 56)).heap.size = w.heap.size + 1 := by rw [World.size_alloc]
    have z2 : ((w.alloc (.cells #[.string ⟨#[]⟩, .string ⟨#[]⟩, .slice none 0 0, .string ⟨#[]⟩, .slice none 0 0] 56)).alloc (.cells #[.string ⟨#[]⟩, .string ⟨#[]⟩, .slice none 0 0, .string ⟨#[]⟩, .slice none 0 0] 56)).heap.size = w.heap.size + 1 + 1 := by rw [World.size_alloc, z1]
    have b1 : Below w.heap.size w (w.alloc (.cells #[.string ⟨#[]⟩, .string ⟨#[]⟩, .slice none 0 0, .string ⟨#[]⟩, .slice none 0 0] 56)) := (Below.refl _ _).alloc (Nat.le_refl _) _
    have b2 : Below (w.heap.size + 1) (w.alloc (.cells #[.string ⟨#[]⟩, .string ⟨#[]⟩, .slice none 0 0, .string ⟨#[]⟩, .slice none 0 0] 56)) ((w.alloc (.cells #[.string ⟨#[]⟩, .string ⟨#[]⟩, .slice none 0 0, .string ⟨#[]⟩, .slice none 0 0] 56)).alloc (.cells #[.string ⟨#[]⟩, .string ⟨#[]⟩, .slice none 0 0, .string ⟨#[]⟩, .slice none 0 0] 56)) := (Below.refl _ _).alloc (Nat.le_of_eq z1.symm) _
    have hR1 : PrAt (w.alloc (.cells #[.string ⟨#[]⟩, .string ⟨#[]⟩, .slice none 0 0, .string ⟨#[]⟩, .slice none 0 0] 56)) w.heap.size ⟨#[]⟩ ⟨#[]⟩ (.slice none 0 0) ⟨#[]⟩ (.slice none 0 0) := heap_alloc_new w _
    have hP1 : PrAt ((w.alloc (.cells #[.string ⟨#[]⟩, .string ⟨#[]⟩, .slice none 0 0, .string ⟨#[]⟩, .slice none 0 0] 56)).alloc (.cells #[.string ⟨#[]⟩, .string ⟨#[]⟩, .slice none 0 0, .string ⟨#[]⟩, .slice none 0 0] 56)) (w.heap.size + 1) ⟨#[]⟩ ⟨#[]⟩ (.slice none 0 0) ⟨#[]⟩ (.slice none 0 0) := by
      have h := heap_alloc_new (w.alloc (.cells #[.string ⟨#[]⟩, .string ⟨#[]⟩, .slice none 0 0, .string ⟨#[]⟩, .slice none 0 0] 56)) (.cells #[.string ⟨#[]⟩, .string ⟨#[]⟩, .slice none 0 0, .string ⟨#[]⟩, .slice none 0 0] 56)
      rw [z1] at h; exact h
    have hS : St w ((w.alloc (.cells #[.string ⟨#[]⟩, .string ⟨#[]⟩, .slice none 0 0, .string ⟨#[]⟩, .slice none 0 0] 56)).alloc (.cells #[.string ⟨#[]⟩, .string ⟨#[]⟩, .slice none 0 0, .string ⟨#[]⟩, .slice none 0 0] 56)) ⟨#[]⟩ ⟨#[]⟩ (.slice none 0 0) ⟨#[]⟩ := ⟨hP1, hR1.below (b2.mono (Nat.le_of_eq z1)), Nat.le_of_eq z2.symm, b1.trans (b2.mono (by omega))⟩
    clear hP1 hR1 b1 b2 z1 z2
    generalize ((w.alloc (.cells #[.string ⟨#[]⟩, .string ⟨#[]⟩, .slice none 0 0, .string ⟨#[]⟩, .slice none 0 0] 56)).alloc (.cells #[.string ⟨#[]⟩, .string ⟨#[]⟩, .slice none 0 0, .string ⟨#[]⟩, .slice none 0 0] 56)) = wr at hS ⊢
    go_cut [7] from 30 to 44 (fun av wx => ∃ (a : Nat) (g : ByteArray), av = .int .i64 a ∧ a ≤ stop ∧ St w wx g ⟨#[]⟩ (.slice none 0 0) ⟨#[]⟩ ∧ Hid (nameP s z stop g a = R))
    case first =>
      by_cases hd : dot < stop
      · obtain ⟨x, hx⟩ : ∃ x, upB (s.extract 0 dot) = x := ⟨_, rfl⟩
        have HX : Hid ((if nameB x = false then errP 0 14 else nameP s z stop x (dot + 1)) = R) := Lib.hid (by rw [← HG2.out, if_pos hd, hx])
        have CU1 := Lib.hid (fun W => CU.out (s.extract 0 dot) W (by rw [ByteArray.size_extract]; omega))
        have CN1 := Lib.hid (fun W => CN.out x W)
        change Hid (∀ W, Calls Tryz.prog 208 #[.string (s.extract 0 dot)] W fun e w' => e = .returned (.string (upB (s.extract 0 dot))) ∧ Below W.heap.size W w') at CU1
        rw [hx] at CU1
        generalize nameB x = y at CN1 HX
        go_wp2_with fail
        refine (CU1.out _).mono ?_
        rintro e w1 ⟨rfl, b1⟩
        have hS1 := hS.below b1
        have p0 := hS1.p.c0
        have f0 := hS1.p.f 0
        have hS2 := hS1.set0 x
        have k0 := hS2.p.c0
        go_wp2_with fail
        refine (CN1.out _).mono ?_
        rintro e w' ⟨rfl, rfl⟩
        cases y with
        | false =>
          obtain rfl : R = errP 0 14 := by rw [← HX.out]; rfl
          have q0 := hS2.r.c0
          have s0 := hS2.r.f 0
          have q1 := hS2.r.c1
          have s1 := hS2.r.f 1
          have q2 := hS2.r.c2
          have s2 := hS2.r.f 2
          have q3 := hS2.r.c3
          have s3 := hS2.r.f 3
          have q4 := hS2.r.c4
          have s4 := hS2.r.f 4
          go_wp2_with fail
          exact bodyPost_ret (v := .tuple #[.agg #[.string ⟨#[]⟩, .string ⟨#[]⟩, .slice none 0 0, .string ⟨#[]⟩, .slice none 0 0], .int .i64 0, .int .i64 14]) (by simp [results, Tryz.results144, go_sem, q0, q1, q2, q3, q4]) rfl (told_err (((((hS2.bel.setCell (Nat.le_refl _) _).setCell (Nat.le_refl _) _).setCell (Nat.le_refl _) _).setCell (Nat.le_refl _) _).setCell (Nat.le_refl _) _))
        | true =>
          go_wp2_with fail
          go_meet
          case rel => exact ⟨dot + 1, x, by go_num, by omega, hS2, Lib.hid (by rw [← HX.out]; rfl)⟩
      · have HX : Hid (nameP s z stop ⟨#[]⟩ 0 = R) := Lib.hid (by rw [← HG2.out, if_neg hd])
        go_wp2_with fail
        go_meet
        case rel => exact ⟨0, ⟨#[]⟩, by go_num, by omega, hS, HX⟩
    case rest =>
      obtain ⟨a, g, rfl, ha, hS3, HN⟩ := hcut
      clear hS HG2
      obtain ⟨x, hx⟩ : ∃ x, upB (s.extract a stop) = x := ⟨_, rfl⟩
      have HX : Hid ((if nameB x = false then errP a 14 else parsP s z g x stop []) = R) := Lib.hid (by rw [← HN.out]; unfold nameP; rw [hx])
      have CU1 := Lib.hid (fun W => CU.out (s.extract a stop) W (by rw [ByteArray.size_extract]; omega))
      have CN1 := Lib.hid (fun W => CN.out x W)
      change Hid (∀ W, Calls Tryz.prog 208 #[.string (s.extract a stop)] W fun e w' => e = .returned (.string (upB (s.extract a stop))) ∧ Below W.heap.size W w') at CU1
      rw [hx] at CU1
      clear hx HN
      have hss : stop ≤ s.size := by omega
      generalize nameB x = y at CN1 HX
      go_wp2_with fail
      refine (CU1.out _).mono ?_
      rintro e w1 ⟨rfl, b1⟩
      have hS4 := hS3.below b1
      have p1 := hS4.p.c1
      have f1 := hS4.p.f 1
      have hS5 := hS4.set1 x
      have k1 := hS5.p.c1
      go_wp2_with fail
      refine (CN1.out _).mono ?_
      rintro e w' ⟨rfl, rfl⟩
      cases y with
      | false =>
        obtain rfl : R = errP a 14 := by rw [← HX.out]; rfl
        have q0 := hS5.r.c0
        have s0 := hS5.r.f 0
        have q1 := hS5.r.c1
        have s1 := hS5.r.f 1
        have q2 := hS5.r.c2
        have s2 := hS5.r.f 2
        have q3 := hS5.r.c3
        have s3 := hS5.r.f 3
        have q4 := hS5.r.c4
        have s4 := hS5.r.f 4
        go_wp2_with fail
        exact bodyPost_ret (v := .tuple #[.agg #[.string ⟨#[]⟩, .string ⟨#[]⟩, .slice none 0 0, .string ⟨#[]⟩, .slice none 0 0], .int .i64 a, .int .i64 14]) (by simp [results, Tryz.results144, go_sem, q0, q1, q2, q3, q4]) rfl (told_err (((((hS5.bel.setCell (Nat.le_refl _) _).setCell (Nat.le_refl _) _).setCell (Nat.le_refl _) _).setCell (Nat.le_refl _) _).setCell (Nat.le_refl _) _))
      | true =>
        have HL : Hid (parsP s z g x stop [] = R) := Lib.hid (by rw [← HX.out]; rfl)
        generalize w1.setCell ⟨w.heap.size + 1, 1, none⟩ (.string x) = wr5 at hS5 k1 ⊢
        clear hS3 hS4 p1 f1 b1 HX CU1 CN1
        go_wp2_with fail
        go_loopw [7, 8] (fun av sv wr => ∃ (a t : Nat) (ps : List (ByteArray × ByteArray)) (pv : Value), av = .int .i64 a ∧ sv = .int .i64 t ∧ t ≤ z ∧ Own wr (w.heap.size + 1 + 1) pv ps ∧ ps.length ≤ 6 ∧ St w wr g x pv ⟨#[]⟩ ∧ Hid (parsP s z g x t ps = R)) (fun _ sv _ => z - (intOf sv).toNat)
        case atStart => exact ⟨a, stop, [], _, rfl, rfl, hst, Own.nil _ _, Nat.zero_le _, hS5, HL⟩
        case round =>
          obtain ⟨a, t, ps, pv, rfl, rfl, htz, hown, h6, hS6, HK⟩ := hrel
          clear hS5 k1 HL
          by_cases htl : t < z
          · obtain ⟨t', ht'⟩ : ∃ t', find s (t + 1) z 59 = t' := ⟨_, rfl⟩
            have l1 : t' ≤ z := by rw [← ht']; exact find_le (by omega) (by omega)
            have l2 : t + 1 ≤ t' := by rw [← ht']; exact find_ge
            obtain ⟨q, hq⟩ : ∃ q, find s (t + 1) t' 61 = q := ⟨_, rfl⟩
            have l3 : q ≤ t' := by rw [← hq]; exact find_le (by omega) (by omega)
            have l4 : t + 1 ≤ q := by rw [← hq]; exact find_ge
            have HE : Hid ((if ps.length = 6 then errP (t + 1) 4 else if paramB (parOf s (t + 1) t' q).1 (parOf s (t + 1) t' q).2 = false ∨ q = t + 1 then errP (t + 1) 3 else parsP s z g x t' (ps ++ [parOf s (t + 1) t' q])) = R) := Lib.hid (by have h := HK.out; rw [parsP, dif_pos htl] at h; simp only [ht', hq] at h; exact h)
            have CF1 : Hid (∀ W, Calls Tryz.prog 207 #[.string s, .int .i64 ((t : Int) + 1), .int .i64 z, .int .u8 59] W fun e w' => e = .returned (.int .i64 (t' : Nat)) ∧ W = w') := Lib.hid (fun W => by rw [← ht']; exact CF.out (t + 1) z 59 W (by omega) (by omega))
            have CF2 : Hid (∀ W, Calls Tryz.prog 207 #[.string s, .int .i64 ((t : Int) + 1), .int .i64 t', .int .u8 61] W fun e w' => e = .returned (.int .i64 (q : Nat)) ∧ W = w') := Lib.hid (fun W => by rw [← hq]; exact CF.out (t + 1) t' 61 W (by omega) (by omega))
            have CU2 : Hid (∀ W, Calls Tryz.prog 208 #[.string (s.extract (t + 1) t')] W fun e w' => e = .returned (.string (upB (s.extract (t + 1) t'))) ∧ Below W.heap.size W w') := Lib.hid (fun W => CU.out _ W (by rw [ByteArray.size_extract]; omega))
            have CU3 : Hid (∀ W, Calls Tryz.prog 208 #[.string (s.extract (t + 1) q)] W fun e w' => e = .returned (.string (upB (s.extract (t + 1) q))) ∧ Below W.heap.size W w') := Lib.hid (fun W => CU.out _ W (by rw [ByteArray.size_extract]; omega))
            obtain ⟨u2, hu2⟩ : ∃ u2, upB (s.extract (t + 1) t') = u2 := ⟨_, rfl⟩
            rw [hu2] at CU2
            obtain ⟨a1, c1, rfl⟩ := shapeP hown
            have k2 := hS6.p.c2
            have htn : ((t : Int) + 1).toNat = t + 1 := by omega
            have hqn : ((q : Int) + 1).toNat = q + 1 := by omega
            have l5 : t' ≤ s.size := by omega
            have hsl1 : ∀ W : World, (Instr.slice 9 (.string s) (some (.int .i64 ((t : Int) + 1))) (some (.int .i64 (t' : Int))) none).run Tryz.prog W = .ok (.string (s.extract (t + 1) t')) W := fun W => slice_any s (t + 1) t' W l2 l5
            have hsl2 : ∀ W : World, (Instr.slice 9 (.string s) (some (.int .i64 ((t : Int) + 1))) (some (.int .i64 (q : Int))) none).run Tryz.prog W = .ok (.string (s.extract (t + 1) q)) W := fun W => slice_any s (t + 1) q W l4 (by omega)
            clear ht' hq HK
            by_cases h66 : ps.length = 6
            · obtain rfl : R = errP (t + 1) 4 := by rw [← HE.out, if_pos h66]
              have e6 : ((ps.length : Int) == 6) = true := by rw [beq_iff_eq]; omega
              go_wp2_with fail
              refine (CF1.out _).mono ?_
              rintro e w' ⟨rfl, rfl⟩
              have q0 := hS6.r.c0
              have s0 := hS6.r.f 0
              have q1 := hS6.r.c1
              have s1 := hS6.r.f 1
              have q2 := hS6.r.c2
              have s2 := hS6.r.f 2
              have q3 := hS6.r.c3
              have s3 := hS6.r.f 3
              have q4 := hS6.r.c4
              have s4 := hS6.r.f 4
              go_wp2_with fail
              exact bodyPost_ret (v := .tuple #[.agg #[.string ⟨#[]⟩, .string ⟨#[]⟩, .slice none 0 0, .string ⟨#[]⟩, .slice none 0 0], .int .i64 ((t + 1 : Nat) : Int), .int .i64 4]) (by simp [results, Tryz.results144, go_sem, q0, q1, q2, q3, q4]) rfl (told_err (((((hS6.bel.setCell (Nat.le_refl _) _).setCell (Nat.le_refl _) _).setCell (Nat.le_refl _) _).setCell (Nat.le_refl _) _).setCell (Nat.le_refl _) _))
            have e6 : ((ps.length : Int) == 6) = false := by rw [beq_eq_false_iff_ne]; omega
            have HE2 : Hid ((if paramB (parOf s (t + 1) t' q).1 (parOf s (t + 1) t' q).2 = false ∨ q = t + 1 then errP (t + 1) 3 else parsP s z g x t' (ps ++ [parOf s (t + 1) t' q])) = R) := Lib.hid (by rw [← HE.out, if_neg h66])
            clear HE
            go_wp2_with fail
            refine (CF1.out _).mono ?_
            rintro e w' ⟨rfl, rfl⟩
            go_wp2_with fail
            refine (CU2.out _).mono ?_
            rintro e w1 ⟨rfl, b1⟩
            have hS61 := hS6.below b1
            have hown61 := hown.below b1
            go_wp2_with fail
            refine (CF2.out _).mono ?_
            rintro e w' ⟨rfl, rfl⟩
            have hX := heap_alloc_new w1 (.cells #[.string ⟨#[]⟩, .string u2] 58)
            have bX : Below w1.heap.size w1 (w1.alloc (.cells #[.string ⟨#[]⟩, .string u2] 58)) := (Below.refl _ _).alloc (Nat.le_refl _) _
            have hXl : w1.heap.size < (w1.alloc (.cells #[.string ⟨#[]⟩, .string u2] 58)).heap.size := by rw [World.size_alloc]; exact Nat.lt_succ_self _
            have x0 := cell_of_row _ _ 0 _ _ _ hX
            have x1 := cell_of_row _ _ 1 _ _ _ hX
            have hS7 := hS61.below bX
            have hown7 := hown61.below bX
            by_cases hqt : q < t'
            · have HE3 : Hid ((if paramB (upB (s.extract (t + 1) q)) (s.extract (q + 1) t') = false ∨ q = t + 1 then errP (t + 1) 3 else parsP s z g x t' (ps ++ [(upB (s.extract (t + 1) q), s.extract (q + 1) t')])) = R) := Lib.hid (by have h := HE2.out; unfold parOf at h; rw [if_pos hqt] at h; exact h)
              clear HE2 hu2
              have hXs : w.heap.size + 1 + 1 ≤ w1.heap.size := hS61.size
              have hno : ∀ k, (Value.slice a1 ps.length c1).ownBlock = some k → k < w1.heap.size := fun k e => Nat.lt_of_lt_of_le (World.ownsRow.lt hown k e).2 b1.size
              have xf0 := frozen_of_row _ _ 0 _ _ hX
              have xf1 := frozen_of_row _ _ 1 _ _ hX
              clear hS61 hown61 hX bX hS6 hown b1
              generalize w1.alloc (.cells #[.string ⟨#[]⟩, .string u2] 58) = wX at *
              generalize w1.heap.size = X at *
              obtain ⟨n', hn'⟩ : ∃ n', upB (s.extract (t + 1) q) = n' := ⟨_, rfl⟩
              rw [hn'] at HE3 CU3
              have hsl3 : ∀ W : World, (Instr.slice 9 (.string s) (some (.int .i64 ((q : Int) + 1))) (some (.int .i64 (t' : Int))) none).run Tryz.prog W = .ok (.string (s.extract (q + 1) t')) W := fun W => slice_any s (q + 1) t' W (by omega) l5
              generalize s.extract (q + 1) t' = v' at HE3 hsl3
              have hw1 : IntKind.i64.wrap ((q : Int) + 1) = (q : Int) + 1 := IntWalk.i64_in _ (by omega)
              have hb1 : (0 : Int) ≤ (q : Int) + 1 := by omega
              have hb2 : (q : Int) + 1 ≤ (t' : Int) := by omega
              have hb3 : (t' : Int) ≤ (s.size : Int) := by omega
              go_wp2_with fail
              go_region_held3 (fun _ => True) (exact trivial) (first | (go_at_call 208; (with_reducible refine (CU3.out _).mono ?_); rintro e w2 ⟨rfl, b2⟩; have x0' : w2.cell? ⟨X, 0, none⟩ = _ := (b2.cell (p := ⟨X, 0, none⟩) hXl).trans x0; have x1' : w2.cell? ⟨X, 1, none⟩ = _ := (b2.cell (p := ⟨X, 1, none⟩) hXl).trans x1; have xf0' : w2.frozen? ⟨X, 0, none⟩ = false := (b2.frozen (p := ⟨X, 0, none⟩) hXl).trans xf0; have xf1' : w2.frozen? ⟨X, 1, none⟩ = false := (b2.frozen (p := ⟨X, 1, none⟩) hXl).trans xf1; have bq : Below wX.heap.size wX w2 := ⟨b2.os, b2.tape, b2.output, b2.size, b2.block⟩; have hS7' := hS7.below bq; have hown7' := hown7.below bq; have hX2 : X < w2.heap.size := Nat.lt_of_lt_of_le hXl b2.size))
              have hS7n := (hS7'.far (a := ⟨X, 0, none⟩) (by show _ < X; omega) (.string n')).far (a := ⟨X, 1, none⟩) (by show _ < X; omega) (.string v')
              have hown7n := Own.setNe (Own.setNe hown7' (a := ⟨X, 0, none⟩) hno (.string n')) (a := ⟨X, 1, none⟩) hno (.string v')
              have x0n : ((w2.setCell ⟨X, 0, none⟩ (.string n')).setCell ⟨X, 1, none⟩ (.string v')).cell? ⟨X, 0, none⟩ = some (.string n') := by rw [World.cell?_setCell_other _ _ _ _ (by simp), World.cell?_setCell_same _ _ _ x0']
              have x1n : ((w2.setCell ⟨X, 0, none⟩ (.string n')).setCell ⟨X, 1, none⟩ (.string v')).cell? ⟨X, 1, none⟩ = some (.string v') := by rw [World.cell?_setCell_same _ _ _ ((World.cell?_setCell_other _ _ _ _ (by simp)).trans x1')]
              have hXln : X < ((w2.setCell ⟨X, 0, none⟩ (.string n')).setCell ⟨X, 1, none⟩ (.string v')).heap.size := by rw [World.size_setCell, World.size_setCell]; exact hX2
              clear x0 x1 xf0 xf1 hXl hS7 hown7 x0' x1' xf0' xf1' hS7' hown7' hX2 bq b2 hno
              have x0 := x0n
              have x1 := x1n
              have hXl := hXln
              have hS7 := hS7n
              have hown7 := hown7n
              clear x0n x1n hXln hS7n hown7n
              generalize (w2.setCell ⟨X, 0, none⟩ (.string n')).setCell ⟨X, 1, none⟩ (.string v') = wY at *
              have C3 := Lib.hid (fun W => rParam_any n' v' W)
              generalize paramB n' v' = y2 at C3 HE3
              cases y2 with
              | false =>
                obtain rfl : R = errP (t + 1) 3 := by rw [← HE3.out, if_pos (.inl rfl)]
                go_wp2_with fail
                refine (C3.out _).mono ?_
                rintro e w2 ⟨rfl, b2⟩
                have hS8 := hS7.below b2
                have q0 := hS8.r.c0
                have s0 := hS8.r.f 0
                have q1 := hS8.r.c1
                have s1 := hS8.r.f 1
                have q2 := hS8.r.c2
                have s2 := hS8.r.f 2
                have q3 := hS8.r.c3
                have s3 := hS8.r.f 3
                have q4 := hS8.r.c4
                have s4 := hS8.r.f 4
                go_wp2_with fail
                exact bodyPost_ret (v := .tuple #[.agg #[.string ⟨#[]⟩, .string ⟨#[]⟩, .slice none 0 0, .string ⟨#[]⟩, .slice none 0 0], .int .i64 ((t + 1 : Nat) : Int), .int .i64 3]) (by simp [results, Tryz.results144, go_sem, q0, q1, q2, q3, q4]) rfl (told_err (((((hS8.bel.setCell (Nat.le_refl _) _).setCell (Nat.le_refl _) _).setCell (Nat.le_refl _) _).setCell (Nat.le_refl _) _).setCell (Nat.le_refl _) _))
              | true =>
                by_cases hqa : q = t + 1
                · obtain rfl : R = errP (t + 1) 3 := by rw [← HE3.out, if_pos (.inr hqa)]
                  have ef : ((q : Int) == (t : Int) + 1) = true := by rw [beq_iff_eq]; omega
                  go_wp2_with fail
                  refine (C3.out _).mono ?_
                  rintro e w2 ⟨rfl, b2⟩
                  have hS8 := hS7.below b2
                  have q0 := hS8.r.c0
                  have s0 := hS8.r.f 0
                  have q1 := hS8.r.c1
                  have s1 := hS8.r.f 1
                  have q2 := hS8.r.c2
                  have s2 := hS8.r.f 2
                  have q3 := hS8.r.c3
                  have s3 := hS8.r.f 3
                  have q4 := hS8.r.c4
                  have s4 := hS8.r.f 4
                  go_wp2_with fail
                  exact bodyPost_ret (v := .tuple #[.agg #[.string ⟨#[]⟩, .string ⟨#[]⟩, .slice none 0 0, .string ⟨#[]⟩, .slice none 0 0], .int .i64 ((t + 1 : Nat) : Int), .int .i64 3]) (by simp [results, Tryz.results144, go_sem, q0, q1, q2, q3, q4]) rfl (told_err (((((hS8.bel.setCell (Nat.le_refl _) _).setCell (Nat.le_refl _) _).setCell (Nat.le_refl _) _).setCell (Nat.le_refl _) _).setCell (Nat.le_refl _) _))
                · have ef : ((q : Int) == (t : Int) + 1) = false := by rw [beq_eq_false_iff_ne]; omega
                  have HK' := Lib.hid (show parsP s z g x t' (ps ++ [(n', v')]) = R by rw [← HE3.out, if_neg (fun h => h.elim (fun h => by cases h) (fun h => hqa h))])
                  go_wp2_with fail
                  refine (C3.out _).mono ?_
                  rintro e w2 ⟨rfl, b2⟩
                  have hS8 := hS7.below b2
                  have hown8 := hown7.below b2
                  have y0 := (b2.cell (p := ⟨X, 0, none⟩) hXl).trans x0
                  have y1 := (b2.cell (p := ⟨X, 1, none⟩) hXl).trans x1
                  have m2 := hS8.p.c2
                  have hm1 : ps.length + 1 ≤ maxLen := by unfold maxLen; omega
                  have hm2 : (ps.length + 1) * 32 ≤ 140737488355328 := by omega
                  have hone : ∀ u ∈ [Value.string n', Value.string v'], u.oneCell' = true := by simp [Value.oneCell']
                  have hnew := heap_alloc_new w2 (.cells #[.string n', .string v'] 58)
                  have hns : ∀ j u, [Value.string n', Value.string v'][j]? = some u → (w2.alloc (.cells #[.string n', .string v'] 58)).cell? (Addr.add ⟨w2.heap.size, 0, none⟩ j) = some u := World.news_of_block (cs := #[.string n', .string v']) (t := 58) (fr := (0, 0)) hnew
                  have hown1 := World.ownsRow.alloc hown8 (.cells #[.string n', .string v'] 58)
                  have hsz2 := hS8.size
                  have hsz1 : w.heap.size + 1 + 1 ≤ (w2.alloc (.cells #[.string n', .string v'] 58)).heap.size := by rw [World.size_alloc]; omega
                  have BG0 : ∀ w3, World.grownBy (w2.alloc (.cells #[.string n', .string v'] 58)) w3 (Value.slice a1 ps.length c1).ownBlock → Below (w.heap.size + 1 + 1) w2 w3 := fun w3 h => ((Below.refl _ w2).alloc hsz2 _).grown h hsz1 (fun k e => (World.ownsRow.lt hown1 k e).1)
                  have hS9 : ∀ w3, Below (w.heap.size + 1 + 1) w2 w3 → St w w3 g x (.slice a1 ps.length c1) ⟨#[]⟩ := fun w3 h => ⟨(h.block (w.heap.size + 1) (by omega)).trans hS8.p, (h.block w.heap.size (by omega)).trans hS8.r, by have := h.size; omega, hS8.bel.trans (h.mono (by omega))⟩
                  go_wp2_with (at_builtin; refine wpList_append_own _ rfl _ _ 53 rfl (w.heap.size + 1 + 1) 58 i0 (.agg #[.string .empty, .string .empty]) 2 32 Tryz.underlying53 hi hz0 hz1 hz2 rfl (by decide) _ _ _ rfl hown1 ⟨w2.heap.size, 0, none⟩ 1 1 [.string n', .string v'] rfl rfl hns hone hm1 hm2 hsz1 ?_; intro v1 w3 hown3 hgrow _; have hS10 := hS9 _ (BG0 _ hgrow); obtain ⟨a2, c2, rfl⟩ := shapeP hown3; have o2 := hS10.p.c2; have of2 := hS10.p.f 2)
                  go_roundw
                  case rel => exact ⟨t + 1, t', ps ++ [(n', v')], _, by go_num, rfl, l1, Own.set (Own.snoc hown3) (by simp) _, by rw [List.length_append]; simp; omega, hS10.set2 _, HK'⟩
                  case measure => simp [intOf]; omega
            · have HE3 : Hid ((if paramB ⟨#[]⟩ u2 = false ∨ q = t + 1 then errP (t + 1) 3 else parsP s z g x t' (ps ++ [(⟨#[]⟩, u2)])) = R) := Lib.hid (by have h := HE2.out; unfold parOf at h; rw [if_neg hqt, hu2] at h; exact h)
              clear HE2 hu2
              have hXs : w.heap.size + 1 + 1 ≤ w1.heap.size := hS61.size
              generalize w1.alloc (.cells #[.string ⟨#[]⟩, .string u2] 58) = wX at *
              generalize w1.heap.size = X at *
              generalize (⟨#[]⟩ : ByteArray) = n' at x0 HE3
              generalize u2 = v' at *
              have C3 := Lib.hid (fun W => rParam_any n' v' W)
              generalize paramB n' v' = y2 at C3 HE3
              cases y2 with
              | false =>
                obtain rfl : R = errP (t + 1) 3 := by rw [← HE3.out, if_pos (.inl rfl)]
                go_wp2_with fail
                refine (C3.out _).mono ?_
                rintro e w2 ⟨rfl, b2⟩
                have hS8 := hS7.below b2
                have q0 := hS8.r.c0
                have s0 := hS8.r.f 0
                have q1 := hS8.r.c1
                have s1 := hS8.r.f 1
                have q2 := hS8.r.c2
                have s2 := hS8.r.f 2
                have q3 := hS8.r.c3
                have s3 := hS8.r.f 3
                have q4 := hS8.r.c4
                have s4 := hS8.r.f 4
                go_wp2_with fail
                exact bodyPost_ret (v := .tuple #[.agg #[.string ⟨#[]⟩, .string ⟨#[]⟩, .slice none 0 0, .string ⟨#[]⟩, .slice none 0 0], .int .i64 ((t + 1 : Nat) : Int), .int .i64 3]) (by simp [results, Tryz.results144, go_sem, q0, q1, q2, q3, q4]) rfl (told_err (((((hS8.bel.setCell (Nat.le_refl _) _).setCell (Nat.le_refl _) _).setCell (Nat.le_refl _) _).setCell (Nat.le_refl _) _).setCell (Nat.le_refl _) _))
              | true =>
                by_cases hqa : q = t + 1
                · obtain rfl : R = errP (t + 1) 3 := by rw [← HE3.out, if_pos (.inr hqa)]
                  have ef : ((q : Int) == (t : Int) + 1) = true := by rw [beq_iff_eq]; omega
                  go_wp2_with fail
                  refine (C3.out _).mono ?_
                  rintro e w2 ⟨rfl, b2⟩
                  have hS8 := hS7.below b2
                  have q0 := hS8.r.c0
                  have s0 := hS8.r.f 0
                  have q1 := hS8.r.c1
                  have s1 := hS8.r.f 1
                  have q2 := hS8.r.c2
                  have s2 := hS8.r.f 2
                  have q3 := hS8.r.c3
                  have s3 := hS8.r.f 3
                  have q4 := hS8.r.c4
                  have s4 := hS8.r.f 4
                  go_wp2_with fail
                  exact bodyPost_ret (v := .tuple #[.agg #[.string ⟨#[]⟩, .string ⟨#[]⟩, .slice none 0 0, .string ⟨#[]⟩, .slice none 0 0], .int .i64 ((t + 1 : Nat) : Int), .int .i64 3]) (by simp [results, Tryz.results144, go_sem, q0, q1, q2, q3, q4]) rfl (told_err (((((hS8.bel.setCell (Nat.le_refl _) _).setCell (Nat.le_refl _) _).setCell (Nat.le_refl _) _).setCell (Nat.le_refl _) _).setCell (Nat.le_refl _) _))
                · have ef : ((q : Int) == (t : Int) + 1) = false := by rw [beq_eq_false_iff_ne]; omega
                  have HK' := Lib.hid (show parsP s z g x t' (ps ++ [(n', v')]) = R by rw [← HE3.out, if_neg (fun h => h.elim (fun h => by cases h) (fun h => hqa h))])
                  go_wp2_with fail
                  refine (C3.out _).mono ?_
                  rintro e w2 ⟨rfl, b2⟩
                  have hS8 := hS7.below b2
                  have hown8 := hown7.below b2
                  have y0 := (b2.cell (p := ⟨X, 0, none⟩) hXl).trans x0
                  have y1 := (b2.cell (p := ⟨X, 1, none⟩) hXl).trans x1
                  have m2 := hS8.p.c2
                  have hm1 : ps.length + 1 ≤ maxLen := by unfold maxLen; omega
                  have hm2 : (ps.length + 1) * 32 ≤ 140737488355328 := by omega
                  have hone : ∀ u ∈ [Value.string n', Value.string v'], u.oneCell' = true := by simp [Value.oneCell']
                  have hnew := heap_alloc_new w2 (.cells #[.string n', .string v'] 58)
                  have hns : ∀ j u, [Value.string n', Value.string v'][j]? = some u → (w2.alloc (.cells #[.string n', .string v'] 58)).cell? (Addr.add ⟨w2.heap.size, 0, none⟩ j) = some u := World.news_of_block (cs := #[.string n', .string v']) (t := 58) (fr := (0, 0)) hnew
                  have hown1 := World.ownsRow.alloc hown8 (.cells #[.string n', .string v'] 58)
                  have hsz2 := hS8.size
                  have hsz1 : w.heap.size + 1 + 1 ≤ (w2.alloc (.cells #[.string n', .string v'] 58)).heap.size := by rw [World.size_alloc]; omega
                  have BG0 : ∀ w3, World.grownBy (w2.alloc (.cells #[.string n', .string v'] 58)) w3 (Value.slice a1 ps.length c1).ownBlock → Below (w.heap.size + 1 + 1) w2 w3 := fun w3 h => ((Below.refl _ w2).alloc hsz2 _).grown h hsz1 (fun k e => (World.ownsRow.lt hown1 k e).1)
                  have hS9 : ∀ w3, Below (w.heap.size + 1 + 1) w2 w3 → St w w3 g x (.slice a1 ps.length c1) ⟨#[]⟩ := fun w3 h => ⟨(h.block (w.heap.size + 1) (by omega)).trans hS8.p, (h.block w.heap.size (by omega)).trans hS8.r, by have := h.size; omega, hS8.bel.trans (h.mono (by omega))⟩
                  go_wp2_with (at_builtin; refine wpList_append_own _ rfl _ _ 53 rfl (w.heap.size + 1 + 1) 58 i0 (.agg #[.string .empty, .string .empty]) 2 32 Tryz.underlying53 hi hz0 hz1 hz2 rfl (by decide) _ _ _ rfl hown1 ⟨w2.heap.size, 0, none⟩ 1 1 [.string n', .string v'] rfl rfl hns hone hm1 hm2 hsz1 ?_; intro v1 w3 hown3 hgrow _; have hS10 := hS9 _ (BG0 _ hgrow); obtain ⟨a2, c2, rfl⟩ := shapeP hown3; have o2 := hS10.p.c2; have of2 := hS10.p.f 2)
                  go_roundw
                  case rel => exact ⟨t + 1, t', ps ++ [(n', v')], _, by go_num, rfl, l1, Own.set (Own.snoc hown3) (by simp) _, by rw [List.length_append]; simp; omega, hS10.set2 _, HK'⟩
                  case measure => simp [intOf]; omega
          · have HT : Hid (tailP s z g x ps = R) := Lib.hid (by have h := HK.out; rw [parsP, dif_neg htl] at h; exact h)
            have htl' : ¬ ((t : Int) < (z : Int)) := by omega
            obtain ⟨y, hy⟩ : ∃ y, s.extract (z + 1) s.size = y := ⟨_, rfl⟩
            have hsl : ∀ W : World, (Instr.slice 9 (.string s) (some (.int .i64 ((z : Int) + 1))) none none).run Tryz.prog W = .ok (.string y) W := fun W => by rw [← hy]; exact sliceFrom_any s (z + 1) W (by omega)
            have HT2 : Hid ((if 2400 < y.size then errP (z + 1) 8 else if y.data.toList.findIdx oddb < y.size then errP (z + 1 + y.data.toList.findIdx oddb) 3 else ⟨g, x, ps, y, 0, 0⟩) = R) := Lib.hid (by have h := HT.out; unfold tailP at h; simp only [hy] at h; exact h)
            have hys : y.size ≤ 1099511627776 := by rw [← hy, ByteArray.size_extract]; omega
            clear hy HT HK
            obtain ⟨a1, c1, rfl⟩ := shapeP hown
            have p3 := hS6.p.c3
            have f3 := hS6.p.f 3
            have hS9 := hS6.set3 y
            have hown9 := Own.set hown (a := ⟨w.heap.size + 1, 3, none⟩) (by simp) (.string y)
            have d3 := hS9.p.c3
            by_cases h24 : 2400 < (y.size : Int)
            · obtain rfl : R = errP (z + 1) 8 := by rw [← HT2.out, if_pos (by omega)]
              have q0 := hS9.r.c0
              have s0 := hS9.r.f 0
              have q1 := hS9.r.c1
              have s1 := hS9.r.f 1
              have q2 := hS9.r.c2
              have s2 := hS9.r.f 2
              have q3 := hS9.r.c3
              have s3 := hS9.r.f 3
              have q4 := hS9.r.c4
              have s4 := hS9.r.f 4
              go_wp2_with fail
              exact bodyPost_ret (v := .tuple #[.agg #[.string ⟨#[]⟩, .string ⟨#[]⟩, .slice none 0 0, .string ⟨#[]⟩, .slice none 0 0], .int .i64 ((z + 1 : Nat) : Int), .int .i64 8]) (by simp [results, Tryz.results144, go_sem, q0, q1, q2, q3, q4]) rfl (told_err (((((hS9.bel.setCell (Nat.le_refl _) _).setCell (Nat.le_refl _) _).setCell (Nat.le_refl _) _).setCell (Nat.le_refl _) _).setCell (Nat.le_refl _) _))
            obtain ⟨r, hr⟩ : ∃ r, y.data.toList.findIdx oddb = r := ⟨_, rfl⟩
            have HT3 : Hid ((if r < y.size then errP (z + 1 + r) 3 else ⟨g, x, ps, y, 0, 0⟩) = R) := Lib.hid (by have h := HT2.out; rw [if_neg (by omega), hr] at h; exact h)
            clear HT2
            go_wp2_with fail
            generalize wr.setCell ⟨w.heap.size + 1, 3, none⟩ (.string y) = wr9 at *
            go_loopw [12] (fun iv wx => ∃ k : Nat, k ≤ y.size ∧ iv = .int .i64 k ∧ wx = wr9 ∧ Hid (k + (y.data.toList.drop k).findIdx oddb = r)) (fun iv _ => y.size - (intOf iv).toNat)
            case atStart => exact ⟨0, Nat.zero_le _, rfl, rfl, Lib.hid (by rw [List.drop_zero, Nat.zero_add]; exact hr)⟩
            case round =>
              obtain ⟨k, hk, rfl, rfl, HK⟩ := hrel
              clear hr
              by_cases hlt : k < y.size
              · have HN := Lib.hid (fi_no hlt)
                have HY := Lib.hid (fi_yes hlt)
                have C4 := Lib.hid (fun W => rOdd_any y[k] W)
                generalize oddb y[k] = o at C4 HN HY
                cases o with
                | true =>
                  obtain rfl : k = r := by have h := HK.out; rw [HY.out rfl, Nat.add_zero] at h; exact h
                  obtain rfl : R = errP (z + 1 + k) 3 := by rw [← HT3.out, if_pos hlt]
                  go_wp2_with fail
                  refine (C4.out _).mono ?_
                  rintro e w2 ⟨rfl, rfl⟩
                  have q0 := hS9.r.c0
                  have s0 := hS9.r.f 0
                  have q1 := hS9.r.c1
                  have s1 := hS9.r.f 1
                  have q2 := hS9.r.c2
                  have s2 := hS9.r.f 2
                  have q3 := hS9.r.c3
                  have s3 := hS9.r.f 3
                  have q4 := hS9.r.c4
                  have s4 := hS9.r.f 4
                  go_wp2_with fail
                  exact bodyPost_ret (v := .tuple #[.agg #[.string ⟨#[]⟩, .string ⟨#[]⟩, .slice none 0 0, .string ⟨#[]⟩, .slice none 0 0], .int .i64 ((z + 1 + k : Nat) : Int), .int .i64 3]) (by simp [results, Tryz.results144, go_sem, q0, q1, q2, q3, q4]) rfl (told_err (((((hS9.bel.setCell (Nat.le_refl _) _).setCell (Nat.le_refl _) _).setCell (Nat.le_refl _) _).setCell (Nat.le_refl _) _).setCell (Nat.le_refl _) _))
                | false =>
                  have HK' := Lib.hid (show (k + 1) + (y.data.toList.drop (k + 1)).findIdx oddb = r by rw [← HK.out, HN.out rfl]; omega)
                  go_wp2_with fail
                  refine (C4.out _).mono ?_
                  rintro e w2 ⟨rfl, rfl⟩
                  go_wp2_with fail
                  go_roundw
                  case rel => exact ⟨k + 1, by omega, by go_num, by trivial, HK'⟩
                  case measure => simp [intOf]; omega
              · obtain rfl : k = y.size := by omega
                obtain rfl : y.size = r := by have h := HK.out; rw [fi_end, Nat.add_zero] at h; exact h
                obtain rfl : R = ⟨g, x, ps, y, 0, 0⟩ := by rw [← HT3.out, if_neg (Nat.lt_irrefl _)]
                have d0 := hS9.p.c0
                have d1 := hS9.p.c1
                have d2 := hS9.p.c2
                have d4 := hS9.p.c4
                have q0 := hS9.r.c0
                have s0 := hS9.r.f 0
                have q1 := hS9.r.c1
                have s1 := hS9.r.f 1
                have q2 := hS9.r.c2
                have s2 := hS9.r.f 2
                have q3 := hS9.r.c3
                have s3 := hS9.r.f 3
                have q4 := hS9.r.c4
                have s4 := hS9.r.f 4
                go_wp2_with fail
                exact bodyPost_ret (v := .tuple #[.agg #[.string g, .string x, .slice a1 ps.length c1, .string y, .slice none 0 0], .int .i64 0, .int .i64 0]) (by simp [results, Tryz.results144, go_sem, q0, q1, q2, q3, q4]) rfl ⟨_, rfl, own_low (b := w.heap.size + 1 + 1) (by omega) (((((Own.set hown9 (by simp; omega) _).set (by simp; omega) _).set (by simp; omega) _).set (by simp; omega) _).set (by simp; omega) _), ((((hS9.bel.setCell (Nat.le_refl _) _).setCell (Nat.le_refl _) _).setCell (Nat.le_refl _) _).setCell (Nat.le_refl _) _).setCell (Nat.le_refl _) _⟩
end Go.Proofs.YtjgfbicllgalkaaGreatDoor.Pp
