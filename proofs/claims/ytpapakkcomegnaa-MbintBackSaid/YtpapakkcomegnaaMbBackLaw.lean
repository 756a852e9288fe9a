/-
For every number below 2^32 and every text of at most 2^47 bytes the law MbintBack returns true and changes nothing that was there. Conditions: those bounds.
-/
import Derived.Test.YtpapakkcomegnaaMbWorks
import Derived.Test.YtpapakkcomegnaaMbBackMath
import Derived.Deep.RegionHeld3
import Derived.Laws.Concat
namespace Go.Proofs.Ytpapakkcomegnaa.MbLaw
open Go.RowKit Mb

theorem cat_list (a s : ByteArray) : (a ++ s).data.toList = a.data.toList ++ s.data.toList := by simp [ByteArray.data_append]
theorem cat_size (a s : ByteArray) : (a ++ s).size = a.size + s.size := by simp [ByteArray.size_append]

/-- A number that a new reader takes. -/
theorem number_new (t : ByteArray) (x k f : Nat) (ht : t.size ≤ maxLen) (hx : numOf t.data.toList = (x, k, f)) (b : Nat) (W : World) (h : Rd W b t 0 0) :
    Calls Try.prog 12 #[.pointer (some ⟨b, 0, none⟩)] W fun y w' => y = .returned (.int .u32 ((if f = 0 then x else 0 : Nat) : Int)) ∧ Rd w' b t (if f = 0 then k else 0) (f : Nat) ∧ W.grownBy w' (some b) := by
  have := number_any b t 0 0 W h (Nat.zero_le _) ht
  rw [List.drop_zero, hx] at this
  by_cases hf : f = 0
  · subst hf
    rw [ansV_ok rfl, ansI_ok rfl, ansE_zero] at this
    simp only [if_true]
    simpa using this
  · rw [ansV_bad hf, ansI_bad hf, ansE_zero] at this
    rw [if_neg hf, if_neg hf]
    exact this

theorem rd_drewN {w : World} {b : Nat} {s : ByteArray} {i : Nat} {e : Int} (h : Rd w b s i e) (n : Nat) : Rd (w.drewN n) b s i e := h

set_option maxRecDepth 100000 in
set_option maxHeartbeats 1000000 in
theorem back_of (n : Nat) (a s : ByteArray) (w : World) (hn : n < 4294967296) (hs : s.size ≤ 9223372036854775800) (ha : a.data.toList = mb n)
    (x k f : Nat) (hx : numOf s.data.toList = (x, k, f)) (c : ByteArray) (hc : c.data.toList = mb x)
    (CA : Hid (∀ W : World, Calls Try.prog 7 #[.int .u32 (n : Int)] W fun y w' => y = .returned (.string a) ∧ Below W.heap.size W w'))
    (CC : Hid (∀ W : World, Calls Try.prog 7 #[.int .u32 (x : Int)] W fun y w' => y = .returned (.string c) ∧ Below W.heap.size W w')) :
    Calls Try.prog 5 #[.int .u32 (n : Int), .string s] w fun e w' => e = .returned (.bool true) ∧ Below w.heap.size w w' := by
  have hza : a.size ≤ 5 := by
    have h1 := len_data a
    rw [ha, mb_length] at h1
    have := wid7_le n
    omega
  have hzt : (a ++ s).size = a.size + s.size := cat_size a s
  have hmax : (a ++ s).size ≤ maxLen := by rw [hzt]; unfold maxLen; omega
  have hmaxs : s.size ≤ maxLen := by unfold maxLen; omega
  have hnum : numOf (a ++ s).data.toList = (n, a.size, 0) := by
    rw [cat_list, ha, numOf_mb hn, ← len_data a, ha]
  have CN := Lib.hid (fun b W h => number_new (a ++ s) n a.size 0 hmax hnum b W h)
  have CQ := Lib.hid (fun b W h => number_new s x k f hmaxs hx b W h)
  have hsum : ¬ 9223372036854775807 < a.size + s.size := by omega
  have hle : a.size ≤ (a ++ s).size := by omega
  have hleft : ((a ++ s).size : Int) - a.size = s.size := by omega
  have CL := Lib.hid (fun (b : Nat) (W : World) (h : Rd W b (a ++ s) a.size 0) => by
    have := left_any b (a ++ s) a.size 0 W h hle
    rw [hleft] at this
    exact this)
  clear hnum hmax hzt hleft hle ha
  by_cases hf : f = 0
  · subst hf
    have hk : k ≤ s.size := by
      have := (numOf_le s.data.toList).1
      rw [hx, len_data] at this
      exact this
    have hcut : s.extract 0 k = c := str_of (by rw [ext_data, List.drop_zero, Nat.sub_zero, hc, numOf_back hx])
    have HC := Lib.hid hcut
    have hbb : ((s.extract 0 k).toList == c.toList) = true := by rw [hcut]; simp
    have hk2 : (k : Int) ≤ (s.size : Int) := by omega
    have hd1 : decide ((k : Int) < 0) = false := by rw [decide_eq_false_iff_not]; omega
    have hd2 : decide (s.size < k) = false := by rw [decide_eq_false_iff_not]; omega
    simp only [if_true] at CQ CN
    clear hcut hx hc
    go_enter Try.func5, Try.ntmps5
    go_wp2_with fail
    refine (works_any _).mono ?_
    rintro e w0 ⟨rfl, b0⟩
    go_wp2_with fail
    refine (CA.out _).mono ?_
    rintro e w1 ⟨rfl, b1'⟩
    have b1 := b0.trans (b1'.mono b0.size)
    go_wp2_with fail
    refine (new_any (a ++ s) _).mono ?_
    rintro e w2 ⟨rfl, h2, b2'⟩
    have b2 := b1.trans (b2'.mono b1.size)
    go_wp2_with fail
    refine (CN.out _ _ h2).mono ?_
    rintro e w3 ⟨rfl, h3, g3⟩
    have b3 := bel_grown b2 g3 b1.size
    go_wp2_with fail
    refine (err_any _ (a ++ s) a.size 0 _ h3).mono ?_
    rintro e w4 ⟨rfl, b4'⟩
    have h4 := h3.below b4'
    have b4 := b3.trans (b4'.mono b3.size)
    go_wp2_with fail
    refine (new_any s _).mono ?_
    rintro e w5 ⟨rfl, h5, b5'⟩
    have h5r := h4.below b5'
    have b5 := b4.trans (b5'.mono b4.size)
    have hneq : w1.heap.size ≠ w4.heap.size := by have := h4.lt; omega
    go_wp2_with fail
    refine (CQ.out _ _ h5).mono ?_
    rintro e w6 ⟨rfl, h6, g6⟩
    have h6r := h5r.past g6 hneq
    have b6 := bel_grown b5 g6 b4.size
    go_wp2_with fail
    refine (err_any _ s k 0 _ h6).mono ?_
    rintro e w7 ⟨rfl, b7'⟩
    have h7r := h6r.below b7'
    have b7 := b6.trans (b7'.mono b6.size)
    go_wp2_with fail
    have d7r : Rd w7.drew w1.heap.size (a ++ s) a.size 0 := h7r
    have d7 := b7.drew
    go_region_held3 (fun _ => True) (exact trivial) ((go_at_call 7; (with_reducible refine (CC.out _).mono ?_); rintro y w8 ⟨rfl, b8'⟩; have h8r := d7r.below b8'; have b8 := d7.trans (b8'.mono d7.size)))
    all_goals
      go_wp2_with fail
      refine (CL.out _ _ h8r).mono ?_
      rintro e w9 ⟨rfl, b9'⟩
      have b9 := b8.trans (b9'.mono b8.size)
      go_wp2_with fail
      go_ret
      exact ⟨rfl, b9⟩
  · have hfb : ((f : Int) == 0) = false := by rw [beq_eq_false_iff_ne]; omega
    rw [if_neg hf, if_neg hf] at CQ
    simp only [if_true] at CN
    clear hx hc
    go_enter Try.func5, Try.ntmps5
    go_wp2_with fail
    refine (works_any _).mono ?_
    rintro e w0 ⟨rfl, b0⟩
    go_wp2_with fail
    refine (CA.out _).mono ?_
    rintro e w1 ⟨rfl, b1'⟩
    have b1 := b0.trans (b1'.mono b0.size)
    go_wp2_with fail
    refine (new_any (a ++ s) _).mono ?_
    rintro e w2 ⟨rfl, h2, b2'⟩
    have b2 := b1.trans (b2'.mono b1.size)
    go_wp2_with fail
    refine (CN.out _ _ h2).mono ?_
    rintro e w3 ⟨rfl, h3, g3⟩
    have b3 := bel_grown b2 g3 b1.size
    go_wp2_with fail
    refine (err_any _ (a ++ s) a.size 0 _ h3).mono ?_
    rintro e w4 ⟨rfl, b4'⟩
    have h4 := h3.below b4'
    have b4 := b3.trans (b4'.mono b3.size)
    go_wp2_with fail
    refine (new_any s _).mono ?_
    rintro e w5 ⟨rfl, h5, b5'⟩
    have h5r := h4.below b5'
    have b5 := b4.trans (b5'.mono b4.size)
    have hneq : w1.heap.size ≠ w4.heap.size := by have := h4.lt; omega
    go_wp2_with fail
    refine (CQ.out _ _ h5).mono ?_
    rintro e w6 ⟨rfl, h6, g6⟩
    have h6r := h5r.past g6 hneq
    have b6 := bel_grown b5 g6 b4.size
    go_wp2_with fail
    refine (err_any _ s 0 f _ h6).mono ?_
    rintro e w7 ⟨rfl, b7'⟩
    have h7r := h6r.below b7'
    have b7 := b6.trans (b7'.mono b6.size)
    go_wp2_with fail
    have d7 := b7
    go_quiet (fail)
    go_wp2_with fail
    refine (CL.out _ _ (rd_drewN h7r _)).mono ?_
    rintro e w9 ⟨rfl, b9'⟩
    have b9 := (below_drewN b7 _).trans (b9'.mono (below_drewN b7 _).size)
    go_wp2_with fail
    go_ret
    exact ⟨rfl, b9⟩

theorem back (n : Int) (s : ByteArray) (w : World) (h0 : 0 ≤ n) (h1 : n ≤ 4294967295) (hs : s.size ≤ 140737488351232) :
    Calls Try.prog 5 #[.int .u32 n, .string s] w fun e w' => e = .returned (.bool true) ∧ Below w.heap.size w w' := by
  obtain ⟨m, rfl⟩ := Int.eq_ofNat_of_zero_le h0
  rcases hx : numOf s.data.toList with ⟨x, k, f⟩
  have hlt := (numOf_le s.data.toList).2.1
  rw [hx] at hlt
  exact back_of m ⟨(mb m).toArray⟩ s w (by omega) (by omega) (by simp) x k f hx ⟨(mb x).toArray⟩ (by simp) (Lib.hid fun W => write_any m W (by omega)) (Lib.hid fun W => write_any x W hlt)
end Go.Proofs.Ytpapakkcomegnaa.MbLaw
