/-
The program's and the document's answers to names of charsets are the plain function's. Conditions: the name has at most 2^47 bytes.
-/
import Derived.Test.YtccgpemcdbcjeaaCsCaps
import Derived.Test.YtccgpemcdbcjeaaCsNamesMath
import Derived.RegionTactic
import Derived.IntWalk
namespace Go.Proofs.Ytccgpemcdbcjeaa.Cs
open Go.RowKit Bytes

theorem name_any (k : Int) (w : World) :
    Calls Try.prog 8 #[.int .i64 k] w fun e w' => e = .returned (.string (nm k)) ∧ w = w' := by
  have h : k = 1 ∨ k = 2 ∨ k = 3 ∨ (¬ k = 1 ∧ ¬ k = 2 ∧ ¬ k = 3) := by omega
  rcases h with rfl | rfl | rfl | ⟨h1, h2, h3⟩
  · go_enter Try.func8, Try.ntmps8
    go_wp2
    go_ret
    exact ⟨rfl, rfl⟩
  · go_enter Try.func8, Try.ntmps8
    go_wp2
    go_ret
    exact ⟨rfl, rfl⟩
  · go_enter Try.func8, Try.ntmps8
    go_wp2
    go_ret
    exact ⟨rfl, rfl⟩
  · have H := Lib.hid (show nm k = ⟨#[]⟩ by unfold nm; rw [if_neg h1, if_neg h2, if_neg h3])
    go_enter Try.func8, Try.ntmps8
    go_wp2
    go_ret
    exact ⟨by rw [H.out]; rfl, rfl⟩
theorem refName_any (k : Int) (w : World) :
    Calls Try.prog 9 #[.int .i64 k] w fun e w' => e = .returned (.string (nm k)) ∧ w = w' := by
  have h : k = 1 ∨ k = 2 ∨ k = 3 ∨ (¬ k = 1 ∧ ¬ k = 2 ∧ ¬ k = 3) := by omega
  rcases h with rfl | rfl | rfl | ⟨h1, h2, h3⟩
  · go_enter Try.func9, Try.ntmps9
    go_wp2
    go_ret
    exact ⟨rfl, rfl⟩
  · go_enter Try.func9, Try.ntmps9
    go_wp2
    go_ret
    exact ⟨rfl, rfl⟩
  · go_enter Try.func9, Try.ntmps9
    go_wp2
    go_ret
    exact ⟨rfl, rfl⟩
  · have H := Lib.hid (show nm k = ⟨#[]⟩ by unfold nm; rw [if_neg h1, if_neg h2, if_neg h3])
    go_enter Try.func9, Try.ntmps9
    go_wp2
    go_ret
    exact ⟨by rw [H.out]; rfl, rfl⟩

set_option maxHeartbeats 800000 in
theorem refUpper_any (s : ByteArray) (w : World) (hs : s.size ≤ 140737488355328) :
    Calls Try.prog 24 #[.string s] w fun e w' => e = .returned (.string ⟨(s.data.toList.map cap1).toArray⟩) ∧ Below w.heap.size w w' := by
  obtain ⟨cap, w2, hrun, hrow, b2⟩ := bytes_new w s
  have HA : Hid (∀ k, k < s.size → ∃ c, (capK s.data.toList k)[k]? = some c ∧ (capK s.data.toList k).set k (cap1 c) = capK s.data.toList (k + 1) ∧ (cap1 c = c → capK s.data.toList (k + 1) = capK s.data.toList k)) :=
    Lib.hid (fun k h => ⟨_, capK_at (by rw [list_size]; exact h), capK_set (by rw [list_size]; exact h), capK_same (by rw [list_size]; exact h)⟩)
  have HE := Lib.hid (capK_all (l := s.data.toList) (k := s.size) (by rw [list_size]; exact Nat.le_refl _))
  have HL := Lib.hid (fun k => show (capK s.data.toList k).length = s.size by rw [capK_length, list_size])
  rw [← capK_zero s.data.toList] at hrow
  generalize s.data.toList = l at HA HE HL hrow ⊢
  go_enter Try.func24, Try.ntmps24
  go_wp2_with fail
  clear hrun
  go_loopw [4] (fun iv wr => ∃ k : Nat, k ≤ s.size ∧ iv = .int .i64 k ∧ Row wr w.heap.size (capK l k) ∧ Below w.heap.size w wr) (fun iv _ => s.size - (intOf iv).toNat)
  case atStart => exact ⟨0, Nat.zero_le _, rfl, hrow, b2⟩
  case round =>
    obtain ⟨k, hk, rfl, hrow, hbel⟩ := hrel
    by_cases hlt : k < s.size
    · obtain ⟨c, hc0, hset, hsame⟩ := HA.out k hlt
      obtain ⟨c', hc, hcell, hfr⟩ := hrow.at_ (by rw [HL.out]; exact hlt : k < _)
      obtain rfl : c' = c := by rw [hc0] at hc; exact (Option.some.inj hc).symm
      have HC := Lib.hid hset
      have HC2 := Lib.hid hsame
      have hc8 := c'.toNat_lt
      clear hc0 hc hset hsame
      by_cases hlo : 97 ≤ (c'.toNat : Int)
      · by_cases hhi : (c'.toNat : Int) ≤ 122
        · have HN := Lib.hid (cap1_yes hlo hhi)
          go_wp2_with fail
          go_roundw
          case rel => exact ⟨k + 1, by omega, by go_num, by have h := hrow.set k (cap1 c'); rw [HC.out, HN.out] at h; exact h, hbel.setCell (Nat.le_refl _) _⟩
          case measure => simp [intOf]; omega
        · have HN := Lib.hid (HC2.out (cap1_no (fun h => hhi h.2)))
          go_wp2_with fail
          go_roundw
          case rel => exact ⟨k + 1, by omega, by go_num, by rw [HN.out]; exact hrow, hbel⟩
          case measure => simp [intOf]; omega
      · have HN := Lib.hid (HC2.out (cap1_no (fun h => hlo h.1)))
        go_wp2_with fail
        go_roundw
        case rel => exact ⟨k + 1, by omega, by go_num, by rw [HN.out]; exact hrow, hbel⟩
        case measure => simp [intOf]; omega
    · obtain rfl : k = s.size := by omega
      rw [HE.out] at hrow
      have htx := hrow.text (cap := cap) (n := s.size) (by rw [← HE.out, HL.out])
      go_wp2_with fail
      go_ret
      exact ⟨rfl, hbel⟩

theorem refNamed_any (s : ByteArray) (w : World) (hs : s.size ≤ 140737488355328) :
    Calls Try.prog 7 #[.string s] w fun e w' => e = .returned (.int .i64 (named s.data.toList)) ∧ Below w.heap.size w w' := by
  have C := Lib.hid (fun W => refUpper_any s W hs)
  unfold named
  generalize (⟨(s.data.toList.map cap1).toArray⟩ : ByteArray) = u at C ⊢
  obtain ⟨r, hr⟩ : ∃ r, whichN u = r := ⟨_, rfl⟩
  rw [hr]
  have HR := Lib.hid hr
  clear hr
  have n1 : (nm 1).toList = [85, 83, 45, 65, 83, 67, 73, 73] := by decide +kernel
  have n2 : (nm 2).toList = [73, 83, 79, 45, 56, 56, 53, 57, 45, 49] := by decide +kernel
  have n3 : (nm 3).toList = [85, 84, 70, 45, 56] := by decide +kernel
  by_cases h1 : (u.toList == (nm 1).toList) = true
  · obtain rfl : r = 1 := by rw [← HR.out]; unfold whichN; rw [if_pos h1]
    rw [n1] at h1
    clear n1 n2 n3
    go_enter Try.func7, Try.ntmps7
    go_wp2_with fail
    refine (C.out _).mono ?_
    rintro e w1 ⟨rfl, b1⟩
    go_wp2_with fail
    go_ret
    exact ⟨rfl, b1⟩
  · have f1 : (u.toList == (nm 1).toList) = false := by simpa using h1
    by_cases h2 : (u.toList == (nm 2).toList) = true
    · obtain rfl : r = 2 := by rw [← HR.out]; unfold whichN; rw [if_neg h1, if_pos h2]
      rw [n2] at h2
      rw [n1] at f1
      clear n1 n2 n3 h1
      go_enter Try.func7, Try.ntmps7
      go_wp2_with fail
      refine (C.out _).mono ?_
      rintro e w1 ⟨rfl, b1⟩
      go_wp2_with fail
      go_ret
      exact ⟨rfl, b1⟩
    · have f2 : (u.toList == (nm 2).toList) = false := by simpa using h2
      by_cases h3 : (u.toList == (nm 3).toList) = true
      · obtain rfl : r = 3 := by rw [← HR.out]; unfold whichN; rw [if_neg h1, if_neg h2, if_pos h3]
        rw [n3] at h3
        rw [n1] at f1
        rw [n2] at f2
        clear n1 n2 n3 h1 h2
        go_enter Try.func7, Try.ntmps7
        go_wp2_with fail
        refine (C.out _).mono ?_
        rintro e w1 ⟨rfl, b1⟩
        go_wp2_with fail
        go_ret
        exact ⟨rfl, b1⟩
      · have f3 : (u.toList == (nm 3).toList) = false := by simpa using h3
        obtain rfl : r = 0 := by rw [← HR.out]; unfold whichN; rw [if_neg h1, if_neg h2, if_neg h3]
        rw [n1] at f1
        rw [n2] at f2
        rw [n3] at f3
        clear n1 n2 n3 h1 h2 h3
        go_enter Try.func7, Try.ntmps7
        go_wp2_with fail
        refine (C.out _).mono ?_
        rintro e w1 ⟨rfl, b1⟩
        go_wp2_with fail
        go_ret
        exact ⟨rfl, b1⟩

set_option maxHeartbeats 400000 in
theorem named_any (s : ByteArray) (w : World) (hs : s.size ≤ 140737488355328) :
    Calls Try.prog 6 #[.string s] w fun e w' => e = .returned (.int .i64 (named s.data.toList)) ∧ Below w.heap.size w w' := by
  have C := Lib.hid (fun W => caps_any s W hs)
  unfold named
  generalize (⟨(s.data.toList.map cap1).toArray⟩ : ByteArray) = u at C ⊢
  have N := Lib.hid (fun k W => name_any k W)
  obtain ⟨r, hr⟩ : ∃ r, whichN u = r := ⟨_, rfl⟩
  rw [hr]
  have HR : Hid (∀ k, 1 ≤ k → k ≤ 3 → (∀ j, 1 ≤ j → j < k → ((nm j).toList == u.toList) = false) → ((nm k).toList == u.toList) = true → r = k) := Lib.hid (by
    intro k k1 k3 hj hk
    rw [← hr]; unfold whichN
    have sw : ∀ j, (u.toList == (nm j).toList) = ((nm j).toList == u.toList) := fun j => by rw [Bool.eq_iff_iff]; simp only [beq_iff_eq]; exact eq_comm
    rw [sw, sw, sw]
    rcases (by omega : k = 1 ∨ k = 2 ∨ k = 3) with rfl | rfl | rfl
    · rw [if_pos hk]
    · rw [hj 1 (by omega) (by omega), if_neg (by simp), if_pos hk]
    · rw [hj 1 (by omega) (by omega), hj 2 (by omega) (by omega), if_neg (by simp), if_neg (by simp), if_pos hk])
  have HZ : Hid ((∀ j, 1 ≤ j → j < 4 → ((nm j).toList == u.toList) = false) → r = 0) := Lib.hid (by
    intro hj
    rw [← hr]; unfold whichN
    have sw : ∀ j, (u.toList == (nm j).toList) = ((nm j).toList == u.toList) := fun j => by rw [Bool.eq_iff_iff]; simp only [beq_iff_eq]; exact eq_comm
    rw [sw, sw, sw, hj 1 (by omega) (by omega), hj 2 (by omega) (by omega), hj 3 (by omega) (by omega), if_neg (by simp), if_neg (by simp), if_neg (by simp)])
  clear hr
  go_enter Try.func6, Try.ntmps6
  go_wp2_with fail
  refine (C.out _).mono ?_
  rintro e w1 ⟨rfl, b1⟩
  go_wp2_with fail
  go_loop [4] (fun iv => ∃ k : Int, iv = .int .i64 k ∧ 1 ≤ k ∧ k ≤ 4 ∧ Hid (∀ j, 1 ≤ j → j < k → ((nm j).toList == u.toList) = false)) (fun iv => (4 - intOf iv).toNat)
  case atStart => exact ⟨1, rfl, by omega, by omega, Lib.hid (fun j h1 h2 => by omega)⟩
  case round =>
    obtain ⟨k, rfl, k1, k4, hj⟩ := hrel
    by_cases hlt : k ≤ 3
    · by_cases he : ((nm k).toList == u.toList) = true
      · obtain rfl := HR.out k k1 hlt hj.out he
        go_wp2_with fail
        refine (N.out _ _).mono ?_
        rintro e w2 ⟨rfl, rfl⟩
        go_wp2_with fail
        go_ret
        exact ⟨rfl, b1⟩
      · have hf : ((nm k).toList == u.toList) = false := by simpa using he
        have HF := Lib.hid (show ∀ j, 1 ≤ j → j < k + 1 → ((nm j).toList == u.toList) = false from fun j h1 h2 => by
          by_cases e : j = k
          · rw [e]; exact hf
          · exact hj.out j h1 (by omega))
        clear he
        go_wp2_with fail
        refine (N.out _ _).mono ?_
        rintro e w2 ⟨rfl, rfl⟩
        go_wp2_with fail
        go_round
        case rel => exact ⟨k + 1, by go_num, by omega, by omega, HF⟩
        case measure => simp [intOf]; omega
    · obtain rfl : k = 4 := by omega
      obtain rfl := HZ.out hj.out
      go_wp2_with fail
      go_ret
      exact ⟨rfl, b1⟩

set_option maxHeartbeats 400000 in
theorem names_law (s : ByteArray) (k : Int) (w : World) (hs : s.size ≤ 140737488355328) :
    Calls Try.prog 3 #[.string s, .int .i64 k] w fun e w' => e = .returned (.bool true) ∧ Below w.heap.size w w' := by
  have C1 := Lib.hid (fun W => named_any s W hs)
  have C2 := Lib.hid (fun W => refNamed_any s W hs)
  have C3 := Lib.hid (fun W => named_any ⟨#[85, 116, 102, 45, 56]⟩ W (by decide))
  rw [named_utf8] at C3
  generalize named s.data.toList = r at C1 C2
  have N1 := Lib.hid (fun W => name_any k W)
  have N2 := Lib.hid (fun W => refName_any k W)
  generalize nm k = t at N1 N2
  go_enter Try.func3, Try.ntmps3
  go_wp2_with fail
  refine (C1.out _).mono ?_
  rintro e w1 ⟨rfl, b1⟩
  go_wp2_with fail
  refine (C2.out _).mono ?_
  rintro e w2 ⟨rfl, b2⟩
  go_wp2_with fail
  refine (N1.out _).mono ?_
  rintro e w3 ⟨rfl, rfl⟩
  go_wp2_with fail
  refine (N2.out _).mono ?_
  rintro e w3 ⟨rfl, rfl⟩
  go_wp2_with fail
  refine (C3.out _).mono ?_
  rintro e w3 ⟨rfl, b3⟩
  go_wp2_with fail
  go_ret
  exact ⟨rfl, (b1.trans (b2.mono b1.size)).trans (b3.mono (by have := b1.size; have := b2.size; omega))⟩
end Go.Proofs.Ytccgpemcdbcjeaa.Cs
