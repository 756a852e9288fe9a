/-
The law PropReads, from what the program's Parse answers. No other conditions.
-/
import Derived.Test.YtccgpemcdbcjeaaDoorPpParse
import Derived.Test.YtccgpemcdbcjeaaDoorPpSame
namespace Go.Proofs.YtccgpemcdbcjeaaDoor.Pp
open Go.RowKit

theorem parsP_six (s : ByteArray) (z : Nat) (g n : ByteArray) : ∀ (d stop : Nat) (ps : List (ByteArray × ByteArray)), z - stop ≤ d → ps.length ≤ 6 → (parsP s z g n stop ps).ps.length ≤ 6 := by
  intro d
  induction d with
  | zero =>
    intro stop ps hd hp
    rw [parsP, dif_neg (by omega)]
    unfold tailP errP
    simp only
    split
    · simp
    · split
      · simp
      · exact hp
  | succ d ih =>
    intro stop ps hd hp
    rw [parsP]
    by_cases h : stop < z
    · rw [dif_pos h]
      simp only
      split
      · simp [errP]
      · split
        · simp [errP]
        · refine ih _ _ ?_ ?_
          · have := find_ge (s := s) (a := stop + 1) (z := z) (c := 59); omega
          · rw [List.length_append]; simp; omega
    · rw [dif_neg h]
      unfold tailP errP
      simp only
      split
      · simp
      · split
        · simp
        · exact hp
theorem parse_six (s : ByteArray) : (parse s).ps.length ≤ 6 := by
  unfold parse groupP nameP
  simp only
  split
  · simp [errP]
  · split
    · split
      · simp [errP]
      · split
        · simp [errP]
        · exact parsP_six _ _ _ _ _ _ _ (Nat.le_refl _) (by simp)
    · split
      · simp [errP]
      · exact parsP_six _ _ _ _ _ _ _ (Nat.le_refl _) (by simp)

set_option maxHeartbeats 1000000 in
theorem reads_law (s : ByteArray) (w : World)
    (hParse : ∀ W, s.size ≤ 5000 → Calls Tryd.prog 5 #[.string s] W fun e w' => Told W (parse s) e w') :
    Calls Tryd.prog 3 #[.string s] w fun e w' => e = .returned (.bool true) ∧ Below w.heap.size w w' := by
  by_cases hg : 5000 < (s.size : Int)
  · go_enter Tryd.func3, Tryd.ntmps3
    go_wp2_with fail
    go_ret
    exact ⟨rfl, Below.refl _ _⟩
  · have C1 := Lib.hid (fun W => hParse W (by omega))
    have C2 := Lib.hid (fun W => rParse_any s W (by omega))
    have h6 := parse_six s
    obtain ⟨⟨g, n, ps, v, at_, er⟩, hR⟩ : ∃ R, parse s = R := ⟨_, rfl⟩
    rw [hR] at C1 C2 h6
    simp only at h6
    clear hParse hR
    go_enter Tryd.func3, Tryd.ntmps3
    go_wp2_with fail
    refine (C1.out _).mono ?_
    rintro e w1 ⟨pv1, rfl, ho1, b1⟩
    simp only at ho1
    obtain ⟨a1, c1, rfl⟩ := shapeP ho1
    unfold prV
    have hA : PrAt (w1.alloc (.cells #[.string g, .string n, .slice a1 ps.length c1, .string v, .slice none 0 0] 25)) w1.heap.size g n (.slice a1 ps.length c1) v (.slice none 0 0) := heap_alloc_new w1 _
    have bA : Below w1.heap.size w1 (w1.alloc (.cells #[.string g, .string n, .slice a1 ps.length c1, .string v, .slice none 0 0] 25)) := (Below.refl _ _).alloc (Nat.le_refl _) _
    go_wp2_with fail
    refine (C2.out _).mono ?_
    rintro e w2 ⟨pv2, rfl, ho2, b2⟩
    simp only at ho2
    obtain ⟨a2, c2, rfl⟩ := shapeP ho2
    unfold prV
    have bB : Below w2.heap.size w2 (w2.alloc (.cells #[.string g, .string n, .slice a2 ps.length c2, .string v, .slice none 0 0] 25)) := (Below.refl _ _).alloc (Nat.le_refl _) _
    have hA3 := (hA.below b2).below bB
    have d0 := hA3.c0
    have d1 := hA3.c1
    have d2 := hA3.c2
    have d3 := hA3.c3
    have d4 := hA3.c4
    have b12 : Below w1.heap.size w1 w2 := bA.trans (b2.mono bA.size)
    have P1 := ((ho1.ps.below b12).up b12.size).below bB |>.up bB.size
    have P2 := (ho2.ps.below bB).up bB.size
    have CS := rSame_yes g n v _ _ none none 0 0 0 ps _ P1 P2 (by omega)
    have BB := (b1.trans (b12.mono b1.size)).trans (bB.mono (Nat.le_trans b1.size b12.size))
    unfold prV at CS
    go_wp2_with fail
    refine CS.mono ?_
    rintro e w3 ⟨rfl, b3⟩
    go_wp2_with fail
    go_ret
    exact ⟨rfl, BB.trans (b3.mono BB.size)⟩
end Go.Proofs.YtccgpemcdbcjeaaDoor.Pp
