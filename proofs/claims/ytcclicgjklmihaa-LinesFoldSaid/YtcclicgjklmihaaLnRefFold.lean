/-
The document's own Fold answers a line in lines that are not too long. Conditions: the text has at most 2^40 bytes; the width is an int.
-/
import Derived.Test.YtcclicgjklmihaaLnFold
namespace Go.Proofs.Ytcclicgjklmihaa.Ln
open Go.RowKit Strs

theorem place_short {k : Nat} {t : ByteArray} (h : t.size ≤ k) : place k t.data.toList = 0 := by unfold place; rw [list_size, if_pos h]
theorem place_long {k : Nat} {t : ByteArray} (h : ¬ t.size ≤ k) : place k t.data.toList = last t.data.toList k := by unfold place; rw [list_size, if_neg h]
theorem last_yes {l : List UInt8} {i : Nat} (h : blank l (i + 1) = true) : last l (i + 1) = i + 1 := by rw [last, if_pos h]
theorem last_no {l : List UInt8} {i : Nat} (h : blank l (i + 1) = false) : last l (i + 1) = last l i := by rw [last, if_neg (by rw [h]; simp)]

set_option maxRecDepth 100000 in
set_option maxHeartbeats 2000000 in
theorem refFold_any (s : ByteArray) (n : Int) (hs : s.size ≤ 1099511627776) (w : World) :
    Calls Try.prog 13 #[.string s, .int .i64 n] w (Texts w (fold (wid n) s.data.toList)) := by
  obtain ⟨i0, hi, hz0, hz1, hz2⟩ := info_parts infoStr
  have hmax := wid_max n
  have hk2 := wid_pos n
  generalize wid n = k at hmax hk2
  obtain ⟨all, hall⟩ : ∃ all, fold k s.data.toList = all := ⟨_, rfl⟩
  rw [hall]
  have H0 := Lib.hid (show ([] : List (List UInt8)) ++ fold k s.data.toList = all by rw [List.nil_append]; exact hall)
  have CB := Lib.hid (fun t i W => refBlank_any t i W)
  clear hall
  go_enter Try.func13, Try.ntmps13
  go_wp2_with fail
  go_loopw [0, 5] (fun tv v wr => ∃ (t : ByteArray) (l : List (List UInt8)), tv = .string t ∧ Hid (l ++ fold k t.data.toList = all) ∧ l.length + t.size ≤ s.size ∧ Strs wr w.heap.size v l ∧ Below w.heap.size w wr) (fun tv _ _ => match tv with | .string t => t.size | _ => 0)
  case atStart => exact ⟨s, [], rfl, H0, by simp, Strs.nil _ _, Below.refl _ _⟩
  case round =>
    obtain ⟨t, l, rfl, hl, hll, hown, hbel⟩ := hrel
    have hz := hbel.size
    by_cases hlt : t.size ≤ k
    · have HL := Lib.hid (fold_last (place_short hlt) hl.out)
      have hlt' : (t.size : Int) ≤ (k : Int) := by omega
      clear hl
      go_wp2_with (at_builtin; refine wpList_append_own _ rfl _ _ 22 rfl w.heap.size 9 i0 (.string .empty) 1 16 Try.underlying22 hi hz0 hz1 hz2 rfl (by decide) _ _ _ rfl (World.ownsRow.alloc hown _) ⟨wr.heap.size, 0, none⟩ 1 1 [.string t] rfl rfl (cell_one_new _ _ _) (by simp [Value.oneCell']) (by unfold maxLen; omega) (by omega) (by simp; omega) ?_; intro v' w1 hown' hgrow _)
      go_ret
      exact ⟨_, rfl, Strs.snoc HL.out.symm (by rw [str_mk]; exact hown'), Strs.below hown hbel hz _ hgrow⟩
    · have hpe := place_long hlt
      have hlt' : (k : Int) < (t.size : Int) := by omega
      obtain ⟨p, hp⟩ : ∃ p, last t.data.toList k = p := ⟨_, rfl⟩
      rw [hp] at hpe
      have HP := Lib.hid hp
      have HPE := Lib.hid hpe
      clear hp hpe
      go_wp2_with fail
      go_loopw [6, 7] (fun av iv wr2 => ∃ i : Nat, iv = .int .i64 ((i : Int) + 1) ∧ i ≤ k ∧ av = .int .i64 (last t.data.toList i : Int) ∧ wr = wr2) (fun _ iv _ => k + 1 - (intOf iv).toNat)
      case atStart => exact ⟨0, rfl, Nat.zero_le _, rfl, rfl⟩
      case round =>
        obtain ⟨i, rfl, hik, rfl, rfl⟩ := hrel
        by_cases hc : i < k
        · have C := Lib.hid (fun W => CB.out t (i + 1) W)
          have hci : (i : Int) + 1 ≤ (k : Int) := by omega
          rw [show ((i + 1 : Nat) : Int) = (i : Int) + 1 by omega] at C
          cases hbl : blank t.data.toList (i + 1)
          · have HN := Lib.hid (last_no hbl)
            rw [hbl] at C
            clear hbl
            go_wp2_with (go_at_call 21; refine (C.out _).mono ?_; rintro e w' ⟨rfl, rfl⟩)
            go_roundw
            case rel => exact ⟨i + 1, by go_num, by omega, by rw [HN.out], trivial⟩
            case measure => simp [intOf]; omega
          · have HN := Lib.hid (last_yes hbl)
            rw [hbl] at C
            clear hbl
            go_wp2_with (go_at_call 21; refine (C.out _).mono ?_; rintro e w' ⟨rfl, rfl⟩)
            go_roundw
            case rel => exact ⟨i + 1, by go_num, by omega, by rw [HN.out]; go_num, trivial⟩
            case measure => simp [intOf]; omega
        · obtain rfl : i = k := by omega
          have hci : ¬ ((i : Int) + 1 ≤ (i : Int)) := by omega
          have hpi := HP.out
          rw [hpi]
          clear hpi
          by_cases hp0 : p = 0
          · subst hp0
            have HL := Lib.hid (fold_last HPE.out hl.out)
            go_wp2_with (at_builtin; refine wpList_append_own _ rfl _ _ 22 rfl w.heap.size 9 i0 (.string .empty) 1 16 Try.underlying22 hi hz0 hz1 hz2 rfl (by decide) _ _ _ rfl (World.ownsRow.alloc hown _) ⟨wr.heap.size, 0, none⟩ 1 1 [.string t] rfl rfl (cell_one_new _ _ _) (by simp [Value.oneCell']) (by unfold maxLen; omega) (by omega) (by simp; omega) ?_; intro v' w1 hown' hgrow _)
            go_ret
            exact ⟨_, rfl, Strs.snoc HL.out.symm (by rw [str_mk]; exact hown'), Strs.below hown hbel hz _ hgrow⟩
          · have hne : place i t.data.toList ≠ 0 := by rw [HPE.out]; exact hp0
            have HL := Lib.hid (fold_next hne hl.out)
            have hpl := (place_lt hne).1
            rw [list_size] at hpl
            rw [← ext_from] at HL
            rw [HPE.out] at HL hpl
            have HX := Lib.hid (ext_to t p)
            have hsz : (t.extract p t.size).size = t.size - p := by rw [ByteArray.size_extract]; omega
            have HSZ := Lib.hid hsz
            have hpp : 0 < p := by omega
            have hp1 : ((p : Int) == 0) = false := by simp; exact hp0
            have hp2 : (p : Int) ≤ (t.size : Int) := by omega
            clear hsz hl hne
            go_wp2_with (at_builtin; refine wpList_append_own _ rfl _ _ 22 rfl w.heap.size 9 i0 (.string .empty) 1 16 Try.underlying22 hi hz0 hz1 hz2 rfl (by decide) _ _ _ rfl (World.ownsRow.alloc hown _) ⟨wr.heap.size, 0, none⟩ 1 1 [.string (t.extract 0 p)] rfl rfl (cell_one_new _ _ _) (by simp [Value.oneCell']) (by unfold maxLen; omega) (by omega) (by simp; omega) ?_; intro v' w1 hown' hgrow _)
            go_roundw
            case rel => exact ⟨_, _, rfl, HL, by rw [List.length_append, HSZ.out]; simp; omega, Strs.snoc rfl (by rw [← HX.out]; exact hown'), Strs.below hown hbel hz _ hgrow⟩
            case measure => show (t.extract _ t.size).size < t.size; rw [HSZ.out]; omega
end Go.Proofs.Ytcclicgjklmihaa.Ln
