/-
Fold, the program's and the document's own, answers a line in lines that are not too long. Conditions: the text has at most 2^40 bytes; the width is an int.
-/
import Derived.Test.YtcclicgjklmihaaLnUnf
import Derived.Test.YtcclicgjklmihaaLnSplit
import Derived.Test.YtcclicgjklmihaaApp
import Derived.Laws.DeepStrings4
namespace Go.Proofs.Ytcclicgjklmihaa.Ln
open Go.RowKit Strs

theorem blank_get (t : ByteArray) (i : Nat) (h : i < t.size) : blank t.data.toList i = (t[i] == 32 || t[i] == 9) := by
  rw [blank_at (by rw [list_size]; exact h)]; rfl
/-- The width that a line is folded to. -/
def wid (n : Int) : Nat := (max n 2).toNat
theorem wid_max (n : Int) : max n 2 = (wid n : Int) := by unfold wid; omega
theorem wid_pos (n : Int) : 2 ≤ wid n := by unfold wid; omega
theorem last_step {l : List UInt8} {i : Nat} {all : Nat} (hb : blank l (i + 1) = false) (h : last l (i + 1) = all) : last l i = all := by
  rw [← h]; conv => rhs; rw [last, if_neg (by rw [hb]; simp)]
theorem last_here {l : List UInt8} {i : Nat} {all : Nat} (hb : blank l (i + 1) = true) (h : last l (i + 1) = all) : i + 1 = all := by
  rw [← h, last, if_pos hb]

set_option maxRecDepth 100000 in
set_option maxHeartbeats 1000000 in
theorem foldPlace_any (t : ByteArray) (k : Nat) (hk2 : 2 ≤ k) (ht : t.size ≤ 1099511627776) (w : World) :
    Calls Try.prog 20 #[.string t, .int .i64 (k : Int)] w fun e w' => e = .returned (.int .i64 (place k t.data.toList : Int)) ∧ w = w' := by
  by_cases hs : t.size ≤ k
  · have hp : place k t.data.toList = 0 := by unfold place; rw [list_size, if_pos hs]
    rw [hp]
    have hs' : (t.size : Int) ≤ (k : Int) := by omega
    clear hs
    go_enter Try.func20, Try.ntmps20
    go_wp2_with fail
    go_ret
    exact ⟨rfl, rfl⟩
  · obtain ⟨r, hr⟩ : ∃ r, place k t.data.toList = r := ⟨_, rfl⟩
    have H0 := Lib.hid (show last t.data.toList k = r by rw [← hr]; unfold place; rw [list_size, if_neg hs])
    rw [hr]
    have hs' : (k : Int) < (t.size : Int) := by omega
    clear hr
    go_enter Try.func20, Try.ntmps20
    go_wp2_with fail
    go_loopw [5] (fun iv wr => ∃ i : Nat, iv = .int .i64 (i : Int) ∧ i ≤ k ∧ Hid (last t.data.toList i = r) ∧ w = wr) (fun iv _ => (intOf iv).toNat)
    case atStart => exact ⟨k, rfl, Nat.le_refl _, H0, rfl⟩
    case round =>
      obtain ⟨i, rfl, hi, hl, rfl⟩ := hrel
      cases i with
      | zero =>
        have HE := Lib.hid (show 0 = r from hl.out)
        go_wp2_with fail
        go_ret
        exact ⟨by rw [← HE.out]; rfl, rfl⟩
      | succ i =>
        have hit : i + 1 < t.size := by omega
        have hb := blank_get t (i + 1) hit
        have CB := Lib.hid (fun W => isBlank_any t[i + 1] W)
        rw [← hb] at CB
        have hi1 : (((i + 1 : Nat) : Int)) = (i : Int) + 1 := by omega
        have hit2 : (i : Int) + 1 < (t.size : Int) := by omega
        have hi3 : ((i : Int) + 1).toNat = i + 1 := by omega
        cases hbl : blank t.data.toList (i + 1)
        · have HL := Lib.hid (last_step hbl hl.out)
          rw [hbl] at CB
          clear hb hbl
          go_wp2_with (go_at_call 28; refine (CB.out _).mono ?_; rintro e w' ⟨rfl, rfl⟩)
          go_roundw
          case rel => exact ⟨i, by go_num, by omega, HL, trivial⟩
          case measure => simp [intOf]
        · have HL := Lib.hid (last_here hbl hl.out)
          rw [hbl] at CB
          clear hb hbl
          go_wp2_with (go_at_call 28; refine (CB.out _).mono ?_; rintro e w' ⟨rfl, rfl⟩)
          go_ret
          exact ⟨by rw [← HL.out]; rfl, rfl⟩

theorem fold_next {k : Nat} {t : List UInt8} {l all : List (List UInt8)} (h : place k t ≠ 0) (hl : l ++ fold k t = all) : (l ++ [t.take (place k t)]) ++ fold k (t.drop (place k t)) = all := by
  rw [← hl, fold_more h, List.append_assoc]; rfl
theorem fold_last {k : Nat} {t : List UInt8} {l all : List (List UInt8)} (h : place k t = 0) (hl : l ++ fold k t = all) : l ++ [t] = all := by rw [← hl, fold_end h]

set_option maxRecDepth 100000 in
set_option maxHeartbeats 1000000 in
theorem fold_any (s : ByteArray) (n : Int) (hs : s.size ≤ 1099511627776) (w : World) :
    Calls Try.prog 12 #[.string s, .int .i64 n] w (Texts w (fold (wid n) s.data.toList)) := by
  obtain ⟨i0, hi, hz0, hz1, hz2⟩ := info_parts infoStr
  have hmax := wid_max n
  have hk2 := wid_pos n
  have CF := Lib.hid (fun t ht W => foldPlace_any t (wid n) (wid_pos n) ht W)
  generalize wid n = k at hmax hk2 CF
  obtain ⟨all, hall⟩ : ∃ all, fold k s.data.toList = all := ⟨_, rfl⟩
  rw [hall]
  have H0 := Lib.hid (show ([] : List (List UInt8)) ++ fold k s.data.toList = all by rw [List.nil_append]; exact hall)
  clear hall
  go_enter Try.func12, Try.ntmps12
  go_wp2_with fail
  go_loopw [0, 5] (fun tv v wr => ∃ (t : ByteArray) (l : List (List UInt8)), tv = .string t ∧ Hid (l ++ fold k t.data.toList = all) ∧ l.length + t.size ≤ s.size ∧ Strs wr w.heap.size v l ∧ Below w.heap.size w wr) (fun tv _ _ => match tv with | .string t => t.size | _ => 0)
  case atStart => exact ⟨s, [], rfl, H0, by simp, Strs.nil _ _, Below.refl _ _⟩
  case round =>
    obtain ⟨t, l, rfl, hl, hll, hown, hbel⟩ := hrel
    have hz := hbel.size
    have C := Lib.hid (fun W => CF.out t (by omega) W)
    by_cases hp : place k t.data.toList = 0
    · have HL := Lib.hid (fold_last hp hl.out)
      rw [hp] at C
      clear hl hp
      go_wp2_with (first | (go_at_call 20; refine (C.out _).mono ?_; rintro e w' ⟨rfl, rfl⟩) | (at_builtin; refine wpList_append_own _ rfl _ _ 22 rfl w.heap.size 9 i0 (.string .empty) 1 16 Try.underlying22 hi hz0 hz1 hz2 rfl (by decide) _ _ _ rfl (World.ownsRow.alloc hown _) ⟨wr.heap.size, 0, none⟩ 1 1 [.string t] rfl rfl (cell_one_new _ _ _) (by simp [Value.oneCell']) (by unfold maxLen; omega) (by omega) (by simp; omega) ?_; intro v' w1 hown' hgrow _))
      go_ret
      exact ⟨_, rfl, Strs.snoc HL.out.symm (by rw [str_mk]; exact hown'), Strs.below hown hbel hz _ hgrow⟩
    · have HL := Lib.hid (fold_next hp hl.out)
      have hpl := (place_lt hp).1
      rw [list_size] at hpl
      rw [← ext_from] at HL
      have HX := Lib.hid (ext_to t (place k t.data.toList))
      have hsz : (t.extract (place k t.data.toList) t.size).size = t.size - place k t.data.toList := by rw [ByteArray.size_extract]; omega
      generalize place k t.data.toList = p at C hp HL hpl HX hsz
      have HSZ := Lib.hid hsz
      have hpp : 0 < p := by omega
      have hp1 : ((p : Int) == 0) = false := by simp; exact hp
      have hp2 : (p : Int) ≤ (t.size : Int) := by omega
      clear hsz hl
      go_wp2_with (first | (go_at_call 20; refine (C.out _).mono ?_; rintro e w' ⟨rfl, rfl⟩) | (at_builtin; refine wpList_append_own _ rfl _ _ 22 rfl w.heap.size 9 i0 (.string .empty) 1 16 Try.underlying22 hi hz0 hz1 hz2 rfl (by decide) _ _ _ rfl (World.ownsRow.alloc hown _) ⟨wr.heap.size, 0, none⟩ 1 1 [.string (t.extract 0 p)] rfl rfl (cell_one_new _ _ _) (by simp [Value.oneCell']) (by unfold maxLen; omega) (by omega) (by simp; omega) ?_; intro v' w1 hown' hgrow _))
      go_roundw
      case rel => exact ⟨_, _, rfl, HL, by rw [List.length_append, HSZ.out]; simp; omega, Strs.snoc rfl (by rw [← HX.out]; exact hown'), Strs.below hown hbel hz _ hgrow⟩
      case measure => show (t.extract _ t.size).size < t.size; rw [HSZ.out]; omega

theorem refBlank_any (t : ByteArray) (i : Nat) (w : World) :
    Calls Try.prog 21 #[.string t, .int .i64 (i : Int)] w fun e w' => e = .returned (.bool (blank t.data.toList i)) ∧ w = w' := by
  by_cases h : i < t.size
  · rw [blank_get t i h]
    have hit : (i : Int) < (t.size : Int) := by omega
    have hb := t[i].toNat_lt
    by_cases h1 : t[i] = 32
    · have n1 : (t[i].toNat : Int) = 32 := by rw [h1]; rfl
      have e1 : (t[i] == 32 || t[i] == 9) = true := by rw [h1]; rfl
      rw [e1]
      clear e1 h1
      go_enter Try.func21, Try.ntmps21
      go_wp2
      go_ret
      exact ⟨rfl, rfl⟩
    · have n1 : ((t[i].toNat : Int) == 32) = false := by simp; exact fun h => h1 (UInt8.toNat_inj.1 (by show t[i].toNat = 32; omega))
      by_cases h2 : t[i] = 9
      · have n2 : ((t[i].toNat : Int) == 9) = true := by rw [h2]; rfl
        have e1 : (t[i] == 32 || t[i] == 9) = true := by rw [h2]; rfl
        rw [e1]
        clear e1 h1 h2
        go_enter Try.func21, Try.ntmps21
        go_wp2
        go_ret
        exact ⟨rfl, rfl⟩
      · have n2 : ((t[i].toNat : Int) == 9) = false := by simp; exact fun h => h2 (UInt8.toNat_inj.1 (by show t[i].toNat = 9; omega))
        have e1 : (t[i] == 32 || t[i] == 9) = false := by simp [h1, h2]
        rw [e1]
        clear e1 h1 h2
        go_enter Try.func21, Try.ntmps21
        go_wp2
        go_ret
        exact ⟨rfl, rfl⟩
  · rw [blank_off (by rw [list_size]; exact h)]
    have hit : ¬ (i : Int) < (t.size : Int) := by omega
    go_enter Try.func21, Try.ntmps21
    go_wp2
    go_ret
    exact ⟨rfl, rfl⟩
end Go.Proofs.Ytcclicgjklmihaa.Ln
