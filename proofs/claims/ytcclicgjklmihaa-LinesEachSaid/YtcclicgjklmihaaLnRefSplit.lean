/-
The document's own Split answers a text's lines. Conditions: the text has at most 2^40 bytes.
-/
import Derived.Test.YtcclicgjklmihaaLnSplit
import Derived.Laws.DeepStrings4
namespace Go.Proofs.Ytcclicgjklmihaa.Ln
open Go.RowKit Strs

theorem ext_one (t : ByteArray) (k : Nat) (h : k < t.size) : (t.extract k (k + 1)).data.toList = [t[k]] := by
  have h' : k < t.data.toList.length := by rw [list_size]; exact h
  rw [ByteArray.data_extract, Array.toList_extract, List.extract_eq_take_drop, List.drop_eq_getElem_cons h']
  simp
  rfl
theorem drop_at (t : ByteArray) (k : Nat) (h : k < t.size) : t.data.toList.drop k = t[k] :: t.data.toList.drop (k + 1) := by
  rw [List.drop_eq_getElem_cons (by rw [list_size]; exact h)]; rfl
theorem drop_end (t : ByteArray) (k : Nat) (h : ¬ k < t.size) : t.data.toList.drop k = [] := List.drop_eq_nil_of_le (by rw [list_size]; omega)

/-- One byte more. -/
theorem ref_more {s : ByteArray} {k : Nat} {t : List UInt8} {l all : List (List UInt8)} (h : k < s.size) (hb : ¬ s[k] = 10) (hl : l ++ spl t (s.data.toList.drop k) = all) : l ++ spl (t ++ [s[k]]) (s.data.toList.drop (k + 1)) = all := by
  rw [← hl, drop_at s k h]; conv => rhs; rw [spl, if_neg hb]
theorem ref_line {s : ByteArray} {k : Nat} {t : List UInt8} {l all : List (List UInt8)} (h : k < s.size) (hb : s[k] = 10) (hl : l ++ spl t (s.data.toList.drop k) = all) : (l ++ [trimR t]) ++ spl [] (s.data.toList.drop (k + 1)) = all := by
  rw [← hl, drop_at s k h]; conv => rhs; rw [spl, if_pos hb]
  simp
theorem ref_end {s : ByteArray} {k : Nat} {l all : List (List UInt8)} (h : ¬ k < s.size) (hl : l ++ spl [] (s.data.toList.drop k) = all) : l = all := by
  rw [← hl, drop_end s k h]; simp [spl]
theorem ref_last {s : ByteArray} {k : Nat} {t : List UInt8} {l all : List (List UInt8)} (h : ¬ k < s.size) (ht : t ≠ []) (hl : l ++ spl t (s.data.toList.drop k) = all) : l ++ [t] = all := by
  rw [← hl, drop_end s k h]; simp [spl, ht]
theorem add_str (a b : List UInt8) (t : ByteArray) (h : t.data.toList = b) : (⟨a.toArray⟩ : ByteArray) ++ t = ⟨(a ++ b).toArray⟩ := by
  apply ByteArray.ext; subst h; simp [ByteArray.data_append]
theorem last_cases (t : List UInt8) : t = [] ∨ (t ≠ [] ∧ t.getLast? = some 13) ∨ (t ≠ [] ∧ ¬ t.getLast? = some 13) := by
  cases t with
  | nil => exact .inl rfl
  | cons b r => by_cases h : (b :: r).getLast? = some 13 <;> simp [h]

/-- The last byte of a text that is not empty. -/
theorem last_at (T : ByteArray) (t : List UInt8) (hT : T.data.toList = t) (h : t ≠ []) : ∃ (j : Nat) (hj : j < T.size), (T.size : Int) - 1 = (j : Int) ∧ t.getLast? = some T[j] ∧ T.extract 0 j = ⟨t.dropLast.toArray⟩ ∧ t.dropLast.length = j := by
  have hl : t.length = T.size := by rw [← hT, list_size]
  have h0 : 0 < t.length := by cases t with | nil => exact absurd rfl h | cons a r => simp
  refine ⟨T.size - 1, by omega, by omega, ?_, ?_, by rw [List.length_dropLast]; omega⟩
  · rw [List.getLast?_eq_getElem?, hl]
    subst hT
    rw [List.getElem?_eq_getElem (by omega)]
    rfl
  · rw [ext_to, hT, List.dropLast_eq_take, hl]

set_option maxRecDepth 100000 in
set_option maxHeartbeats 2000000 in
theorem refSplit_any (s : ByteArray) (hs : s.size ≤ 1099511627776) (w : World) :
    Calls Try.prog 9 #[.string s] w (Texts w (split s.data.toList)) := by
  obtain ⟨i0, hi, hz0, hz1, hz2⟩ := info_parts infoStr
  obtain ⟨all, hall⟩ : ∃ all, split s.data.toList = all := ⟨_, rfl⟩
  have h0 : ([] : List (List UInt8)) ++ spl [] (s.data.toList.drop 0) = all := by rw [List.drop_zero]; exact hall
  have H0 := Lib.hid h0
  rw [hall]
  clear hall h0
  go_enter Try.func9, Try.ntmps9
  go_wp2_with fail
  go_loopw [3, 4, 5] (fun v tv iv wr => ∃ (k : Nat) (t : List UInt8) (l : List (List UInt8)), iv = .int .i64 (k : Int) ∧ tv = .string ⟨t.toArray⟩ ∧ k ≤ s.size ∧ Hid (l ++ spl t (s.data.toList.drop k) = all) ∧ (l.length ≤ k ∧ t.length ≤ k) ∧ Strs wr w.heap.size v l ∧ Below w.heap.size w wr) (fun _ _ iv _ => s.size - (intOf iv).toNat)
  case atStart => exact ⟨0, [], [], rfl, rfl, Nat.zero_le _, H0, ⟨Nat.le_refl _, Nat.le_refl _⟩, Strs.nil _ _, Below.refl _ _⟩
  case round =>
    obtain ⟨k, t, l, rfl, rfl, hk, hl, ⟨hll, htl⟩, hown, hbel⟩ := hrel
    have hz := hbel.size
    by_cases hlt : k < s.size
    · have hk1 : (k : Int) < (s.size : Int) := by omega
      by_cases hb : s[k] = 10
      · have hb1 : ((s[k].toNat : Int) == 10) = true := by rw [hb]; rfl
        have hT := mk_list t
        have hTs := mk_size t
        have HL := Lib.hid (ref_line hlt hb hl.out)
        rcases last_cases t with rfl | ⟨hne, h13⟩ | ⟨hne, h13⟩
        · skip
          -- LEAF A
          have hsn := str_none (t := ⟨([] : List UInt8).toArray⟩) rfl
          clear hb
          go_wp2_with (at_builtin; refine wpList_append_own _ rfl _ _ 22 rfl w.heap.size 9 i0 (.string .empty) 1 16 Try.underlying22 hi hz0 hz1 hz2 rfl (by decide) _ _ _ rfl (World.ownsRow.alloc hown _) ⟨wr.heap.size, 0, none⟩ 1 1 [.string ⟨([] : List UInt8).toArray⟩] rfl rfl (cell_one_new _ _ _) (by simp [Value.oneCell']) (by unfold maxLen; omega) (by omega) (by simp; omega) ?_; intro v' w1 hown' hgrow _)
          go_roundw
          case rel => exact ⟨k + 1, [], _, by go_num, rfl, by omega, HL, ⟨by simp; omega, by simp⟩, Strs.snoc rfl hown', Strs.below hown hbel hz _ hgrow⟩
          case measure => simp [intOf]; omega
          -- ENDLEAF
        · skip
          -- LEAF B
          have hsn := str_full (t := ⟨t.toArray⟩) (by rw [hT]; exact hne)
          obtain ⟨j, hjl, hj1, hla, hdl, hlj⟩ := last_at _ t hT hne
          rw [h13] at hla
          have htr : trimR t = t.dropLast := by unfold trimR; rw [if_pos h13]
          rw [htr] at HL
          have hTz : (⟨t.toArray⟩ : ByteArray).size ≤ 1099511627776 := by omega
          clear hT hTs
          generalize t.dropLast = d at hdl HL hlj
          generalize (⟨t.toArray⟩ : ByteArray) = T at hsn hj1 hjl hla hdl hTz ⊢
          have h13' : (T[j].toNat : Int) = 13 := by
            have : T[j] = 13 := by simpa using hla.symm
            rw [this]; rfl
          have hjl2 : (j : Int) < (T.size : Int) := by omega
          have HDL := Lib.hid hdl
          have HLJ := Lib.hid hlj
          clear hb h13 hla htr hdl hne hlj
          go_wp2_with (at_builtin; refine wpList_append_own _ rfl _ _ 22 rfl w.heap.size 9 i0 (.string .empty) 1 16 Try.underlying22 hi hz0 hz1 hz2 rfl (by decide) _ _ _ rfl (World.ownsRow.alloc hown _) ⟨wr.heap.size, 0, none⟩ 1 1 [.string (T.extract 0 j)] rfl rfl (cell_one_new _ _ _) (by simp [Value.oneCell']) (by unfold maxLen; omega) (by omega) (by simp; omega) ?_; intro v' w1 hown' hgrow _)
          go_roundw
          case rel => exact ⟨k + 1, [], _, by go_num, rfl, by omega, HL, ⟨by simp; omega, by simp⟩, Strs.snoc rfl (by rw [← HDL.out]; exact hown'), Strs.below hown hbel hz _ hgrow⟩
          case measure => simp [intOf]; omega
          -- ENDLEAF
        · skip
          -- LEAF C
          have hsn := str_full (t := ⟨t.toArray⟩) (by rw [hT]; exact hne)
          obtain ⟨j, hjl, hj1, hla, hdl, hlj⟩ := last_at _ t hT hne
          have htr : trimR t = t := by unfold trimR; rw [if_neg h13]
          rw [htr] at HL
          rw [hla] at h13
          have hTz : (⟨t.toArray⟩ : ByteArray).size ≤ 1099511627776 := by omega
          clear hT hTs htr hla hdl hlj
          generalize hTT : (⟨t.toArray⟩ : ByteArray) = T at hsn hj1 hjl h13 hTz ⊢
          have HTT := Lib.hid hTT
          clear hTT
          have h13' : ¬ (T[j].toNat : Int) = 13 := fun h => h13 (by congr 1; exact UInt8.toNat_inj.1 (by show _ = 13; omega))
          have h13b : ((T[j].toNat : Int) == 13) = false := by simpa using h13'
          have hjl2 : (j : Int) < (T.size : Int) := by omega
          clear hb h13 hne
          go_wp2_with (at_builtin; refine wpList_append_own _ rfl _ _ 22 rfl w.heap.size 9 i0 (.string .empty) 1 16 Try.underlying22 hi hz0 hz1 hz2 rfl (by decide) _ _ _ rfl (World.ownsRow.alloc hown _) ⟨wr.heap.size, 0, none⟩ 1 1 [.string T] rfl rfl (cell_one_new _ _ _) (by simp [Value.oneCell']) (by unfold maxLen; omega) (by omega) (by simp; omega) ?_; intro v' w1 hown' hgrow _)
          go_roundw
          case rel => exact ⟨k + 1, [], _, by go_num, rfl, by omega, HL, ⟨by simp; omega, by simp⟩, Strs.snoc rfl (by rw [HTT.out]; exact hown'), Strs.below hown hbel hz _ hgrow⟩
          case measure => simp [intOf]; omega
          -- ENDLEAF
      · have HL := Lib.hid (ref_more hlt hb hl.out)
        have hb1 : (!((s[k].toNat : Int) == 10)) = true := by simp; exact fun h => hb (UInt8.toNat_inj.1 (by show s[k].toNat = 10; omega))
        have hb2 : ¬ (s[k].toNat : Int) = 10 := fun h => hb (UInt8.toNat_inj.1 (by show s[k].toNat = 10; omega))
        have HA := Lib.hid (add_str t [s[k]] (s.extract k (k + 1)) (ext_one s k hlt))
        have hk2 : (k : Int) + 1 ≤ (s.size : Int) := by omega
        have hk3 : ((k : Int) + 1).toNat = k + 1 := by omega
        go_wp2_with fail
        go_roundw
        case rel => exact ⟨k + 1, t ++ [s[k]], l, by go_num, by rw [HA.out], by omega, HL, ⟨by omega, by simp; omega⟩, hown, hbel⟩
        case measure => simp [intOf]; omega
    · skip
      -- LEAF E
      by_cases ht : t = []
      · subst ht
        have hsn := str_none (t := ⟨([] : List UInt8).toArray⟩) rfl
        have HE := Lib.hid (ref_end hlt hl.out)
        go_wp2_with fail
        go_ret
        exact ⟨_, rfl, by rw [← HE.out]; exact hown, hbel⟩
      · have hsn := str_full (t := ⟨t.toArray⟩) (by rw [mk_list]; exact ht)
        have HE := Lib.hid (ref_last hlt ht hl.out)
        have hsn2 : t.isEmpty = false := by cases t with | nil => exact absurd rfl ht | cons a r => rfl
        go_wp2_with (at_builtin; refine wpList_append_own _ rfl _ _ 22 rfl w.heap.size 9 i0 (.string .empty) 1 16 Try.underlying22 hi hz0 hz1 hz2 rfl (by decide) _ _ _ rfl (World.ownsRow.alloc hown _) ⟨wr.heap.size, 0, none⟩ 1 1 [.string ⟨t.toArray⟩] rfl rfl (cell_one_new _ _ _) (by simp [Value.oneCell']) (by unfold maxLen; omega) (by omega) (by simp; omega) ?_; intro v' w1 hown' hgrow _)
        go_ret
        exact ⟨_, rfl, Strs.snoc HE.out.symm hown', Strs.below hown hbel hz _ hgrow⟩
      -- ENDLEAF
