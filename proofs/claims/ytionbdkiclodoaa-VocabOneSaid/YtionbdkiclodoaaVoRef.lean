/-
The document's own lists of names, its tokens and its names are the plain functions'. No conditions: any page, any name, any token.
-/
import Derived.Test.YtionbdkiclodoaaVoMath
import Derived.Test.YtionbdkiclodoaaApp
import Derived.Test.YtionbdkiclodoaaStrs
import Derived.BigQuiet
import Derived.Deep.QuietTactic
import Derived.RegionTactic
import Derived.IntWalk
namespace Go.Proofs.Ytionbdkiclodoaa.Vo
set_option maxRecDepth 100000
open Go.RowKit Strs

theorem drop_at (t : ByteArray) (k : Nat) (h : k < t.size) : t.data.toList.drop k = t[k] :: t.data.toList.drop (k + 1) := by
  rw [List.drop_eq_getElem_cons (by rw [list_size]; exact h)]; rfl
theorem drop_end (t : ByteArray) (k : Nat) (h : ¬ k < t.size) : t.data.toList.drop k = [] := List.drop_eq_nil_of_le (by rw [list_size]; omega)
theorem ext_mid (t : ByteArray) (f i : Nat) : t.extract f i = ⟨((t.data.toList.take i).drop f).toArray⟩ := by
  apply ByteArray.ext; rw [ByteArray.data_extract]; apply Array.ext'; simp [List.take_drop]
  by_cases h : f ≤ i
  · rw [show f + (i - f) = i by omega]
  · rw [List.drop_eq_nil_of_le (by simp; omega), List.drop_eq_nil_of_le (by simp; omega)]
theorem take_at (t : ByteArray) (f i : Nat) (h : i < t.size) (hf : f ≤ i) : (t.data.toList.take (i + 1)).drop f = (t.data.toList.take i).drop f ++ [t[i]] := by
  have hl : i < t.data.toList.length := by rw [list_size]; exact h
  rw [List.take_succ_eq_append_getElem hl, List.drop_append_of_le_length (by simp; omega)]
  rfl

/-- What has been gathered of a text's words, f being where the one at i begins. -/
def Got (s : ByteArray) (all : List (List UInt8)) (i f : Nat) (l : List (List UInt8)) : Prop :=
  (s.size = 0 ∧ l = all) ∨ (s.size ≠ 0 ∧ i ≤ s.size ∧ f ≤ i ∧ l ++ sp ((s.data.toList.take i).drop f) (s.data.toList.drop i) = all) ∨ (s.size ≠ 0 ∧ i = s.size + 1 ∧ l = all)
section got
variable {s : ByteArray} {all l : List (List UInt8)} {i f : Nat}
theorem got_start (s : ByteArray) : Got s (wds s.data.toList) 0 0 [] := by
  unfold Got
  by_cases h : s.size = 0
  · left
    have : s.data.toList = [] := List.eq_nil_of_length_eq_zero (by rw [list_size]; exact h)
    exact ⟨h, by rw [this]; rfl⟩
  · right; left
    refine ⟨h, Nat.zero_le _, Nat.le_refl _, ?_⟩
    have : s.data.toList ≠ [] := fun e => h (by rw [← list_size, e]; rfl)
    unfold wds
    rw [if_neg this]; rfl
theorem Got.done (h : Got s all i f l) (hi : ¬ (i ≤ s.size ∧ s.size ≠ 0)) : l = all := by
  rcases h with h | h | h
  · exact h.2
  · exact absurd ⟨h.2.1, h.1⟩ hi
  · exact h.2.2
theorem Got.full (h : Got s all i f l) (hi : i ≤ s.size) (h0 : s.size ≠ 0) : f ≤ i ∧ l ++ sp ((s.data.toList.take i).drop f) (s.data.toList.drop i) = all := by
  rcases h with h | h | h
  · exact absurd h.1 h0
  · exact h.2.2
  · omega
theorem Got.last (h : Got s all i f l) (hi : i = s.size) (h0 : s.size ≠ 0) : Got s all (i + 1) (i + 1) (l ++ [(s.data.toList.take i).drop f]) := by
  obtain ⟨_, h⟩ := h.full (by omega) h0
  rw [drop_end s i (by omega), sp] at h
  exact .inr (.inr ⟨h0, by omega, h⟩)
theorem Got.blank (h : Got s all i f l) (hi : i < s.size) (hb : s[i] = 32) : Got s all (i + 1) (i + 1) (l ++ [(s.data.toList.take i).drop f]) := by
  have h0 : s.size ≠ 0 := by omega
  obtain ⟨_, h⟩ := h.full (by omega) h0
  rw [drop_at s i hi, sp, if_pos hb] at h
  refine .inr (.inl ⟨h0, by omega, Nat.le_refl _, ?_⟩)
  have e : (s.data.toList.take (i + 1)).drop (i + 1) = [] := List.drop_eq_nil_of_le (List.length_take_le _ _)
  rw [e, ← h, List.append_assoc]; rfl
theorem Got.more (h : Got s all i f l) (hi : i < s.size) (hb : ¬ s[i] = 32) : Got s all (i + 1) f l := by
  have h0 : s.size ≠ 0 := by omega
  obtain ⟨hf, h⟩ := h.full (by omega) h0
  rw [drop_at s i hi, sp, if_neg hb] at h
  exact .inr (.inl ⟨h0, by omega, by omega, by rw [take_at s f i hi hf]; exact h⟩)
theorem Got.le (h : Got s all i f l) (hi : i ≤ s.size) (h0 : s.size ≠ 0) : f ≤ i := (h.full hi h0).1
end got
theorem bare {s : ByteArray} (h : s.size = 0) : (!s.toList.isEmpty) = false := str_none (List.eq_nil_of_length_eq_zero (by rw [list_size]; exact h))
theorem clad {s : ByteArray} (h : s.size ≠ 0) : (!s.toList.isEmpty) = true := str_full fun e => h (by rw [← list_size, e]; rfl)

/-- The answer is a row of texts of the call's own. -/
def Texts (w : World) (l : List (List UInt8)) (e : Ending) (W' : World) : Prop := ∃ v, e = .returned v ∧ Strs W' w.heap.size v l ∧ Below w.heap.size w W'

set_option maxHeartbeats 4000000 in
theorem refList_any (p : Int) (w : World) :
    Calls Try.prog 15 #[.int .i64 p] w (Texts w (wds (txt p))) := by
  obtain ⟨i0, hi, hz0, hz1, hz2⟩ := info_parts infoStr
  obtain ⟨s, hs⟩ : ∃ s, s = (⟨(txt p).toArray⟩ : ByteArray) := ⟨_, rfl⟩
  have hsd : s.data.toList = txt p := by rw [hs]
  have HG := Lib.hid (got_start s)
  rw [hsd] at HG
  have HZ := Lib.hid (show s.size ≤ 1000 by rw [← list_size, hsd]; exact size_txt p)
  have h : p = 0 ∨ p = 1 ∨ p = 2 ∨ (¬ p = 0 ∧ ¬ p = 1 ∧ ¬ p = 2) := by omega
  rcases h with rfl | rfl | rfl | ⟨h0, h1, h2⟩
  · clear hsd
    generalize wds (txt 0) = all at HG ⊢
    go_enter Try.func15, Try.ntmps15
    go_wp2_with fail
    generalize hc : ByteArray.mk (List.toArray (List.append _ _)) = sv
    have hsv : sv = s := by rw [hs, ← hc]; kernel_rfl
    clear hs hc
    rw [hsv]
    clear hsv
    go_loopw [4, 5, 6] (fun lv fv iv wr => ∃ (i f : Nat) (l : List (List UInt8)), fv = .int .i64 (f : Int) ∧ iv = .int .i64 (i : Int) ∧ i ≤ s.size + 1 ∧ l.length ≤ i ∧ Hid (Got s all i f l) ∧ wr.ownsRow w.heap.size 9 1 lv l.length (scells l) ∧ Below w.heap.size w wr) (fun _ _ iv _ => s.size + 1 - (intOf iv).toNat)
    case atStart => exact ⟨0, 0, [], rfl, rfl, Nat.zero_le _, Nat.le_refl _, HG, World.ownsRow_nil _ _ _ _, Below.refl _ _⟩
    case round =>
      obtain ⟨i, f, l, rfl, rfl, hi1, hli, hL, hrow, hbel⟩ := hrel
      have hz := hbel.size
      have hs1 := HZ.out
      by_cases h0 : s.size = 0
      · have hsne := bare h0
        have hE := Lib.hid (hL.out.done (fun h => h.2 h0))
        by_cases hle : (i : Int) ≤ (s.size : Int)
        · go_wp2_with fail
          try (go_quiet (fail); go_wp2_with fail)
          go_ret
          exact ⟨_, rfl, by rw [← hE.out]; exact hrow, hbel⟩
        · go_wp2_with fail
          try (go_quiet (fail); go_wp2_with fail)
          go_ret
          exact ⟨_, rfl, by rw [← hE.out]; exact hrow, hbel⟩
      · have hsne := clad h0
        by_cases hle : i ≤ s.size
        · have hle' : (i : Int) ≤ (s.size : Int) := by omega
          have hfi := hL.out.le hle h0
          have hfi' : (f : Int) ≤ (i : Int) := by omega
          have HX := Lib.hid (ext_mid s f i)
          have hA : l.length + 1 ≤ maxLen := by unfold maxLen; omega
          have hA2 : (l.length + 1) * 16 ≤ 140737488355328 := by omega
          by_cases hend : i = s.size
          · have HL := Lib.hid (hL.out.last hend h0)
            have he : ((i : Int) == (s.size : Int)) = true := by simp; omega
            subst hend
            go_wp2_with (at_builtin; refine wpList_append_own _ rfl _ _ 31 rfl w.heap.size 9 i0 (.string .empty) 1 16 Try.underlying31 hi hz0 hz1 hz2 rfl (by decide) _ _ _ rfl (World.ownsRow.alloc hrow _) ⟨wr.heap.size, 0, none⟩ 1 1 [.string (s.extract f s.size)] rfl rfl (cell_one_new _ _ _) (by simp [Value.oneCell']) hA hA2 (by simp; omega) ?_; intro v' w1 hown' hgrow _)
            try (go_quiet (fail); go_wp2_with (at_builtin; refine wpList_append_own _ rfl _ _ 31 rfl w.heap.size 9 i0 (.string .empty) 1 16 Try.underlying31 hi hz0 hz1 hz2 rfl (by decide) _ _ _ rfl (World.ownsRow.alloc hrow _) ⟨wr.heap.size, 0, none⟩ 1 1 [.string (s.extract f s.size)] rfl rfl (cell_one_new _ _ _) (by simp [Value.oneCell']) hA hA2 (by simp; omega) ?_; intro v' w1 hown' hgrow _))
            go_roundw
            case rel => exact ⟨s.size + 1, s.size + 1, _, by go_num, by go_num, by omega, by simp; omega, HL, Strs.snoc rfl (by rw [← HX.out]; exact hown'), Strs.below hrow hbel hz _ hgrow⟩
            case measure => first | (simp [intOf]; done) | (simp [intOf]; omega)
          · have hlt : i < s.size := by omega
            have he : ((i : Int) == (s.size : Int)) = false := by simp; omega
            by_cases hb : s[i] = 32
            · have HL := Lib.hid (hL.out.blank hlt hb)
              have n1 : ((s[i].toNat : Int) == 32) = true := by rw [hb]; rfl
              clear hb
              go_wp2_with (at_builtin; refine wpList_append_own _ rfl _ _ 31 rfl w.heap.size 9 i0 (.string .empty) 1 16 Try.underlying31 hi hz0 hz1 hz2 rfl (by decide) _ _ _ rfl (World.ownsRow.alloc hrow _) ⟨wr.heap.size, 0, none⟩ 1 1 [.string (s.extract f i)] rfl rfl (cell_one_new _ _ _) (by simp [Value.oneCell']) hA hA2 (by simp; omega) ?_; intro v' w1 hown' hgrow _)
              try (go_quiet (fail); go_wp2_with (at_builtin; refine wpList_append_own _ rfl _ _ 31 rfl w.heap.size 9 i0 (.string .empty) 1 16 Try.underlying31 hi hz0 hz1 hz2 rfl (by decide) _ _ _ rfl (World.ownsRow.alloc hrow _) ⟨wr.heap.size, 0, none⟩ 1 1 [.string (s.extract f i)] rfl rfl (cell_one_new _ _ _) (by simp [Value.oneCell']) hA hA2 (by simp; omega) ?_; intro v' w1 hown' hgrow _))
              go_roundw
              case rel => exact ⟨i + 1, i + 1, _, by go_num, by go_num, by omega, by simp; omega, HL, Strs.snoc rfl (by rw [← HX.out]; exact hown'), Strs.below hrow hbel hz _ hgrow⟩
              case measure => first | (simp [intOf]; done) | (simp [intOf]; omega)
            · have HL := Lib.hid (hL.out.more hlt hb)
              have n1 : ((s[i].toNat : Int) == 32) = false := by simp; exact fun h => hb (UInt8.toNat_inj.1 (by show s[i].toNat = 32; omega))
              clear hb
              go_wp2_with fail
              try (go_quiet (fail); go_wp2_with fail)
              go_roundw
              case rel => exact ⟨i + 1, f, l, rfl, by go_num, by omega, by omega, HL, hrow, hbel⟩
              case measure => first | (simp [intOf]; done) | (simp [intOf]; omega)
        · have hle' : ¬ (i : Int) ≤ (s.size : Int) := by omega
          have hE := Lib.hid (hL.out.done (fun h => hle h.1))
          go_wp2_with fail
          try (go_quiet (fail); go_wp2_with fail)
          go_ret
          exact ⟨_, rfl, by rw [← hE.out]; exact hrow, hbel⟩
  · clear hsd
    generalize wds (txt 1) = all at HG ⊢
    go_enter Try.func15, Try.ntmps15
    go_wp2_with fail
    generalize hc : ByteArray.mk (List.toArray (List.append _ _)) = sv
    have hsv : sv = s := by rw [hs, ← hc]; kernel_rfl
    clear hs hc
    rw [hsv]
    clear hsv
    go_loopw [4, 5, 6] (fun lv fv iv wr => ∃ (i f : Nat) (l : List (List UInt8)), fv = .int .i64 (f : Int) ∧ iv = .int .i64 (i : Int) ∧ i ≤ s.size + 1 ∧ l.length ≤ i ∧ Hid (Got s all i f l) ∧ wr.ownsRow w.heap.size 9 1 lv l.length (scells l) ∧ Below w.heap.size w wr) (fun _ _ iv _ => s.size + 1 - (intOf iv).toNat)
    case atStart => exact ⟨0, 0, [], rfl, rfl, Nat.zero_le _, Nat.le_refl _, HG, World.ownsRow_nil _ _ _ _, Below.refl _ _⟩
    case round =>
      obtain ⟨i, f, l, rfl, rfl, hi1, hli, hL, hrow, hbel⟩ := hrel
      have hz := hbel.size
      have hs1 := HZ.out
      by_cases h0 : s.size = 0
      · have hsne := bare h0
        have hE := Lib.hid (hL.out.done (fun h => h.2 h0))
        by_cases hle : (i : Int) ≤ (s.size : Int)
        · go_wp2_with fail
          try (go_quiet (fail); go_wp2_with fail)
          go_ret
          exact ⟨_, rfl, by rw [← hE.out]; exact hrow, hbel⟩
        · go_wp2_with fail
          try (go_quiet (fail); go_wp2_with fail)
          go_ret
          exact ⟨_, rfl, by rw [← hE.out]; exact hrow, hbel⟩
      · have hsne := clad h0
        by_cases hle : i ≤ s.size
        · have hle' : (i : Int) ≤ (s.size : Int) := by omega
          have hfi := hL.out.le hle h0
          have hfi' : (f : Int) ≤ (i : Int) := by omega
          have HX := Lib.hid (ext_mid s f i)
          have hA : l.length + 1 ≤ maxLen := by unfold maxLen; omega
          have hA2 : (l.length + 1) * 16 ≤ 140737488355328 := by omega
          by_cases hend : i = s.size
          · have HL := Lib.hid (hL.out.last hend h0)
            have he : ((i : Int) == (s.size : Int)) = true := by simp; omega
            subst hend
            go_wp2_with (at_builtin; refine wpList_append_own _ rfl _ _ 31 rfl w.heap.size 9 i0 (.string .empty) 1 16 Try.underlying31 hi hz0 hz1 hz2 rfl (by decide) _ _ _ rfl (World.ownsRow.alloc hrow _) ⟨wr.heap.size, 0, none⟩ 1 1 [.string (s.extract f s.size)] rfl rfl (cell_one_new _ _ _) (by simp [Value.oneCell']) hA hA2 (by simp; omega) ?_; intro v' w1 hown' hgrow _)
            try (go_quiet (fail); go_wp2_with (at_builtin; refine wpList_append_own _ rfl _ _ 31 rfl w.heap.size 9 i0 (.string .empty) 1 16 Try.underlying31 hi hz0 hz1 hz2 rfl (by decide) _ _ _ rfl (World.ownsRow.alloc hrow _) ⟨wr.heap.size, 0, none⟩ 1 1 [.string (s.extract f s.size)] rfl rfl (cell_one_new _ _ _) (by simp [Value.oneCell']) hA hA2 (by simp; omega) ?_; intro v' w1 hown' hgrow _))
            go_roundw
            case rel => exact ⟨s.size + 1, s.size + 1, _, by go_num, by go_num, by omega, by simp; omega, HL, Strs.snoc rfl (by rw [← HX.out]; exact hown'), Strs.below hrow hbel hz _ hgrow⟩
            case measure => first | (simp [intOf]; done) | (simp [intOf]; omega)
          · have hlt : i < s.size := by omega
            have he : ((i : Int) == (s.size : Int)) = false := by simp; omega
            by_cases hb : s[i] = 32
            · have HL := Lib.hid (hL.out.blank hlt hb)
              have n1 : ((s[i].toNat : Int) == 32) = true := by rw [hb]; rfl
              clear hb
              go_wp2_with (at_builtin; refine wpList_append_own _ rfl _ _ 31 rfl w.heap.size 9 i0 (.string .empty) 1 16 Try.underlying31 hi hz0 hz1 hz2 rfl (by decide) _ _ _ rfl (World.ownsRow.alloc hrow _) ⟨wr.heap.size, 0, none⟩ 1 1 [.string (s.extract f i)] rfl rfl (cell_one_new _ _ _) (by simp [Value.oneCell']) hA hA2 (by simp; omega) ?_; intro v' w1 hown' hgrow _)
              try (go_quiet (fail); go_wp2_with (at_builtin; refine wpList_append_own _ rfl _ _ 31 rfl w.heap.size 9 i0 (.string .empty) 1 16 Try.underlying31 hi hz0 hz1 hz2 rfl (by decide) _ _ _ rfl (World.ownsRow.alloc hrow _) ⟨wr.heap.size, 0, none⟩ 1 1 [.string (s.extract f i)] rfl rfl (cell_one_new _ _ _) (by simp [Value.oneCell']) hA hA2 (by simp; omega) ?_; intro v' w1 hown' hgrow _))
              go_roundw
              case rel => exact ⟨i + 1, i + 1, _, by go_num, by go_num, by omega, by simp; omega, HL, Strs.snoc rfl (by rw [← HX.out]; exact hown'), Strs.below hrow hbel hz _ hgrow⟩
              case measure => first | (simp [intOf]; done) | (simp [intOf]; omega)
            · have HL := Lib.hid (hL.out.more hlt hb)
              have n1 : ((s[i].toNat : Int) == 32) = false := by simp; exact fun h => hb (UInt8.toNat_inj.1 (by show s[i].toNat = 32; omega))
              clear hb
              go_wp2_with fail
              try (go_quiet (fail); go_wp2_with fail)
              go_roundw
              case rel => exact ⟨i + 1, f, l, rfl, by go_num, by omega, by omega, HL, hrow, hbel⟩
              case measure => first | (simp [intOf]; done) | (simp [intOf]; omega)
        · have hle' : ¬ (i : Int) ≤ (s.size : Int) := by omega
          have hE := Lib.hid (hL.out.done (fun h => hle h.1))
          go_wp2_with fail
          try (go_quiet (fail); go_wp2_with fail)
          go_ret
          exact ⟨_, rfl, by rw [← hE.out]; exact hrow, hbel⟩
  · clear hsd
    generalize wds (txt 2) = all at HG ⊢
    go_enter Try.func15, Try.ntmps15
    go_wp2_with fail
    generalize hc : ByteArray.mk (List.toArray (List.append _ _)) = sv
    have hsv : sv = s := by rw [hs, ← hc]; kernel_rfl
    clear hs hc
    rw [hsv]
    clear hsv
    go_loopw [4, 5, 6] (fun lv fv iv wr => ∃ (i f : Nat) (l : List (List UInt8)), fv = .int .i64 (f : Int) ∧ iv = .int .i64 (i : Int) ∧ i ≤ s.size + 1 ∧ l.length ≤ i ∧ Hid (Got s all i f l) ∧ wr.ownsRow w.heap.size 9 1 lv l.length (scells l) ∧ Below w.heap.size w wr) (fun _ _ iv _ => s.size + 1 - (intOf iv).toNat)
    case atStart => exact ⟨0, 0, [], rfl, rfl, Nat.zero_le _, Nat.le_refl _, HG, World.ownsRow_nil _ _ _ _, Below.refl _ _⟩
    case round =>
      obtain ⟨i, f, l, rfl, rfl, hi1, hli, hL, hrow, hbel⟩ := hrel
      have hz := hbel.size
      have hs1 := HZ.out
      by_cases h0 : s.size = 0
      · have hsne := bare h0
        have hE := Lib.hid (hL.out.done (fun h => h.2 h0))
        by_cases hle : (i : Int) ≤ (s.size : Int)
        · go_wp2_with fail
          try (go_quiet (fail); go_wp2_with fail)
          go_ret
          exact ⟨_, rfl, by rw [← hE.out]; exact hrow, hbel⟩
        · go_wp2_with fail
          try (go_quiet (fail); go_wp2_with fail)
          go_ret
          exact ⟨_, rfl, by rw [← hE.out]; exact hrow, hbel⟩
      · have hsne := clad h0
        by_cases hle : i ≤ s.size
        · have hle' : (i : Int) ≤ (s.size : Int) := by omega
          have hfi := hL.out.le hle h0
          have hfi' : (f : Int) ≤ (i : Int) := by omega
          have HX := Lib.hid (ext_mid s f i)
          have hA : l.length + 1 ≤ maxLen := by unfold maxLen; omega
          have hA2 : (l.length + 1) * 16 ≤ 140737488355328 := by omega
          by_cases hend : i = s.size
          · have HL := Lib.hid (hL.out.last hend h0)
            have he : ((i : Int) == (s.size : Int)) = true := by simp; omega
            subst hend
            go_wp2_with (at_builtin; refine wpList_append_own _ rfl _ _ 31 rfl w.heap.size 9 i0 (.string .empty) 1 16 Try.underlying31 hi hz0 hz1 hz2 rfl (by decide) _ _ _ rfl (World.ownsRow.alloc hrow _) ⟨wr.heap.size, 0, none⟩ 1 1 [.string (s.extract f s.size)] rfl rfl (cell_one_new _ _ _) (by simp [Value.oneCell']) hA hA2 (by simp; omega) ?_; intro v' w1 hown' hgrow _)
            try (go_quiet (fail); go_wp2_with (at_builtin; refine wpList_append_own _ rfl _ _ 31 rfl w.heap.size 9 i0 (.string .empty) 1 16 Try.underlying31 hi hz0 hz1 hz2 rfl (by decide) _ _ _ rfl (World.ownsRow.alloc hrow _) ⟨wr.heap.size, 0, none⟩ 1 1 [.string (s.extract f s.size)] rfl rfl (cell_one_new _ _ _) (by simp [Value.oneCell']) hA hA2 (by simp; omega) ?_; intro v' w1 hown' hgrow _))
            go_roundw
            case rel => exact ⟨s.size + 1, s.size + 1, _, by go_num, by go_num, by omega, by simp; omega, HL, Strs.snoc rfl (by rw [← HX.out]; exact hown'), Strs.below hrow hbel hz _ hgrow⟩
            case measure => first | (simp [intOf]; done) | (simp [intOf]; omega)
          · have hlt : i < s.size := by omega
            have he : ((i : Int) == (s.size : Int)) = false := by simp; omega
            by_cases hb : s[i] = 32
            · have HL := Lib.hid (hL.out.blank hlt hb)
              have n1 : ((s[i].toNat : Int) == 32) = true := by rw [hb]; rfl
              clear hb
              go_wp2_with (at_builtin; refine wpList_append_own _ rfl _ _ 31 rfl w.heap.size 9 i0 (.string .empty) 1 16 Try.underlying31 hi hz0 hz1 hz2 rfl (by decide) _ _ _ rfl (World.ownsRow.alloc hrow _) ⟨wr.heap.size, 0, none⟩ 1 1 [.string (s.extract f i)] rfl rfl (cell_one_new _ _ _) (by simp [Value.oneCell']) hA hA2 (by simp; omega) ?_; intro v' w1 hown' hgrow _)
              try (go_quiet (fail); go_wp2_with (at_builtin; refine wpList_append_own _ rfl _ _ 31 rfl w.heap.size 9 i0 (.string .empty) 1 16 Try.underlying31 hi hz0 hz1 hz2 rfl (by decide) _ _ _ rfl (World.ownsRow.alloc hrow _) ⟨wr.heap.size, 0, none⟩ 1 1 [.string (s.extract f i)] rfl rfl (cell_one_new _ _ _) (by simp [Value.oneCell']) hA hA2 (by simp; omega) ?_; intro v' w1 hown' hgrow _))
              go_roundw
              case rel => exact ⟨i + 1, i + 1, _, by go_num, by go_num, by omega, by simp; omega, HL, Strs.snoc rfl (by rw [← HX.out]; exact hown'), Strs.below hrow hbel hz _ hgrow⟩
              case measure => first | (simp [intOf]; done) | (simp [intOf]; omega)
            · have HL := Lib.hid (hL.out.more hlt hb)
              have n1 : ((s[i].toNat : Int) == 32) = false := by simp; exact fun h => hb (UInt8.toNat_inj.1 (by show s[i].toNat = 32; omega))
              clear hb
              go_wp2_with fail
              try (go_quiet (fail); go_wp2_with fail)
              go_roundw
              case rel => exact ⟨i + 1, f, l, rfl, by go_num, by omega, by omega, HL, hrow, hbel⟩
              case measure => first | (simp [intOf]; done) | (simp [intOf]; omega)
        · have hle' : ¬ (i : Int) ≤ (s.size : Int) := by omega
          have hE := Lib.hid (hL.out.done (fun h => hle h.1))
          go_wp2_with fail
          try (go_quiet (fail); go_wp2_with fail)
          go_ret
          exact ⟨_, rfl, by rw [← hE.out]; exact hrow, hbel⟩
  · have hw : wds (txt p) = [] := by unfold txt; rw [if_neg h0, if_neg h1, if_neg h2]; rfl
    rw [hw]
    clear hsd hs HG HZ hw
    go_enter Try.func15, Try.ntmps15
    go_wp2_with fail
    go_loopw [4, 5, 6] (fun lv fv iv wr => lv = .slice none 0 0 ∧ iv = .int .i64 0 ∧ wr = w) (fun _ _ _ _ => 0)
    case atStart => exact ⟨rfl, rfl, rfl⟩
    case round =>
      obtain ⟨rfl, rfl, rfl⟩ := hrel
      go_wp2_with fail
      try (go_quiet (fail); go_wp2_with fail)
      go_ret
      exact ⟨_, rfl, Strs.nil _ _, Below.refl _ _⟩
end Go.Proofs.Ytionbdkiclodoaa.Vo
