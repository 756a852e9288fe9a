/-
Plain functions on bytes: what two digits of either case say, through the library's capital letters. No program in it, no conditions.
-/
import Derived.Test.YtccjagjbldofaaaDoorFigUnhexMath
import Derived.Lib.MapLaws
import Derived.Shelf.Strings.CaseAny
namespace Go.Proofs.YtccjagjbldofaaaDoor.Qu
open Go.RowKit Fig

/-- What a digit of either case counts; -1: it is none. -/
def half (c : UInt8) : Int := if 97 ≤ (c.toNat : Int) ∧ (c.toNat : Int) ≤ 102 then (c.toNat : Int) - 87 else hv c
theorem half_bd (c : UInt8) : -1 ≤ half c ∧ half c ≤ 15 := by
  have := hv_bd c
  unfold half; split <;> omega
set_option maxRecDepth 100000 in
theorem hv_upper_fin : ∀ i : Fin 128, hv (Lib.upperB (UInt8.ofNat i.val)) = half (UInt8.ofNat i.val) := by decide
theorem hv_upper (c : UInt8) (h : c.toNat < 128) : hv (Lib.upperB c) = half c := by
  have := hv_upper_fin ⟨c.toNat, h⟩
  simpa using this
theorem hv_high (c : UInt8) (h : 128 ≤ c.toNat) : hv c < 0 := by
  unfold hv; rw [hvI_no (by omega) (by omega)]; decide
theorem half_high (c : UInt8) (h : 128 ≤ c.toNat) : half c < 0 := by
  unfold half; rw [if_neg (by omega)]; exact hv_high c h

theorem unhex_has {l : List UInt8} {c : UInt8} (h : c ∈ l) (hc : hv c < 0) : unhex l = ([], 3) := by
  unfold unhex; rw [if_pos]
  rw [List.any_eq_true]; exact ⟨c, h, by simpa using hc⟩

/-- A capital that is asked of a rune from 128 on is one from 128 on, or I, or S. -/
def rowHigh (x : Lib.CaseRow) : Bool :=
  decide (x.2.1 < 128) || (decide (128 ≤ x.1) && (decide (x.delta 0 > 1114111) || decide (128 ≤ (x.1 : Int) + x.delta 0) || (decide (x.1 = x.2.1) && (decide ((x.1 : Int) + x.delta 0 = 73) || decide ((x.1 : Int) + x.delta 0 = 83)))))
set_option maxRecDepth 1000000 in
theorem rowsHigh : Lib.caseT.all rowHigh = true := by decide
theorem caseA_high (i : Nat) (hi : i < Lib.caseA.size) : rowHigh (Lib.caseA.getD i (0, 0, 0, 0, 0)) = true := by
  have hm : Lib.caseA.getD i (0, 0, 0, 0, 0) ∈ Lib.caseT := by
    unfold Lib.caseA at hi ⊢
    simp only [List.size_toArray] at hi
    simp [Array.getD, hi]
  exact List.all_eq_true.1 rowsHigh _ hm
theorem upper_high (r : Nat) (h : 128 ≤ r) : 128 ≤ Lib.toUpperU r ∨ Lib.toUpperU r = 73 ∨ Lib.toUpperU r = 83 := by
  unfold Lib.toUpperU
  rw [if_neg (by omega)]
  unfold Lib.toR Lib.lookupGo
  cases hi : Lib.lookupIdx Lib.caseA r (Lib.caseA.size + 1) 0 Lib.caseA.size with
  | none => left; show (128 : Int) ≤ r; omega
  | some i =>
    obtain ⟨hil, hlo, hhi⟩ := Lib.lookupIdx_some Lib.caseA r _ _ _ i hi
    have hr := caseA_high i hil
    show 128 ≤ Lib.convertR 0 r (Lib.caseA.getD i (0, 0, 0, 0, 0)) ∨ _ = _ ∨ _ = _
    change (_ ∨ Lib.convertR 0 r (Lib.caseA.getD i (0, 0, 0, 0, 0)) = 73 ∨ Lib.convertR 0 r (Lib.caseA.getD i (0, 0, 0, 0, 0)) = 83)
    generalize Lib.caseA.getD i (0, 0, 0, 0, 0) = x at hr hlo hhi
    simp only [rowHigh, Bool.or_eq_true, Bool.and_eq_true, decide_eq_true_eq] at hr
    unfold Lib.convertR
    rcases hr with hr | ⟨h1, (hr | hr) | ⟨he, hr⟩⟩
    · omega
    · rw [if_pos hr]; left; omega
    · split <;> (left; omega)
    · split
      · left; omega
      · rcases hr with hr | hr
        · right; left; omega
        · right; right; omega

theorem encode_high (u : Int) (h : 128 ≤ u ∨ u = 73 ∨ u = 83) : ∃ c ∈ Lib.encodeRune u, hv c < 0 := by
  have key : ∀ z : Int, z ∈ Lib.encodeRuneZ u → (192 ≤ z ∧ z < 256) → ∃ c ∈ Lib.encodeRune u, hv c < 0 := fun z hz hb => by
    refine ⟨z.toNat.toUInt8, List.mem_map.2 ⟨z, hz, rfl⟩, hv_high _ ?_⟩
    simp; omega
  rcases h with h | h | h
  · by_cases h2 : u ≤ 2047
    · exact key (192 + u / 64) (by rw [Lib.encodeRuneZ_two h h2]; simp) (by omega)
    · by_cases h3 : (2048 ≤ u ∧ u < 55296) ∨ (57343 < u ∧ u ≤ 65535)
      · exact key (224 + u / 4096) (by rw [Lib.encodeRuneZ_three h3]; simp) (by omega)
      · by_cases h4 : 65536 ≤ u ∧ u ≤ 1114111
        · exact key (240 + u / 262144) (by rw [Lib.encodeRuneZ_four h4.1 h4.2]; simp) (by omega)
        · exact key 239 (by rw [Lib.encodeRuneZ_bad (by omega)]; simp) (by omega)
  · subst h; exact ⟨73, by decide, by decide⟩
  · subst h; exact ⟨83, by decide, by decide⟩

theorem decode_high (c : UInt8) (t : List UInt8) (h : 128 ≤ c.toNat) : 128 ≤ (Lib.decodeL (c :: t)).1 := by
  rw [Lib.decodeL_N]
  rcases Lib.decodeN_shape (c :: t).length ((c :: t).getD 0 0).toNat ((c :: t).getD 1 0).toNat ((c :: t).getD 2 0).toNat ((c :: t).getD 3 0).toNat with ⟨h1, e⟩ | ⟨_, _, _, h1, e⟩ | ⟨_, _, _, _, h1, _, e⟩ | ⟨_, _, _, _, _, h1, _, e⟩ | e
  · exfalso; simp at h1; omega
  · rw [e]; exact h1
  · rw [e]; show 128 ≤ _; omega
  · rw [e]; show 128 ≤ _; omega
  · rw [e]; decide

/-- From a byte from 128 on there comes what is no digit. -/
theorem upperD_high (c : UInt8) (t : List UInt8) (h : 128 ≤ c.toNat) : ∃ x ∈ Lib.toUpperD (c :: t), hv x < 0 := by
  have hu := upper_high _ (decode_high c t h)
  obtain ⟨x, hx, hn⟩ := encode_high _ hu
  refine ⟨x, ?_, hn⟩
  unfold Lib.toUpperD
  rw [Lib.mapD_step _ _ (by simp), if_pos (Lib.toUpperU_range _ (Lib.decodeL_rune _)).1]
  exact List.mem_append_left _ hx

theorem said1 (x : UInt8) : unhex (Lib.toUpperD [x]) = if half x < 0 then ([], 3) else ([], 1) := by
  by_cases h : x.toNat < 128
  · rw [Lib.toUpperD_ascii [x] (by simpa using h)]
    unfold Lib.toUpperA unhex
    simp [hv_upper x h]
  · obtain ⟨c, hc, hn⟩ := upperD_high x [] (by omega)
    rw [unhex_has hc hn, if_pos (half_high x (by omega))]
theorem said2 (x y : UInt8) : unhex (Lib.toUpperD [x, y]) = if half x < 0 ∨ half y < 0 then ([], 3) else ([UInt8.ofNat (16 * half x + half y).toNat], 0) := by
  by_cases h : x.toNat < 128
  · by_cases h' : y.toNat < 128
    · rw [Lib.toUpperD_ascii [x, y] (by simp; exact ⟨h, h'⟩)]
      unfold Lib.toUpperA unhex
      simp [hv_upper x h, hv_upper y h', pairs]
    · obtain ⟨c, hc, hn⟩ := upperD_high y [] (by omega)
      rw [if_pos (.inr (half_high y (by omega)))]
      refine unhex_has (c := c) ?_ hn
      unfold Lib.toUpperD at hc ⊢
      rw [Lib.mapD_step _ _ (by simp), Lib.decodeL_ascii x [y] h]
      exact List.mem_append_right _ hc
  · obtain ⟨c, hc, hn⟩ := upperD_high x [y] (by omega)
    rw [unhex_has hc hn, if_pos (.inl (half_high x (by omega)))]
end Go.Proofs.YtccjagjbldofaaaDoor.Qu
