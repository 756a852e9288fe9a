/-
The document's own reader: its two loops, 'Text' and 'Number'. Conditions: the reader's place is within its text, the text's length is at most maxLen.
-/
import Derived.Test.YtpapakkcomegnaaMbRef
namespace Go.Proofs.Ytpapakkcomegnaa.Mb
open Go.RowKit

theorem rText_was (b : Nat) (s : ByteArray) (i : Nat) (e : Int) (w : World) (h : Rr w b s i e) (he : (e != 0) = true) :
    Calls Try.prog 17 #[.pointer (some ⟨b, 0, none⟩)] w fun x w' => x = .returned (.string ⟨([] : List UInt8).toArray⟩) ∧ Rr w' b s i e ∧ w.grownBy w' (some b) := by
  have c2 := h.c2
  go_enter Try.func17, Try.ntmps17
  go_wp2
  go_ret
  exact ⟨rfl, h, grown_refl _ _⟩

/-- Of the bytes from place i on none is a nought ahead of place j. -/
def NoNought (s : ByteArray) (i j : Nat) : Prop := (s.data.toList.drop i).idxOf 0 = (j - i) + (s.data.toList.drop j).idxOf 0
theorem NoNought.start (s : ByteArray) (i : Nat) : NoNought s i i := by unfold NoNought; omega
theorem NoNought.next {s : ByteArray} {i j : Nat} (h : NoNought s i j) (hij : i ≤ j) (hj : j < s.size) (h0 : (s[j].toNat : Int) ≠ 0) : NoNought s i (j + 1) := by
  unfold NoNought at h ⊢
  rw [h, List.drop_eq_getElem_cons (by rw [len_data]; exact hj), List.idxOf_cons]
  have : (s.data.toList[j]'(by rw [len_data]; exact hj) == 0) = false := by
    rw [beq_eq_false_iff_ne]
    intro e
    apply h0
    rw [get_data s j hj] at e
    rw [e]; rfl
  rw [this]
  simp only [Bool.cond_false]
  omega
theorem NoNought.found {s : ByteArray} {i j : Nat} (h : NoNought s i j) (hij : i ≤ j) (hj : j < s.size) (h0 : (s[j].toNat : Int) = 0) : txtOf (s.data.toList.drop i) = ((s.extract i j).data.toList, j + 1 - i, 0) := by
  unfold NoNought at h
  rw [List.drop_eq_getElem_cons (l := s.data.toList) (i := j) (by rw [len_data]; exact hj), List.idxOf_cons] at h
  have : (s.data.toList[j]'(by rw [len_data]; exact hj) == 0) = true := by
    rw [beq_iff_eq, get_data s j hj]
    apply UInt8.toNat_inj.1
    show _ = 0
    omega
  rw [this] at h
  simp only [Bool.cond_true, Nat.add_zero] at h
  rw [txt_yes (by rw [h, List.length_drop, len_data]; omega), h, ext_data]
  congr 2
  omega
theorem NoNought.none {s : ByteArray} {i j : Nat} (h : NoNought s i j) (hij : i ≤ j) (hj : s.size ≤ j) : txtOf (s.data.toList.drop i) = ([], 0, 1) := by
  unfold NoNought at h
  rw [List.drop_of_length_le (l := s.data.toList) (i := j) (by rw [len_data]; exact hj)] at h
  simp only [List.idxOf_nil, Nat.add_zero] at h
  exact txt_no (by rw [h, List.length_drop, len_data]; omega)

set_option maxHeartbeats 1000000 in
theorem rText_go (b : Nat) (s : ByteArray) (i : Nat) (w : World) (h : Rr w b s i 0) (hi : i ≤ s.size) (hs : s.size ≤ 9223372036854775807) :
    Calls Try.prog 17 #[.pointer (some ⟨b, 0, none⟩)] w fun x w' => x = .returned (.string ⟨(ansV 0 [] (txtOf (s.data.toList.drop i))).toArray⟩) ∧ Rr w' b s (ansI 0 i (txtOf (s.data.toList.drop i))) (ansE 0 (txtOf (s.data.toList.drop i))) ∧ w.grownBy w' (some b) := by
  have c0 := h.c0
  have c1 := h.c1
  have c2 := h.c2
  have f1 := h.f1
  have f2 := h.f2
  go_enter Try.func17, Try.ntmps17
  go_wp2
  go_loop [3] (fun k => ∃ j : Nat, i ≤ j ∧ j ≤ s.size ∧ k = .int .i64 j ∧ NoNought s i j) (fun k => s.size - (intOf k).toNat)
  case atStart => exact ⟨i, Nat.le_refl _, hi, rfl, NoNought.start s i⟩
  case round =>
    obtain ⟨j, hij, hjs, rfl, HN⟩ := hrel
    by_cases hlt : j < s.size
    · by_cases h0 : (s[j].toNat : Int) = 0
      · have HT := Lib.hid (HN.found hij hlt h0)
        have hb : ((s[j].toNat : Int) == 0) = true := by simpa using h0
        clear h0
        go_wp2
        go_quiet (fail)
        go_wp2
        go_ret
        exact ⟨by rw [HT.out, ansV_ok rfl, str_mk]; rfl, by rw [HT.out, ansI_ok rfl, ansE_zero]; exact (h.drewN _).at _ _ (by simp only; omega), grown_set (grown_drewN (grown_refl _ _) _) _ _⟩
      · have HT := HN.next hij hlt h0
        have hb : ((s[j].toNat : Int) == 0) = false := by rw [beq_eq_false_iff_ne]; exact h0
        clear h0
        go_wp2
        go_round
        case rel => exact ⟨j + 1, by omega, by omega, by go_num, HT⟩
        case measure => simp [intOf]; omega
    · have HT := Lib.hid (HN.none hij (by omega))
      go_wp2
      go_ret
      exact ⟨by rw [HT.out, ansV_bad (by decide)]; rfl, by rw [HT.out, ansI_bad (by decide), ansE_zero]; exact h.err _, grown_set (grown_refl _ _) _ _⟩
theorem rText_any (b : Nat) (s : ByteArray) (i : Nat) (e : Int) (w : World) (h : Rr w b s i e) (hi : i ≤ s.size) (hs : s.size ≤ maxLen) :
    Calls Try.prog 17 #[.pointer (some ⟨b, 0, none⟩)] w fun x w' => x = .returned (.string ⟨(ansV e [] (txtOf (s.data.toList.drop i))).toArray⟩) ∧ Rr w' b s (ansI e i (txtOf (s.data.toList.drop i))) (ansE e (txtOf (s.data.toList.drop i))) ∧ w.grownBy w' (some b) := by
  unfold maxLen at hs
  by_cases he : e = 0
  · subst he; exact rText_go b s i w h hi (by omega)
  · rw [ansV_was he, ansI_was he, ansE_was he]; exact rText_was b s i e w h (bne_int he)

theorem rNumber_was (b : Nat) (s : ByteArray) (i : Nat) (e : Int) (w : World) (h : Rr w b s i e) (he : (e != 0) = true) :
    Calls Try.prog 13 #[.pointer (some ⟨b, 0, none⟩)] w fun x w' => x = .returned (.int .u32 ((0 : Nat) : Int)) ∧ Rr w' b s i e ∧ w.grownBy w' (some b) := by
  have c2 := h.c2
  go_enter Try.func13, Try.ntmps13
  go_wp2
  go_ret
  exact ⟨rfl, h, grown_refl _ _⟩

theorem drop_head {s : ByteArray} {i : Nat} (h : i < s.size) : (s.data.toList.drop i).head? = some s[i] := by
  rw [List.drop_eq_getElem_cons (by rw [len_data]; exact h)]; rfl

set_option maxHeartbeats 1000000 in
theorem rNumber_field (b : Nat) (s : ByteArray) (i : Nat) (w : World) (h : Rr w b s i 0) (hi : i < s.size) (h8 : (s[i].toNat : Int) = 128) :
    Calls Try.prog 13 #[.pointer (some ⟨b, 0, none⟩)] w fun x w' => x = .returned (.int .u32 ((0 : Nat) : Int)) ∧ Rr w' b s i 3 ∧ w.grownBy w' (some b) := by
  have c0 := h.c0
  have c1 := h.c1
  have c2 := h.c2
  have f2 := h.f2
  have hb : ((s[i].toNat : Int) == 128) = true := by simpa using h8
  clear h8
  go_enter Try.func13, Try.ntmps13
  go_wp2
  go_loop [4] (fun k => k = .int .i64 i) (fun _ => 0)
  case atStart => rfl
  case round =>
    subst hrel
    go_wp2
    go_ret
    exact ⟨rfl, h.err _, grown_set (grown_refl _ _) _ _⟩

/-- What the walk of Number knows at the head of a round. -/
def Num (s : ByteArray) (i j m : Nat) : Prop := numOf (s.data.toList.drop i) = nsteps m (j - i) (s.data.toList.drop j)
theorem Num.start {s : ByteArray} {i : Nat} (h : i < s.size → (s[i]!.toNat : Int) ≠ 128) : Num s i i 0 := by
  unfold Num
  rw [Nat.sub_self]
  unfold numOf
  rw [if_neg]
  intro hh
  by_cases hi : i < s.size
  · rw [drop_head hi] at hh
    apply h hi
    rw [getElem!_pos s i hi, Option.some.inj hh]; rfl
  · rw [List.drop_of_length_le (by rw [len_data]; omega)] at hh
    cases hh
theorem Num.short {s : ByteArray} {i j m : Nat} (h : Num s i j m) (hj : s.size ≤ j) : numOf (s.data.toList.drop i) = (0, 0, 1) := by
  unfold Num at h; rw [h]; exact nsteps_short m _ (by rw [len_data]; exact hj)
theorem Num.range {s : ByteArray} {i j m : Nat} (h : Num s i j m) (hj : j < s.size) (hm : 33554432 ≤ m) : numOf (s.data.toList.drop i) = (0, 0, 2) := by
  unfold Num at h; rw [h]; exact nsteps_range (by rw [len_data]; exact hj) hm
theorem Num.last {s : ByteArray} {i j m : Nat} (h : Num s i j m) (hij : i ≤ j) (hj : j < s.size) (hm : m < 33554432) (hc : (s[j].toNat : Int) < 128) : numOf (s.data.toList.drop i) = (128 * m + s[j].toNat, j + 1 - i, 0) := by
  unfold Num at h
  rw [h, nsteps_last (by rw [len_data]; exact hj) hm (by rw [get_data s j hj]; omega)]
  rw [get_data s j hj]
  congr 2
  omega
theorem Num.next {s : ByteArray} {i j m : Nat} (h : Num s i j m) (hij : i ≤ j) (hj : j < s.size) (hm : m < 33554432) (hc : 128 ≤ (s[j].toNat : Int)) : Num s i (j + 1) (128 * m + (s[j].toNat - 128)) := by
  unfold Num at h ⊢
  rw [h, nsteps_next (by rw [len_data]; exact hj) hm (by rw [get_data s j hj]; omega)]
  rw [get_data s j hj]
  congr 1
  omega

theorem retV {x : Int} {R : Nat × Nat × Nat} {a b c : Nat} (h : R = (a, b, c)) (hx : x = ((if c = 0 then a else 0 : Nat) : Int)) : Ending.returned (.int .u32 x) = Ending.returned (.int .u32 ((ansV 0 0 R : Nat) : Int)) := by
  subst h; subst hx
  unfold ansV
  simp

set_option maxRecDepth 100000 in
set_option maxHeartbeats 1000000 in
theorem rNumber_go (b : Nat) (s : ByteArray) (i : Nat) (w : World) (h : Rr w b s i 0) (hi : i ≤ s.size) (hs : s.size ≤ 9223372036854775807) (h8 : i < s.size → (s[i]!.toNat : Int) ≠ 128) :
    Calls Try.prog 13 #[.pointer (some ⟨b, 0, none⟩)] w fun x w' => x = .returned (.int .u32 ((ansV 0 0 (numOf (s.data.toList.drop i)) : Nat) : Int)) ∧ Rr w' b s (ansI 0 i (numOf (s.data.toList.drop i))) (ansE 0 (numOf (s.data.toList.drop i))) ∧ w.grownBy w' (some b) := by
  have c0 := h.c0
  have c1 := h.c1
  have c2 := h.c2
  have f1 := h.f1
  have f2 := h.f2
  have HS := Num.start h8
  have H8 := Lib.hid h8
  clear h8
  go_enter Try.func13, Try.ntmps13
  go_wp2
  go_loop [3, 4] (fun n k => ∃ j m : Nat, i ≤ j ∧ j ≤ s.size ∧ m < 4294967296 ∧ k = .int .i64 j ∧ n = .int .u64 m ∧ Num s i j m) (fun _ k => s.size - (intOf k).toNat)
  case atStart => exact ⟨i, 0, Nat.le_refl _, hi, by omega, rfl, rfl, HS⟩
  case round =>
    obtain ⟨j, m, hij, hjs, hm, rfl, rfl, HN⟩ := hrel
    by_cases hlt : j < s.size
    · have hbj : s[j].toNat < 256 := s[j].toNat_lt
      have hmain : (((j : Int) == i) = true ∧ ((s[j].toNat : Int) == 128) = false) ∨ ((j : Int) == i) = false := by
        by_cases e : j = i
        · subst e
          refine .inl ⟨by simp, ?_⟩
          rw [beq_eq_false_iff_ne]
          have := H8.out hlt
          rw [getElem!_pos s j hlt] at this
          exact this
        · exact .inr (by rw [beq_eq_false_iff_ne]; omega)
      by_cases hm2 : 33554432 ≤ m
      · have HT := Lib.hid (HN.range hlt hm2)
        rcases hmain with ⟨e1, e2⟩ | e1
        all_goals
          go_wp2
          go_ret
          exact ⟨retV HT.out rfl, by rw [HT.out, ansI_bad (by decide), ansE_zero]; exact h.err _, grown_set (grown_refl _ _) _ _⟩
      · have hm3 : (m : Int) ≤ 33554431 := by omega
        clear hm2 hm
        by_cases hc : (s[j].toNat : Int) < 128
        · have HT := Lib.hid (HN.last hij hlt (by omega) hc)
          rcases hmain with ⟨e1, e2⟩ | e1
          all_goals
            go_wp2
            go_ret
            exact ⟨retV HT.out (by rw [if_pos rfl]; omega), by rw [HT.out, ansI_ok rfl, ansE_zero]; exact h.at _ _ (by simp only; omega), grown_set (grown_refl _ _) _ _⟩
        · have HT := HN.next hij hlt (by omega) (by omega)
          rcases hmain with ⟨e1, e2⟩ | e1
          all_goals
            go_wp2
            go_round
            case rel => exact ⟨j + 1, 128 * m + (s[j].toNat - 128), by omega, by omega, by omega, by go_num, int_eq (by omega), HT⟩
            case measure => simp [intOf]; omega
    · have HT := Lib.hid (HN.short (by omega))
      go_wp2
      go_ret
      exact ⟨retV HT.out rfl, by rw [HT.out, ansI_bad (by decide), ansE_zero]; exact h.err _, grown_set (grown_refl _ _) _ _⟩

theorem rNumber_any (b : Nat) (s : ByteArray) (i : Nat) (e : Int) (w : World) (h : Rr w b s i e) (hi : i ≤ s.size) (hs : s.size ≤ maxLen) :
    Calls Try.prog 13 #[.pointer (some ⟨b, 0, none⟩)] w fun x w' => x = .returned (.int .u32 ((ansV e 0 (numOf (s.data.toList.drop i)) : Nat) : Int)) ∧ Rr w' b s (ansI e i (numOf (s.data.toList.drop i))) (ansE e (numOf (s.data.toList.drop i))) ∧ w.grownBy w' (some b) := by
  unfold maxLen at hs
  by_cases he : e = 0
  · subst he
    by_cases h8 : i < s.size → (s[i]!.toNat : Int) ≠ 128
    · exact rNumber_go b s i w h hi (by omega) h8
    · have hlt : i < s.size := Classical.byContradiction fun hn => h8 (fun hh => absurd hh hn)
      have h9 : (s[i].toNat : Int) = 128 := Classical.byContradiction fun hn => h8 (fun _ => by rw [getElem!_pos s i hlt]; exact hn)
      have hf : numOf (s.data.toList.drop i) = (0, 0, 3) := num_field (by rw [drop_head hlt]; congr 1; apply UInt8.toNat_inj.1; show _ = 128; omega)
      rw [hf]
      exact rNumber_field b s i w h hlt h9
  · rw [ansV_was he, ansI_was he, ansE_was he]; exact rNumber_was b s i e w h (bne_int he)
end Go.Proofs.Ytpapakkcomegnaa.Mb
