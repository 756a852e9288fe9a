/-
For every text and every int the law QuotedBack returns true and changes nothing that was there. Conditions: the text's length is at most maxLen; the library's tables hold what the rows list.
-/
import Derived.Test.YtccjagjbldofaaaDoorQuSoftLoop
import Derived.Test.YtccjagjbldofaaaDoorQuRefEnc
import Derived.Test.YtccjagjbldofaaaDoorQuBackMath
namespace Go.Proofs.YtccjagjbldofaaaDoor.QuLaw
open Go.RowKit Qu

theorem chain3 {a b c : World} (h : Below a.heap.size a b) (k : Below b.heap.size b c) : Below a.heap.size a c := h.trans (k.mono h.size)
theorem w1 : softA [97, 97, 97, 97, 97, 97] 4 = ([97, 97, 97, 61, 13, 10, 97, 97, 97], 0) := by decide +kernel
theorem w2 : dec [97, 97, 97, 61, 13, 10, 97, 97, 97] = ([97, 97, 97, 97, 97, 97], 0) := by decide +kernel
theorem w3 : enc [97, 61, 98, 32] = [97, 61, 51, 68, 98, 61, 50, 48] := by decide +kernel
theorem w4 : plainAll [97, 98] = true := by decide +kernel
theorem w5 : plainAll [61] = false := by decide +kernel

set_option maxRecDepth 100000 in
set_option maxHeartbeats 800000 in
theorem works_any (w : World) (T : Tabs w) :
    Calls Tryd.prog 10 #[] w fun e w' => e = .returned (.bool true) ∧ Below w.heap.size w w' := by
  have C1 := Lib.hid (soft_any ⟨#[97, 97, 97, 97, 97, 97]⟩ 4 (by decide) w T)
  have C2 := Lib.hid (fun W (TW : Tabs W) => decode_any ⟨#[97, 97, 97, 61, 13, 10, 97, 97, 97]⟩ W (by decide) TW)
  have C3 := Lib.hid (fun W => encode_any ⟨#[97, 61, 98, 32]⟩ W (by decide))
  have C4 := Lib.hid (fun W => plain_any ⟨#[97, 98]⟩ W (by decide))
  have C5 := Lib.hid (fun W => plain_any ⟨#[61]⟩ W (by decide))
  rw [w1] at C1
  rw [w2] at C2
  rw [w3] at C3
  rw [w4] at C4
  rw [w5] at C5
  go_enter Tryd.func10, Tryd.ntmps10
  go_wp2_with fail
  refine C1.out.mono ?_
  rintro e v1 ⟨rfl, b1⟩
  go_wp2_with fail
  refine (C2.out _ (T.below b1)).mono ?_
  rintro e v2 ⟨rfl, b2⟩
  go_wp2_with fail
  refine (C3.out _).mono ?_
  rintro e v3 ⟨rfl, b3⟩
  go_wp2_with fail
  refine (C4.out _).mono ?_
  rintro e v4 ⟨rfl, rfl⟩
  go_wp2_with fail
  refine (C5.out _).mono ?_
  rintro e v5 ⟨rfl, rfl⟩
  go_wp2_with fail
  go_ret
  exact ⟨rfl, chain3 (chain3 b1 b2) b3⟩

theorem width_ok (n : Int) : ∃ m : Nat, wrap64 (4 + wrap64 ((IntKind.u64.wrap n).tmod 197)) = (m : Int) ∧ 4 ≤ m ∧ m ≤ 200 := by
  have h0 : 0 ≤ IntKind.u64.wrap n := by rw [IntKind.wrap_u64]; omega
  rw [Int.tmod_eq_emod_of_nonneg h0]
  have h1 : 0 ≤ IntKind.u64.wrap n % 197 ∧ IntKind.u64.wrap n % 197 < 197 := by omega
  generalize IntKind.u64.wrap n % 197 = y at h1
  exact ⟨(4 + y).toNat, by unfold wrap64; omega, by omega, by omega⟩
/-- What the law's calls answer. -/
theorem answers (s : ByteArray) (hs : s.size ≤ 1000) (m : Nat) (h4 : 4 ≤ m) (h200 : m ≤ 200) : ∃ u g : ByteArray, u.size ≤ 4294967296 ∧ g.size ≤ 68719476736 ∧ Fine m 0 g.data.toList ∧
    (∀ w, Calls Tryd.prog 11 #[.string s] w fun e w' => e = .returned (.string u) ∧ Below w.heap.size w w') ∧
    (∀ w, Tabs w → Calls Tryd.prog 8 #[.string u, .int .i64 (m : Int)] w fun e w' => e = .returned (.tuple #[.string g, .int .i64 0]) ∧ Below w.heap.size w w') ∧
    (∀ w, Tabs w → Calls Tryd.prog 6 #[.string u] w fun e w' => e = .returned (.tuple #[.string s, .int .i64 0]) ∧ Below w.heap.size w w') ∧
    (∀ w, Tabs w → Calls Tryd.prog 6 #[.string g] w fun e w' => e = .returned (.tuple #[.string s, .int .i64 0]) ∧ Below w.heap.size w w') := by
  have hul : (⟨(enc s.data.toList).toArray⟩ : ByteArray).size ≤ 3000 := by
    rw [ulen rfl]; have := enc_length s.data.toList; rw [list_size] at this; omega
  have hdat : ∀ l : List UInt8, (⟨l.toArray⟩ : ByteArray).data.toList = l := fun l => by simp
  have hss : (⟨s.data.toList.toArray⟩ : ByteArray) = s := own_text.symm
  have hsd : dec (soft m (enc s.data.toList)) = (s.data.toList, 0) := by rw [dec_soft h4 _ _ (Nat.le_refl _) (enc_far _), dec_enc]
  have hsl : (soft m (enc s.data.toList)).length ≤ 4 * (enc s.data.toList).length := soft_length h4 _ _ (Nat.le_refl _)
  have hgl : (⟨(soft m (enc s.data.toList)).toArray⟩ : ByteArray).size ≤ 12000 := by rw [ulen rfl]; rw [ulen rfl] at hul; omega
  refine ⟨⟨(enc s.data.toList).toArray⟩, ⟨(soft m (enc s.data.toList)).toArray⟩, by omega, by omega, ?_, fun w => encode_any s w (by omega), fun w T => ?_, fun w T => ?_, fun w T => ?_⟩
  · rw [hdat]; exact fine_soft h4 _ _ (Nat.le_refl _) (enc_in _)
  · have h := soft_any ⟨(enc s.data.toList).toArray⟩ (m : Int) (by omega) w T
    rw [hdat, softA_yes (by omega) (by omega) (isEnc_enc _)] at h
    exact h
  · have h := decode_any ⟨(enc s.data.toList).toArray⟩ w (by omega) T
    rw [hdat, dec_enc] at h
    simp only [hss] at h
    exact h
  · have h := decode_any ⟨(soft m (enc s.data.toList)).toArray⟩ w (by omega) T
    rw [hdat, hsd] at h
    simp only [hss] at h
    exact h
theorem step13 {c : UInt8} {k : Nat} (h : (c.toNat : Int) = 13) : stepN c k = k := by
  unfold stepN; rw [if_pos (UInt8.toNat_inj.1 (by simp; omega))]
theorem step10 {c : UInt8} {k : Nat} (h : (c.toNat : Int) = 10) : stepN c k = 0 := by
  unfold stepN; rw [if_neg (fun e => by subst e; simp at h), if_pos (UInt8.toNat_inj.1 (by simp; omega))]
theorem stepOther {c : UInt8} {k : Nat} (h : ¬ (c.toNat : Int) = 13) (h' : ¬ (c.toNat : Int) = 10) : stepN c k = k + 1 := by
  unfold stepN; rw [if_neg (fun e => h (by subst e; rfl)), if_neg (fun e => h' (by subst e; rfl))]

set_option maxRecDepth 100000 in
set_option maxHeartbeats 1600000 in
theorem back (s : ByteArray) (n : Int) (w : World) (hs : s.size ≤ maxLen) (T : Tabs w) :
    Calls Tryd.prog 5 #[.string s, .int .i64 n] w fun e w' => e = .returned (.bool true) ∧ Below w.heap.size w w' := by
  unfold maxLen at hs
  have CW := Lib.hid (works_any w T)
  by_cases hl : 1000 < s.size
  · go_enter Tryd.func5, Tryd.ntmps5
    go_wp2_with fail
    refine CW.out.mono ?_
    rintro e v1 ⟨rfl, b1⟩
    go_wp2_with fail
    go_ret
    exact ⟨rfl, b1⟩
  · obtain ⟨m, hm, h4, h200⟩ := width_ok n
    obtain ⟨u, g, _, hgs, hfine, C1, C2, C3, C4⟩ := answers s (by omega) m h4 h200
    have hfine : Hid (Fine m 0 g.data.toList) := hfine
    have C1 := Lib.hid C1
    have C2 := Lib.hid C2
    have C3 := Lib.hid C3
    have C4 := Lib.hid C4
    go_enter Tryd.func5, Tryd.ntmps5
    go_wp2_with fail
    refine CW.out.mono ?_
    rintro e v1 ⟨rfl, b1⟩
    go_wp2_with fail
    refine (C1.out _).mono ?_
    rintro e v2 ⟨rfl, b2⟩
    go_wp2_with fail
    have c2 := chain3 b1 b2
    refine (C2.out _ (T.below c2)).mono ?_
    rintro e v3 ⟨rfl, b3⟩
    go_wp2_with fail
    have c3 := chain3 c2 b3
    refine (C3.out _ (T.below c3)).mono ?_
    rintro e v4 ⟨rfl, b4⟩
    go_wp2_with fail
    have c4 := chain3 c3 b4
    refine (C4.out _ (T.below c4)).mono ?_
    rintro e v5 ⟨rfl, b5⟩
    go_wp2_with fail
    have c5 := chain3 c4 b5
    go_loop [12, 13] (fun nv iv => ∃ k i : Nat, nv = .int .i64 k ∧ iv = .int .i64 i ∧ i ≤ g.size ∧ k ≤ m ∧ Hid (Fine m k (g.data.toList.drop i))) (fun _ iv => g.size - (intOf iv).toNat)
    case atStart => exact ⟨0, 0, rfl, rfl, Nat.zero_le _, Nat.zero_le _, hfine⟩
    case round =>
      obtain ⟨k, i, rfl, rfl, hi, hk, hf⟩ := hrel
      by_cases hlt : i < g.size
      · have hb : g[i].toNat < 256 := g[i].toNat_lt
        obtain ⟨hc, hw, hf2⟩ := fine_at hlt hf.out
        by_cases e13 : (g[i].toNat : Int) = 13
        · rw [step13 e13] at hw hf2
          have HF := Lib.hid hf2
          clear hc hf2 hf
          go_wp2_with fail
          go_round
          case rel => exact ⟨k, i + 1, rfl, by go_num, by omega, hw, HF⟩
          case measure => simp [intOf]; omega
        · by_cases e10 : (g[i].toNat : Int) = 10
          · rw [step10 e10] at hw hf2
            have HF := Lib.hid hf2
            clear hc hf2 hf e13
            go_wp2_with fail
            go_round
            case rel => exact ⟨0, i + 1, rfl, by go_num, by omega, hw, HF⟩
            case measure => simp [intOf]; omega
          · rw [stepOther e13 e10] at hw hf2
            have HF := Lib.hid hf2
            clear hf2 hf
            by_cases e9 : (g[i].toNat : Int) = 9
            · clear hc e13 e10
              go_wp2_with fail
              go_round
              case rel => exact ⟨k + 1, i + 1, by go_num, by go_num, by omega, hw, HF⟩
              case measure => simp [intOf]; omega
            · have hc1 : 32 ≤ (g[i].toNat : Int) := by omega
              have hc2 : (g[i].toNat : Int) ≤ 126 := by omega
              have q13 : ((g[i].toNat : Int) == 13) = false := by simpa using e13
              have q10 : ((g[i].toNat : Int) == 10) = false := by simpa using e10
              clear hc
              go_wp2_with fail
              go_round
              case rel => exact ⟨k + 1, i + 1, by go_num, by go_num, by omega, hw, HF⟩
              case measure => simp [intOf]; omega
      · go_wp2_with fail
        go_ret
        exact ⟨rfl, c5⟩
end Go.Proofs.YtccjagjbldofaaaDoor.QuLaw
