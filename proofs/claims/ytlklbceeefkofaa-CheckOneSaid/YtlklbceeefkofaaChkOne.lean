/-
For every text, place and byte the law CheckOne returns true and changes nothing that was there. Conditions: the text's length is at most 2^47 bytes; the byte is a byte.
-/
import Derived.Test.YtlklbceeefkofaaChkOpens
import Derived.Laws.IdiomStrings
import Derived.RegionTactic
namespace Go.Proofs.Ytlklbceeefkofaa.Chk
open Go.RowKit

/-- Block g holds the bytes d, and they may be written. -/
def Row (w : World) (g : Nat) (d : List UInt8) : Prop := g < w.heap.size ∧ ∀ j, (h : j < d.length) → w.cell? ⟨g, j, none⟩ = some (.int .u8 (d[j].toNat : Int)) ∧ w.frozen? ⟨g, j, none⟩ = false
theorem Row.below {w w' : World} {g : Nat} {d : List UInt8} (h : Row w g d) (hb : Below w.heap.size w w') : Row w' g d :=
  ⟨Nat.lt_of_lt_of_le h.1 hb.size, fun j hj => ⟨(hb.cell (p := ⟨g, j, none⟩) h.1).trans (h.2 j hj).1, (hb.frozen (p := ⟨g, j, none⟩) h.1).trans (h.2 j hj).2⟩⟩
theorem Row.drew {w : World} {g : Nat} {d : List UInt8} (h : Row w g d) : Row w.drew g d := h
theorem Row.set {w : World} {g : Nat} {d : List UInt8} (h : Row w g d) (i : Nat) (c : UInt8) : Row (w.setCell ⟨g, i, none⟩ (.int .u8 (c.toNat : Int))) g (d.set i c) := by
  refine ⟨by rw [World.size_setCell]; exact h.1, fun j hj => ?_⟩
  rw [List.length_set] at hj
  refine ⟨?_, by rw [World.frozen?_setCell]; exact (h.2 j hj).2⟩
  by_cases e : i = j
  · subst e
    rw [World.cell?_setCell_same _ _ _ (h.2 i hj).1]
    simp
  · rw [World.cell?_setCell_other _ _ _ _ (fun k => e (congrArg Addr.off k)), (h.2 j hj).1]
    simp [e]
theorem Row.text {w : World} {g cap n : Nat} {d : List UInt8} (h : Row w g d) (hn : n = d.length) : (convert 28 9 (.slice (some ⟨g, 0, none⟩) n cap)).run Try.prog w = .ok (.string ⟨d.toArray⟩) w := by
  subst hn
  exact run_convert_bytes_back w _ _ 5 ⟨g, 0, none⟩ cap d Try.underlying28 Try.underlying5 Try.underlying9 fun j hj => by
    have e : ((⟨g, 0, none⟩ : Addr).add j) = ⟨g, j, none⟩ := by
      unfold Addr.add
      split
      · subst_vars; rfl
      · simp
    rw [e]; exact (h.2 j hj).1
/-- A text as bytes of the call's own. -/
theorem bytes_new (w : World) (t : ByteArray) : ∃ cap W, (convert 9 28 (.string t)).run Try.prog w = .ok (.slice (some ⟨w.heap.size, 0, none⟩) t.size cap) W ∧ Row W w.heap.size t.data.toList ∧ Below w.heap.size w W := by
  refine ⟨_, _, run_bytes_of_string w _ _ 5 t Try.underlying9 Try.underlying28 Try.underlying5, ?_, ((Below.refl _ w).drew).alloc (Nat.le_refl _) _⟩
  refine ⟨by rw [World.size_alloc]; exact Nat.lt_succ_self _, fun j hj => ⟨?_, ?_⟩⟩
  · have hj' : j < t.data.size := by simpa using hj
    exact (World.cell?_alloc_mark w.drew _ _ _ j).trans (by rw [bytesRow_at t _ j hj']; simp)
  · refine (World.frozen?_alloc_mark w.drew _ _ _ _ j).trans ?_
    have hj' : j < t.data.size := by simpa using hj
    have : ¬ (bytesRow t (grownCap w t.size 0 5)).size ≤ j := by
      unfold bytesRow
      rw [Array.size_append, Array.size_map]
      omega
    rw [Bool.and_eq_false_iff, decide_eq_false_iff_not]
    exact .inl this
theorem size_of (l : List UInt8) : (⟨l.toArray⟩ : ByteArray).size = l.length := by simp [ByteArray.size]
theorem data_sealed (s : ByteArray) : (sealed s).data.toList = s.data.toList ++ tail2 (crc s.data.toList) := by
  unfold sealed; simp [ByteArray.data_append]
theorem byte_eq {c d : UInt8} (h : ∀ k, k < 8 → cbit c k = cbit d k) : c = d := by
  apply UInt8.toNat_inj.1
  apply Nat.eq_of_testBit_eq
  intro i
  by_cases hi : i < 8
  · have := h (7 - i) (by omega)
    unfold cbit at this
    rw [show 7 - (7 - i) = i by omega] at this
    exact this
  · have hp : 2 ^ 8 ≤ 2 ^ i := Nat.pow_le_pow_right (by decide) (by omega)
    rw [Nat.testBit_lt_two_pow (Nat.lt_of_lt_of_le c.toNat_lt hp), Nat.testBit_lt_two_pow (Nat.lt_of_lt_of_le d.toNat_lt hp)]
theorem bit_set {l : List UInt8} {i j : Nat} {c : UInt8} (h : j / 8 ≠ i) : bit (l.set i c) j = bit l j := by
  unfold bit; rw [List.getElem?_set_ne (Ne.symm h)]
/-- A sealed text that is turned within sixteen places, and not turned back, is sealed no more. -/
theorem not_sealed {s t' : ByteArray} (a : Nat) (hl : t'.data.toList.length = s.size + 2) (hs : ∀ j, bit (sealed s).data.toList j ≠ bit t'.data.toList j → a ≤ j ∧ j < a + 16)
    (hx : ∃ j, j < 8 * (s.size + 2) ∧ bit (sealed s).data.toList j ≠ bit t'.data.toList j) : ¬ Sealed t' := by
  rintro ⟨_, he⟩
  have hd := data_sealed (front t')
  rw [he] at hd
  rw [hd] at hs hx hl
  rw [data_sealed] at hs hx
  have hlen : s.data.toList.length = s.size := Array.length_toList
  have hlm : s.data.toList.length = (front t').data.toList.length := by
    rw [List.length_append] at hl
    have : (tail2 (crc (front t').data.toList)).length = 2 := rfl
    omega
  obtain ⟨j, hj, hne⟩ := hx
  exact hne (told _ _ hlm a hs j (by rw [hlen]; exact hj))
end Go.Proofs.Ytlklbceeefkofaa.Chk
namespace Go.Proofs.Ytlklbceeefkofaa.ChkLaw
open Go.RowKit Chk

set_option maxHeartbeats 400000 in
theorem one_of (s t t' : ByteArray) (n : Int) (by_ c c' : UInt8) (i : Nat) (w : World) (hl : s.size ≤ 3000) (ht : t.size = s.size + 2) (h0 : by_ ≠ 0) (hi : i < s.size + 2)
    (hmod : wrap64 ((IntKind.u64.wrap n).tmod ((s.size : Int) + 2)) = (i : Int)) (hx : bits .xor .u8 (c.toNat : Int) (by_.toNat : Int) = (c'.toNat : Int))
    (hc : t.data.toList[i]? = some c) (ht' : t'.data.toList = t.data.toList.set i c')
    (C1 : Hid (∀ W : World, Calls Try.prog 11 #[.string s] W fun e w' => e = .returned (.string t) ∧ Below W.heap.size W w'))
    (C2 : Hid (∀ W : World, Calls Try.prog 9 #[.string t'] W fun e w' => e = .returned (.tuple #[.string .empty, .bool false]) ∧ Below W.heap.size W w')) :
    Calls Try.prog 6 #[.string s, .int .i64 n, .int .u8 (by_.toNat : Int)] w fun e w' => e = .returned (.bool true) ∧ Below w.heap.size w w' := by
  have hb0 : ((by_.toNat : Int) == 0) = false := by
    rw [beq_eq_false_iff_ne]; intro e; apply h0; apply UInt8.toNat_inj.1; simpa using e
  have HC := Lib.hid hc
  have HT := Lib.hid ht'
  have HZ : Hid (t.data.toList.length = s.size + 2) := Lib.hid (by rw [Array.length_toList]; exact ht)
  have H0 := Lib.hid h0
  clear hc ht' h0
  go_enter Try.func6, Try.ntmps6
  go_wp2_with fail
  refine (C1.out _).mono ?_
  rintro e w1 ⟨rfl, b1⟩
  obtain ⟨cap, w2, hrun, hrow, b2⟩ := bytes_new w1 t
  have hci : w2.cell? ⟨w1.heap.size, i, none⟩ = some (.int .u8 (c.toNat : Int)) := by
    obtain ⟨hl, he⟩ := List.getElem?_eq_some_iff.1 HC.out
    rw [(hrow.2 i hl).1, he]
  have hfi : w2.frozen? ⟨w1.heap.size, i, none⟩ = false := (hrow.2 i (by rw [HZ.out]; exact hi)).2
  have hrow2 := hrow.set i c'
  have htx := hrow2.text (cap := cap) (n := s.size + 2) (by rw [List.length_set, HZ.out])
  rw [← HT.out] at htx
  have hb3 := ((b1.trans (b2.mono b1.size))).setCell (p := ⟨w1.heap.size, i, none⟩) b1.size (.int .u8 (c'.toNat : Int))
  clear hrow hrow2
  go_wp2_with fail
  refine (C2.out _).mono ?_
  rintro e w3 ⟨rfl, b4⟩
  go_wp2_with fail
  go_ret
  exact ⟨rfl, hb3.trans (b4.mono hb3.size)⟩

theorem one (s : ByteArray) (n b : Int) (w : World) (hs : s.size ≤ maxLen) (b0 : 0 ≤ b) (b1 : b ≤ 255) :
    Calls Try.prog 6 #[.string s, .int .i64 n, .int .u8 b] w fun e w' => e = .returned (.bool true) ∧ Below w.heap.size w w' := by
  unfold maxLen at hs
  by_cases hl : 3000 < s.size
  · go_enter Try.func6, Try.ntmps6
    go_wp2
    go_ret
    exact ⟨rfl, Below.refl _ _⟩
  · by_cases hb : b = 0
    · subst hb
      go_enter Try.func6, Try.ntmps6
      go_wp2
      go_ret
      exact ⟨rfl, Below.refl _ _⟩
    · obtain ⟨by_, rfl⟩ : ∃ c : UInt8, b = (c.toNat : Int) := ⟨UInt8.ofNat b.toNat, by simp; omega⟩
      have hz := sealed_size s
      have hm0 : 0 ≤ IntKind.u64.wrap n := wrap_u64_nonneg n
      have hm1 := Int.emod_nonneg (IntKind.u64.wrap n) (b := (s.size : Int) + 2) (by omega)
      have hm2 := Int.emod_lt_of_pos (IntKind.u64.wrap n) (b := (s.size : Int) + 2) (by omega)
      obtain ⟨i, hi⟩ := Int.eq_ofNat_of_zero_le hm1
      have hi2 : i < s.size + 2 := by omega
      have hlen : (sealed s).data.toList.length = s.size + 2 := by rw [Array.length_toList]; exact hz
      have hne : by_ ≠ 0 := fun e => hb (by rw [e]; rfl)
      have hcc : (sealed s).data.toList[i]? = some (sealed s).data.toList[i] := List.getElem?_eq_getElem (by rw [hlen]; exact hi2)
      generalize (sealed s).data.toList[i] = c at hcc
      have hset : (⟨((sealed s).data.toList.set i (c ^^^ by_)).toArray⟩ : ByteArray).data.toList = (sealed s).data.toList.set i (c ^^^ by_) := by simp
      refine one_of s (sealed s) ⟨((sealed s).data.toList.set i (c ^^^ by_)).toArray⟩ n by_ c (c ^^^ by_) i w (by omega) hz hne hi2 ?_ ?_ hcc hset (Lib.hid fun W => seal_any s W (by omega)) (Lib.hid fun W => open_no _ W ?_ ?_)
      · rw [Int.tmod_eq_emod_of_nonneg hm0, hi]
        exact IntWalk.wrap64_in (i : Int) ⟨by omega, by omega⟩
      · rw [u8_xor_nat _ _ c.toNat_lt by_.toNat_lt, UInt8.toNat_xor]
      · rw [size_of, List.length_set, hlen]; omega
      · refine not_sealed (s := s) (8 * i) (by rw [hset, List.length_set, hlen]) ?_ ?_
        · intro j hj
          rw [hset] at hj
          by_cases e : j / 8 = i
          · omega
          · exact absurd (bit_set e).symm hj
        · rcases Classical.em (∃ j, j < 8 * (s.size + 2) ∧ bit (sealed s).data.toList j ≠ bit (⟨((sealed s).data.toList.set i (c ^^^ by_)).toArray⟩ : ByteArray).data.toList j) with h | h
          · exact h
          · exfalso
            have hsame : c = c ^^^ by_ := byte_eq fun k hk => by
              rw [← bit_byte _ i k c hcc hk, ← bit_byte ((sealed s).data.toList.set i (c ^^^ by_)) i k (c ^^^ by_) (by rw [List.getElem?_set_self (by rw [hlen]; exact hi2)]) hk]
              rcases Classical.em (bit (sealed s).data.toList (8 * i + k) = bit ((sealed s).data.toList.set i (c ^^^ by_)) (8 * i + k)) with h' | h'
              · exact h'
              · exact absurd ⟨8 * i + k, by omega, by rw [hset]; exact h'⟩ h
            apply hne
            have : c ^^^ c = c ^^^ (c ^^^ by_) := by rw [← hsame]
            rw [← UInt8.xor_assoc, UInt8.xor_self, UInt8.zero_xor] at this
            exact this.symm
end Go.Proofs.Ytlklbceeefkofaa.ChkLaw
