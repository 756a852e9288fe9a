/-
The document's own Write answers a number's bytes. Conditions: the number is below 2^32.
-/
import Derived.Test.YtpapakkcomegnaaMbWrite
import Derived.Laws.AppendOwnNone
import Derived.Laws.Concat
namespace Go.Proofs.Ytpapakkcomegnaa.Mb
open Go.RowKit

/-- What an append of a row to a row of one cell needs of the second. -/
theorem Has.split {w : World} {base : Nat} {v : Value} {l : List UInt8} (h : Bytes.Has w base v l) (hne : l ≠ []) : ∃ g cap, v = .slice (some ⟨g, 0, none⟩) l.length cap ∧ g < w.heap.size ∧
    ∀ j u, (Bytes.cells l)[j]? = some u → w.cell? ((⟨g, 0, none⟩ : Addr).add j) = some u := by
  obtain ⟨hl, ⟨rfl, h0⟩ | ⟨g, cap, cur, rfl, _, hg, _, _, _, ht⟩⟩ := h
  · exact absurd (List.eq_nil_of_length_eq_zero h0) hne
  · refine ⟨g, cap, rfl, (Array.getElem?_eq_some_iff.1 hg).1, ?_⟩
    rw [← ht]
    exact Lib.cells_of_row hg _
theorem cells_one (l : List UInt8) : ∀ u ∈ Bytes.cells l, u.oneCell' = true := fun u hu => by
  simp [Bytes.cells] at hu
  obtain ⟨b, _, rfl⟩ := hu
  rfl
theorem Has.cons {w : World} {base : Nat} {v : Value} {l : List UInt8} {c : UInt8} (h : w.ownsRow base 5 1 v (1 + l.length) ([.int .u8 (c.toNat : Int)] ++ Bytes.cells l)) : Bytes.Has w base v (c :: l) := by
  unfold Bytes.Has; rw [List.length_cons, Nat.add_comm]; exact h
theorem low7_ne (m j : Nat) : low7 m j ≠ [] := fun h => by
  have := congrArg List.length h
  rw [low7_length] at this
  simp at this

set_option maxRecDepth 100000 in
set_option maxHeartbeats 1000000 in
theorem rWrite_any (m : Nat) (w : World) (hm : m < 4294967296) :
    Calls Try.prog 8 #[.int .u32 (m : Int)] w fun e W' => e = .returned (.string ⟨(mb m).toArray⟩) ∧ Below w.heap.size w W' := by
  obtain ⟨i0, hi, hz0, hz1, hz2⟩ := info_parts Bytes.infoByte
  have h0 := sev0_toNat m
  have hown1 := own_one w w.heap.size (sev m 0) (Nat.le_refl _)
  have hbel1 := (Below.refl w.heap.size w).alloc (Nat.le_refl _) (.cells #[.int .u8 ((sev m 0).toNat : Int)] 5)
  have hcv : ((sev m 0).toNat : Int) = (m : Int) % 128 := by omega
  rw [hcv] at hown1 hbel1
  have hlo : Bytes.Has (w.alloc (.cells #[.int .u8 ((m : Int) % 128)] 5)) w.heap.size (.slice (some ⟨w.heap.size, 0, none⟩) 1 1) (low7 m 0) := hown1
  clear h0 hcv hown1
  go_enter Try.func8, Try.ntmps8
  go_wp2
  go_loopw [0, 3] (fun c v wr => ∃ (j a : Nat), Hid (a = m / 128 ^ j) ∧ (j = 0 ∨ 128 ^ j ≤ m) ∧ a < 4294967296 ∧ c = .int .u32 (a : Int) ∧ Bytes.Has wr w.heap.size v (low7 m j) ∧ Below w.heap.size w wr) (fun c _ _ => (intOf c).natAbs)
  case atStart => exact ⟨0, m, by show _ = _; simp, .inl rfl, hm, rfl, hlo, hbel1⟩
  case round =>
    obtain ⟨j, a, ha, hj, ham, rfl, hown, hbel⟩ := hrel
    have hz := hbel.size
    have ha' := left_succ ha.out
    by_cases hc : 128 ≤ a
    · have hpw := pow_le_of ha' (by omega)
      have hj5 := five_of hm hpw
      have hs : ((sev m (j + 1)).toNat : Int) = (a : Int) / 128 % 128 + 128 := by rw [sev_toNat, ← ha']; omega
      have hst : low7 m (j + 1) = sev m (j + 1) :: low7 m j := rfl
      have hlen : (low7 m j).length = j + 1 := low7_length m j
      have hne := low7_ne m j
      generalize sev m (j + 1) = cb at hs hst
      generalize low7 m j = l at hown hst hlen hne
      have hA : 1 + l.length ≤ maxLen := by unfold maxLen; omega
      have hB : (1 + l.length) * 1 ≤ 140737488355328 := by omega
      have hB2 := Bytes.base_ok' hz (.cells #[.int .u8 (cb.toNat : Int)] 5)
      have hown1 := own_one wr w.heap.size cb hz
      have hbel1 := hbel.alloc hz (.cells #[.int .u8 (cb.toNat : Int)] 5)
      have hsp := Has.split (hown.alloc (.cells #[.int .u8 (cb.toNat : Int)] 5)) hne
      unfold Bytes.Has Bytes.cells at hown1
      simp only [List.map_cons, List.map_nil] at hown1
      rw [hs] at hown1 hbel1 hsp hB2
      obtain ⟨g, cap, rfl, hg, hcells⟩ := hsp
      have HST := Lib.hid hst
      have HA := Lib.hid ha'
      have HPW := Lib.hid hpw
      have HCV := Lib.hid hs
      clear hst ha' hown hlen hs ha hj hpw hne
      go_wp2_with (at_builtin; refine wpList_append_own _ rfl _ _ 46 rfl w.heap.size 5 i0 (.int .u8 0) 1 1 Try.underlying46 hi hz0 hz1 hz2 rfl Bytes.one_pos _ _ _ rfl hown1 ⟨g, 0, none⟩ l.length cap (Bytes.cells l) rfl (by rw [Bytes.cells_length, Nat.mul_one]) hcells (cells_one l) hA hB hB2 ?_; intro v' w1 hown' hgrow _)
      go_roundw
      case rel => exact ⟨j + 1, a / 128, HA, .inr HPW.out, by omega, by go_num, by rw [HST.out]; exact Has.cons (by rw [HCV.out]; exact hown'), hbel1.grown hgrow hB2 (fun k e => by cases e; exact hz)⟩
      case measure => simp [intOf]; omega
    · have hw7 := wid7_of hm hj (lt_pow_of ha' (by omega))
      have HW := Lib.hid hw7
      have htx := hown.text
      clear hw7 ha hj hown ha'
      go_wp2
      go_ret
      exact ⟨ret_str (by unfold mb; rw [HW.out]), hbel⟩
end Go.Proofs.Ytpapakkcomegnaa.Mb
