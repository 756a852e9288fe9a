/-
The document's own Text answers a number's digits. Conditions: the number is an int.
-/
import Derived.Test.YtogdnjanfmapeaaBytes
import Derived.Test.YtogdnjanfmapeaaFigTextMath
import Derived.Laws.AppendOwnNone
import Derived.Laws.Concat
import Derived.OpenShut
namespace Go.Proofs.Ytogdnjanfmapeaa.FigR
open Go.RowKit Fig

/-- A row of one cell that was just made. -/
theorem own_one (w : World) (base : Nat) (c : UInt8) (hb : base ≤ w.heap.size) : Bytes.Has (w.alloc (.cells #[.int .u8 (c.toNat : Int)] 5)) base (.slice (some ⟨w.heap.size, 0, none⟩) 1 1) [c] := by
  refine ⟨rfl, .inr ⟨w.heap.size, 1, _, rfl, hb, heap_alloc_new w _, Nat.le_refl _, by unfold maxLen; simp, rfl, rfl⟩⟩

/-- What an append of a row to a row of one cell needs of the second. -/
theorem Has.split {w : World} {base : Nat} {v : Value} {l : List UInt8} (h : Bytes.Has w base v l) : (v = .slice none 0 0 ∧ l = []) ∨ ∃ g cap, v = .slice (some ⟨g, 0, none⟩) l.length cap ∧ g < w.heap.size ∧
    ∀ j u, (Bytes.cells l)[j]? = some u → w.cell? ((⟨g, 0, none⟩ : Addr).add j) = some u := by
  obtain ⟨hl, ⟨rfl, h0⟩ | ⟨g, cap, cur, rfl, _, hg, _, _, _, ht⟩⟩ := h
  · exact .inl ⟨rfl, List.eq_nil_of_length_eq_zero h0⟩
  · refine .inr ⟨g, cap, rfl, (Array.getElem?_eq_some_iff.1 hg).1, ?_⟩
    rw [← ht]
    exact Lib.cells_of_row hg _

theorem ret_str {a b : ByteArray} (h : a = b) : Ending.returned (.string a) = .returned (.string b) := by rw [h]
theorem low_snoc (m j : Nat) : low m (j + 1) = [dig m j] ++ low m j := rfl

theorem cells_one (l : List UInt8) : ∀ u ∈ Bytes.cells l, u.oneCell' = true := fun u hu => by
  simp [Bytes.cells] at hu
  obtain ⟨b, _, rfl⟩ := hu
  rfl
theorem Has.cons {w : World} {base : Nat} {v : Value} {l : List UInt8} {c : UInt8} (h : w.ownsRow base 5 1 v (1 + l.length) ([.int .u8 (c.toNat : Int)] ++ Bytes.cells l)) : Bytes.Has w base v (c :: l) := by
  unfold Bytes.Has; rw [List.length_cons, Nat.add_comm]; exact h
theorem cat_data (c : UInt8) (l : List UInt8) : (⟨#[c]⟩ : ByteArray) ++ (⟨l.toArray⟩ : ByteArray) = ⟨([c] ++ l).toArray⟩ := by
  rw [ByteArray.mk_append_mk]
theorem last_of {m j a : Nat} (hm0 : 0 < m) (hm1 : m < 18446744073709551616) (ha : Hid (a = m / 10 ^ j)) (hj : j = 0 ∨ 10 ^ (j - 1) ≤ m) (h0 : a = 0) : wid m = j := by
  subst h0
  have h1 : 1 ≤ j := by
    rcases Nat.eq_zero_or_pos j with h | h
    · subst h; have := ha.out; simp at this; omega
    · exact h
  obtain ⟨k, rfl⟩ : ∃ k, j = k + 1 := ⟨j - 1, by omega⟩
  refine wid_unique hm1 (.inr (by simpa using hj)) ?_
  have := ha.out
  exact (Nat.div_eq_zero_iff_lt (Nat.pow_pos (by decide))).1 this.symm
theorem pow_le_of {m j a : Nat} (ha : Hid (a = m / 10 ^ j)) (h0 : ¬ a = 0) : 10 ^ j ≤ m := by
  have : 1 ≤ m / 10 ^ j := by rw [show m / 10 ^ j = a from ha.out.symm]; omega
  have := (Nat.le_div_iff_mul_le (pow_pos' j)).1 this
  omega

set_option maxHeartbeats 1000000 in
theorem refText_neg (m : Nat) (w : World) (hm0 : 0 < m) (hm2 : m ≤ 9223372036854775808) :
    Calls Try.prog 8 #[.int .i64 (-(m : Int))] w fun e W' => e = .returned (.string ⟨([45] ++ low m (wid m)).toArray⟩) ∧ Below w.heap.size w W' := by
  obtain ⟨i0, hi, hz0, hz1, hz2⟩ := info_parts Bytes.infoByte
  have hm1 : m < 18446744073709551616 := by omega
  have hzb : ((-(m : Int)) == 0) = false := by simp; omega
  go_enter Try.func8, Try.ntmps8
  go_wp2
  go_loopw [0, 3] (fun c v wr => ∃ (j a : Nat), Hid (a = m / 10 ^ j) ∧ (j = 0 ∨ 10 ^ (j - 1) ≤ m) ∧ a ≤ m ∧ c = .int .i64 (-(a : Int)) ∧ Bytes.Has wr w.heap.size v (low m j) ∧ Below w.heap.size w wr) (fun c _ _ => (intOf c).natAbs)
  case atStart => exact ⟨0, m, by show _ = _; simp, .inl rfl, Nat.le_refl _, rfl, Bytes.Has.nil _ _, Below.refl _ _⟩
  case round =>
    obtain ⟨j, a, ha, hj, ham, rfl, hown, hbel⟩ := hrel
    have hz := hbel.size
    by_cases hc : a = 0
    · have hj' := last_of hm0 hm1 ha hj hc
      subst hc
      rw [← hj'] at hown
      have hcb : ((-((0 : Nat) : Int) : Int) != 0) = false := by simp
      have htx := hown.text
      have hL : (low m (wid m)).length ≤ 20 := by rw [low_length]; exact wid_le m hm1
      clear hj' ha hj
      have hL2 : ¬ 9223372036854775807 < 1 + (low m (wid m)).length := by omega
      clear hown
      go_wp2
      go_ret
      exact ⟨ret_str (cat_data 45 _), hbel⟩
    · have hcb : ((-(a : Int) : Int) != 0) = true := by simp; omega
      have hdig : ((dig m j).toNat : Int) = 48 + (a : Int) % 10 := by rw [dig_toNat, show m / 10 ^ j = a from ha.out.symm]; omega
      have hjn := pow_le_of ha hc
      have ha' : a / 10 = m / 10 ^ (j + 1) := by rw [ha.out, Nat.pow_succ, Nat.div_div_eq_div_mul]
      have hst := low_snoc m j
      have hlen : (low m j).length = j := low_length m j
      have hj20 : j ≤ 20 := by
        have := wid_le m hm1
        have h2 : j < wid m := pow_lt (Nat.lt_of_le_of_lt hjn (wid_lt hm1))
        omega
      generalize dig m j = cb at hdig hst
      generalize low m j = l at hown hst hlen
      have HST := Lib.hid hst
      have HA := Lib.hid ha'
      have HJN := Lib.hid hjn
      have hA : 1 + l.length ≤ maxLen := by unfold maxLen; omega
      have hB : (1 + l.length) * 1 ≤ 140737488355328 := by omega
      have hB2 := Bytes.base_ok' hz (.cells #[.int .u8 (cb.toNat : Int)] 5)
      have hown1 := own_one wr w.heap.size cb hz
      have hbel1 := hbel.alloc hz (.cells #[.int .u8 (cb.toNat : Int)] 5)
      have hsp := Has.split (hown.alloc (.cells #[.int .u8 (cb.toNat : Int)] 5))
      have HD := Lib.hid hdig
      by_cases hr : (a : Int) % 10 = 0
      · have hcv : (cb.toNat : Int) = 48 := by omega
        unfold Bytes.Has Bytes.cells at hown1
        simp only [List.map_cons, List.map_nil] at hown1
        rw [hcv] at hown1 hbel1 hsp hB2
        have HCV := Lib.hid hcv
        clear hst ha' hown hlen hdig ha hj hcv hjn
        rcases hsp with ⟨rfl, rfl⟩ | ⟨g, cap, rfl, hg, hcells⟩
        · go_wp2_with (at_builtin; refine wpList_append_own_none rfl _ _ 23 rfl w.heap.size 5 i0 1 Try.underlying23 hi _ _ _ rfl hown1 rfl ?_)
          go_roundw
          case rel => exact ⟨j + 1, a / 10, HA, .inr (by rw [Nat.add_sub_cancel]; exact HJN.out), by omega, by go_num, by rw [HST.out]; exact Has.cons (l := []) (by rw [HCV.out]; exact hown1), hbel1⟩
          case measure => simp [intOf]; omega
        · go_wp2_with (at_builtin; refine wpList_append_own _ rfl _ _ 23 rfl w.heap.size 5 i0 (.int .u8 0) 1 1 Try.underlying23 hi hz0 hz1 hz2 rfl Bytes.one_pos _ _ _ rfl hown1 ⟨g, 0, none⟩ l.length cap (Bytes.cells l) rfl (by rw [Bytes.cells_length, Nat.mul_one]) hcells (cells_one l) hA hB hB2 ?_; intro v' w1 hown' hgrow _)
          go_roundw
          case rel => exact ⟨j + 1, a / 10, HA, .inr (by rw [Nat.add_sub_cancel]; exact HJN.out), by omega, by go_num, by rw [HST.out]; exact Has.cons (by rw [HCV.out]; exact hown'), hbel1.grown hgrow hB2 (fun k e => by cases e; exact hz)⟩
          case measure => simp [intOf]; omega
      · have hcv : (cb.toNat : Int) = 48 + (a : Int) % 10 := hdig
        have hr1 : 0 < (a : Int) % 10 := by omega
        unfold Bytes.Has Bytes.cells at hown1
        simp only [List.map_cons, List.map_nil] at hown1
        rw [hcv] at hown1 hbel1 hsp hB2
        have HCV := Lib.hid hcv
        clear hst ha' hown hlen hdig ha hj hcv hjn hr
        rcases hsp with ⟨rfl, rfl⟩ | ⟨g, cap, rfl, hg, hcells⟩
        · go_wp2_with (at_builtin; refine wpList_append_own_none rfl _ _ 23 rfl w.heap.size 5 i0 1 Try.underlying23 hi _ _ _ rfl hown1 rfl ?_)
          go_roundw
          case rel => exact ⟨j + 1, a / 10, HA, .inr (by rw [Nat.add_sub_cancel]; exact HJN.out), by omega, by go_num, by rw [HST.out]; exact Has.cons (l := []) (by rw [HCV.out]; exact hown1), hbel1⟩
          case measure => simp [intOf]; omega
        · go_wp2_with (at_builtin; refine wpList_append_own _ rfl _ _ 23 rfl w.heap.size 5 i0 (.int .u8 0) 1 1 Try.underlying23 hi hz0 hz1 hz2 rfl Bytes.one_pos _ _ _ rfl hown1 ⟨g, 0, none⟩ l.length cap (Bytes.cells l) rfl (by rw [Bytes.cells_length, Nat.mul_one]) hcells (cells_one l) hA hB hB2 ?_; intro v' w1 hown' hgrow _)
          go_roundw
          case rel => exact ⟨j + 1, a / 10, HA, .inr (by rw [Nat.add_sub_cancel]; exact HJN.out), by omega, by go_num, by rw [HST.out]; exact Has.cons (by rw [HCV.out]; exact hown'), hbel1.grown hgrow hB2 (fun k e => by cases e; exact hz)⟩
          case measure => simp [intOf]; omega

set_option maxHeartbeats 1000000 in
theorem refText_pos (m : Nat) (w : World) (hm0 : 0 < m) (hm2 : m ≤ 9223372036854775807) :
    Calls Try.prog 8 #[.int .i64 (m : Int)] w fun e W' => e = .returned (.string ⟨(low m (wid m)).toArray⟩) ∧ Below w.heap.size w W' := by
  obtain ⟨i0, hi, hz0, hz1, hz2⟩ := info_parts Bytes.infoByte
  have hm1 : m < 18446744073709551616 := by omega
  have hzb : ((m : Int) == 0) = false := by simp; omega
  go_enter Try.func8, Try.ntmps8
  go_wp2
  go_loopw [0, 3] (fun c v wr => ∃ (j a : Nat), Hid (a = m / 10 ^ j) ∧ (j = 0 ∨ 10 ^ (j - 1) ≤ m) ∧ a ≤ m ∧ c = .int .i64 ((a : Int)) ∧ Bytes.Has wr w.heap.size v (low m j) ∧ Below w.heap.size w wr) (fun c _ _ => (intOf c).natAbs)
  case atStart => exact ⟨0, m, by show _ = _; simp, .inl rfl, Nat.le_refl _, rfl, Bytes.Has.nil _ _, Below.refl _ _⟩
  case round =>
    obtain ⟨j, a, ha, hj, ham, rfl, hown, hbel⟩ := hrel
    have hz := hbel.size
    by_cases hc : a = 0
    · have hj' := last_of hm0 hm1 ha hj hc
      subst hc
      rw [← hj'] at hown
      have hcb : ((((0 : Nat) : Int) : Int) != 0) = false := by simp
      have htx := hown.text
      have hL : (low m (wid m)).length ≤ 20 := by rw [low_length]; exact wid_le m hm1
      clear hj' ha hj
      have hL2 : ¬ 9223372036854775807 < 1 + (low m (wid m)).length := by omega
      clear hown
      go_wp2
      go_ret
      exact ⟨ret_str (rfl), hbel⟩
    · have hcb : (((a : Int) : Int) != 0) = true := by simp; omega
      have hdig : ((dig m j).toNat : Int) = 48 + (a : Int) % 10 := by rw [dig_toNat, show m / 10 ^ j = a from ha.out.symm]; omega
      have hjn := pow_le_of ha hc
      have ha' : a / 10 = m / 10 ^ (j + 1) := by rw [ha.out, Nat.pow_succ, Nat.div_div_eq_div_mul]
      have hst := low_snoc m j
      have hlen : (low m j).length = j := low_length m j
      have hj20 : j ≤ 20 := by
        have := wid_le m hm1
        have h2 : j < wid m := pow_lt (Nat.lt_of_le_of_lt hjn (wid_lt hm1))
        omega
      generalize dig m j = cb at hdig hst
      generalize low m j = l at hown hst hlen
      have HST := Lib.hid hst
      have HA := Lib.hid ha'
      have HJN := Lib.hid hjn
      have hA : 1 + l.length ≤ maxLen := by unfold maxLen; omega
      have hB : (1 + l.length) * 1 ≤ 140737488355328 := by omega
      have hB2 := Bytes.base_ok' hz (.cells #[.int .u8 (cb.toNat : Int)] 5)
      have hown1 := own_one wr w.heap.size cb hz
      have hbel1 := hbel.alloc hz (.cells #[.int .u8 (cb.toNat : Int)] 5)
      have hsp := Has.split (hown.alloc (.cells #[.int .u8 (cb.toNat : Int)] 5))
      have HD := Lib.hid hdig
      by_cases hr : (a : Int) % 10 = 0
      · have hcv : (cb.toNat : Int) = 48 := by omega
        unfold Bytes.Has Bytes.cells at hown1
        simp only [List.map_cons, List.map_nil] at hown1
        rw [hcv] at hown1 hbel1 hsp hB2
        have HCV := Lib.hid hcv
        clear hst ha' hown hlen hdig ha hj hcv hjn
        rcases hsp with ⟨rfl, rfl⟩ | ⟨g, cap, rfl, hg, hcells⟩
        · go_wp2_with (at_builtin; refine wpList_append_own_none rfl _ _ 23 rfl w.heap.size 5 i0 1 Try.underlying23 hi _ _ _ rfl hown1 rfl ?_)
          go_roundw
          case rel => exact ⟨j + 1, a / 10, HA, .inr (by rw [Nat.add_sub_cancel]; exact HJN.out), by omega, by go_num, by rw [HST.out]; exact Has.cons (l := []) (by rw [HCV.out]; exact hown1), hbel1⟩
          case measure => simp [intOf]; omega
        · go_wp2_with (at_builtin; refine wpList_append_own _ rfl _ _ 23 rfl w.heap.size 5 i0 (.int .u8 0) 1 1 Try.underlying23 hi hz0 hz1 hz2 rfl Bytes.one_pos _ _ _ rfl hown1 ⟨g, 0, none⟩ l.length cap (Bytes.cells l) rfl (by rw [Bytes.cells_length, Nat.mul_one]) hcells (cells_one l) hA hB hB2 ?_; intro v' w1 hown' hgrow _)
          go_roundw
          case rel => exact ⟨j + 1, a / 10, HA, .inr (by rw [Nat.add_sub_cancel]; exact HJN.out), by omega, by go_num, by rw [HST.out]; exact Has.cons (by rw [HCV.out]; exact hown'), hbel1.grown hgrow hB2 (fun k e => by cases e; exact hz)⟩
          case measure => simp [intOf]; omega
      · have hcv : (cb.toNat : Int) = 48 + (a : Int) % 10 := hdig
        have hr1 : 0 < (a : Int) % 10 := by omega
        unfold Bytes.Has Bytes.cells at hown1
        simp only [List.map_cons, List.map_nil] at hown1
        rw [hcv] at hown1 hbel1 hsp hB2
        have HCV := Lib.hid hcv
        clear hst ha' hown hlen hdig ha hj hcv hjn hr
        rcases hsp with ⟨rfl, rfl⟩ | ⟨g, cap, rfl, hg, hcells⟩
        · go_wp2_with (at_builtin; refine wpList_append_own_none rfl _ _ 23 rfl w.heap.size 5 i0 1 Try.underlying23 hi _ _ _ rfl hown1 rfl ?_)
          go_roundw
          case rel => exact ⟨j + 1, a / 10, HA, .inr (by rw [Nat.add_sub_cancel]; exact HJN.out), by omega, by go_num, by rw [HST.out]; exact Has.cons (l := []) (by rw [HCV.out]; exact hown1), hbel1⟩
          case measure => simp [intOf]; omega
        · go_wp2_with (at_builtin; refine wpList_append_own _ rfl _ _ 23 rfl w.heap.size 5 i0 (.int .u8 0) 1 1 Try.underlying23 hi hz0 hz1 hz2 rfl Bytes.one_pos _ _ _ rfl hown1 ⟨g, 0, none⟩ l.length cap (Bytes.cells l) rfl (by rw [Bytes.cells_length, Nat.mul_one]) hcells (cells_one l) hA hB hB2 ?_; intro v' w1 hown' hgrow _)
          go_roundw
          case rel => exact ⟨j + 1, a / 10, HA, .inr (by rw [Nat.add_sub_cancel]; exact HJN.out), by omega, by go_num, by rw [HST.out]; exact Has.cons (by rw [HCV.out]; exact hown'), hbel1.grown hgrow hB2 (fun k e => by cases e; exact hz)⟩
          case measure => simp [intOf]; omega

theorem refText_zero (w : World) :
    Calls Try.prog 8 #[.int .i64 0] w fun e W' => e = .returned (.string ⟨(txt 0).toArray⟩) ∧ Below w.heap.size w W' := by
  go_enter Try.func8, Try.ntmps8
  go_wp2
  go_ret
  exact ⟨ret_str (by decide), Below.refl _ _⟩

theorem refText_any (n : Int) (w : World) (h0 : -9223372036854775808 ≤ n) (h1 : n ≤ 9223372036854775807) :
    Calls Try.prog 8 #[.int .i64 n] w fun e W' => e = .returned (.string ⟨(txt n).toArray⟩) ∧ Below w.heap.size w W' := by
  by_cases hz : n = 0
  · subst hz; exact refText_zero w
  · by_cases hn : n < 0
    · have h := refText_neg n.natAbs w (by omega) (by omega)
      rw [show -(n.natAbs : Int) = n by omega] at h
      have e : txt n = [45] ++ low n.natAbs (wid n.natAbs) := by unfold txt; rw [if_pos hn]
      rw [e]; exact h
    · have h := refText_pos n.natAbs w (by omega) (by omega)
      rw [show (n.natAbs : Int) = n by omega] at h
      have e : txt n = low n.natAbs (wid n.natAbs) := by unfold txt; rw [if_neg hn, List.nil_append]
      rw [e]; exact h
end Go.Proofs.Ytogdnjanfmapeaa.FigR
