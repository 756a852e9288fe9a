/-
mbint.Write answers a number's bytes. Conditions: the number is below 2^32.
-/
import Derived.Test.YtpapakkcomegnaaBytes
import Derived.Test.YtpapakkcomegnaaMbMath
import Derived.RegionTactic
import Derived.Deep.LoopGhost
import Derived.Lib.Walk
import Derived.Sort.WalkB12
import Derived.Lib.SlicesMore
import Derived.Lib.OwnBridge
import Derived.Laws.BitsLemmas
namespace Go.Proofs.Ytpapakkcomegnaa.Mb
open Go.RowKit Go.Sort Go.Lib

/-- One byte as a cell. -/
def encB (c : UInt8) : Value := .int .u8 (c.toNat : Int)

set_option maxHeartbeats 1600000 in
set_option maxRecDepth 1000000 in
theorem reverse_arr (blk off cap : Nat) (d : Array UInt8) (w : World) (hH : Holds encB w blk off d) (hsz : d.size ≤ 9223372036854775807) :
    Calls Try.prog 24 #[.slice (some ⟨blk, off, none⟩) d.size cap] w fun e w' => e = .returned (.tuple #[]) ∧ ∃ n, w' = putRow encB (Sort.ahead w n) blk off d.reverse := by
  go_enter Try.func24, Try.ntmps24
  go_wp2
  go_loopg [2, 3] d.size (fun k s2 s3 wr => ∃ (i jn : Nat) (jz : Int) (dk : Array UInt8) (n : Nat), s2 = .int .i64 i ∧ s3 = .int .i64 jz ∧ ((i : Int) < jz → jz = jn ∧ jn < d.size) ∧ (¬ (i : Int) < jz → ¬ i < jn) ∧ jn - i ≤ k ∧
    dk.size = d.size ∧ wr = putRow encB (Sort.ahead w n) blk off dk ∧ reverseLoop i jn dk = reverseLoop 0 (d.size - 1) d)
  case atStart => exact ⟨0, d.size - 1, (d.size : Int) - 1, d, 0, rfl, rfl, fun h => ⟨by omega, by omega⟩, fun h => by omega, by omega, rfl, (putRow_self encB w blk off d hH).symm, rfl⟩
  case round =>
    obtain ⟨i, jn, jz, dk, n, rfl, rfl, h1, h2, hk, hds, hwr, heq⟩ := hrel
    by_cases hlt : (i : Int) < jz
    · obtain ⟨rfl, hjn⟩ := h1 hlt
      have hij : i < jn := by omega
      have hHk : Holds encB wr blk off dk := by rw [hwr]; exact holds_putRow encB _ blk off d dk (holds_ahead encB w n blk off d hH) hds
      obtain ⟨ci, fi⟩ := hHk i (by omega)
      obtain ⟨cj, fj⟩ := hHk jn (by omega)
      unfold encB at ci cj
      have A : Hid (wr = putRow encB (Sort.ahead w n) blk off dk) := hwr
      clear hwr hHk hH h1 h2
      go_wp2_with fail
      go_region
      all_goals
        go_wp2
        go_roundg (jn - 1 - (i + 1))
        case measure => omega
        case rel =>
          rw [reverseLoop, if_pos hij] at heq
          exact ⟨i + 1, jn - 1, (jn : Int) - 1, swp dk i jn, n + 1, by simp, rfl, fun h => ⟨by omega, by omega⟩, fun h => by omega, Nat.le_refl _, by rw [size_swp]; exact hds,
            swap_world encB (by omega) (by omega) A.out (by first | rfl | (simp [getElem!_pos, show jn < dk.size by omega]; rfl)) (by first | rfl | (simp [getElem!_pos, show i < dk.size by omega]; rfl)), heq⟩
    · have hnot := h2 hlt
      go_wp2
      go_end0
      refine ⟨rfl, n, ?_⟩
      rw [reverseLoop, if_neg hnot] at heq
      rw [← Lib.reverseLoop_reverse, ← heq]

theorem cells_encB (l : List UInt8) : Bytes.cells l = l.map encB := rfl

/-- Reverse over a row of the call's own. -/
theorem reverse_own {w : World} {base : Nat} {v : Value} {l : List UInt8} (h : Bytes.Has w base v l) (hne : l ≠ []) (hlen : l.length ≤ 9223372036854775807) :
    Calls Try.prog 24 #[v] w fun e w' => e = .returned (.tuple #[]) ∧ Bytes.Has w' base v l.reverse ∧ w.grownBy w' v.ownBlock := by
  unfold Bytes.Has at h
  rw [cells_encB] at h
  have hv : v ≠ .slice none 0 0 := by
    rintro rfl
    obtain ⟨h1, ⟨_, h0⟩ | ⟨g, cap, cur, e, _⟩⟩ := h
    · exact hne (List.eq_nil_of_length_eq_zero h0)
    · cases e
  obtain ⟨g, cap, rfl, hb, hg, hn, hm, _, hH⟩ := Lib.holds_of_ownsRow h hv
  have hr := reverse_arr g 0 cap l.toArray w hH (by simpa using hlen)
  simp only [List.size_toArray] at hr
  refine hr.mono fun e w' ⟨he, n, hw⟩ => ⟨he, ?_, ?_⟩
  · subst hw
    have := Lib.ownsRow_putRow (q := n) (k := l.length) (ys := l.reverse) h (by simp) (Nat.le_refl _)
    rw [List.take_of_length_le (by simp), ← cells_encB] at this
    unfold Bytes.Has
    rw [List.length_reverse]
    simpa using this
  · subst hw
    refine ⟨rfl, rfl, rfl, by simp [putRow, mapBlock, Sort.ahead], fun k hk hne => ?_⟩
    have hkg : g ≠ k := fun e => hne (by rw [e]; rfl)
    simp [putRow, mapBlock, Sort.ahead, Array.getElem?_modify, hkg]

theorem or128 (b : Int) (h2 : 0 ≤ b) (h3 : b < 128) : bits .or .u8 128 b = 128 + b := by
  obtain ⟨B, rfl⟩ := Int.eq_ofNat_of_zero_le h2
  have h := u8_or_nat 128 B (by omega) (by omega)
  rw [show ((128 : Nat) : Int) = (128 : Int) from rfl] at h
  rw [h, show (128 : Nat) = 2 ^ 7 * 1 by decide, ← Nat.two_pow_add_eq_or_of_lt (i := 7) (by omega)]
  omega

/-- A row of one cell that was just made. -/
theorem own_one (w : World) (base : Nat) (c : UInt8) (hb : base ≤ w.heap.size) : Bytes.Has (w.alloc (.cells #[.int .u8 (c.toNat : Int)] 5)) base (.slice (some ⟨w.heap.size, 0, none⟩) 1 1) [c] := by
  refine ⟨rfl, .inr ⟨w.heap.size, 1, _, rfl, hb, heap_alloc_new w _, Nat.le_refl _, by unfold maxLen; simp, rfl, rfl⟩⟩
theorem ret_str {a b : ByteArray} (h : a = b) : Ending.returned (.string a) = .returned (.string b) := by rw [h]
theorem rev_ne {m k : Nat} : (low7 m k).reverse ≠ [] := by
  intro h
  have := congrArg List.length h
  rw [List.length_reverse, low7_length] at this
  simp at this

set_option maxHeartbeats 1000000 in
theorem write_any (m : Nat) (w : World) (hm : m < 4294967296) :
    Calls Try.prog 7 #[.int .u32 (m : Int)] w fun e W' => e = .returned (.string ⟨(mb m).toArray⟩) ∧ Below w.heap.size w W' := by
  obtain ⟨i0, hi, hz0, hz1, hz2⟩ := info_parts Bytes.infoByte
  have h0 := sev0_toNat m
  have hown1 := own_one w w.heap.size (sev m 0) (Nat.le_refl _)
  have hbel1 := (Below.refl w.heap.size w).alloc (Nat.le_refl _) (.cells #[.int .u8 ((sev m 0).toNat : Int)] 5)
  have hcv : ((sev m 0).toNat : Int) = (m : Int) % 128 := by omega
  rw [hcv] at hown1 hbel1
  have hlo : Bytes.Has (w.alloc (.cells #[.int .u8 ((m : Int) % 128)] 5)) w.heap.size (.slice (some ⟨w.heap.size, 0, none⟩) 1 1) (low7 m 0).reverse := hown1
  clear h0 hcv hown1
  go_enter Try.func7, Try.ntmps7
  go_wp2
  go_loopw [0, 3] (fun c v wr => ∃ (j a : Nat), Hid (a = m / 128 ^ (j + 1)) ∧ (j = 0 ∨ 128 ^ j ≤ m) ∧ a < 33554432 ∧ c = .int .u32 (a : Int) ∧ Bytes.Has wr w.heap.size v (low7 m j).reverse ∧ Below w.heap.size w wr) (fun c _ _ => (RowKit.intOf c).natAbs)
  case atStart => exact ⟨0, m / 128, by show _ = _; simp, .inl rfl, by omega, by go_num, hlo, hbel1⟩
  case round =>
    obtain ⟨j, a, ha, hj, ham, rfl, hown, hbel⟩ := hrel
    have hz := hbel.size
    by_cases hc : 0 < a
    · have hpw := pow_le_of ha.out hc
      have hj5 := five_of hm hpw
      have ha' := Lib.hid (left_succ ha.out)
      have hs : ((sev m (j + 1)).toNat : Int) = 128 + (a : Int) % 128 := by rw [sev_toNat, ← ha.out]; omega
      have hor := or128 ((a : Int) % 128) (by omega) (by omega)
      rw [← hs] at hor
      have hst : (low7 m (j + 1)).reverse = (low7 m j).reverse ++ [sev m (j + 1)] := by rw [low7, List.reverse_cons]
      have hlen : (low7 m j).reverse.length = j + 1 := by rw [List.length_reverse, low7_length]
      generalize sev m (j + 1) = cb at hs hor hst
      generalize (low7 m j).reverse = l at hown hst hlen
      have HST := Lib.hid hst
      have HPW := Lib.hid hpw
      have hown0 := Lib.hid hown
      have hA : l.length + 1 ≤ maxLen := by unfold maxLen; omega
      have hB : (l.length + 1) * 1 ≤ 140737488355328 := by omega
      clear hst hlen ha hpw hs hj
      go_wp2_with (at_builtin; refine wpList_append_own _ rfl _ _ 46 rfl w.heap.size 5 i0 (.int .u8 0) 1 1 Try.underlying46 hi hz0 hz1 hz2 rfl Bytes.one_pos _ _ _ rfl (hown.alloc _) ⟨wr.heap.size, 0, none⟩ 1 1 [.int .u8 cb.toNat] rfl rfl (World.news_of_block (cs := #[.int .u8 cb.toNat]) (t := 5) (fr := (0, 0)) (heap_alloc_new wr _)) (by simp [Value.oneCell']) hA hB (Bytes.base_ok' hz _) ?_; intro v' w1 hown' hgrow _)
      go_roundw
      case rel => exact ⟨j + 1, a / 128, ha', .inr HPW.out, by omega, by go_num, by rw [HST.out]; exact Bytes.Has.laid1 hown', Bytes.Has.below hown0.out hbel hz _ hgrow⟩
      case measure => simp [RowKit.intOf]; omega
    · have hw7 := wid7_of hm hj (lt_pow_of ha.out (by omega))
      have CR := Lib.hid (reverse_own hown rev_ne (by rw [List.length_reverse, low7_length]; have := wid7_le m; omega))
      have HW := Lib.hid hw7
      have hlt := hown.lt
      clear hw7 ha hj
      go_wp2_with fail
      refine CR.out.mono ?_
      rintro e w1 ⟨rfl, hown2, hgrow⟩
      have hb2 := hbel.grown hgrow hz (fun k e => (World.ownsRow.lt hown k e).1)
      have htx := hown2.text
      rw [List.reverse_reverse] at htx
      clear hown hown2
      go_wp2
      go_ret
      exact ⟨ret_str (by unfold mb; rw [HW.out]), hb2⟩
end Go.Proofs.Ytpapakkcomegnaa.Mb
