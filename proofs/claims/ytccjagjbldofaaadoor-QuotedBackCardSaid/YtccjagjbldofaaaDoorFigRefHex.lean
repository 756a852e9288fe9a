/-
The document's own Hex answers two digits for each byte. Conditions: the text has at most 2^40 bytes.
-/
import Derived.Test.YtccjagjbldofaaaDoorBytes
import Derived.Test.YtccjagjbldofaaaDoorFigHexMath
import Derived.Deep.RegionHeld3
import Derived.IntWalk
namespace Go.Proofs.YtccjagjbldofaaaDoor.Fig
open Go.RowKit

/-- A digit's number. -/
def digI (x : Int) : Int := ((hexd x.toNat).toNat : Int)
theorem digI_lo {x : Int} (h0 : 0 ≤ x) (h : x < 10) : digI x = 48 + x := by
  unfold digI; rw [hexd_toNat _ (by omega), if_pos (by omega)]; omega
theorem digI_hi {x : Int} (h0 : 10 ≤ x) (h : x < 16) : digI x = 55 + x := by
  unfold digI; rw [hexd_toNat _ (by omega), if_neg (by omega)]; omega
theorem digI_bd {x : Int} (h0 : 0 ≤ x) (h : x < 16) : 0 ≤ digI x ∧ digI x < 256 := by
  by_cases hx : x < 10
  · rw [digI_lo h0 hx]; omega
  · rw [digI_hi (by omega) h]; omega
theorem ret_int {k : IntKind} {a b : Int} (h : a = b) : Ending.returned (.int k a) = .returned (.int k b) := by rw [h]

theorem digit_any (x : Int) (w : World) (h0 : 0 ≤ x) (h1 : x < 16) :
    Calls Tryd.prog 36 #[.int .i64 x] w fun e w' => e = .returned (.int .u8 (digI x)) ∧ w = w' := by
  by_cases hx : x < 10
  · go_enter Tryd.func36, Tryd.ntmps36
    go_wp2
    go_ret
    exact ⟨ret_int (by rw [digI_lo h0 hx]), rfl⟩
  · go_enter Tryd.func36, Tryd.ntmps36
    go_wp2
    go_ret
    exact ⟨ret_int (by rw [digI_hi (by omega) h1]; omega), rfl⟩

theorem take_all' (s : ByteArray) {k : Nat} (h : ¬ k < s.size) : s.data.toList.take k = s.data.toList := List.take_of_length_le (by simp; omega)

set_option maxHeartbeats 400000 in
theorem refHex_any (s : ByteArray) (w : World) (hs : s.size ≤ 1099511627776) :
    Calls Tryd.prog 27 #[.string s] w fun e w' => e = .returned (.string ⟨(hexOf s.data.toList).toArray⟩) ∧ Below w.heap.size w w' := by
  obtain ⟨i0, hi, hz0, hz1, hz2⟩ := info_parts Bytes.infoByte
  go_enter Tryd.func27, Tryd.ntmps27
  go_wp2
  go_loopw [3, 4] (fun v i wr => ∃ k : Nat, k ≤ s.size ∧ i = .int .i64 k ∧ Bytes.Has wr w.heap.size v (hexOf (s.data.toList.take k)) ∧ Below w.heap.size w wr) (fun _ i _ => s.size - (intOf i).toNat)
  case atStart => exact ⟨0, Nat.zero_le _, rfl, Bytes.Has.nil _ _, Below.refl _ _⟩
  case round =>
    obtain ⟨k, hk, rfl, hown, hbel⟩ := hrel
    by_cases hlt : k < s.size
    · have hb : s[k].toNat < 256 := s[k].toNat_lt
      have hc1 : digI ((s[k].toNat : Int) / 16) = ((hexd (s[k].toNat / 16)).toNat : Int) := by
        unfold digI; rw [show ((s[k].toNat : Int) / 16).toNat = s[k].toNat / 16 by omega]
      have hc2 : digI ((s[k].toNat : Int) % 16) = ((hexd (s[k].toNat % 16)).toNat : Int) := by
        unfold digI; rw [show ((s[k].toNat : Int) % 16).toNat = s[k].toNat % 16 by omega]
      have hl := hexOf_take_length s k hk
      have hst := hexOf_step s k hlt
      generalize hexd (s[k].toNat / 16) = c1 at hc1 hst
      generalize hexd (s[k].toNat % 16) = c2 at hc2 hst
      generalize hexOf (s.data.toList.take k) = l at hown hl hst
      have hown0 := Lib.hid hown
      have HST := Lib.hid hst
      have HL := Lib.hid hl
      clear hst hl
      have hz := hbel.size
      have hA : l.length + 2 ≤ maxLen := by rw [HL.out]; unfold maxLen; omega
      have hB : (l.length + 2) * 1 ≤ 140737488355328 := by rw [HL.out]; omega
      have D1 : Hid (∀ W : World, Calls Tryd.prog 36 #[.int .i64 ((s[k].toNat : Int) / 16)] W fun e w' => e = .returned (.int .u8 (c1.toNat : Int)) ∧ W = w') := by
        intro W; rw [← hc1]; exact digit_any _ W (by omega) (by omega)
      have D2 : Hid (∀ W : World, Calls Tryd.prog 36 #[.int .i64 ((s[k].toNat : Int) % 16)] W fun e w' => e = .returned (.int .u8 (c2.toNat : Int)) ∧ W = w') := by
        intro W; rw [← hc2]; exact digit_any _ W (by omega) (by omega)
      have hw1 : IntKind.i64.wrap (s[k].toNat : Int) = (s[k].toNat : Int) := IntWalk.i64_in _ (by omega)
      have hw2 : IntKind.i64.wrap ((s[k].toNat : Int).tdiv 16) = (s[k].toNat : Int) / 16 := by
        rw [Int.tdiv_eq_ediv_of_nonneg (by omega)]; exact IntWalk.i64_in _ (by clear hw1; omega)
      have hw4 : IntKind.i64.wrap ((s[k].toNat : Int) / 16) = (s[k].toNat : Int) / 16 := IntWalk.i64_in _ (by clear hw1 hw2; omega)
      have hw3 : (s[k].toNat : Int).tmod 16 = (s[k].toNat : Int) % 16 := Int.tmod_eq_emod_of_nonneg (by clear hw1 hw2 hw4; omega)
      clear hc1 hc2
      go_wp2_with fail
      go_region_held3 (fun _ => True) (exact trivial) (first | (go_at_call 36; first | ((with_reducible refine (D1.out _).mono ?_); rintro e w' ⟨rfl, rfl⟩) | ((with_reducible refine (D2.out _).mono ?_); rintro e w' ⟨rfl, rfl⟩)) | (refine step_append_lies _ (by rfl) _ _ _ (by rfl) w.heap.size 5 i0 _ 1 1 Tryd.underlying31 hi hz0 hz1 hz2 rfl Bytes.one_pos _ _ _ (by rfl) ((hown.alloc _).drew) ⟨wr.heap.size, 0, none⟩ 2 2 [.int .u8 c1.toNat, .int .u8 c2.toNat] (by rfl) (by rfl) (World.news_of_block (cs := #[.int .u8 c1.toNat, .int .u8 c2.toNat]) (t := 5) (fr := (0, 0)) (heap_alloc_new wr _)) (by simp [Value.oneCell']) Bytes.two_pos hA hB (Bytes.base_ok hz _) (wr.heap.size + 1) (Bytes.top_ok _) ?_; intro gg cap w1 hown1 hgrow hat hlt1))
      all_goals clear hw1 hw2 hw3 hw4
      all_goals
        go_wp2
        go_roundw
        case rel => exact ⟨k + 1, by omega, by go_num, by rw [HST.out]; exact Bytes.Has.laid2 hown1, Bytes.Has.belowD hown0.out hbel hz _ hgrow⟩
        case measure => simp [intOf]; omega
    · have hc := hown.text
      rw [take_all' s hlt] at hc
      go_wp2
      go_ret
      exact ⟨rfl, hbel⟩
end Go.Proofs.YtccjagjbldofaaaDoor.Fig
