/-
figure.Hex answers two digits for each byte. Conditions: the text has at most 2^40 bytes.
-/
import Derived.Test.YtccjagjbldofaaaDoorBytes
import Derived.Test.YtccjagjbldofaaaDoorFigHexMath
import Derived.Deep.RegionHeld3
import Derived.Laws.BitsLemmas
namespace Go.Proofs.YtccjagjbldofaaaDoor.Fig
open Go.RowKit

theorem idx_hex (x : Int) (h0 : 0 ≤ x) (h1 : x < 16) (W : World) :
    (Instr.index 9 (.string { data := #[48, 49, 50, 51, 52, 53, 54, 55, 56, 57, 65, 66, 67, 68, 69, 70] }) (.int .u8 x)).run Tryd.prog W = .ok (.int .u8 ((hexd x.toNat).toNat : Int)) W := by
  rw [run_index_string W _ _ _ _ Tryd.underlying9, dif_pos ⟨h0, h1⟩]
  obtain ⟨n, rfl⟩ := Int.eq_ofNat_of_zero_le h0
  have hn : n < 16 := by omega
  match n, hn with
  | 0, _ => rfl
  | 1, _ => rfl
  | 2, _ => rfl
  | 3, _ => rfl
  | 4, _ => rfl
  | 5, _ => rfl
  | 6, _ => rfl
  | 7, _ => rfl
  | 8, _ => rfl
  | 9, _ => rfl
  | 10, _ => rfl
  | 11, _ => rfl
  | 12, _ => rfl
  | 13, _ => rfl
  | 14, _ => rfl
  | 15, _ => rfl

theorem take_all (s : ByteArray) {k : Nat} (h : ¬ k < s.size) : s.data.toList.take k = s.data.toList := List.take_of_length_le (by simp; omega)

set_option maxHeartbeats 400000 in
theorem hex_any (s : ByteArray) (w : World) (hs : s.size ≤ 1099511627776) :
    Calls Tryd.prog 22 #[.string s] w fun e w' => e = .returned (.string ⟨(hexOf s.data.toList).toArray⟩) ∧ Below w.heap.size w w' := by
  obtain ⟨i0, hi, hz0, hz1, hz2⟩ := info_parts Bytes.infoByte
  go_enter Tryd.func22, Tryd.ntmps22
  go_wp2
  go_loopw [3, 7] (fun v i wr => ∃ k : Nat, k ≤ s.size ∧ i = .int .i64 k ∧ Bytes.Has wr w.heap.size v (hexOf (s.data.toList.take k)) ∧ Below w.heap.size w wr) (fun _ i _ => s.size - (intOf i).toNat)
  case atStart => exact ⟨0, Nat.zero_le _, rfl, Bytes.Has.nil _ _, Below.refl _ _⟩
  case round =>
    obtain ⟨k, hk, rfl, hown, hbel⟩ := hrel
    by_cases hlt : k < s.size
    · have hb : s[k].toNat < 256 := s[k].toNat_lt
      have hand := u8_and15 (x := (s[k].toNat : Int)) (by omega) (by omega)
      obtain ⟨c1, hc1⟩ : ∃ c : UInt8, hexd (s[k].toNat / 16) = c := ⟨_, rfl⟩
      obtain ⟨c2, hc2⟩ : ∃ c : UInt8, hexd (s[k].toNat % 16) = c := ⟨_, rfl⟩
      have hx1 := idx_hex ((s[k].toNat : Int) / 16) (by omega) (by omega)
      have hx2 := idx_hex ((s[k].toNat : Int) % 16) (by omega) (by omega)
      rw [show ((s[k].toNat : Int) / 16).toNat = s[k].toNat / 16 by omega, hc1] at hx1
      rw [show ((s[k].toNat : Int) % 16).toNat = s[k].toNat % 16 by omega, hc2] at hx2
      have hl := hexOf_take_length s k hk
      have hst := hexOf_step s k hlt
      rw [hc1, hc2] at hst
      generalize hexOf (s.data.toList.take k) = l at hown hl hst
      have hown0 := Lib.hid hown
      have HC1 := Lib.hid hc1
      have HC2 := Lib.hid hc2
      have HST := Lib.hid hst
      have HL := Lib.hid hl
      clear hc1 hc2 hst hl
      have hz := hbel.size
      go_wp2_with fail
      go_region_held3 (fun _ => True) (exact trivial) ((refine step_append_lies _ (by rfl) _ _ _ (by rfl) w.heap.size 5 i0 _ 1 1 Tryd.underlying31 hi hz0 hz1 hz2 rfl (by omega) _ _ _ (by rfl) ((hown.alloc _).drew) ⟨wr.heap.size, 0, none⟩ 2 2 [.int .u8 c1.toNat, .int .u8 c2.toNat] (by rfl) (by rfl) (World.news_of_block (cs := #[.int .u8 c1.toNat, .int .u8 c2.toNat]) (t := 5) (fr := (0, 0)) (heap_alloc_new wr _)) (by simp [Value.oneCell']) (by omega) (by rw [HL.out]; unfold maxLen; omega) (by rw [HL.out]; omega) (by simp; omega) (wr.heap.size + 1) (by simp) ?_; intro gg cap w1 hown1 hgrow hat hlt1))
      all_goals
        go_wp2
        go_roundw
        case rel => exact ⟨k + 1, by omega, by go_num, by rw [HST.out]; exact Bytes.Has.laid2 hown1, Bytes.Has.belowD hown0.out hbel hz _ hgrow⟩
        case measure => simp [intOf]; omega
    · have hc := hown.text
      rw [take_all s hlt] at hc
      go_wp2
      go_ret
      exact ⟨rfl, hbel⟩
end Go.Proofs.YtccjagjbldofaaaDoor.Fig
