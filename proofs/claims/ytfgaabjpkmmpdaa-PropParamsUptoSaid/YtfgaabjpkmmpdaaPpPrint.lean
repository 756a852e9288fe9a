/-
A property's line, as the document prints it. Conditions: the parameters lie below the caller's blocks, at most 2^40 of them; the value has at most 2^40 bytes.
-/
import Derived.Test.YtfgaabjpkmmpdaaPpCheck
import Derived.Test.YtfgaabjpkmmpdaaPpPrt
namespace Go.Proofs.Ytfgaabjpkmmpdaa.Pp
open Go.RowKit

set_option maxHeartbeats 1000000 in
theorem rPrint_any (g n : ByteArray) (pv : Value) (v : ByteArray) (aa : Option Addr) (m ac : Nat) (ps : List (ByteArray × ByteArray)) (w : World) (hps : Ps w w.heap.size pv ps) (hl : ps.length ≤ 1099511627776) (hv : v.size ≤ 1099511627776) :
    Calls Try.prog 8 #[prV g n pv v (.slice aa m ac)] w fun e w' => e = .returned (.tuple #[.string (prt g n ps v (chk g n ps v m)), .int .i64 (chk g n ps v m)]) ∧ Below w.heap.size w w' := by
  obtain ⟨pa, pc, rfl⟩ := hps.shape
  have HB : Below w.heap.size w (w.alloc (.cells #[.string g, .string n, .slice pa ps.length pc, .string v, .slice aa m ac] 25)) := (Below.refl _ _).alloc (Nat.le_refl _) _
  have HP := (hps.below HB).up (B' := (w.alloc (.cells #[.string g, .string n, .slice pa ps.length pc, .string v, .slice aa m ac] 25)).heap.size) (by rw [World.size_alloc]; omega)
  have HA : PrAt (w.alloc (.cells #[.string g, .string n, .slice pa ps.length pc, .string v, .slice aa m ac] 25)) w.heap.size g n (.slice pa ps.length pc) v (.slice aa m ac) := heap_alloc_new w _
  have C := rCheck_any g n _ v aa m ac ps _ HP hl hv
  unfold prV at C ⊢
  have HO := Lib.hid (chk_ok (g := g) (n := n) (ps := ps) (v := v) (m := m))
  generalize chk g n ps v m = r at C HO ⊢
  by_cases h0 : r = 0
  · subst h0
    obtain ⟨og, ol, op, -, ov, -⟩ := HO.out rfl
    obtain ⟨og1, og2⟩ := goodNames_le og
    have OP := Lib.hid (fun k (hk : k < ps.length) => goodPs_le op hk)
    clear HO og op
    rw [prt, if_pos rfl]
    obtain ⟨z, hz⟩ : ∃ z, lineB g n ps v = z := ⟨_, rfl⟩
    rw [hz]
    have HZ := Lib.hid hz
    clear hz
    by_cases hg : g.size = 0
    · have s0 := str_none hg
      have SZ : (n).size ≤ 65 + 66 * 0 := by omega
      have HH := Lib.hid (show headL g n = n by unfold headL; rw [if_pos hg])
      go_enter Try.func8, Try.ntmps8
      go_wp2_with fail
      refine C.mono ?_
      rintro e w2 ⟨rfl, b2⟩
      have HA2 := HA.below b2
      have HBB := HB.trans (b2.mono HB.size)
      have k0 := HA2.c0
      have k1 := HA2.c1
      go_wp2_with fail
      go_loopw [5, 6] (fun uv iv wr => ∃ (i : Nat) (u : ByteArray), i ≤ ps.length ∧ iv = .int .i64 (i : Int) ∧ uv = .string u ∧ u.size ≤ 65 + 66 * i ∧ PrAt wr w.heap.size g n (.slice pa ps.length pc) v (.slice aa m ac) ∧ Below w.heap.size w wr ∧ Hid ((ps.drop i).foldl withP u ++ ⟨#[58]⟩ ++ v = z)) (fun _ iv _ => ps.length - (intOf iv).toNat)
      case atStart => exact ⟨0, _, Nat.zero_le _, rfl, rfl, SZ, HA2, HBB, Lib.hid (by rw [← HZ.out, List.drop_zero, lineB, HH.out])⟩
      case round =>
        obtain ⟨k, u, hk, rfl, rfl, hu, hcell, hbel, HK⟩ := hrel
        have k2 := hcell.c2
        have k3 := hcell.c3
        by_cases hlt : k < ps.length
        · obtain ⟨b, o, cap, hv1, hbB, hc0, hc1⟩ := (hps.below hbel).at_ hlt
          simp only [Value.slice.injEq, true_and] at hv1
          obtain ⟨rfl, rfl⟩ := hv1
          have HS := Lib.hid (fold_step hlt u)
          obtain ⟨o1, o2⟩ := OP.out k hlt
          generalize ps[k] = x at hc0 hc1 HS o1 o2
          obtain ⟨n', v'⟩ := x
          simp only at hc0 hc1 HS o1 o2
          by_cases hn : n'.size = 0
          · have e0 := str_none hn
            have HK' := Lib.hid (show (ps.drop (k + 1)).foldl withP (u ++ ⟨#[59]⟩ ++ v') ++ ⟨#[58]⟩ ++ v = z by rw [← HK.out, HS.out, withP, if_pos hn])
            have hz : (u ++ ⟨#[59]⟩ ++ v').size ≤ 65 + 66 * (k + 1) := by rw [ByteArray.size_append, ByteArray.size_append, size_1]; omega
            have HZ2 := Lib.hid hz
            clear hz
            go_wp2_with fail
            go_roundw
            case rel => exact ⟨k + 1, _, by omega, by go_num, rfl, HZ2.out, hcell, hbel, HK'⟩
            case measure => simp [intOf]; omega
          · have e0 := str_some hn
            have HK' := Lib.hid (show (ps.drop (k + 1)).foldl withP (u ++ ⟨#[59]⟩ ++ n' ++ ⟨#[61]⟩ ++ v') ++ ⟨#[58]⟩ ++ v = z by rw [← HK.out, HS.out, withP, if_neg hn])
            have hz : (u ++ ⟨#[59]⟩ ++ n' ++ ⟨#[61]⟩ ++ v').size ≤ 65 + 66 * (k + 1) := by rw [ByteArray.size_append, ByteArray.size_append, ByteArray.size_append, ByteArray.size_append, size_1, size_1]; omega
            have HZ2 := Lib.hid hz
            clear hz
            go_wp2_with fail
            go_roundw
            case rel => exact ⟨k + 1, _, by omega, by go_num, rfl, HZ2.out, hcell, hbel, HK'⟩
            case measure => simp [intOf]; omega
        · obtain rfl : k = ps.length := by omega
          have HE := Lib.hid (show u ++ ⟨#[58]⟩ ++ v = z by rw [← HK.out, List.drop_length]; rfl)
          go_wp2_with fail
          go_ret2
          exact ⟨by rw [← HE.out]; rfl, hbel⟩
    · have s0 := str_some hg
      have SZ : (g ++ ⟨#[46]⟩ ++ n).size ≤ 65 + 66 * 0 := by rw [ByteArray.size_append, ByteArray.size_append, size_1]; omega
      have HH := Lib.hid (show headL g n = g ++ ⟨#[46]⟩ ++ n by unfold headL; rw [if_neg hg])
      go_enter Try.func8, Try.ntmps8
      go_wp2_with fail
      refine C.mono ?_
      rintro e w2 ⟨rfl, b2⟩
      have HA2 := HA.below b2
      have HBB := HB.trans (b2.mono HB.size)
      have k0 := HA2.c0
      have k1 := HA2.c1
      go_wp2_with fail
      go_loopw [5, 6] (fun uv iv wr => ∃ (i : Nat) (u : ByteArray), i ≤ ps.length ∧ iv = .int .i64 (i : Int) ∧ uv = .string u ∧ u.size ≤ 65 + 66 * i ∧ PrAt wr w.heap.size g n (.slice pa ps.length pc) v (.slice aa m ac) ∧ Below w.heap.size w wr ∧ Hid ((ps.drop i).foldl withP u ++ ⟨#[58]⟩ ++ v = z)) (fun _ iv _ => ps.length - (intOf iv).toNat)
      case atStart => exact ⟨0, _, Nat.zero_le _, rfl, rfl, SZ, HA2, HBB, Lib.hid (by rw [← HZ.out, List.drop_zero, lineB, HH.out])⟩
      case round =>
        obtain ⟨k, u, hk, rfl, rfl, hu, hcell, hbel, HK⟩ := hrel
        have k2 := hcell.c2
        have k3 := hcell.c3
        by_cases hlt : k < ps.length
        · obtain ⟨b, o, cap, hv1, hbB, hc0, hc1⟩ := (hps.below hbel).at_ hlt
          simp only [Value.slice.injEq, true_and] at hv1
          obtain ⟨rfl, rfl⟩ := hv1
          have HS := Lib.hid (fold_step hlt u)
          obtain ⟨o1, o2⟩ := OP.out k hlt
          generalize ps[k] = x at hc0 hc1 HS o1 o2
          obtain ⟨n', v'⟩ := x
          simp only at hc0 hc1 HS o1 o2
          by_cases hn : n'.size = 0
          · have e0 := str_none hn
            have HK' := Lib.hid (show (ps.drop (k + 1)).foldl withP (u ++ ⟨#[59]⟩ ++ v') ++ ⟨#[58]⟩ ++ v = z by rw [← HK.out, HS.out, withP, if_pos hn])
            have hz : (u ++ ⟨#[59]⟩ ++ v').size ≤ 65 + 66 * (k + 1) := by rw [ByteArray.size_append, ByteArray.size_append, size_1]; omega
            have HZ2 := Lib.hid hz
            clear hz
            go_wp2_with fail
            go_roundw
            case rel => exact ⟨k + 1, _, by omega, by go_num, rfl, HZ2.out, hcell, hbel, HK'⟩
            case measure => simp [intOf]; omega
          · have e0 := str_some hn
            have HK' := Lib.hid (show (ps.drop (k + 1)).foldl withP (u ++ ⟨#[59]⟩ ++ n' ++ ⟨#[61]⟩ ++ v') ++ ⟨#[58]⟩ ++ v = z by rw [← HK.out, HS.out, withP, if_neg hn])
            have hz : (u ++ ⟨#[59]⟩ ++ n' ++ ⟨#[61]⟩ ++ v').size ≤ 65 + 66 * (k + 1) := by rw [ByteArray.size_append, ByteArray.size_append, ByteArray.size_append, ByteArray.size_append, size_1, size_1]; omega
            have HZ2 := Lib.hid hz
            clear hz
            go_wp2_with fail
            go_roundw
            case rel => exact ⟨k + 1, _, by omega, by go_num, rfl, HZ2.out, hcell, hbel, HK'⟩
            case measure => simp [intOf]; omega
        · obtain rfl : k = ps.length := by omega
          have HE := Lib.hid (show u ++ ⟨#[58]⟩ ++ v = z by rw [← HK.out, List.drop_length]; rfl)
          go_wp2_with fail
          go_ret2
          exact ⟨by rw [← HE.out]; rfl, hbel⟩
  · have h0' : (r == 0) = false := by simpa using h0
    rw [prt, if_neg h0]
    go_enter Try.func8, Try.ntmps8
    go_wp2_with fail
    refine C.mono ?_
    rintro e w2 ⟨rfl, b2⟩
    go_wp2_with fail
    go_ret2
    exact ⟨rfl, HB.trans (b2.mono HB.size)⟩
end Go.Proofs.Ytfgaabjpkmmpdaa.Pp
