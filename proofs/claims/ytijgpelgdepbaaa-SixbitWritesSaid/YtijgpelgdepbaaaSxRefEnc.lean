/-
The document's own Encode answers what the plain function 'enc' says. Conditions: the text has at most 2^36 bytes.
-/
import Derived.Test.YtijgpelgdepbaaaBytes
import Derived.Test.YtijgpelgdepbaaaSxBits
import Derived.Test.YtijgpelgdepbaaaSxLet
import Derived.IntWalk
import Derived.Laws.BitsAllLaws
namespace Go.Proofs.Ytijgpelgdepbaaa.Sx
open Go.RowKit

theorem bitI (c r : Nat) : ((c : Int) / 2 ^ r).tmod 2 = ((c / 2 ^ r % 2 : Nat) : Int) := by
  have h : (c : Int) / 2 ^ r = ((c / 2 ^ r : Nat) : Int) := by simp
  rw [h, Int.tmod_eq_emod_of_nonneg (Int.natCast_nonneg _)]; omega
theorem bit_out {s : ByteArray} {n q : Nat} (hq : n / 8 = q) (h : ¬ q < s.size) : bitN s.data.toList n = 0 := by
  unfold bitN
  rw [hq, List.getD_eq_getElem?_getD, List.getElem?_eq_none (by rw [list_size]; omega)]; simp
theorem bit_in {s : ByteArray} {n q : Nat} (hq : n / 8 = q) (h : q < s.size) : bitN s.data.toList n = s[q].toNat / 2 ^ (7 - n % 8) % 2 := by
  unfold bitN
  rw [hq, List.getD_eq_getElem?_getD, List.getElem?_eq_getElem (by rw [list_size]; exact h)]; rfl
theorem ret_i64 {a b : Int} (h : a = b) : Ending.returned (.int .i64 a) = .returned (.int .i64 b) := by rw [h]

set_option maxHeartbeats 400000 in
theorem bit_any (s : ByteArray) (n : Nat) (w : World) (hn : n < 1099511627776) (hs : s.size ≤ 68719476736) :
    Calls Try.prog 12 #[.string s, .int .i64 (n : Int)] w fun e w' => e = .returned (.int .i64 (bitN s.data.toList n : Int)) ∧ w = w' := by
  obtain ⟨q, hq⟩ : ∃ q, n / 8 = q := ⟨_, rfl⟩
  have hqi : (n : Int) / 8 = (q : Int) := by omega
  have HQ := Lib.hid hq
  clear hq
  by_cases h : q < s.size
  · have hb := s[q].toNat_lt
    go_enter Try.func12, Try.ntmps12
    go_wp2_with fail
    go_ret
    exact ⟨ret_i64 (by rw [bit_in HQ.out h]; first | exact bitI _ _ | (rw [IntKind.wrap_i64]; exact bitI _ _)), rfl⟩
  · go_enter Try.func12, Try.ntmps12
    go_wp2_with fail
    go_ret
    exact ⟨ret_i64 (by rw [bit_out HQ.out h]; rfl), rfl⟩

theorem app_ref {w' : World} {base : Nat} {v' : Value} {l : List UInt8} {m m' : Nat} {c : UInt8} (hm : m' = m + 1) (hc : refL l m = c) (h : w'.ownsRow base 5 1 v' ((refAll l m).length + 1) (Bytes.cells (refAll l m) ++ [.int .u8 (c.toNat : Int)])) : Bytes.Has w' base v' (refAll l m') := by
  subst hm; rw [refAll_succ, hc]; exact Bytes.Has.laid1 h

set_option maxRecDepth 100000 in
set_option maxHeartbeats 2000000 in
theorem refEncode_any (s : ByteArray) (hs : s.size ≤ 68719476736) (w : World) :
    Calls Try.prog 6 #[.string s] w fun e W' => e = .returned (.string ⟨(enc s.data.toList).toArray⟩) ∧ Below w.heap.size w W' := by
  obtain ⟨i0, hi, hz0, hz1, hz2⟩ := info_parts Bytes.infoByte
  have HS := Lib.hid (list_size s)
  go_enter Try.func6, Try.ntmps6
  go_wp2_with fail
  go_loopw [3, 4] (fun v iv wr => ∃ (q i : Nat), Hid (i = 3 * q) ∧ iv = .int .i64 (i : Int) ∧ i ≤ s.size + 2 ∧ Bytes.Has wr w.heap.size v (refAll s.data.toList (4 * q)) ∧ Below w.heap.size w wr) (fun _ iv _ => s.size + 3 - (intOf iv).toNat)
  case atStart => exact ⟨0, 0, Lib.hid rfl, rfl, by omega, Bytes.Has.nil _ _, Below.refl _ _⟩
  case round =>
    obtain ⟨q, i, hi3, rfl, hib, hown, hbel⟩ := hrel
    by_cases hlt : i < s.size
    · go_wp2_with fail
      go_loopw [3, 5] (fun v kv wr => ∃ (k : Nat), k ≤ 4 ∧ kv = .int .i64 (k : Int) ∧ Bytes.Has wr w.heap.size v (refAll s.data.toList (4 * q + k)) ∧ Below w.heap.size w wr) (fun _ kv _ => 4 - (intOf kv).toNat)
      case atStart => exact ⟨0, by omega, rfl, hown, hbel⟩
      case round =>
        obtain ⟨k, hk, rfl, hown, hbel⟩ := hrel
        have hz := hbel.size
        by_cases hk4 : k < 4
        · have hkb : decide ((k : Int) < 4) = true := by simp; omega
          by_cases hf : 8 * s.size ≤ 8 * i + 6 * k
          · have hr := Lib.hid (show refL s.data.toList (4 * q + k) = 61 by unfold refL; rw [HS.out, if_pos (by have := hi3.out; omega)])
            have hA : (refAll s.data.toList (4 * q + k)).length + 1 ≤ maxLen := by rw [refAll_length]; have := hi3.out; unfold maxLen; omega
            have hB : ((refAll s.data.toList (4 * q + k)).length + 1) * 1 ≤ 140737488355328 := by rw [refAll_length]; have := hi3.out; omega
            have h8 : (8 : Int) * (s.size : Int) ≤ 8 * (i : Int) + 6 * (k : Int) := by omega
            have hown0 := Lib.hid hown
            go_wp2_with (at_builtin; refine wpList_append_own _ rfl _ _ 30 rfl w.heap.size 5 i0 (.int .u8 0) 1 1 Try.underlying30 hi hz0 hz1 hz2 rfl Bytes.one_pos _ _ _ rfl (hown.alloc _) ⟨wr.heap.size, 0, none⟩ 1 1 [.int .u8 61] rfl rfl (World.news_of_block (cs := #[.int .u8 61]) (t := 5) (fr := (0, 0)) (heap_alloc_new wr _)) (by simp [Value.oneCell']) hA hB (Bytes.base_ok' hz _) ?_; intro v' w1 hown' hgrow _)
            go_roundw
            case rel => exact ⟨k + 1, by omega, by go_num, app_ref rfl hr.out hown', Bytes.Has.below hown0.out hbel hz _ hgrow⟩
            case measure => simp [intOf]; omega
          · have hr := Lib.hid (show refL s.data.toList (4 * q + k) = lt (nb s.data.toList (8 * i + 6 * k) 6) by unfold refL; rw [HS.out, if_neg (by have := hi3.out; omega), show 6 * (4 * q + k) = 8 * i + 6 * k by have := hi3.out; omega])
            have hA : (refAll s.data.toList (4 * q + k)).length + 1 ≤ maxLen := by rw [refAll_length]; have := hi3.out; unfold maxLen; omega
            have hB : ((refAll s.data.toList (4 * q + k)).length + 1) * 1 ≤ 140737488355328 := by rw [refAll_length]; have := hi3.out; omega
            have h8 : 8 * (i : Int) + 6 * (k : Int) < (8 : Int) * (s.size : Int) := by omega
            have hown0 := Lib.hid hown
            go_wp2_with fail
            go_loop [7, 8] (fun nv jv => ∃ j : Nat, j ≤ 6 ∧ jv = .int .i64 (j : Int) ∧ nv = .int .i64 (nb s.data.toList (8 * i + 6 * k) j : Int)) (fun _ jv => 6 - (intOf jv).toNat)
            case atStart => exact ⟨0, by omega, rfl, rfl⟩
            case round =>
              obtain ⟨j, hj, rfl, rfl⟩ := hrel
              by_cases hj6 : j < 6
              · have CB := Lib.hid (fun W => bit_any s (8 * i + 6 * k + j) W (by omega) hs)
                rw [show ((8 * i + 6 * k + j : Nat) : Int) = 8 * (i : Int) + 6 * (k : Int) + (j : Int) by omega] at CB
                have hst := Lib.hid (show nb s.data.toList (8 * i + 6 * k) (j + 1) = 2 * nb s.data.toList (8 * i + 6 * k) j + bitN s.data.toList (8 * i + 6 * k + j) from rfl)
                have hnl := nb_lt s.data.toList (8 * i + 6 * k) j
                have hn6 : 2 ^ j ≤ 2 ^ 6 := Nat.pow_le_pow_right (by decide) (by omega)
                have hn63 : nb s.data.toList (8 * i + 6 * k) j < 64 := by omega
                have hbl := bitN_le s.data.toList (8 * i + 6 * k + j)
                generalize bitN s.data.toList (8 * i + 6 * k + j) = b at CB hst hbl
                clear hnl hn6
                go_wp2_with (go_at_call 12; refine (CB.out _).mono ?_; rintro e w' ⟨rfl, rfl⟩)
                go_round
                case rel => exact ⟨j + 1, by omega, by go_num, by rw [hst.out]; go_num⟩
                case measure => simp [intOf]; omega
              · obtain rfl : j = 6 := by omega
                have hn63 := nb_lt s.data.toList (8 * i + 6 * k) 6
                generalize nb s.data.toList (8 * i + 6 * k) 6 = y at hr hn63
                have hx := idx_lt .i64 (y : Int) (by omega) (by omega)
                rw [Int.toNat_natCast] at hx
                go_wp2_with (at_builtin; refine wpList_append_own _ rfl _ _ 30 rfl w.heap.size 5 i0 (.int .u8 0) 1 1 Try.underlying30 hi hz0 hz1 hz2 rfl Bytes.one_pos _ _ _ rfl (hown.alloc _) ⟨wr.heap.size, 0, none⟩ 1 1 [.int .u8 (lt y).toNat] rfl rfl (World.news_of_block (cs := #[.int .u8 (lt y).toNat]) (t := 5) (fr := (0, 0)) (heap_alloc_new wr _)) (by simp [Value.oneCell']) hA hB (Bytes.base_ok' hz _) ?_; intro v' w1 hown' hgrow _)
                go_roundw
                case rel => exact ⟨k + 1, by omega, by go_num, app_ref rfl hr.out hown', Bytes.Has.below hown0.out hbel hz _ hgrow⟩
                case measure => simp [intOf]; omega
        · obtain rfl : k = 4 := by omega
          have HO := Lib.hid hown
          clear hown
          go_wp2_with fail
          go_roundw
          case rel => exact ⟨q + 1, i + 3, Lib.hid (by have := hi3.out; omega), by go_num, by omega, by rw [Nat.mul_succ]; exact HO.out, hbel⟩
          case measure => simp [intOf]; omega
    · have hc := hown.text
      have HE := Lib.hid (show refAll s.data.toList (4 * q) = enc s.data.toList by rw [enc_ref, HS.out, show (s.size + 2) / 3 = q by have := hi3.out; omega])
      rw [HE.out] at hc
      clear hown
      go_wp2_with fail
      go_ret
      exact ⟨rfl, hbel⟩
end Go.Proofs.Ytijgpelgdepbaaa.Sx
