/-
What stands at a reader's place: the contracts of 'byteHere', 'numberHere' and 'bytesHere'. Conditions: the reader's place is within its text, the text's length is at most maxLen.
-/
import Derived.Test.YtpapakkcomegnaaMbMath
import Derived.Test.YtpapakkcomegnaaMbState
namespace Go.Proofs.Ytpapakkcomegnaa.Mb
open Go.RowKit

theorem ret3 {a : Value} {a' : Value} {b b' c c' : Int} (h1 : a = a') (h2 : b = b') (h3 : c = c') :
    Ending.returned (.tuple #[a, .int .i64 b, .int .i64 c]) = Ending.returned (.tuple #[a', .int .i64 b', .int .i64 c']) := by rw [h1, h2, h3]

theorem head_data {s : ByteArray} (h : 0 < s.size) : s.data.toList.head? = some s[0] := by
  rw [List.head?_eq_getElem?, List.getElem?_eq_getElem (by rw [len_data]; exact h)]; rfl
theorem byt_head {l : List UInt8} {c : UInt8} (h : l.head? = some c) : bytOf l = (c.toNat, 1, 0) := by
  cases l with
  | nil => cases h
  | cons a t => cases h; rfl
theorem int_eq {k : IntKind} {a b : Int} (h : a = b) : Value.int k a = .int k b := by rw [h]
theorem retT {v : ByteArray} {p : List UInt8 × Nat × Nat} {b c : Nat} (h : p = (v.data.toList, b, c)) : Ending.returned (.tuple #[.string v, .int .i64 (b : Int), .int .i64 (c : Int)]) = Ending.returned (.tuple #[.string ⟨p.1.toArray⟩, .int .i64 (p.2.1 : Int), .int .i64 (p.2.2 : Int)]) := by rw [h]
theorem retN' {x y : Int} {a b c : Nat} {p : Nat × Nat × Nat} (h : p = (a, b, c)) (hx : x = (a : Int)) (hy : y = (b : Int)) : Ending.returned (.tuple #[.int .u32 x, .int .i64 y, .int .i64 (c : Int)]) = Ending.returned (.tuple #[.int .u32 (p.1 : Int), .int .i64 (p.2.1 : Int), .int .i64 (p.2.2 : Int)]) := by rw [h, hx, hy]

set_option maxHeartbeats 400000 in
theorem byteHere_any (b : Nat) (s : ByteArray) (i : Nat) (e : Int) (w : World) (h : Rd w b s i e) (hi : i ≤ s.size) :
    Calls Try.prog 26 #[.pointer (some ⟨b, 0, none⟩)] w fun x w' => x = .returned (.tuple #[.int .u8 ((bytOf (s.data.toList.drop i)).1 : Int), .int .i64 ((bytOf (s.data.toList.drop i)).2.1 : Int), .int .i64 ((bytOf (s.data.toList.drop i)).2.2 : Int)]) ∧ Below w.heap.size w w' := by
  have CR := Lib.hid (fun W h => rest_any b s i e W h hi)
  have hd := Lib.hid (rest_data s i)
  have hz : (s.extract i s.size).size = s.size - i := by simp
  generalize s.extract i s.size = r at CR hd hz
  by_cases hr : 0 < r.size
  · have he := isEmpty_false hr
    have HB := Lib.hid (show bytOf (s.data.toList.drop i) = (r[0].toNat, 1, 0) by
      rw [← hd.out]; exact byt_head (head_data hr))
    clear hz
    go_enter Try.func26, Try.ntmps26
    go_wp2_with fail
    refine (CR.out _ h).mono ?_
    rintro x w1 ⟨rfl, b1⟩
    go_wp2
    go_ret3
    exact ⟨by rw [HB.out]; rfl, b1⟩
  · have he := isEmpty_true (s := r) (by omega)
    have HB := Lib.hid (show bytOf (s.data.toList.drop i) = (0, 0, 1) by
      rw [← hd.out, List.eq_nil_of_length_eq_zero (l := r.data.toList) (by rw [len_data]; omega)]; rfl)
    clear hz
    go_enter Try.func26, Try.ntmps26
    go_wp2_with fail
    refine (CR.out _ h).mono ?_
    rintro x w1 ⟨rfl, b1⟩
    go_wp2
    go_ret3
    exact ⟨by rw [HB.out]; rfl, b1⟩

theorem tak_neg {n : Int} {l : List UInt8} (h : n < 0) : takOf n l = ([], 0, 2) := by unfold takOf; rw [if_pos h]
theorem tak_short {n : Int} {l : List UInt8} (h : 0 ≤ n) (h2 : (l.length : Int) < n) : takOf n l = ([], 0, 1) := by unfold takOf; rw [if_neg (by omega), if_pos h2]
theorem tak_ok {n : Int} {l : List UInt8} (h : 0 ≤ n) (h2 : n ≤ (l.length : Int)) : takOf n l = (l.take n.toNat, n.toNat, 0) := by unfold takOf; rw [if_neg (by omega), if_neg (by omega)]

set_option maxHeartbeats 400000 in
theorem bytesHere_any (b : Nat) (s : ByteArray) (i : Nat) (e : Int) (n : Int) (w : World) (h : Rd w b s i e) (hi : i ≤ s.size) (hs : s.size ≤ maxLen) (h0 : -9223372036854775808 ≤ n) (h1 : n ≤ 9223372036854775807) :
    Calls Try.prog 31 #[.pointer (some ⟨b, 0, none⟩), .int .i64 n] w fun x w' => x = .returned (.tuple #[.string ⟨(takOf n (s.data.toList.drop i)).1.toArray⟩, .int .i64 ((takOf n (s.data.toList.drop i)).2.1 : Int), .int .i64 ((takOf n (s.data.toList.drop i)).2.2 : Int)]) ∧ Below w.heap.size w w' := by
  unfold maxLen at hs
  have CR := Lib.hid (fun W h => rest_any b s i e W h hi)
  have hd := Lib.hid (rest_data s i)
  have hz : (s.extract i s.size).size ≤ s.size := by simp
  generalize s.extract i s.size = r at CR hd hz
  have hz2 : r.size ≤ 9223372036854775807 := by omega
  by_cases hn : n < 0
  · have HB := Lib.hid (tak_neg (l := s.data.toList.drop i) hn)
    clear hz
    go_enter Try.func31, Try.ntmps31
    go_wp2
    go_ret3
    exact ⟨by rw [HB.out]; rfl, Below.refl _ _⟩
  · by_cases hl : (r.size : Int) < n
    · have HB := Lib.hid (tak_short (l := s.data.toList.drop i) (n := n) (by omega) (by rw [← hd.out, len_data]; exact hl))
      clear hz
      go_enter Try.func31, Try.ntmps31
      go_wp2_with fail
      refine (CR.out _ h).mono ?_
      rintro x w1 ⟨rfl, b1⟩
      go_wp2
      go_ret3
      exact ⟨by rw [HB.out]; rfl, b1⟩
    · have HB := Lib.hid (tak_ok (l := s.data.toList.drop i) (n := n) (by omega) (by rw [← hd.out, len_data]; omega))
      obtain ⟨m, rfl⟩ := Int.eq_ofNat_of_zero_le (show 0 ≤ n by omega)
      have HB' := Lib.hid (show takOf (m : Int) (s.data.toList.drop i) = ((r.extract 0 m).data.toList, m, 0) by rw [HB.out, ← hd.out, ext_data]; simp)
      clear hz HB
      go_enter Try.func31, Try.ntmps31
      go_wp2_with fail
      refine (CR.out _ h).mono ?_
      rintro x w1 ⟨rfl, b1⟩
      go_wp2
      go_ret3
      exact ⟨retT HB'.out, b1⟩

theorem num_field {l : List UInt8} (h : l.head? = some 128) : numOf l = (0, 0, 3) := by unfold numOf; rw [if_pos h]
theorem num_start {l : List UInt8} (h : ¬ l.head? = some 128) : numOf l = nsteps 0 0 (l.drop 0) := by unfold numOf; rw [if_neg h]; rfl
theorem nm_end {r : ByteArray} {N : Nat × Nat × Nat} {m k : Nat} (H : Hid (N = nsteps m k (r.data.toList.drop k))) (h : ¬ k < r.size) : N = (0, 0, 1) := by
  rw [show N = _ from H.out]; exact nsteps_short m k (by rw [len_data]; omega)
theorem nm_range {r : ByteArray} {N : Nat × Nat × Nat} {m k : Nat} (H : Hid (N = nsteps m k (r.data.toList.drop k))) (h : k < r.size) (hm : 33554431 < (m : Int)) : N = (0, 0, 2) := by
  rw [show N = _ from H.out]; exact nsteps_range (by rw [len_data]; exact h) (by omega)
theorem nm_last {r : ByteArray} {N : Nat × Nat × Nat} {m k : Nat} (H : Hid (N = nsteps m k (r.data.toList.drop k))) (h : k < r.size) (hm : (m : Int) ≤ 33554431) (hc : (r[k].toNat : Int) < 128) : N = (128 * m + r[k].toNat, k + 1, 0) := by
  rw [show N = _ from H.out]; exact nsteps_last (by rw [len_data]; exact h) (by omega) (by rw [get_data r k h]; omega)
theorem nm_next {r : ByteArray} {N : Nat × Nat × Nat} {m k : Nat} (H : Hid (N = nsteps m k (r.data.toList.drop k))) (h : k < r.size) (hm : (m : Int) ≤ 33554431) (hc : 128 ≤ (r[k].toNat : Int)) :
    Hid (N = nsteps (128 * m + (r[k].toNat - 128)) (k + 1) (r.data.toList.drop (k + 1))) := by
  show _ = _
  rw [show N = _ from H.out]; exact nsteps_next (by rw [len_data]; exact h) (by omega) (by rw [get_data r k h]; omega)

theorem retN {a b c : Nat} {p : Nat × Nat × Nat} (h : p = (a, b, c)) : Ending.returned (.tuple #[.int .u32 (a : Int), .int .i64 (b : Int), .int .i64 (c : Int)]) = Ending.returned (.tuple #[.int .u32 (p.1 : Int), .int .i64 (p.2.1 : Int), .int .i64 (p.2.2 : Int)]) := by rw [h]

set_option maxHeartbeats 1000000 in
theorem numberHere_any (b : Nat) (s : ByteArray) (i : Nat) (e : Int) (w : World) (h : Rd w b s i e) (hi : i ≤ s.size) (hs : s.size ≤ maxLen) :
    Calls Try.prog 28 #[.pointer (some ⟨b, 0, none⟩)] w fun x w' => x = .returned (.tuple #[.int .u32 ((numOf (s.data.toList.drop i)).1 : Int), .int .i64 ((numOf (s.data.toList.drop i)).2.1 : Int), .int .i64 ((numOf (s.data.toList.drop i)).2.2 : Int)]) ∧ Below w.heap.size w w' := by
  unfold maxLen at hs
  have CR := Lib.hid (fun W h => rest_any b s i e W h hi)
  have hd := Lib.hid (rest_data s i)
  have hz : (s.extract i s.size).size ≤ s.size := by simp
  generalize s.extract i s.size = r at CR hd hz
  have hz2 : r.size ≤ 9223372036854775807 := by omega
  rw [← hd.out]
  clear hd hz hs hi
  by_cases hr : 0 < r.size
  · have he := isEmpty_false hr
    have hne : (!r.toList.isEmpty) = true := by rw [he]; rfl
    have hb0 : r[0].toNat < 256 := r[0].toNat_lt
    by_cases h8 : (r[0].toNat : Int) = 128
    · have HB := Lib.hid (num_field (l := r.data.toList) (by rw [head_data hr]; congr 1; apply UInt8.toNat_inj.1; show _ = 128; omega))
      have h8b : ((r[0].toNat : Int) == 128) = true := by simpa using h8
      clear h8
      go_enter Try.func28, Try.ntmps28
      go_wp2_with fail
      refine (CR.out _ h).mono ?_
      rintro x w1 ⟨rfl, b1⟩
      go_wp2
      go_ret3
      exact ⟨retN HB.out, b1⟩
    · have HS := Lib.hid (num_start (l := r.data.toList) (by rw [head_data hr]; intro hh; apply h8; have := Option.some.inj hh; rw [this]; rfl))
      have h8b : ((r[0].toNat : Int) == 128) = false := by rw [beq_eq_false_iff_ne]; exact h8
      clear h8
      go_enter Try.func28, Try.ntmps28
      go_wp2_with fail
      refine (CR.out _ h).mono ?_
      rintro x w1 ⟨rfl, b1⟩
      go_wp2
      go_loop [6, 19] (fun n i => ∃ k m : Nat, k ≤ r.size ∧ m < 4294967296 ∧ i = .int .i64 k ∧ n = .int .u32 m ∧ Hid (numOf r.data.toList = nsteps m k (r.data.toList.drop k))) (fun _ i => r.size - (intOf i).toNat)
      case atStart => exact ⟨0, 0, by omega, by omega, rfl, rfl, HS⟩
      case round =>
        obtain ⟨k, m, hk, hm, rfl, rfl, HN⟩ := hrel
        by_cases hlt : k < r.size
        · by_cases hm2 : 33554431 < (m : Int)
          · have hres := Lib.hid (nm_range HN hlt hm2)
            go_wp2
            go_ret3
            exact ⟨retN hres.out, b1⟩
          · have hm3 : (m : Int) ≤ 33554431 := by omega
            have hbk : r[k].toNat < 256 := r[k].toNat_lt
            by_cases hc : (r[k].toNat : Int) < 128
            · have hres := Lib.hid (nm_last HN hlt hm3 hc)
              go_wp2
              go_ret3
              exact ⟨retN' hres.out (by omega) (by omega), b1⟩
            · have hres := nm_next HN hlt hm3 (by omega)
              go_wp2
              go_round
              case rel => exact ⟨k + 1, 128 * m + (r[k].toNat - 128), by omega, by omega, by go_num, int_eq (by omega), hres⟩
              case measure => simp [intOf]; omega
        · have hres := Lib.hid (nm_end HN hlt)
          go_wp2
          go_ret3
          exact ⟨retN hres.out, b1⟩
  · have he := isEmpty_true (s := r) (by omega)
    have hne : (!r.toList.isEmpty) = false := by rw [he]; rfl
    have h0 : r.size = 0 := by omega
    have HB := Lib.hid (show numOf r.data.toList = (0, 0, 1) by rw [List.eq_nil_of_length_eq_zero (l := r.data.toList) (by rw [len_data]; omega)]; rfl)
    clear hr
    go_enter Try.func28, Try.ntmps28
    go_wp2_with fail
    refine (CR.out _ h).mono ?_
    rintro x w1 ⟨rfl, b1⟩
    go_wp2
    go_loop [19] (fun i => i = .int .i64 0) (fun _ => 0)
    case atStart => rfl
    case round =>
      subst hrel
      go_wp2
      go_ret3
      exact ⟨retN HB.out, b1⟩
end Go.Proofs.Ytpapakkcomegnaa.Mb
