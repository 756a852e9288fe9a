/-
The document's own letter at a text's beginning is the plain function's. Conditions: the text has at most 2^47 bytes.
-/
import Derived.Test.YtpgjalikgmagiaaDoorCsOneMath
import Derived.Test.YtpgjalikgmagiaaDoorCsTabs
import Derived.IntWalk
namespace Go.Proofs.YtpgjalikgmagiaaDoor.Cs
set_option maxRecDepth 100000
open Go.RowKit

theorem ret_one {l : List UInt8} {a k : Nat} (h : oneP l = (a, k)) : Ending.returned (.tuple #[.int .i64 (a : Int), .int .i64 (k : Int)]) = .returned (.tuple #[.int .i64 ((oneP l).1 : Int), .int .i64 ((oneP l).2 : Int)]) := by rw [h]
/-- What the document's own letter answers. -/
def OneIs (s : ByteArray) (w : World) (e : Ending) (w' : World) : Prop := e = .returned (.tuple #[.int .i64 ((oneP s.data.toList).1 : Int), .int .i64 ((oneP s.data.toList).2 : Int)]) ∧ w = w'
theorem OneIs.mk {s : ByteArray} {w : World} {a k : Nat} (h : oneP s.data.toList = (a, k)) : OneIs s w (.returned (.tuple #[.int .i64 (a : Int), .int .i64 (k : Int)])) w := ⟨ret_one h, rfl⟩
theorem byte_at {s : ByteArray} {k : Nat} (h : k < s.size) : (s.data.toList.getD k 0) = s[k] := by
  rw [List.getD_eq_getElem?_getD, List.getElem?_eq_getElem (by rw [Array.length_toList]; exact h)]; rfl
theorem full_of {s : ByteArray} (h : 0 < s.size) : s.toList.isEmpty = false := by
  rw [ByteArray.toList_eq]; cases e : s.data.toList with | nil => have := list_size s; rw [e] at this; simp at this; omega | cons a r => rfl
theorem oneP_at {s : ByteArray} (h : 0 < s.size) : oneP s.data.toList = oneN s.size (s[0]).toNat (s.data.toList.getD 1 0).toNat (s.data.toList.getD 2 0).toNat (s.data.toList.getD 3 0).toNat := by
  rw [oneP_N (fun e => by have := list_size s; rw [e] at this; simp at this; omega), list_size, byte_at h]

set_option maxHeartbeats 1000000 in
theorem refOne_none (s : ByteArray) (h : s.size = 0) (w : World) : Calls Tryd.prog 38 #[.string s] w (OneIs s w) := by
  have hl : s.data.toList = [] := List.eq_nil_of_length_eq_zero (by rw [list_size]; exact h)
  have he : s.toList.isEmpty = true := by rw [ByteArray.toList_eq, hl]; rfl
  have H : Hid (oneP s.data.toList = (0, 0)) := Lib.hid (by rw [hl]; rfl)
  clear hl
  go_enter Tryd.func38, Tryd.ntmps38
  go_wp2_with fail
  go_ret2
  exact OneIs.mk H.out
set_option maxHeartbeats 1000000 in
theorem refOne_0 (s : ByteArray) (h0 : 0 < s.size) (c : UInt8) (hc : s[0] = c) (h1 : c.toNat < 128) (w : World) : Calls Tryd.prog 38 #[.string s] w (OneIs s w) := by
  have he := full_of h0
  have H : Hid (oneP s.data.toList = (c.toNat, 1)) := Lib.hid (by rw [oneP_at h0, hc, one0 h1])
  have z1 : (c.toNat : Int) < 128 := by omega
  go_enter Tryd.func38, Tryd.ntmps38
  go_wp2_with fail
  go_ret2
  exact OneIs.mk H.out
set_option maxHeartbeats 1000000 in
theorem refOne_X (s : ByteArray) (h0 : 0 < s.size) (c : UInt8) (hc : s[0] = c) (h1 : (128 ≤ c.toNat ∧ c.toNat < 192) ∨ (248 ≤ c.toNat ∧ c.toNat < 256)) (w : World) : Calls Tryd.prog 38 #[.string s] w (OneIs s w) := by
  have he := full_of h0
  have H : Hid (oneP s.data.toList = (0, 0)) := Lib.hid (by rw [oneP_at h0, hc, oneX h1])
  rcases h1 with ⟨h1, h2⟩ | ⟨h1, h2⟩
  · have z1 : 128 ≤ (c.toNat : Int) := by omega
    have z2 : (c.toNat : Int) < 192 := by omega
    go_enter Tryd.func38, Tryd.ntmps38
    go_wp2_with fail
    go_ret2
    exact OneIs.mk H.out
  · have z1 : 248 ≤ (c.toNat : Int) := by omega
    go_enter Tryd.func38, Tryd.ntmps38
    go_wp2_with fail
    go_ret2
    exact OneIs.mk H.out
set_option maxHeartbeats 4000000 in
theorem refOne_2 (s : ByteArray) (hs : s.size ≤ 140737488355328) (h0 : 0 < s.size) (c : UInt8) (hc : s[0] = c) (h1 : 192 ≤ c.toNat) (h2 : c.toNat < 224) (w : World) : Calls Tryd.prog 38 #[.string s] w (OneIs s w) := by
  have he := full_of h0
  have z1 : 192 ≤ (c.toNat : Int) := by omega
  have z2 : (c.toNat : Int) < 224 := by omega
  have d0 : decide ((c.toNat : Int) < 128) = false := decide_eq_false (by omega)
  have hP := oneP_at h0
  rw [hc] at hP
  by_cases hn : s.size < 2
  · have H : Hid (oneP s.data.toList = (0, 0)) := Lib.hid (by rw [hP, one2 ⟨h1, h2⟩ (UInt8.toNat_lt _), if_pos (.inl hn)])
    clear hP
    go_enter Tryd.func38, Tryd.ntmps38
    go_wp2_with fail
    go_ret2
    exact OneIs.mk H.out
  · obtain ⟨b1, hb1⟩ : ∃ b, s[1]'(by omega) = b := ⟨_, rfl⟩
    rw [byte_at (show 1 < s.size by omega), hb1, one2 ⟨h1, h2⟩ b1.toNat_lt] at hP
    have HP := Lib.hid hP
    clear hP
    have dn : decide ((s.size : Int) < 2) = false := decide_eq_false (by omega)
    have l1 := b1.toNat_lt
    go_enter Tryd.func38, Tryd.ntmps38
    go_wp2_with fail
    clear d0 dn
    go_loop [6, 8] (fun xv iv => ∃ (k X : Nat), iv = .int .i64 (k : Int) ∧ xv = .int .i64 (X : Int) ∧ ((k = 1 ∧ X < 32 ∧ Hid (X = c.toNat % 32)) ∨ (k = 2 ∧ X < 2048 ∧ Hid ((128 ≤ b1.toNat ∧ b1.toNat < 192) ∧ X = 64 * (c.toNat % 32) + b1.toNat % 64)))) (fun _ iv => (2 - intOf iv).toNat)
    case atStart => exact ⟨1, c.toNat % 32, rfl, by go_num, .inl ⟨rfl, by omega, Lib.hid rfl⟩⟩
    case round =>
      obtain ⟨k, X, rfl, rfl, ⟨rfl, hX, hk⟩ | ⟨rfl, hX, hk⟩⟩ := hrel
      · by_cases u1 : (b1.toNat : Int) < 128
        · have H : Hid (oneP s.data.toList = (0, 0)) := Lib.hid (by rw [HP.out, if_pos (by omega)])
          go_wp2_with fail
          go_ret2
          exact OneIs.mk H.out
        · by_cases u2 : 192 ≤ (b1.toNat : Int)
          · have H : Hid (oneP s.data.toList = (0, 0)) := Lib.hid (by rw [HP.out, if_pos (by omega)])
            go_wp2_with fail
            go_ret2
            exact OneIs.mk H.out
          · have HX : Hid ((128 ≤ b1.toNat ∧ b1.toNat < 192) ∧ 64 * X + b1.toNat % 64 = 64 * (c.toNat % 32) + b1.toNat % 64) := Lib.hid (by have := hk.out; omega)
            go_wp2_with fail
            go_round
            case rel => exact ⟨2, 64 * X + b1.toNat % 64, by go_num, by go_num, .inr (⟨rfl, by omega, HX⟩)⟩
            case measure => simp [intOf]
      · have hq := hk.out
        by_cases u1 : (X : Int) < 128
        · have H : Hid (oneP s.data.toList = (0, 0)) := Lib.hid (by rw [HP.out, if_pos (by omega)])
          have e1 : decide ((X : Int) < 128) = true := decide_eq_true (by omega)
          clear hq hX u1
          go_wp2_with fail
          go_ret2
          exact OneIs.mk H.out
        · have H : Hid (oneP s.data.toList = (X, 2)) := Lib.hid (by rw [HP.out, if_neg (by omega), ← hq.2])
          have e1 : decide ((X : Int) < 128) = false := decide_eq_false (by omega)
          have e2 : decide (55296 ≤ (X : Int)) = false := decide_eq_false (by omega)
          have e4 : decide (1114111 < (X : Int)) = false := decide_eq_false (by omega)
          clear hq hX u1
          go_wp2_with fail
          go_ret2
          exact OneIs.mk H.out
set_option maxHeartbeats 4000000 in
theorem refOne_3 (s : ByteArray) (hs : s.size ≤ 140737488355328) (h0 : 0 < s.size) (c : UInt8) (hc : s[0] = c) (h1 : 224 ≤ c.toNat) (h2 : c.toNat < 240) (w : World) : Calls Tryd.prog 38 #[.string s] w (OneIs s w) := by
  have he := full_of h0
  have z1 : 224 ≤ (c.toNat : Int) := by omega
  have z2 : (c.toNat : Int) < 240 := by omega
  have d0 : decide ((c.toNat : Int) < 128) = false := decide_eq_false (by omega)
  have d1 : decide ((c.toNat : Int) < 224) = false := decide_eq_false (by omega)
  have hP := oneP_at h0
  rw [hc] at hP
  by_cases hn : s.size < 3
  · have H : Hid (oneP s.data.toList = (0, 0)) := Lib.hid (by rw [hP, one3 ⟨h1, h2⟩ (UInt8.toNat_lt _) (UInt8.toNat_lt _), if_pos (.inl hn)])
    clear hP
    go_enter Tryd.func38, Tryd.ntmps38
    go_wp2_with fail
    go_ret2
    exact OneIs.mk H.out
  · obtain ⟨b1, hb1⟩ : ∃ b, s[1]'(by omega) = b := ⟨_, rfl⟩
    obtain ⟨b2, hb2⟩ : ∃ b, s[2]'(by omega) = b := ⟨_, rfl⟩
    rw [byte_at (show 1 < s.size by omega), hb1, byte_at (show 2 < s.size by omega), hb2, one3 ⟨h1, h2⟩ b1.toNat_lt b2.toNat_lt] at hP
    have HP := Lib.hid hP
    clear hP
    have dn : decide ((s.size : Int) < 3) = false := decide_eq_false (by omega)
    have l1 := b1.toNat_lt
    have l2 := b2.toNat_lt
    go_enter Tryd.func38, Tryd.ntmps38
    go_wp2_with fail
    clear d0 d1 dn
    go_loop [6, 8] (fun xv iv => ∃ (k X : Nat), iv = .int .i64 (k : Int) ∧ xv = .int .i64 (X : Int) ∧ ((k = 1 ∧ X < 16 ∧ Hid (X = c.toNat % 16)) ∨ (k = 2 ∧ X < 1024 ∧ Hid ((128 ≤ b1.toNat ∧ b1.toNat < 192) ∧ X = 64 * (c.toNat % 16) + b1.toNat % 64)) ∨ (k = 3 ∧ X < 65536 ∧ Hid ((128 ≤ b1.toNat ∧ b1.toNat < 192) ∧ (128 ≤ b2.toNat ∧ b2.toNat < 192) ∧ X = 64 * (64 * (c.toNat % 16) + b1.toNat % 64) + b2.toNat % 64)))) (fun _ iv => (3 - intOf iv).toNat)
    case atStart => exact ⟨1, c.toNat % 16, rfl, by go_num, .inl ⟨rfl, by omega, Lib.hid rfl⟩⟩
    case round =>
      obtain ⟨k, X, rfl, rfl, ⟨rfl, hX, hk⟩ | ⟨rfl, hX, hk⟩ | ⟨rfl, hX, hk⟩⟩ := hrel
      · by_cases u1 : (b1.toNat : Int) < 128
        · have H : Hid (oneP s.data.toList = (0, 0)) := Lib.hid (by rw [HP.out, if_pos (by omega)])
          go_wp2_with fail
          go_ret2
          exact OneIs.mk H.out
        · by_cases u2 : 192 ≤ (b1.toNat : Int)
          · have H : Hid (oneP s.data.toList = (0, 0)) := Lib.hid (by rw [HP.out, if_pos (by omega)])
            go_wp2_with fail
            go_ret2
            exact OneIs.mk H.out
          · have HX : Hid ((128 ≤ b1.toNat ∧ b1.toNat < 192) ∧ 64 * X + b1.toNat % 64 = 64 * (c.toNat % 16) + b1.toNat % 64) := Lib.hid (by have := hk.out; omega)
            go_wp2_with fail
            go_round
            case rel => exact ⟨2, 64 * X + b1.toNat % 64, by go_num, by go_num, .inr (.inl ⟨rfl, by omega, HX⟩)⟩
            case measure => simp [intOf]
      · by_cases u1 : (b2.toNat : Int) < 128
        · have H : Hid (oneP s.data.toList = (0, 0)) := Lib.hid (by rw [HP.out, if_pos (by omega)])
          go_wp2_with fail
          go_ret2
          exact OneIs.mk H.out
        · by_cases u2 : 192 ≤ (b2.toNat : Int)
          · have H : Hid (oneP s.data.toList = (0, 0)) := Lib.hid (by rw [HP.out, if_pos (by omega)])
            go_wp2_with fail
            go_ret2
            exact OneIs.mk H.out
          · have HX : Hid ((128 ≤ b1.toNat ∧ b1.toNat < 192) ∧ (128 ≤ b2.toNat ∧ b2.toNat < 192) ∧ 64 * X + b2.toNat % 64 = 64 * (64 * (c.toNat % 16) + b1.toNat % 64) + b2.toNat % 64) := Lib.hid (by have := hk.out; omega)
            go_wp2_with fail
            go_round
            case rel => exact ⟨3, 64 * X + b2.toNat % 64, by go_num, by go_num, .inr (.inr (⟨rfl, by omega, HX⟩))⟩
            case measure => simp [intOf]
      · have hq := hk.out
        by_cases u1 : (X : Int) < 2048
        · have H : Hid (oneP s.data.toList = (0, 0)) := Lib.hid (by rw [HP.out, if_pos (by omega)])
          have e1 : decide ((X : Int) < 2048) = true := decide_eq_true (by omega)
          clear hq hX u1
          go_wp2_with fail
          go_ret2
          exact OneIs.mk H.out
        · by_cases u2 : 55296 ≤ (X : Int)
          · by_cases u3 : (X : Int) < 57344
            · have H : Hid (oneP s.data.toList = (0, 0)) := Lib.hid (by rw [HP.out, if_pos (by omega)])
              have e1 : decide ((X : Int) < 2048) = false := decide_eq_false (by omega)
              have e2 : decide (55296 ≤ (X : Int)) = true := decide_eq_true (by omega)
              have e3 : decide ((X : Int) < 57344) = true := decide_eq_true (by omega)
              clear hq hX u1 u2 u3
              go_wp2_with fail
              go_ret2
              exact OneIs.mk H.out
            · have H : Hid (oneP s.data.toList = (X, 3)) := Lib.hid (by rw [HP.out, if_neg (by omega), ← hq.2.2])
              have e1 : decide ((X : Int) < 2048) = false := decide_eq_false (by omega)
              have e2 : decide (55296 ≤ (X : Int)) = true := decide_eq_true (by omega)
              have e3 : decide ((X : Int) < 57344) = false := decide_eq_false (by omega)
              have e4 : decide (1114111 < (X : Int)) = false := decide_eq_false (by omega)
              clear hq hX u1 u2 u3
              go_wp2_with fail
              go_ret2
              exact OneIs.mk H.out
          · have H : Hid (oneP s.data.toList = (X, 3)) := Lib.hid (by rw [HP.out, if_neg (by omega), ← hq.2.2])
            have e1 : decide ((X : Int) < 2048) = false := decide_eq_false (by omega)
            have e2 : decide (55296 ≤ (X : Int)) = false := decide_eq_false (by omega)
            have e4 : decide (1114111 < (X : Int)) = false := decide_eq_false (by omega)
            clear hq hX u1 u2
            go_wp2_with fail
            go_ret2
            exact OneIs.mk H.out
set_option maxHeartbeats 4000000 in
theorem refOne_4 (s : ByteArray) (hs : s.size ≤ 140737488355328) (h0 : 0 < s.size) (c : UInt8) (hc : s[0] = c) (h1 : 240 ≤ c.toNat) (h2 : c.toNat < 248) (w : World) : Calls Tryd.prog 38 #[.string s] w (OneIs s w) := by
  have he := full_of h0
  have z1 : 240 ≤ (c.toNat : Int) := by omega
  have z2 : (c.toNat : Int) < 248 := by omega
  have d0 : decide ((c.toNat : Int) < 128) = false := decide_eq_false (by omega)
  have d1 : decide ((c.toNat : Int) < 224) = false := decide_eq_false (by omega)
  have d2 : decide ((c.toNat : Int) < 240) = false := decide_eq_false (by omega)
  have hP := oneP_at h0
  rw [hc] at hP
  by_cases hn : s.size < 4
  · have H : Hid (oneP s.data.toList = (0, 0)) := Lib.hid (by rw [hP, one4 ⟨h1, h2⟩ (UInt8.toNat_lt _) (UInt8.toNat_lt _) (UInt8.toNat_lt _), if_pos (.inl hn)])
    clear hP
    go_enter Tryd.func38, Tryd.ntmps38
    go_wp2_with fail
    go_ret2
    exact OneIs.mk H.out
  · obtain ⟨b1, hb1⟩ : ∃ b, s[1]'(by omega) = b := ⟨_, rfl⟩
    obtain ⟨b2, hb2⟩ : ∃ b, s[2]'(by omega) = b := ⟨_, rfl⟩
    obtain ⟨b3, hb3⟩ : ∃ b, s[3]'(by omega) = b := ⟨_, rfl⟩
    rw [byte_at (show 1 < s.size by omega), hb1, byte_at (show 2 < s.size by omega), hb2, byte_at (show 3 < s.size by omega), hb3, one4 ⟨h1, h2⟩ b1.toNat_lt b2.toNat_lt b3.toNat_lt] at hP
    have HP := Lib.hid hP
    clear hP
    have dn : decide ((s.size : Int) < 4) = false := decide_eq_false (by omega)
    have l1 := b1.toNat_lt
    have l2 := b2.toNat_lt
    have l3 := b3.toNat_lt
    go_enter Tryd.func38, Tryd.ntmps38
    go_wp2_with fail
    clear d0 d1 d2 dn
    go_loop [6, 8] (fun xv iv => ∃ (k X : Nat), iv = .int .i64 (k : Int) ∧ xv = .int .i64 (X : Int) ∧ ((k = 1 ∧ X < 8 ∧ Hid (X = c.toNat % 8)) ∨ (k = 2 ∧ X < 512 ∧ Hid ((128 ≤ b1.toNat ∧ b1.toNat < 192) ∧ X = 64 * (c.toNat % 8) + b1.toNat % 64)) ∨ (k = 3 ∧ X < 32768 ∧ Hid ((128 ≤ b1.toNat ∧ b1.toNat < 192) ∧ (128 ≤ b2.toNat ∧ b2.toNat < 192) ∧ X = 64 * (64 * (c.toNat % 8) + b1.toNat % 64) + b2.toNat % 64)) ∨ (k = 4 ∧ X < 2097152 ∧ Hid ((128 ≤ b1.toNat ∧ b1.toNat < 192) ∧ (128 ≤ b2.toNat ∧ b2.toNat < 192) ∧ (128 ≤ b3.toNat ∧ b3.toNat < 192) ∧ X = 64 * (64 * (64 * (c.toNat % 8) + b1.toNat % 64) + b2.toNat % 64) + b3.toNat % 64)))) (fun _ iv => (4 - intOf iv).toNat)
    case atStart => exact ⟨1, c.toNat % 8, rfl, by go_num, .inl ⟨rfl, by omega, Lib.hid rfl⟩⟩
    case round =>
      obtain ⟨k, X, rfl, rfl, ⟨rfl, hX, hk⟩ | ⟨rfl, hX, hk⟩ | ⟨rfl, hX, hk⟩ | ⟨rfl, hX, hk⟩⟩ := hrel
      · by_cases u1 : (b1.toNat : Int) < 128
        · have H : Hid (oneP s.data.toList = (0, 0)) := Lib.hid (by rw [HP.out, if_pos (by omega)])
          go_wp2_with fail
          go_ret2
          exact OneIs.mk H.out
        · by_cases u2 : 192 ≤ (b1.toNat : Int)
          · have H : Hid (oneP s.data.toList = (0, 0)) := Lib.hid (by rw [HP.out, if_pos (by omega)])
            go_wp2_with fail
            go_ret2
            exact OneIs.mk H.out
          · have HX : Hid ((128 ≤ b1.toNat ∧ b1.toNat < 192) ∧ 64 * X + b1.toNat % 64 = 64 * (c.toNat % 8) + b1.toNat % 64) := Lib.hid (by have := hk.out; omega)
            go_wp2_with fail
            go_round
            case rel => exact ⟨2, 64 * X + b1.toNat % 64, by go_num, by go_num, .inr (.inl ⟨rfl, by omega, HX⟩)⟩
            case measure => simp [intOf]
      · by_cases u1 : (b2.toNat : Int) < 128
        · have H : Hid (oneP s.data.toList = (0, 0)) := Lib.hid (by rw [HP.out, if_pos (by omega)])
          go_wp2_with fail
          go_ret2
          exact OneIs.mk H.out
        · by_cases u2 : 192 ≤ (b2.toNat : Int)
          · have H : Hid (oneP s.data.toList = (0, 0)) := Lib.hid (by rw [HP.out, if_pos (by omega)])
            go_wp2_with fail
            go_ret2
            exact OneIs.mk H.out
          · have HX : Hid ((128 ≤ b1.toNat ∧ b1.toNat < 192) ∧ (128 ≤ b2.toNat ∧ b2.toNat < 192) ∧ 64 * X + b2.toNat % 64 = 64 * (64 * (c.toNat % 8) + b1.toNat % 64) + b2.toNat % 64) := Lib.hid (by have := hk.out; omega)
            go_wp2_with fail
            go_round
            case rel => exact ⟨3, 64 * X + b2.toNat % 64, by go_num, by go_num, .inr (.inr (.inl ⟨rfl, by omega, HX⟩))⟩
            case measure => simp [intOf]
      · by_cases u1 : (b3.toNat : Int) < 128
        · have H : Hid (oneP s.data.toList = (0, 0)) := Lib.hid (by rw [HP.out, if_pos (by omega)])
          go_wp2_with fail
          go_ret2
          exact OneIs.mk H.out
        · by_cases u2 : 192 ≤ (b3.toNat : Int)
          · have H : Hid (oneP s.data.toList = (0, 0)) := Lib.hid (by rw [HP.out, if_pos (by omega)])
            go_wp2_with fail
            go_ret2
            exact OneIs.mk H.out
          · have HX : Hid ((128 ≤ b1.toNat ∧ b1.toNat < 192) ∧ (128 ≤ b2.toNat ∧ b2.toNat < 192) ∧ (128 ≤ b3.toNat ∧ b3.toNat < 192) ∧ 64 * X + b3.toNat % 64 = 64 * (64 * (64 * (c.toNat % 8) + b1.toNat % 64) + b2.toNat % 64) + b3.toNat % 64) := Lib.hid (by have := hk.out; omega)
            go_wp2_with fail
            go_round
            case rel => exact ⟨4, 64 * X + b3.toNat % 64, by go_num, by go_num, .inr (.inr (.inr (⟨rfl, by omega, HX⟩)))⟩
            case measure => simp [intOf]
      · have hq := hk.out
        by_cases u1 : (X : Int) < 65536
        · have H : Hid (oneP s.data.toList = (0, 0)) := Lib.hid (by rw [HP.out, if_pos (by omega)])
          have e1 : decide ((X : Int) < 65536) = true := decide_eq_true (by omega)
          clear hq hX u1
          go_wp2_with fail
          go_ret2
          exact OneIs.mk H.out
        · by_cases u3 : 1114111 < (X : Int)
          · have H : Hid (oneP s.data.toList = (0, 0)) := Lib.hid (by rw [HP.out, if_pos (by omega)])
            have e1 : decide ((X : Int) < 65536) = false := decide_eq_false (by omega)
            have e2 : decide (55296 ≤ (X : Int)) = true := decide_eq_true (by omega)
            have e3 : decide ((X : Int) < 57344) = false := decide_eq_false (by omega)
            have e4 : decide (1114111 < (X : Int)) = true := decide_eq_true (by omega)
            clear hq hX u1 u3
            go_wp2_with fail
            go_ret2
            exact OneIs.mk H.out
          · have H : Hid (oneP s.data.toList = (X, 4)) := Lib.hid (by rw [HP.out, if_neg (by omega), ← hq.2.2.2])
            have e1 : decide ((X : Int) < 65536) = false := decide_eq_false (by omega)
            have e2 : decide (55296 ≤ (X : Int)) = true := decide_eq_true (by omega)
            have e3 : decide ((X : Int) < 57344) = false := decide_eq_false (by omega)
            have e4 : decide (1114111 < (X : Int)) = false := decide_eq_false (by omega)
            clear hq hX u1 u3
            go_wp2_with fail
            go_ret2
            exact OneIs.mk H.out
theorem refOne_any (s : ByteArray) (hs : s.size ≤ 140737488355328) (w : World) : Calls Tryd.prog 38 #[.string s] w (OneIs s w) := by
  by_cases h0 : s.size = 0
  · exact refOne_none s h0 w
  · have h0 : 0 < s.size := by omega
    obtain ⟨c, hc⟩ : ∃ c, s[0] = c := ⟨_, rfl⟩
    have hl := c.toNat_lt
    by_cases c1 : c.toNat < 128
    · exact refOne_0 s h0 c hc c1 w
    · by_cases c2 : 192 ≤ c.toNat ∧ c.toNat < 248
      · by_cases c3 : c.toNat < 224
        · exact refOne_2 s hs h0 c hc c2.1 c3 w
        · by_cases c4 : c.toNat < 240
          · exact refOne_3 s hs h0 c hc (by omega) c4 w
          · exact refOne_4 s hs h0 c hc (by omega) c2.2 w
      · exact refOne_X s h0 c hc (by omega) w
end Go.Proofs.YtpgjalikgmagiaaDoor.Cs
