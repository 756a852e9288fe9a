/-
charset.Decode, Encode and Least answer as the plain functions say. Conditions: the text has at most 2^35 bytes; the library's tables hold what the rows list.
-/
import Derived.Test.YtmahdlaifbbjgaaDoorCsWithin
import Derived.Test.YtmahdlaifbbjgaaDoorCsAsBytes
import Derived.Test.YtmahdlaifbbjgaaDoorCsOfBytes
namespace Go.Proofs.YtmahdlaifbbjgaaDoor.Cs
open Go.RowKit

theorem ulen {l : List UInt8} {n : Nat} (h : l.length = n) : (⟨l.toArray⟩ : ByteArray).size = n := by simp [ByteArray.size, h]
theorem udata (l : List UInt8) : (⟨l.toArray⟩ : ByteArray).data.toList = l := by simp
theorem below3 {a b c : World} (h : Below a.heap.size a b) (k : Below b.heap.size b c) : Below a.heap.size a c := h.trans (k.mono h.size)
theorem Tabs.on {w w' : World} (h : Tabs w) (hb : Below w.heap.size w w') : Tabs w' := h.below hb (Nat.le_refl _)

theorem last_any (k : Int) (w : World) :
    Calls Tryd.prog 20 #[.int .i64 k] w fun e w' => e = .returned (.int .i32 (lastL k)) ∧ w = w' := by
  have h : k = 1 ∨ k = 2 ∨ k = 3 ∨ (¬ k = 1 ∧ ¬ k = 2 ∧ ¬ k = 3) := by omega
  rcases h with rfl | rfl | rfl | ⟨h1, h2, h3⟩
  · go_enter Tryd.func20, Tryd.ntmps20
    go_wp2
    go_ret
    exact ⟨rfl, rfl⟩
  · go_enter Tryd.func20, Tryd.ntmps20
    go_wp2
    go_ret
    exact ⟨rfl, rfl⟩
  · go_enter Tryd.func20, Tryd.ntmps20
    go_wp2
    go_ret
    exact ⟨rfl, rfl⟩
  · have H := Lib.hid (show lastL k = -1 by unfold lastL; rw [if_neg h1, if_neg h2, if_neg h3])
    go_enter Tryd.func20, Tryd.ntmps20
    go_wp2
    go_ret
    exact ⟨by rw [H.out]; rfl, rfl⟩

/-- What Decode or Encode answers. -/
def Pair (r : List UInt8 × Int) (w : World) (e : Ending) (w' : World) : Prop := e = .returned (.tuple #[.string ⟨r.1.toArray⟩, .int .i64 r.2]) ∧ Below w.heap.size w w'
theorem Pair.mk {r : List UInt8 × Int} {w w' : World} {l : List UInt8} {n : Int} (h : r = (l, n)) (hb : Below w.heap.size w w') : Pair r w (.returned (.tuple #[.string ⟨l.toArray⟩, .int .i64 n])) w' := by subst h; exact ⟨rfl, hb⟩
theorem Pair.own {r : List UInt8 × Int} {w w' : World} {s : ByteArray} {n : Int} (h : r = (s.data.toList, n)) (hb : Below w.heap.size w w') : Pair r w (.returned (.tuple #[.string s, .int .i64 n])) w' := by subst h; exact ⟨by rw [← own_text], hb⟩

theorem dec_none {k : Int} {l : List UInt8} (h1 : ¬ k = 1) (h2 : ¬ k = 2) (h3 : ¬ k = 3) : dec k l = ([], 5) := by unfold dec; rw [if_neg (by omega), if_neg h3]
theorem enc_none {k : Int} {l : List UInt8} (h1 : ¬ k = 1) (h2 : ¬ k = 2) (h3 : ¬ k = 3) : enc k l = ([], 5) := by unfold enc; rw [if_neg (by omega), if_neg h3]
theorem last_none {k : Int} (h1 : ¬ k = 1) (h2 : ¬ k = 2) (h3 : ¬ k = 3) : lastL k = -1 := by unfold lastL; rw [if_neg h1, if_neg h2, if_neg h3]

set_option maxHeartbeats 800000 in
theorem decode_12 (k m : Int) (hk : k = 1 ∨ k = 2) (hm : lastL k = m) (s : ByteArray) (hs : s.size ≤ 34359738368) (w : World) (T : Tabs w) :
    Calls Tryd.prog 9 #[.int .i64 k, .string s] w (Pair (dec k s.data.toList) w) := by
  have hm1 : (m == -1) = false := by rcases hk with rfl | rfl <;> (subst hm; rfl)
  have hk3 : (k != 3) = true := by rcases hk with rfl | rfl <;> rfl
  have C0 := Lib.hid (fun W => last_any k W)
  rw [hm] at C0
  have hl2 := latin_length s.data.toList
  rw [list_size] at hl2
  have hts : (⟨(latin s.data.toList).toArray⟩ : ByteArray).size ≤ 68719476736 := by rw [ulen rfl]; omega
  have C1 := Lib.hid (fun W => ofBytes_any s (by omega) W)
  have C2 := Lib.hid (fun W (TW : Tabs W) => valid_any ⟨(latin s.data.toList).toArray⟩ W (by omega) TW)
  have C3 := Lib.hid (fun W (TW : Tabs W) => within_any ⟨(latin s.data.toList).toArray⟩ m W TW)
  rw [udata, latin_valid] at C2
  rw [udata, latin_lets] at C3
  have HD : Hid (dec k s.data.toList = if within m (s.data.toList.map UInt8.toNat) = true then (latin s.data.toList, 0) else ([], 16)) := Lib.hid (by unfold dec; rw [if_pos hk, hm])
  obtain ⟨t, ht⟩ : ∃ t : ByteArray, (⟨(latin s.data.toList).toArray⟩ : ByteArray) = t := ⟨_, rfl⟩
  have HT := Lib.hid (show latin s.data.toList = t.data.toList by rw [← ht, udata])
  rw [ht] at C1 C2 C3 hts
  clear ht
  cases hw : within m (s.data.toList.map UInt8.toNat) with
  | false =>
    rw [hw] at C3 HD
    have HR := Lib.hid (show dec k s.data.toList = ([], 16) by rw [HD.out, if_neg (by simp)])
    clear HD hw hl2 hm
    go_enter Tryd.func9, Tryd.ntmps9
    go_wp2_with fail
    refine (C0.out _).mono ?_
    rintro e w0 ⟨rfl, rfl⟩
    go_wp2_with fail
    refine (C1.out _).mono ?_
    rintro e w1 ⟨rfl, b1⟩
    go_wp2_with fail
    refine (C2.out _ (T.on b1)).mono ?_
    rintro e w2 ⟨rfl, b2⟩
    go_wp2_with fail
    refine (C3.out _ ((T.on b1).on b2)).mono ?_
    rintro e w3 ⟨rfl, b3⟩
    go_wp2_with fail
    go_ret2
    exact Pair.mk HR.out (below3 (below3 b1 b2) b3)
  | true =>
    rw [hw] at C3 HD
    have HR := Lib.hid (show dec k s.data.toList = (t.data.toList, 0) by rw [HD.out, if_pos rfl, HT.out])
    clear HD hw hl2 hm
    go_enter Tryd.func9, Tryd.ntmps9
    go_wp2_with fail
    refine (C0.out _).mono ?_
    rintro e w0 ⟨rfl, rfl⟩
    go_wp2_with fail
    refine (C1.out _).mono ?_
    rintro e w1 ⟨rfl, b1⟩
    go_wp2_with fail
    refine (C2.out _ (T.on b1)).mono ?_
    rintro e w2 ⟨rfl, b2⟩
    go_wp2_with fail
    refine (C3.out _ ((T.on b1).on b2)).mono ?_
    rintro e w3 ⟨rfl, b3⟩
    go_wp2_with fail
    go_ret2
    exact Pair.own HR.out (below3 (below3 b1 b2) b3)

theorem decode_3 (s : ByteArray) (hs : s.size ≤ 34359738368) (w : World) (T : Tabs w) :
    Calls Tryd.prog 9 #[.int .i64 3, .string s] w (Pair (dec 3 s.data.toList) w) := by
  have C0 := Lib.hid (fun W => last_any 3 W)
  rw [show lastL 3 = 1114111 from rfl] at C0
  have C2 := Lib.hid (fun W (TW : Tabs W) => valid_any s W (by omega) TW)
  have C3 := Lib.hid (fun W (TW : Tabs W) => within_any s 1114111 W TW)
  rw [within_all] at C3
  have HD : Hid (dec 3 s.data.toList = if Lib.validD s.data.toList = true then (s.data.toList, 0) else ([], 16)) := Lib.hid (by unfold dec; rw [if_neg (by decide), if_pos rfl])
  cases hv : Lib.validD s.data.toList with
  | false =>
    rw [hv] at C2 HD
    have HR := Lib.hid (show dec 3 s.data.toList = ([], 16) by rw [HD.out, if_neg (by simp)])
    clear HD hv
    go_enter Tryd.func9, Tryd.ntmps9
    go_wp2_with fail
    refine (C0.out _).mono ?_
    rintro e w0 ⟨rfl, rfl⟩
    go_wp2_with fail
    refine (C2.out _ T).mono ?_
    rintro e w1 ⟨rfl, b1⟩
    go_wp2_with fail
    go_ret2
    exact Pair.mk HR.out b1
  | true =>
    rw [hv] at C2 HD
    have HR := Lib.hid (show dec 3 s.data.toList = (s.data.toList, 0) by rw [HD.out, if_pos rfl])
    clear HD hv
    go_enter Tryd.func9, Tryd.ntmps9
    go_wp2_with fail
    refine (C0.out _).mono ?_
    rintro e w0 ⟨rfl, rfl⟩
    go_wp2_with fail
    refine (C2.out _ T).mono ?_
    rintro e w1 ⟨rfl, b1⟩
    go_wp2_with fail
    refine (C3.out _ (T.on b1)).mono ?_
    rintro e w2 ⟨rfl, b2⟩
    go_wp2_with fail
    go_ret2
    exact Pair.own HR.out (below3 b1 b2)
theorem decode_X (k : Int) (h1 : ¬ k = 1) (h2 : ¬ k = 2) (h3 : ¬ k = 3) (s : ByteArray) (w : World) :
    Calls Tryd.prog 9 #[.int .i64 k, .string s] w (Pair (dec k s.data.toList) w) := by
  have C0 := Lib.hid (fun W => last_any k W)
  rw [last_none h1 h2 h3] at C0
  have HR := Lib.hid (dec_none (l := s.data.toList) h1 h2 h3)
  go_enter Tryd.func9, Tryd.ntmps9
  go_wp2_with fail
  refine (C0.out _).mono ?_
  rintro e w0 ⟨rfl, rfl⟩
  go_wp2_with fail
  go_ret2
  exact Pair.mk HR.out (Below.refl _ _)
theorem decode_turns (k : Int) (s : ByteArray) (hs : s.size ≤ 34359738368) (w : World) (T : Tabs w) :
    Calls Tryd.prog 9 #[.int .i64 k, .string s] w (Pair (dec k s.data.toList) w) := by
  by_cases h12 : k = 1 ∨ k = 2
  · exact decode_12 k _ h12 rfl s hs w T
  · by_cases h3 : k = 3
    · subst h3; exact decode_3 s hs w T
    · exact decode_X k (by omega) (by omega) h3 s w

theorem encode_X (k : Int) (h1 : ¬ k = 1) (h2 : ¬ k = 2) (h3 : ¬ k = 3) (s : ByteArray) (w : World) :
    Calls Tryd.prog 11 #[.int .i64 k, .string s] w (Pair (enc k s.data.toList) w) := by
  have C0 := Lib.hid (fun W => last_any k W)
  rw [last_none h1 h2 h3] at C0
  have HR := Lib.hid (enc_none (l := s.data.toList) h1 h2 h3)
  go_enter Tryd.func11, Tryd.ntmps11
  go_wp2_with fail
  refine (C0.out _).mono ?_
  rintro e w0 ⟨rfl, rfl⟩
  go_wp2_with fail
  go_ret2
  exact Pair.mk HR.out (Below.refl _ _)
set_option maxHeartbeats 800000 in
theorem encode_12 (k m : Int) (hk : k = 1 ∨ k = 2) (hm : lastL k = m) (s : ByteArray) (hs : s.size ≤ 34359738368) (w : World) (T : Tabs w) :
    Calls Tryd.prog 11 #[.int .i64 k, .string s] w (Pair (enc k s.data.toList) w) := by
  have hm1 : (m == -1) = false := by rcases hk with rfl | rfl <;> (subst hm; rfl)
  have hk3 : (k == 3) = false := by rcases hk with rfl | rfl <;> rfl
  have C0 := Lib.hid (fun W => last_any k W)
  rw [hm] at C0
  have C2 := Lib.hid (fun W (TW : Tabs W) => valid_any s W (by omega) TW)
  have C3 := Lib.hid (fun W (TW : Tabs W) => within_any s m W TW)
  have C4 := Lib.hid (fun W (TW : Tabs W) => asBytes_any s (by omega) W TW)
  have HD : Hid (enc k s.data.toList = if Lib.validD s.data.toList = true then (if within m (lets s.data.toList) = true then (bytesOf (lets s.data.toList), 0) else ([], 16)) else ([], 3)) := Lib.hid (by unfold enc; rw [if_pos hk, hm])
  generalize bytesOf (lets s.data.toList) = l at C4 HD
  clear hm
  cases hv : Lib.validD s.data.toList with
  | false =>
    rw [hv] at C2 HD
    have HR := Lib.hid (show enc k s.data.toList = ([], 3) by rw [HD.out, if_neg (by simp)])
    clear HD hv
    go_enter Tryd.func11, Tryd.ntmps11
    go_wp2_with fail
    refine (C0.out _).mono ?_
    rintro e w0 ⟨rfl, rfl⟩
    go_wp2_with fail
    refine (C2.out _ T).mono ?_
    rintro e w1 ⟨rfl, b1⟩
    go_wp2_with fail
    go_ret2
    exact Pair.mk HR.out b1
  | true =>
    rw [hv, if_pos rfl] at HD
    rw [hv] at C2
    clear hv
    cases hw : within m (lets s.data.toList) with
    | false =>
      rw [hw] at C3 HD
      have HR := Lib.hid (show enc k s.data.toList = ([], 16) by rw [HD.out, if_neg (by simp)])
      clear HD hw
      go_enter Tryd.func11, Tryd.ntmps11
      go_wp2_with fail
      refine (C0.out _).mono ?_
      rintro e w0 ⟨rfl, rfl⟩
      go_wp2_with fail
      refine (C2.out _ T).mono ?_
      rintro e w1 ⟨rfl, b1⟩
      go_wp2_with fail
      refine (C3.out _ (T.on b1)).mono ?_
      rintro e w2 ⟨rfl, b2⟩
      go_wp2_with fail
      go_ret2
      exact Pair.mk HR.out (below3 b1 b2)
    | true =>
      rw [hw] at C3 HD
      have HR := Lib.hid (show enc k s.data.toList = (l, 0) by rw [HD.out, if_pos rfl])
      clear HD hw
      go_enter Tryd.func11, Tryd.ntmps11
      go_wp2_with fail
      refine (C0.out _).mono ?_
      rintro e w0 ⟨rfl, rfl⟩
      go_wp2_with fail
      refine (C2.out _ T).mono ?_
      rintro e w1 ⟨rfl, b1⟩
      go_wp2_with fail
      refine (C3.out _ (T.on b1)).mono ?_
      rintro e w2 ⟨rfl, b2⟩
      go_wp2_with fail
      refine (C4.out _ ((T.on b1).on b2)).mono ?_
      rintro e w3 ⟨rfl, b3⟩
      go_wp2_with fail
      go_ret2
      exact Pair.mk HR.out (below3 (below3 b1 b2) b3)
theorem encode_3 (s : ByteArray) (hs : s.size ≤ 34359738368) (w : World) (T : Tabs w) :
    Calls Tryd.prog 11 #[.int .i64 3, .string s] w (Pair (enc 3 s.data.toList) w) := by
  have C0 := Lib.hid (fun W => last_any 3 W)
  rw [show lastL 3 = 1114111 from rfl] at C0
  have C2 := Lib.hid (fun W (TW : Tabs W) => valid_any s W (by omega) TW)
  have C3 := Lib.hid (fun W (TW : Tabs W) => within_any s 1114111 W TW)
  rw [within_all] at C3
  have HD : Hid (enc 3 s.data.toList = if Lib.validD s.data.toList = true then (s.data.toList, 0) else ([], 3)) := Lib.hid (by unfold enc; rw [if_neg (by decide), if_pos rfl])
  cases hv : Lib.validD s.data.toList with
  | false =>
    rw [hv] at C2 HD
    have HR := Lib.hid (show enc 3 s.data.toList = ([], 3) by rw [HD.out, if_neg (by simp)])
    clear HD hv
    go_enter Tryd.func11, Tryd.ntmps11
    go_wp2_with fail
    refine (C0.out _).mono ?_
    rintro e w0 ⟨rfl, rfl⟩
    go_wp2_with fail
    refine (C2.out _ T).mono ?_
    rintro e w1 ⟨rfl, b1⟩
    go_wp2_with fail
    go_ret2
    exact Pair.mk HR.out b1
  | true =>
    rw [hv] at C2 HD
    have HR := Lib.hid (show enc 3 s.data.toList = (s.data.toList, 0) by rw [HD.out, if_pos rfl])
    clear HD hv
    go_enter Tryd.func11, Tryd.ntmps11
    go_wp2_with fail
    refine (C0.out _).mono ?_
    rintro e w0 ⟨rfl, rfl⟩
    go_wp2_with fail
    refine (C2.out _ T).mono ?_
    rintro e w1 ⟨rfl, b1⟩
    go_wp2_with fail
    refine (C3.out _ (T.on b1)).mono ?_
    rintro e w2 ⟨rfl, b2⟩
    go_wp2_with fail
    go_ret2
    exact Pair.own HR.out (below3 b1 b2)
theorem encode_turns (k : Int) (s : ByteArray) (hs : s.size ≤ 34359738368) (w : World) (T : Tabs w) :
    Calls Tryd.prog 11 #[.int .i64 k, .string s] w (Pair (enc k s.data.toList) w) := by
  by_cases h12 : k = 1 ∨ k = 2
  · exact encode_12 k _ h12 rfl s hs w T
  · by_cases h3 : k = 3
    · subst h3; exact encode_3 s hs w T
    · exact encode_X k (by omega) (by omega) h3 s w

theorem least_here {l : List UInt8} {k : Int} (h1 : 1 ≤ k) (h3 : k ≤ 3) (hb : ∀ j, 1 ≤ j → j < k → ¬ (enc j l).2 = 0) (h : (enc k l).2 = 0) : least l = k := by
  unfold least
  rcases (by omega : k = 1 ∨ k = 2 ∨ k = 3) with rfl | rfl | rfl
  · rw [if_pos h]
  · rw [if_neg (hb 1 (by omega) (by omega)), if_pos h]
  · rw [if_neg (hb 1 (by omega) (by omega)), if_neg (hb 2 (by omega) (by omega)), if_pos h]
theorem least_none {l : List UInt8} (hb : ∀ j, 1 ≤ j → j < 4 → ¬ (enc j l).2 = 0) : least l = 0 := by
  unfold least
  rw [if_neg (hb 1 (by omega) (by omega)), if_neg (hb 2 (by omega) (by omega)), if_neg (hb 3 (by omega) (by omega))]

set_option maxHeartbeats 800000 in
theorem least_any (s : ByteArray) (hs : s.size ≤ 34359738368) (w : World) (T : Tabs w) :
    Calls Tryd.prog 13 #[.string s] w fun e w' => e = .returned (.int .i64 (least s.data.toList)) ∧ Below w.heap.size w w' := by
  have C := Lib.hid (fun k W (TW : Tabs W) => encode_turns k s hs W TW)
  obtain ⟨r, hr⟩ : ∃ r, least s.data.toList = r := ⟨_, rfl⟩
  have HH : Hid (∀ k, 1 ≤ k → k ≤ 3 → (∀ j, 1 ≤ j → j < k → ¬ (enc j s.data.toList).2 = 0) → (enc k s.data.toList).2 = 0 → r = k) := Lib.hid (fun k h1 h3 hb h => by rw [← hr]; exact least_here h1 h3 hb h)
  have HN : Hid ((∀ j, 1 ≤ j → j < 4 → ¬ (enc j s.data.toList).2 = 0) → r = 0) := Lib.hid (fun hb => by rw [← hr]; exact least_none hb)
  rw [hr]
  clear hr
  unfold Pair at C
  generalize s.data.toList = l at *
  go_enter Tryd.func13, Tryd.ntmps13
  go_wp2_with fail
  go_loopw [3] (fun iv wr => ∃ k : Int, iv = .int .i64 k ∧ 1 ≤ k ∧ k ≤ 4 ∧ Hid (∀ j, 1 ≤ j → j < k → ¬ (enc j l).2 = 0) ∧ Below w.heap.size w wr) (fun iv _ => (4 - intOf iv).toNat)
  case atStart => exact ⟨1, rfl, by omega, by omega, Lib.hid (fun j h1 h2 => by omega), Below.refl _ _⟩
  case round =>
    obtain ⟨k, rfl, k1, k4, hj, hbel⟩ := hrel
    have TW := T.on hbel
    by_cases hlt : k ≤ 3
    · obtain ⟨en, hen⟩ : ∃ en, (enc k l).2 = en := ⟨_, rfl⟩
      have CK := Lib.hid (C.out k wr TW)
      rw [hen] at CK
      generalize (enc k l).1.toArray = a at CK
      by_cases he : en = 0
      · subst he
        obtain rfl := HH.out k k1 hlt hj.out hen
        clear hen
        go_wp2_with fail
        refine CK.out.mono ?_
        rintro e w2 ⟨rfl, b2⟩
        go_wp2_with fail
        go_ret
        exact ⟨rfl, hbel.trans (b2.mono hbel.size)⟩
      · have hf : (en == 0) = false := by simpa using he
        have HF := Lib.hid (show ∀ j, 1 ≤ j → j < k + 1 → ¬ (enc j l).2 = 0 from fun j h1 h2 => by
          by_cases e : j = k
          · rw [e, hen]; exact he
          · exact hj.out j h1 (by omega))
        clear he hen
        go_wp2_with fail
        refine CK.out.mono ?_
        rintro e w2 ⟨rfl, b2⟩
        go_wp2_with fail
        go_roundw
        case rel => exact ⟨k + 1, by go_num, by omega, by omega, HF, hbel.trans (b2.mono hbel.size)⟩
        case measure => simp [intOf]; omega
    · obtain rfl : k = 4 := by omega
      obtain rfl := HN.out hj.out
      go_wp2_with fail
      go_ret
      exact ⟨rfl, hbel⟩
end Go.Proofs.YtmahdlaifbbjgaaDoor.Cs
