/-
The document's own Decode, Encode and Least answer as the plain functions say. Conditions: the text has at most 2^35 bytes.
-/
import Derived.Test.YtmahdlaifbbjgaaDoorCsRefLets
import Derived.Test.YtmahdlaifbbjgaaDoorCsRefPut
import Derived.Deep.QuietTactic
import Derived.BigQuiet
namespace Go.Proofs.YtmahdlaifbbjgaaDoor.CsR
open Go.RowKit Cs

def Pair (r : List UInt8 × Int) (w : World) (e : Ending) (w' : World) : Prop := e = .returned (.tuple #[.string ⟨r.1.toArray⟩, .int .i64 r.2]) ∧ Below w.heap.size w w'
theorem Pair.mk {r : List UInt8 × Int} {w w' : World} {l : List UInt8} {n : Int} (h : r = (l, n)) (hb : Below w.heap.size w w') : Pair r w (.returned (.tuple #[.string ⟨l.toArray⟩, .int .i64 n])) w' := by subst h; exact ⟨rfl, hb⟩
theorem Pair.own {r : List UInt8 × Int} {w w' : World} {s : ByteArray} {n : Int} (h : r = (s.data.toList, n)) (hb : Below w.heap.size w w') : Pair r w (.returned (.tuple #[.string s, .int .i64 n])) w' := by subst h; exact ⟨by rw [← own_text], hb⟩
theorem below3 {a b c : World} (h : Below a.heap.size a b) (k : Below b.heap.size b c) : Below a.heap.size a c := h.trans (k.mono h.size)
theorem dec_none {k : Int} {l : List UInt8} (h1 : ¬ k = 1) (h2 : ¬ k = 2) (h3 : ¬ k = 3) : dec k l = ([], 5) := by unfold dec; rw [if_neg (by omega), if_neg h3]
theorem enc_none {k : Int} {l : List UInt8} (h1 : ¬ k = 1) (h2 : ¬ k = 2) (h3 : ¬ k = 3) : enc k l = ([], 5) := by unfold enc; rw [if_neg (by omega), if_neg h3]
theorem cat_lists (a b : List UInt8) : ((⟨a.toArray⟩ : ByteArray) ++ ⟨b.toArray⟩) = ⟨(a ++ b).toArray⟩ := by
  apply ByteArray.ext; simp [ByteArray.data_append]
theorem ulen {l : List UInt8} {n : Nat} (h : l.length = n) : (⟨l.toArray⟩ : ByteArray).size = n := by simp [ByteArray.size, h]
theorem enc1_length (c : UInt8) : (Lib.encodeRune (c.toNat : Int)).length ≤ 2 := by
  rcases enc1 c with ⟨_, e⟩ | ⟨_, e⟩ <;> rw [e] <;> simp
theorem within_cut {m : Int} {l : List UInt8} {k : Nat} {c : UInt8} (hc : l.drop k = c :: l.drop (k + 1)) (h : within m ((l.take k).map UInt8.toNat) = true) (hle : (c.toNat : Int) ≤ m) : within m ((l.take (k + 1)).map UInt8.toNat) = true := by
  have hk : k < l.length := by
    rcases Nat.lt_or_ge k l.length with h | h
    · exact h
    · rw [List.drop_eq_nil_of_le h] at hc; cases hc
  rw [List.drop_eq_getElem_cons hk] at hc
  injection hc with hc1 _
  rw [List.take_succ_eq_append_getElem hk, hc1, List.map_append]
  unfold within at *
  rw [List.all_append, h, Bool.true_and]
  simp [hle]
theorem within_over {m : Int} {l : List UInt8} {k : Nat} {c : UInt8} (hc : l.drop k = c :: l.drop (k + 1)) (hle : ¬ (c.toNat : Int) ≤ m) : within m (l.map UInt8.toNat) = false := by
  have hm : c ∈ l := List.mem_of_mem_drop (i := k) (by rw [hc]; exact List.mem_cons_self)
  cases h : within m (l.map UInt8.toNat) with
  | false => rfl
  | true =>
    have := List.all_eq_true.1 h c.toNat (List.mem_map_of_mem hm)
    exact absurd (of_decide_eq_true this) hle
theorem latin_cut {l : List UInt8} {k : Nat} {c : UInt8} {u : ByteArray} (hc : l.drop k = c :: l.drop (k + 1)) (h : u = ⟨(latin (l.take k)).toArray⟩) : u ++ ⟨(Lib.encodeRune (c.toNat : Int)).toArray⟩ = ⟨(latin (l.take (k + 1))).toArray⟩ := by
  have hk : k < l.length := by
    rcases Nat.lt_or_ge k l.length with h | h
    · exact h
    · rw [List.drop_eq_nil_of_le h] at hc; cases hc
  rw [List.drop_eq_getElem_cons hk] at hc
  injection hc with hc1 _
  rw [h, cat_lists, List.take_succ_eq_append_getElem hk, latin_snoc, hc1]
theorem drop_at (s : ByteArray) (k : Nat) (h : k < s.size) : s.data.toList.drop k = s[k] :: s.data.toList.drop (k + 1) := by
  rw [List.drop_eq_getElem_cons (by rw [list_size]; exact h)]; rfl

theorem refDecode_X (k : Int) (h1 : ¬ k = 1) (h2 : ¬ k = 2) (h3 : ¬ k = 3) (s : ByteArray) (w : World) :
    Calls Tryd.prog 10 #[.int .i64 k, .string s] w (Pair (dec k s.data.toList) w) := by
  have HR := Lib.hid (dec_none (l := s.data.toList) h1 h2 h3)
  rcases (by omega : k < 1 ∨ (¬ k < 1 ∧ 3 < k)) with h | ⟨h, h'⟩
  · go_enter Tryd.func10, Tryd.ntmps10
    go_wp2_with fail
    go_ret2
    exact Pair.mk HR.out (Below.refl _ _)
  · go_enter Tryd.func10, Tryd.ntmps10
    go_wp2_with fail
    go_ret2
    exact Pair.mk HR.out (Below.refl _ _)
theorem refDecode_3 (s : ByteArray) (hs : s.size ≤ 34359738368) (w : World) :
    Calls Tryd.prog 10 #[.int .i64 3, .string s] w (Pair (dec 3 s.data.toList) w) := by
  have C2 := Lib.hid (fun W => refValid_any s (by omega) W)
  have HD : Hid (dec 3 s.data.toList = if Lib.validD s.data.toList = true then (s.data.toList, 0) else ([], 16)) := Lib.hid (by unfold dec; rw [if_neg (by decide), if_pos rfl])
  cases hv : Lib.validD s.data.toList with
  | false =>
    rw [hv] at C2 HD
    have HR := Lib.hid (show dec 3 s.data.toList = ([], 16) by rw [HD.out, if_neg (by simp)])
    clear HD hv
    go_enter Tryd.func10, Tryd.ntmps10
    go_wp2_with fail
    refine (C2.out _).mono ?_
    rintro e w1 ⟨rfl, b1⟩
    go_wp2_with fail
    go_ret2
    exact Pair.mk HR.out b1
  | true =>
    rw [hv] at C2 HD
    have HR := Lib.hid (show dec 3 s.data.toList = (s.data.toList, 0) by rw [HD.out, if_pos rfl])
    clear HD hv
    go_enter Tryd.func10, Tryd.ntmps10
    go_wp2_with fail
    refine (C2.out _).mono ?_
    rintro e w1 ⟨rfl, b1⟩
    go_wp2_with fail
    go_ret2
    exact Pair.own HR.out b1
set_option maxHeartbeats 1000000 in
theorem refDecode_12 (k m : Int) (hk : k = 1 ∨ k = 2) (hm : mostP k = m) (hm' : lastL k = m) (s : ByteArray) (hs : s.size ≤ 34359738368) (w : World) :
    Calls Tryd.prog 10 #[.int .i64 k, .string s] w (Pair (dec k s.data.toList) w) := by
  have hk1 : 1 ≤ k := by omega
  have hk2 : k ≤ 3 := by omega
  have hk3 : (k == 3) = false := by rcases hk with rfl | rfl <;> rfl
  have C0 := Lib.hid (fun W => refMost_any k W)
  rw [hm] at C0
  have HD : Hid (dec k s.data.toList = if within m (s.data.toList.map UInt8.toNat) = true then (latin s.data.toList, 0) else ([], 16)) := Lib.hid (by unfold dec; rw [if_pos hk, hm'])
  clear hk hm hm'
  go_enter Tryd.func10, Tryd.ntmps10
  go_wp2_with fail
  go_loopw [6, 7] (fun uv iv wr => ∃ (i : Nat) (u : ByteArray), i ≤ s.size ∧ iv = .int .i64 (i : Int) ∧ uv = .string u ∧ u.size ≤ 2 * i ∧ Hid (u = ⟨(latin (s.data.toList.take i)).toArray⟩ ∧ within m ((s.data.toList.take i).map UInt8.toNat) = true) ∧ Below w.heap.size w wr) (fun _ iv _ => s.size - (intOf iv).toNat)
  case atStart => exact ⟨0, ByteArray.empty, Nat.zero_le _, rfl, rfl, by simp, Lib.hid ⟨by rw [List.take_zero]; rfl, by rw [List.take_zero]; rfl⟩, Below.refl _ _⟩
  case round =>
    obtain ⟨i, u, hi, rfl, rfl, hus, hu, hbel⟩ := hrel
    by_cases hlt : i < s.size
    · obtain ⟨c, hc⟩ : ∃ c, s[i] = c := ⟨_, rfl⟩
      have hd := drop_at s i hlt
      rw [hc] at hd
      have hc8 := c.toNat_lt
      have CP := Lib.hid (fun W => refPut_any c W)
      have HU : Hid (u ++ ⟨(Lib.encodeRune (c.toNat : Int)).toArray⟩ = ⟨(latin (s.data.toList.take (i + 1))).toArray⟩) := Lib.hid (latin_cut hd hu.out.1)
      have hz2 : (⟨(Lib.encodeRune (c.toNat : Int)).toArray⟩ : ByteArray).size ≤ 2 := by rw [ulen rfl]; exact enc1_length c
      have hz : (u ++ (⟨(Lib.encodeRune (c.toNat : Int)).toArray⟩ : ByteArray)).size ≤ 2 * (i + 1) := by rw [ByteArray.size_append]; omega
      have HZ := Lib.hid hz
      clear hz
      generalize (⟨(Lib.encodeRune (c.toNat : Int)).toArray⟩ : ByteArray) = t at *
      by_cases hle : (c.toNat : Int) ≤ m
      · have HW := Lib.hid (within_cut hd hu.out.2 hle)
        clear hd
        go_wp2_with fail
        go_quiet ((go_at_call 24; exact Calls.quiet_of_same (C0.out _)))
        go_wp2_with fail
        refine (CP.out _).mono ?_
        rintro e w1 ⟨rfl, b1⟩
        have b2 : Below wr.heap.size wr w1 := ⟨b1.os, b1.tape, b1.output, b1.size, b1.block⟩
        go_wp2_with fail
        go_roundw
        case rel => exact ⟨i + 1, _, by omega, by go_num, rfl, HZ.out, Lib.hid ⟨HU.out, HW.out⟩, hbel.trans (b2.mono hbel.size)⟩
        case measure => simp [intOf]; omega
      · have HR := Lib.hid (show dec k s.data.toList = ([], 16) by rw [HD.out, within_over hd hle, if_neg (by simp)])
        clear hd
        go_wp2_with fail
        go_quiet ((go_at_call 24; exact Calls.quiet_of_same (C0.out _)))
        go_wp2_with fail
        go_ret2
        exact Pair.mk HR.out ⟨hbel.os, hbel.tape, hbel.output, hbel.size, hbel.block⟩
    · obtain rfl : i = s.size := by omega
      have hx := hu.out
      rw [List.take_of_length_le (by rw [list_size]; exact Nat.le_refl _)] at hx
      have HR := Lib.hid (show dec k s.data.toList = (latin s.data.toList, 0) by rw [HD.out, if_pos hx.2])
      obtain rfl := hx.1
      clear hu hx hus
      go_wp2_with fail
      go_ret2
      exact Pair.mk HR.out hbel
theorem refDecode_turns (k : Int) (s : ByteArray) (hs : s.size ≤ 34359738368) (w : World) :
    Calls Tryd.prog 10 #[.int .i64 k, .string s] w (Pair (dec k s.data.toList) w) := by
  by_cases h12 : k = 1 ∨ k = 2
  · exact refDecode_12 k _ h12 rfl (by rcases h12 with rfl | rfl <;> rfl) s hs w
  · by_cases h3 : k = 3
    · subst h3; exact refDecode_3 s hs w
    · exact refDecode_X k (by omega) (by omega) h3 s w

theorem refEncode_X (k : Int) (h1 : ¬ k = 1) (h2 : ¬ k = 2) (h3 : ¬ k = 3) (s : ByteArray) (w : World) :
    Calls Tryd.prog 12 #[.int .i64 k, .string s] w (Pair (enc k s.data.toList) w) := by
  have HR := Lib.hid (enc_none (l := s.data.toList) h1 h2 h3)
  rcases (by omega : k < 1 ∨ (¬ k < 1 ∧ 3 < k)) with h | ⟨h, h'⟩
  · go_enter Tryd.func12, Tryd.ntmps12
    go_wp2_with fail
    go_ret2
    exact Pair.mk HR.out (Below.refl _ _)
  · go_enter Tryd.func12, Tryd.ntmps12
    go_wp2_with fail
    go_ret2
    exact Pair.mk HR.out (Below.refl _ _)
/-- What the document's own Encode answers of a charset whose greatest letter is m. -/
def encM (k m : Int) (l : List UInt8) : List UInt8 × Int := if Lib.validD l = true then (if within m (lets l) = true then (if k = 3 then (l, 0) else (bytesOf (lets l), 0)) else ([], 16)) else ([], 3)
theorem encM_eq {k : Int} (hk : k = 1 ∨ k = 2 ∨ k = 3) (l : List UInt8) : enc k l = encM k (mostP k) l := by
  rcases hk with rfl | rfl | rfl
  · rfl
  · rfl
  · unfold enc encM
    rw [if_neg (by decide), if_pos rfl, show mostP 3 = 1114111 from rfl, within_all, if_pos rfl, if_pos rfl]
theorem within_take {m : Int} {L : List Nat} {i : Nat} (hi : i < L.length) (h : within m (L.take i) = true) (hle : (L[i] : Int) ≤ m) : within m (L.take (i + 1)) = true := by
  rw [List.take_succ_eq_append_getElem hi]
  unfold within at *
  rw [List.all_append, h, Bool.true_and]
  simp [hle]
theorem within_not {m : Int} {L : List Nat} {i : Nat} (hi : i < L.length) (hle : ¬ (L[i] : Int) ≤ m) : within m L = false := by
  cases h : within m L with
  | false => rfl
  | true => exact absurd (of_decide_eq_true (List.all_eq_true.1 h _ (List.getElem_mem hi))) hle
theorem bytes_take {L : List Nat} {i : Nat} (hi : i < L.length) : bytesOf (L.take (i + 1)) = bytesOf (L.take i) ++ [UInt8.ofNat L[i]] := by
  rw [List.take_succ_eq_append_getElem hi]; unfold bytesOf; rw [List.map_append]; rfl
theorem low8 (x : Nat) : (x : Int) % 256 = ((UInt8.ofNat x).toNat : Int) := by rw [UInt8.toNat_ofNat']; omega

set_option maxRecDepth 100000 in
set_option maxHeartbeats 2000000 in
theorem refEncode_1 (k m : Int) (hk1 : 1 ≤ k) (hk2 : k ≤ 3) (hm : mostP k = m) (s : ByteArray) (hs : s.size ≤ 34359738368) (w : World) :
    Calls Tryd.prog 12 #[.int .i64 k, .string s] w (Pair (encM k m s.data.toList) w) := by
  obtain ⟨i0, hi, hz0, hz1, hz2⟩ := info_parts Bytes.infoByte
  have C0 := Lib.hid (fun W => refMost_any k W)
  rw [hm] at C0
  have CL := Lib.hid (refLetters_any s (by omega) w)
  unfold LetsIs at CL
  have hLn := lets_length s.data.toList
  rw [list_size] at hLn
  have HLe := Lib.hid (lets_le s.data.toList)
  have HD : Hid (encM k m s.data.toList = if Lib.validD s.data.toList = true then (if within m (lets s.data.toList) = true then (if k = 3 then (s.data.toList, 0) else (bytesOf (lets s.data.toList), 0)) else ([], 16)) else ([], 3)) := Lib.hid rfl
  generalize lets s.data.toList = L at *
  clear hm
  cases hv : Lib.validD s.data.toList with
  | false =>
    rw [hv] at CL HD
    have HR := Lib.hid (show encM k m s.data.toList = ([], 3) by rw [HD.out, if_neg (by simp)])
    clear HD hv
    go_enter Tryd.func12, Tryd.ntmps12
    go_wp2_with fail
    refine CL.out.mono ?_
    rintro e w1 ⟨v, rfl, _, b1⟩
    go_wp2_with fail
    go_ret2
    exact Pair.mk HR.out b1
  | true =>
    rw [hv, if_pos rfl] at HD
    rw [hv] at CL
    clear hv
    go_enter Tryd.func12, Tryd.ntmps12
    go_wp2_with fail
    refine CL.out.mono ?_
    rintro e w1 ⟨v, rfl, hS, b1⟩
    obtain ⟨a1, c1, rfl, hat⟩ := hS.at_
    have HAT := Lib.hid hat
    clear hat hS
    have b1z := b1.size
    go_wp2_with fail
    go_loopw [8, 9] (fun bv iv wr => ∃ i : Nat, i ≤ L.length ∧ iv = .int .i64 (i : Int) ∧ Bytes.Has wr w1.heap.size bv (bytesOf (L.take i)) ∧ Hid (within m (L.take i) = true) ∧ Below w1.heap.size w1 wr) (fun _ iv _ => L.length - (intOf iv).toNat)
    case atStart => exact ⟨0, Nat.zero_le _, rfl, Bytes.Has.nil _ _, Lib.hid (by rw [List.take_zero]; rfl), Below.refl _ _⟩
    case round =>
      obtain ⟨i, hi', rfl, hown, hw, hbel⟩ := hrel
      have hz := hbel.size
      by_cases hlt : i < L.length
      · obtain ⟨g, rfl, ⟨_, hg⟩, hc⟩ := HAT.out i hlt
        have hc1 := (hbel.cell (p := ⟨g, i, none⟩) hg).trans hc
        have hx2 := HLe.out _ (List.getElem_mem hlt)
        by_cases hle : (L[i] : Int) ≤ m
        · have HW := Lib.hid (within_take hlt hw.out hle)
          have HB := Lib.hid (bytes_take hlt)
          have h8 := low8 L[i]
          generalize UInt8.ofNat L[i] = c at h8 HB
          generalize L[i] = x at *
          have hBl : (bytesOf (L.take i)).length ≤ L.length := by simp [bytesOf]; omega
          generalize bytesOf (L.take i) = l at *
          clear hc
          go_wp2_with fail
          go_quiet ((go_at_call 24; exact Calls.quiet_of_same (C0.out _)))
          go_wp2_with (at_builtin; refine wpList_append_own _ rfl _ _ 46 rfl w1.heap.size 5 i0 (.int .u8 0) 1 1 Tryd.underlying46 hi hz0 hz1 hz2 rfl (by decide) _ _ _ rfl (World.ownsRow.alloc (Bytes.Has.drewN hown nq) _) ⟨wr.heap.size, 0, none⟩ 1 1 [.int .u8 (c.toNat : Int)] rfl rfl (World.news_of_block (cs := #[.int .u8 (c.toNat : Int)]) (t := 5) (fr := (0, 0)) (heap_alloc_new (wr.drewN nq) _)) (by simp [Value.oneCell']) (by unfold maxLen; omega) (by omega) (by simp; omega) ?_; intro v' w2 hown' hgrow _)
          go_roundw
          case rel => exact ⟨i + 1, by omega, by go_num, by rw [HB.out]; exact Bytes.Has.laid1 hown', HW, Bytes.Has.below (Bytes.Has.drewN hown nq) ⟨hbel.os, hbel.tape, hbel.output, hbel.size, hbel.block⟩ hz _ hgrow⟩
          case measure => simp [intOf]; omega
        · have HR := Lib.hid (show encM k m s.data.toList = ([], 16) by rw [HD.out, within_not hlt hle, if_neg (by simp)])
          generalize L[i] = x at *
          clear hc
          go_wp2_with fail
          go_quiet ((go_at_call 24; exact Calls.quiet_of_same (C0.out _)))
          go_wp2_with fail
          go_ret2
          have hb := b1.trans (hbel.mono b1z)
          exact Pair.mk HR.out ⟨hb.os, hb.tape, hb.output, hb.size, hb.block⟩
      · obtain rfl : i = L.length := by omega
        have hwx := hw.out
        rw [List.take_length] at hwx hown
        have hb := Lib.hid (b1.trans (hbel.mono b1z))
        have ht := hown.text
        by_cases h3 : k = 3
        · have HR := Lib.hid (show encM k m s.data.toList = (s.data.toList, 0) by rw [HD.out, hwx, if_pos rfl, if_pos h3])
          have hkk : (k == 3) = true := by simpa using h3
          clear hwx hw h3
          go_wp2_with fail
          go_ret2
          exact Pair.own HR.out hb.out
        · have HR := Lib.hid (show encM k m s.data.toList = (bytesOf L, 0) by rw [HD.out, hwx, if_pos rfl, if_neg h3])
          have hkk : (k == 3) = false := by simpa using h3
          clear hwx hw h3
          go_wp2_with fail
          go_ret2
          exact Pair.mk HR.out hb.out
end Go.Proofs.YtmahdlaifbbjgaaDoor.CsR
