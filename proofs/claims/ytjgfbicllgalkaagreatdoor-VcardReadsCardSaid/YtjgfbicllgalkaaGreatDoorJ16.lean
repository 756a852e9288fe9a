/-
Texts joined in one file, each with its own conditions: Go's library on UTF-8 at this program's numbers: two tables that it reads, as the rows list them; that they stay; a letter off a text's beginning, whether a text is right, a letter's bytes behind a row. Conditions: the tables hold what the rows list. · charset.ofBytes is the text whose letters are bytes. Conditions: there are at most 2^36 bytes. · The document's own letter at a text's beginning is the plain function's. Conditions: the text has at most 2^47 bytes. · The document's own letters of a text: a row of the call's own, and whether the text is right; its letters' bytes; its greatest letter. Conditions: the text has at most 2^36 bytes. · The document's own bytes of a letter below 256 are the plain function's. No conditions. · The document's own Decode, Encode and Least answer as the plain functions say. Conditions: the text has at most 2^35 bytes.
-/
import Derived.Test.YtjgfbicllgalkaaGreatDoorRows
import Derived.Test.YtjgfbicllgalkaaGreatDoorShelf
import Derived.Test.YtjgfbicllgalkaaGreatDoorJ03
import Derived.Test.YtjgfbicllgalkaaGreatDoorJ13
import Derived.Lib.LaidU8T
import Derived.PinnedBridge
import Derived.MakeChecks
import Derived.Shelf.Unicode.ValidAny
import Derived.IntWalk
import Derived.Test.YtjgfbicllgalkaaGreatDoorJ15
import Derived.Laws.DeepStrings4
import Derived.Deep.QuietTactic
import Derived.BigQuiet
namespace Go.Proofs.YtjgfbicllgalkaaGreatDoor.Cs
set_option maxRecDepth 100000
open Go.RowKit Go.Lib Go.Shelf

def Tabs (w : World) : Prop := Lib.Utf8Tabs 1 2 w
theorem Tabs.below {w w' : World} {b : Nat} (h : Tabs w) (hb : Below b w w') (hB : w.heap.size ≤ b) : Tabs w' := by
  have k : ∀ {a : Addr} {v : Value}, w.cell? a = some v → w'.cell? a = some v := fun {a v} hc => (hb.cell (Nat.lt_of_lt_of_le (World.block_lt_of_cell? w a hc) hB)).trans hc
  exact ⟨fun c hc => k (h.1 c hc), fun i hi => ⟨k (h.2 i hi).1, k (h.2 i hi).2⟩⟩
theorem Tabs.lt {w : World} (h : Tabs w) : 1 < w.heap.size ∧ 2 < w.heap.size :=
  ⟨World.block_lt_of_cell? w _ (h.1 0 (by decide)), World.block_lt_of_cell? w _ (h.2 0 (by decide)).1⟩
theorem Tabs.kept {w w' : World} {b : Nat} (h : Tabs w) (hb : Below b w w') (h1 : 1 < b) (h2 : 2 < b) : Tabs w' :=
  ⟨fun c hc => (hb.cell (p := ⟨1, c, none⟩) h1).trans (h.1 c hc), fun i hi => ⟨(hb.cell (p := ⟨2, 2 * i, none⟩) h2).trans (h.2 i hi).1, (hb.cell (p := ⟨2, 2 * i + 1, none⟩) h2).trans (h.2 i hi).2⟩⟩
theorem own_text {s : ByteArray} : s = ⟨s.data.toList.toArray⟩ := by cases s; simp
theorem decodeGo_eq {s : ByteArray} (h : 0 < s.size) : decodeGo s = decodeL s.data.toList := by
  unfold decodeGo decodeL
  rw [if_neg (by omega), ← own_text]
theorem decode_any (s : ByteArray) (h : 0 < s.size) (w : World) (T : Tabs w) :
    Calls Tryz.prog 202 #[.string s] w fun e w' => e = .returned (.tuple #[.int .i32 ((decodeL s.data.toList).1 : Int), .int .i64 ((decodeL s.data.toList).2 : Int)]) ∧ Below w.heap.size w w' := by
  have := Tryz.utf8_DecodeRuneInString s w T
  rwa [decodeGo_eq h] at this
theorem utf8_valid (s : ByteArray) (w : World) (hs : s.size ≤ 9223372036854775807) (T : Tabs w) :
    Calls Tryz.prog 264 #[.string s] w fun e w' => e = .returned (.bool (validD s.data.toList)) ∧ Below w.heap.size w w' :=
  Any.utf8_ValidString Tryz.lays196 s w hs T
theorem valid_any (s : ByteArray) (w : World) (hs : s.size ≤ 9223372036854775807) (T : Tabs w) :
    Calls Tryz.prog 230 #[.string s] w fun e w' => e = .returned (.bool (validD s.data.toList)) ∧ Below w.heap.size w w' := by
  have C := Lib.hid (utf8_valid s w hs T)
  generalize validD s.data.toList = b at C ⊢
  go_enter Tryz.func230, Tryz.ntmps230
  go_wp2_with fail
  refine C.out.mono ?_
  rintro e w1 ⟨rfl, b1⟩
  go_wp2_with fail
  go_ret
  exact ⟨rfl, b1⟩
theorem runeCells_byte (c : UInt8) : runeCells (c.toNat : Int) = Bytes.cells (encodeRune (c.toNat : Int)) := (byteCells_encodeRune _).symm
theorem add_any (B : Nat) (v : Value) (l : List UInt8) (c : UInt8) (w : World) (hown : Bytes.Has w B v l) (hlen : l.length + 4 ≤ 140737488355328) (hBw : B ≤ w.heap.size) :
    Calls Tryz.prog 293 #[v, .int .i32 (c.toNat : Int)] w fun e w' => ∃ v', e = .returned v' ∧ Bytes.Has w' B v' (l ++ encodeRune (c.toNat : Int)) ∧ Below B w w' := by
  have hc := c.toNat_lt
  refine (Tryz.utf8_AppendRune_plain B v l.length (Bytes.cells l) (c.toNat : Int) (by omega) (by omega) w hown hlen hBw).mono ?_
  rintro e w' ⟨v', rfl, h, o, hg⟩
  rw [runeCells_byte] at h
  exact ⟨v', rfl, Bytes.Has.laid (by rw [Bytes.cells_length]) h, Bytes.Has.below hown (Below.refl _ _) hBw o hg⟩

theorem u8X : U8Extra Tryz.prog Tryz.lays197_ren := ⟨by kernel_rfl, by kernel_rfl, by kernel_rfl, by kernel_rfl, by kernel_rfl, by kernel_rfl, by kernel_rfl⟩
theorem accept_eq : (Rows.laid_unicode_utf8_acceptRanges : DataW Unit) = acceptData := by kernel_rfl
theorem tabs_of_laid {W : World} (hL : laidMetH Tryz.prog [("unicode/utf8.acceptRanges", Rows.laid_unicode_utf8_acceptRanges), ("unicode/utf8.first", Rows.laid_unicode_utf8_first)] W) : Tabs W := by
  rw [MakeChecks.laidMetH_plain _ _ _ (by kernel_rfl)] at hL
  have r1 := Lib.laidMet.reads hL (.head _)
  have r3 := Lib.laidMet.reads hL (.tail _ (.head _))
  rw [accept_eq] at r1
  rw [show (Rows.laid_unicode_utf8_first) = firstData from Pinned.utf8First_eq] at r3
  exact utf8Tabs_of_readsT { Tryz.lays197 with } u8X r3 r1
end Go.Proofs.YtjgfbicllgalkaaGreatDoor.Cs

namespace Go.Proofs.YtjgfbicllgalkaaGreatDoor.Cs
set_option maxRecDepth 100000
open Go.RowKit

theorem latin_next {l pre r : List UInt8} {k : Nat} {c : UInt8} (hc : l.drop k = c :: l.drop (k + 1)) (h : pre ++ latin (l.drop k) = r) : (pre ++ Lib.encodeRune (c.toNat : Int)) ++ latin (l.drop (k + 1)) = r := by
  rw [← h, hc, latin_cons, List.append_assoc]
theorem drop_at (s : ByteArray) (k : Nat) (h : k < s.size) : s.data.toList.drop k = s[k] :: s.data.toList.drop (k + 1) := by
  rw [List.drop_eq_getElem_cons (by rw [list_size]; exact h)]; rfl
theorem enc1_length (c : UInt8) : (Lib.encodeRune (c.toNat : Int)).length ≤ 2 := by
  rcases enc1 c with ⟨_, e⟩ | ⟨_, e⟩ <;> rw [e] <;> simp

set_option maxHeartbeats 800000 in
theorem ofBytes_any (s : ByteArray) (hs : s.size ≤ 68719476736) (w : World) :
    Calls Tryz.prog 277 #[.string s] w fun e w' => e = .returned (.string ⟨(latin s.data.toList).toArray⟩) ∧ Below w.heap.size w w' := by
  go_enter Tryz.func277, Tryz.ntmps277
  go_wp2
  go_loopw [3, 7] (fun v i wr => ∃ (k : Nat) (l : List UInt8), k ≤ s.size ∧ i = .int .i64 k ∧ Hid (l ++ latin (s.data.toList.drop k) = latin s.data.toList) ∧ l.length ≤ 2 * k ∧ Bytes.Has wr w.heap.size v l ∧ Below w.heap.size w wr) (fun _ i _ => s.size - (intOf i).toNat)
  case atStart => exact ⟨0, [], Nat.zero_le _, rfl, Lib.hid (by simp), by simp, Bytes.Has.nil _ _, Below.refl _ _⟩
  case round =>
    obtain ⟨k, l, hk, rfl, hl, hll, hown, hbel⟩ := hrel
    have hz := hbel.size
    by_cases hlt : k < s.size
    · obtain ⟨c, hc⟩ : ∃ c, s[k] = c := ⟨_, rfl⟩
      have HL := Lib.hid (latin_next (by rw [drop_at s k hlt, hc]) hl.out)
      have C := Lib.hid (add_any w.heap.size _ l c wr hown (by omega) hz)
      have h2 := enc1_length c
      have hc8 := c.toNat_lt
      go_wp2_with fail
      refine C.out.mono ?_
      rintro e w1 ⟨v', rfl, hown1, b1⟩
      go_wp2_with fail
      go_roundw
      case rel => exact ⟨k + 1, _, by omega, by go_num, HL, by rw [List.length_append]; omega, hown1, hbel.trans b1⟩
      case measure => simp [intOf]; omega
    · obtain rfl : k = s.size := by omega
      have HE := Lib.hid (show l = latin s.data.toList by rw [← hl.out, List.drop_eq_nil_of_le (by rw [list_size]; exact Nat.le_refl _)]; simp [latin])
      have ht := hown.text
      rw [HE.out] at ht
      go_wp2_with fail
      go_ret
      exact ⟨rfl, hbel⟩
end Go.Proofs.YtjgfbicllgalkaaGreatDoor.Cs

namespace Go.Proofs.YtjgfbicllgalkaaGreatDoor.Cs
set_option maxRecDepth 100000
open Go.RowKit

theorem ret_one {l : List UInt8} {a k : Nat} (h : oneP l = (a, k)) : Ending.returned (.tuple #[.int .i64 (a : Int), .int .i64 (k : Int)]) = .returned (.tuple #[.int .i64 ((oneP l).1 : Int), .int .i64 ((oneP l).2 : Int)]) := by rw [h]
/-- What the document's own letter answers. -/
def OneIs (s : ByteArray) (w : World) (e : Ending) (w' : World) : Prop := e = .returned (.tuple #[.int .i64 ((oneP s.data.toList).1 : Int), .int .i64 ((oneP s.data.toList).2 : Int)]) ∧ w = w'
theorem OneIs.mk {s : ByteArray} {w : World} {a k : Nat} (h : oneP s.data.toList = (a, k)) : OneIs s w (.returned (.tuple #[.int .i64 (a : Int), .int .i64 (k : Int)])) w := ⟨ret_one h, rfl⟩
theorem byte_at {s : ByteArray} {k : Nat} (h : k < s.size) : (s.data.toList.getD k 0) = s[k] := by
  rw [List.getD_eq_getElem?_getD, List.getElem?_eq_getElem (by rw [Array.length_toList]; exact h)]; rfl
theorem full_of {s : ByteArray} (h : 0 < s.size) : s.toList.isEmpty = false := by
  rw [ByteArray.toList_eq]; cases e : s.data.toList with | nil => have := list_size s; rw [e] at this; simp at this; omega | cons a r => rfl
theorem oneP_at {s : ByteArray} (h : 0 < s.size) : oneP s.data.toList = oneN s.size (s[0]).toNat (s.data.toList.getD 1 0).toNat (s.data.toList.getD 2 0).toNat (s.data.toList.getD 3 0).toNat := by
  rw [oneP_N (fun e => by have := list_size s; rw [e] at this; simp at this; omega), list_size, byte_at h]

set_option maxHeartbeats 1000000 in
theorem refOne_none (s : ByteArray) (h : s.size = 0) (w : World) : Calls Tryz.prog 187 #[.string s] w (OneIs s w) := by
  have hl : s.data.toList = [] := List.eq_nil_of_length_eq_zero (by rw [list_size]; exact h)
  have he : s.toList.isEmpty = true := by rw [ByteArray.toList_eq, hl]; rfl
  have H : Hid (oneP s.data.toList = (0, 0)) := Lib.hid (by rw [hl]; rfl)
  clear hl
  go_enter Tryz.func187, Tryz.ntmps187
  go_wp2_with fail
  go_ret2
  exact OneIs.mk H.out
set_option maxHeartbeats 1000000 in
theorem refOne_0 (s : ByteArray) (h0 : 0 < s.size) (c : UInt8) (hc : s[0] = c) (h1 : c.toNat < 128) (w : World) : Calls Tryz.prog 187 #[.string s] w (OneIs s w) := by
  have he := full_of h0
  have H : Hid (oneP s.data.toList = (c.toNat, 1)) := Lib.hid (by rw [oneP_at h0, hc, one0 h1])
  have z1 : (c.toNat : Int) < 128 := by omega
  go_enter Tryz.func187, Tryz.ntmps187
  go_wp2_with fail
  go_ret2
  exact OneIs.mk H.out
set_option maxHeartbeats 1000000 in
theorem refOne_X (s : ByteArray) (h0 : 0 < s.size) (c : UInt8) (hc : s[0] = c) (h1 : (128 ≤ c.toNat ∧ c.toNat < 192) ∨ (248 ≤ c.toNat ∧ c.toNat < 256)) (w : World) : Calls Tryz.prog 187 #[.string s] w (OneIs s w) := by
  have he := full_of h0
  have H : Hid (oneP s.data.toList = (0, 0)) := Lib.hid (by rw [oneP_at h0, hc, oneX h1])
  rcases h1 with ⟨h1, h2⟩ | ⟨h1, h2⟩
  · have z1 : 128 ≤ (c.toNat : Int) := by omega
    have z2 : (c.toNat : Int) < 192 := by omega
    go_enter Tryz.func187, Tryz.ntmps187
    go_wp2_with fail
    go_ret2
    exact OneIs.mk H.out
  · have z1 : 248 ≤ (c.toNat : Int) := by omega
    go_enter Tryz.func187, Tryz.ntmps187
    go_wp2_with fail
    go_ret2
    exact OneIs.mk H.out
set_option maxHeartbeats 4000000 in
theorem refOne_2 (s : ByteArray) (hs : s.size ≤ 140737488355328) (h0 : 0 < s.size) (c : UInt8) (hc : s[0] = c) (h1 : 192 ≤ c.toNat) (h2 : c.toNat < 224) (w : World) : Calls Tryz.prog 187 #[.string s] w (OneIs s w) := by
  have he := full_of h0
  have z1 : 192 ≤ (c.toNat : Int) := by omega
  have z2 : (c.toNat : Int) < 224 := by omega
  have d0 : decide ((c.toNat : Int) < 128) = false := decide_eq_false (by omega)
  have hP := oneP_at h0
  rw [hc] at hP
  by_cases hn : s.size < 2
  · have H : Hid (oneP s.data.toList = (0, 0)) := Lib.hid (by rw [hP, one2 ⟨h1, h2⟩ (UInt8.toNat_lt _), if_pos (.inl hn)])
    clear hP
    go_enter Tryz.func187, Tryz.ntmps187
    go_wp2_with fail
    go_ret2
    exact OneIs.mk H.out
  · obtain ⟨b1, hb1⟩ : ∃ b, s[1]'(by omega) = b := ⟨_, rfl⟩
    rw [byte_at (show 1 < s.size by omega), hb1, one2 ⟨h1, h2⟩ b1.toNat_lt] at hP
    have HP := Lib.hid hP
    clear hP
    have dn : decide ((s.size : Int) < 2) = false := decide_eq_false (by omega)
    have l1 := b1.toNat_lt
    go_enter Tryz.func187, Tryz.ntmps187
    go_wp2_with fail
    clear d0 dn
    go_loop [6, 8] (fun xv iv => ∃ (k X : Nat), iv = .int .i64 (k : Int) ∧ xv = .int .i64 (X : Int) ∧ ((k = 1 ∧ X < 32 ∧ Hid (X = c.toNat % 32)) ∨ (k = 2 ∧ X < 2048 ∧ Hid ((128 ≤ b1.toNat ∧ b1.toNat < 192) ∧ X = 64 * (c.toNat % 32) + b1.toNat % 64)))) (fun _ iv => (2 - intOf iv).toNat)
    case atStart => exact ⟨1, c.toNat % 32, rfl, by go_num, .inl ⟨rfl, by omega, Lib.hid rfl⟩⟩
    case round =>
      obtain ⟨k, X, rfl, rfl, ⟨rfl, hX, hk⟩ | ⟨rfl, hX, hk⟩⟩ := hrel
      · by_cases u1 : (b1.toNat : Int) < 128
        · have H : Hid (oneP s.data.toList = (0, 0)) := Lib.hid (by rw [HP.out, if_pos (by omega)])
          go_wp2_with fail
          go_ret2
          exact OneIs.mk H.out
        · by_cases u2 : 192 ≤ (b1.toNat : Int)
          · have H : Hid (oneP s.data.toList = (0, 0)) := Lib.hid (by rw [HP.out, if_pos (by omega)])
            go_wp2_with fail
            go_ret2
            exact OneIs.mk H.out
          · have HX : Hid ((128 ≤ b1.toNat ∧ b1.toNat < 192) ∧ 64 * X + b1.toNat % 64 = 64 * (c.toNat % 32) + b1.toNat % 64) := Lib.hid (by have := hk.out; omega)
            go_wp2_with fail
            go_round
            case rel => exact ⟨2, 64 * X + b1.toNat % 64, by go_num, by go_num, .inr (⟨rfl, by omega, HX⟩)⟩
            case measure => simp [intOf]
      · have hq := hk.out
        by_cases u1 : (X : Int) < 128
        · have H : Hid (oneP s.data.toList = (0, 0)) := Lib.hid (by rw [HP.out, if_pos (by omega)])
          have e1 : decide ((X : Int) < 128) = true := decide_eq_true (by omega)
          clear hq hX u1
          go_wp2_with fail
          go_ret2
          exact OneIs.mk H.out
        · have H : Hid (oneP s.data.toList = (X, 2)) := Lib.hid (by rw [HP.out, if_neg (by omega), ← hq.2])
          have e1 : decide ((X : Int) < 128) = false := decide_eq_false (by omega)
          have e2 : decide (55296 ≤ (X : Int)) = false := decide_eq_false (by omega)
          have e4 : decide (1114111 < (X : Int)) = false := decide_eq_false (by omega)
          clear hq hX u1
          go_wp2_with fail
          go_ret2
          exact OneIs.mk H.out
set_option maxHeartbeats 4000000 in
theorem refOne_3 (s : ByteArray) (hs : s.size ≤ 140737488355328) (h0 : 0 < s.size) (c : UInt8) (hc : s[0] = c) (h1 : 224 ≤ c.toNat) (h2 : c.toNat < 240) (w : World) : Calls Tryz.prog 187 #[.string s] w (OneIs s w) := by
  have he := full_of h0
  have z1 : 224 ≤ (c.toNat : Int) := by omega
  have z2 : (c.toNat : Int) < 240 := by omega
  have d0 : decide ((c.toNat : Int) < 128) = false := decide_eq_false (by omega)
  have d1 : decide ((c.toNat : Int) < 224) = false := decide_eq_false (by omega)
  have hP := oneP_at h0
  rw [hc] at hP
  by_cases hn : s.size < 3
  · have H : Hid (oneP s.data.toList = (0, 0)) := Lib.hid (by rw [hP, one3 ⟨h1, h2⟩ (UInt8.toNat_lt _) (UInt8.toNat_lt _), if_pos (.inl hn)])
    clear hP
    go_enter Tryz.func187, Tryz.ntmps187
    go_wp2_with fail
    go_ret2
    exact OneIs.mk H.out
  · obtain ⟨b1, hb1⟩ : ∃ b, s[1]'(by omega) = b := ⟨_, rfl⟩
    obtain ⟨b2, hb2⟩ : ∃ b, s[2]'(by omega) = b := ⟨_, rfl⟩
    rw [byte_at (show 1 < s.size by omega), hb1, byte_at (show 2 < s.size by omega), hb2, one3 ⟨h1, h2⟩ b1.toNat_lt b2.toNat_lt] at hP
    have HP := Lib.hid hP
    clear hP
    have dn : decide ((s.size : Int) < 3) = false := decide_eq_false (by omega)
    have l1 := b1.toNat_lt
    have l2 := b2.toNat_lt
    go_enter Tryz.func187, Tryz.ntmps187
    go_wp2_with fail
    clear d0 d1 dn
    go_loop [6, 8] (fun xv iv => ∃ (k X : Nat), iv = .int .i64 (k : Int) ∧ xv = .int .i64 (X : Int) ∧ ((k = 1 ∧ X < 16 ∧ Hid (X = c.toNat % 16)) ∨ (k = 2 ∧ X < 1024 ∧ Hid ((128 ≤ b1.toNat ∧ b1.toNat < 192) ∧ X = 64 * (c.toNat % 16) + b1.toNat % 64)) ∨ (k = 3 ∧ X < 65536 ∧ Hid ((128 ≤ b1.toNat ∧ b1.toNat < 192) ∧ (128 ≤ b2.toNat ∧ b2.toNat < 192) ∧ X = 64 * (64 * (c.toNat % 16) + b1.toNat % 64) + b2.toNat % 64)))) (fun _ iv => (3 - intOf iv).toNat)
    case atStart => exact ⟨1, c.toNat % 16, rfl, by go_num, .inl ⟨rfl, by omega, Lib.hid rfl⟩⟩
    case round =>
      obtain ⟨k, X, rfl, rfl, ⟨rfl, hX, hk⟩ | ⟨rfl, hX, hk⟩ | ⟨rfl, hX, hk⟩⟩ := hrel
      · by_cases u1 : (b1.toNat : Int) < 128
        · have H : Hid (oneP s.data.toList = (0, 0)) := Lib.hid (by rw [HP.out, if_pos (by omega)])
          go_wp2_with fail
          go_ret2
          exact OneIs.mk H.out
        · by_cases u2 : 192 ≤ (b1.toNat : Int)
          · have H : Hid (oneP s.data.toList = (0, 0)) := Lib.hid (by rw [HP.out, if_pos (by omega)])
            go_wp2_with fail
            go_ret2
            exact OneIs.mk H.out
          · have HX : Hid ((128 ≤ b1.toNat ∧ b1.toNat < 192) ∧ 64 * X + b1.toNat % 64 = 64 * (c.toNat % 16) + b1.toNat % 64) := Lib.hid (by have := hk.out; omega)
            go_wp2_with fail
            go_round
            case rel => exact ⟨2, 64 * X + b1.toNat % 64, by go_num, by go_num, .inr (.inl ⟨rfl, by omega, HX⟩)⟩
            case measure => simp [intOf]
      · by_cases u1 : (b2.toNat : Int) < 128
        · have H : Hid (oneP s.data.toList = (0, 0)) := Lib.hid (by rw [HP.out, if_pos (by omega)])
          go_wp2_with fail
          go_ret2
          exact OneIs.mk H.out
        · by_cases u2 : 192 ≤ (b2.toNat : Int)
          · have H : Hid (oneP s.data.toList = (0, 0)) := Lib.hid (by rw [HP.out, if_pos (by omega)])
            go_wp2_with fail
            go_ret2
            exact OneIs.mk H.out
          · have HX : Hid ((128 ≤ b1.toNat ∧ b1.toNat < 192) ∧ (128 ≤ b2.toNat ∧ b2.toNat < 192) ∧ 64 * X + b2.toNat % 64 = 64 * (64 * (c.toNat % 16) + b1.toNat % 64) + b2.toNat % 64) := Lib.hid (by have := hk.out; omega)
            go_wp2_with fail
            go_round
            case rel => exact ⟨3, 64 * X + b2.toNat % 64, by go_num, by go_num, .inr (.inr (⟨rfl, by omega, HX⟩))⟩
            case measure => simp [intOf]
      · have hq := hk.out
        by_cases u1 : (X : Int) < 2048
        · have H : Hid (oneP s.data.toList = (0, 0)) := Lib.hid (by rw [HP.out, if_pos (by omega)])
          have e1 : decide ((X : Int) < 2048) = true := decide_eq_true (by omega)
          clear hq hX u1
          go_wp2_with fail
          go_ret2
          exact OneIs.mk H.out
        · by_cases u2 : 55296 ≤ (X : Int)
          · by_cases u3 : (X : Int) < 57344
            · have H : Hid (oneP s.data.toList = (0, 0)) := Lib.hid (by rw [HP.out, if_pos (by omega)])
              have e1 : decide ((X : Int) < 2048) = false := decide_eq_false (by omega)
              have e2 : decide (55296 ≤ (X : Int)) = true := decide_eq_true (by omega)
              have e3 : decide ((X : Int) < 57344) = true := decide_eq_true (by omega)
              clear hq hX u1 u2 u3
              go_wp2_with fail
              go_ret2
              exact OneIs.mk H.out
            · have H : Hid (oneP s.data.toList = (X, 3)) := Lib.hid (by rw [HP.out, if_neg (by omega), ← hq.2.2])
              have e1 : decide ((X : Int) < 2048) = false := decide_eq_false (by omega)
              have e2 : decide (55296 ≤ (X : Int)) = true := decide_eq_true (by omega)
              have e3 : decide ((X : Int) < 57344) = false := decide_eq_false (by omega)
              have e4 : decide (1114111 < (X : Int)) = false := decide_eq_false (by omega)
              clear hq hX u1 u2 u3
              go_wp2_with fail
              go_ret2
              exact OneIs.mk H.out
          · have H : Hid (oneP s.data.toList = (X, 3)) := Lib.hid (by rw [HP.out, if_neg (by omega), ← hq.2.2])
            have e1 : decide ((X : Int) < 2048) = false := decide_eq_false (by omega)
            have e2 : decide (55296 ≤ (X : Int)) = false := decide_eq_false (by omega)
            have e4 : decide (1114111 < (X : Int)) = false := decide_eq_false (by omega)
            clear hq hX u1 u2
            go_wp2_with fail
            go_ret2
            exact OneIs.mk H.out
set_option maxHeartbeats 4000000 in
theorem refOne_4 (s : ByteArray) (hs : s.size ≤ 140737488355328) (h0 : 0 < s.size) (c : UInt8) (hc : s[0] = c) (h1 : 240 ≤ c.toNat) (h2 : c.toNat < 248) (w : World) : Calls Tryz.prog 187 #[.string s] w (OneIs s w) := by
  have he := full_of h0
  have z1 : 240 ≤ (c.toNat : Int) := by omega
  have z2 : (c.toNat : Int) < 248 := by omega
  have d0 : decide ((c.toNat : Int) < 128) = false := decide_eq_false (by omega)
  have d1 : decide ((c.toNat : Int) < 224) = false := decide_eq_false (by omega)
  have d2 : decide ((c.toNat : Int) < 240) = false := decide_eq_false (by omega)
  have hP := oneP_at h0
  rw [hc] at hP
  by_cases hn : s.size < 4
  · have H : Hid (oneP s.data.toList = (0, 0)) := Lib.hid (by rw [hP, one4 ⟨h1, h2⟩ (UInt8.toNat_lt _) (UInt8.toNat_lt _) (UInt8.toNat_lt _), if_pos (.inl hn)])
    clear hP
    go_enter Tryz.func187, Tryz.ntmps187
    go_wp2_with fail
    go_ret2
    exact OneIs.mk H.out
  · obtain ⟨b1, hb1⟩ : ∃ b, s[1]'(by omega) = b := ⟨_, rfl⟩
    obtain ⟨b2, hb2⟩ : ∃ b, s[2]'(by omega) = b := ⟨_, rfl⟩
    obtain ⟨b3, hb3⟩ : ∃ b, s[3]'(by omega) = b := ⟨_, rfl⟩
    rw [byte_at (show 1 < s.size by omega), hb1, byte_at (show 2 < s.size by omega), hb2, byte_at (show 3 < s.size by omega), hb3, one4 ⟨h1, h2⟩ b1.toNat_lt b2.toNat_lt b3.toNat_lt] at hP
    have HP := Lib.hid hP
    clear hP
    have dn : decide ((s.size : Int) < 4) = false := decide_eq_false (by omega)
    have l1 := b1.toNat_lt
    have l2 := b2.toNat_lt
    have l3 := b3.toNat_lt
    go_enter Tryz.func187, Tryz.ntmps187
    go_wp2_with fail
    clear d0 d1 d2 dn
    go_loop [6, 8] (fun xv iv => ∃ (k X : Nat), iv = .int .i64 (k : Int) ∧ xv = .int .i64 (X : Int) ∧ ((k = 1 ∧ X < 8 ∧ Hid (X = c.toNat % 8)) ∨ (k = 2 ∧ X < 512 ∧ Hid ((128 ≤ b1.toNat ∧ b1.toNat < 192) ∧ X = 64 * (c.toNat % 8) + b1.toNat % 64)) ∨ (k = 3 ∧ X < 32768 ∧ Hid ((128 ≤ b1.toNat ∧ b1.toNat < 192) ∧ (128 ≤ b2.toNat ∧ b2.toNat < 192) ∧ X = 64 * (64 * (c.toNat % 8) + b1.toNat % 64) + b2.toNat % 64)) ∨ (k = 4 ∧ X < 2097152 ∧ Hid ((128 ≤ b1.toNat ∧ b1.toNat < 192) ∧ (128 ≤ b2.toNat ∧ b2.toNat < 192) ∧ (128 ≤ b3.toNat ∧ b3.toNat < 192) ∧ X = 64 * (64 * (64 * (c.toNat % 8) + b1.toNat % 64) + b2.toNat % 64) + b3.toNat % 64)))) (fun _ iv => (4 - intOf iv).toNat)
    case atStart => exact ⟨1, c.toNat % 8, rfl, by go_num, .inl ⟨rfl, by omega, Lib.hid rfl⟩⟩
    case round =>
      obtain ⟨k, X, rfl, rfl, ⟨rfl, hX, hk⟩ | ⟨rfl, hX, hk⟩ | ⟨rfl, hX, hk⟩ | ⟨rfl, hX, hk⟩⟩ := hrel
      · by_cases u1 : (b1.toNat : Int) < 128
        · have H : Hid (oneP s.data.toList = (0, 0)) := Lib.hid (by rw [HP.out, if_pos (by omega)])
          go_wp2_with fail
          go_ret2
          exact OneIs.mk H.out
        · by_cases u2 : 192 ≤ (b1.toNat : Int)
          · have H : Hid (oneP s.data.toList = (0, 0)) := Lib.hid (by rw [HP.out, if_pos (by omega)])
            go_wp2_with fail
            go_ret2
            exact OneIs.mk H.out
          · have HX : Hid ((128 ≤ b1.toNat ∧ b1.toNat < 192) ∧ 64 * X + b1.toNat % 64 = 64 * (c.toNat % 8) + b1.toNat % 64) := Lib.hid (by have := hk.out; omega)
            go_wp2_with fail
            go_round
            case rel => exact ⟨2, 64 * X + b1.toNat % 64, by go_num, by go_num, .inr (.inl ⟨rfl, by omega, HX⟩)⟩
            case measure => simp [intOf]
      · by_cases u1 : (b2.toNat : Int) < 128
        · have H : Hid (oneP s.data.toList = (0, 0)) := Lib.hid (by rw [HP.out, if_pos (by omega)])
          go_wp2_with fail
          go_ret2
          exact OneIs.mk H.out
        · by_cases u2 : 192 ≤ (b2.toNat : Int)
          · have H : Hid (oneP s.data.toList = (0, 0)) := Lib.hid (by rw [HP.out, if_pos (by omega)])
            go_wp2_with fail
            go_ret2
            exact OneIs.mk H.out
          · have HX : Hid ((128 ≤ b1.toNat ∧ b1.toNat < 192) ∧ (128 ≤ b2.toNat ∧ b2.toNat < 192) ∧ 64 * X + b2.toNat % 64 = 64 * (64 * (c.toNat % 8) + b1.toNat % 64) + b2.toNat % 64) := Lib.hid (by have := hk.out; omega)
            go_wp2_with fail
            go_round
            case rel => exact ⟨3, 64 * X + b2.toNat % 64, by go_num, by go_num, .inr (.inr (.inl ⟨rfl, by omega, HX⟩))⟩
            case measure => simp [intOf]
      · by_cases u1 : (b3.toNat : Int) < 128
        · have H : Hid (oneP s.data.toList = (0, 0)) := Lib.hid (by rw [HP.out, if_pos (by omega)])
          go_wp2_with fail
          go_ret2
          exact OneIs.mk H.out
        · by_cases u2 : 192 ≤ (b3.toNat : Int)
          · have H : Hid (oneP s.data.toList = (0, 0)) := Lib.hid (by rw [HP.out, if_pos (by omega)])
            go_wp2_with fail
            go_ret2
            exact OneIs.mk H.out
          · have HX : Hid ((128 ≤ b1.toNat ∧ b1.toNat < 192) ∧ (128 ≤ b2.toNat ∧ b2.toNat < 192) ∧ (128 ≤ b3.toNat ∧ b3.toNat < 192) ∧ 64 * X + b3.toNat % 64 = 64 * (64 * (64 * (c.toNat % 8) + b1.toNat % 64) + b2.toNat % 64) + b3.toNat % 64) := Lib.hid (by have := hk.out; omega)
            go_wp2_with fail
            go_round
            case rel => exact ⟨4, 64 * X + b3.toNat % 64, by go_num, by go_num, .inr (.inr (.inr (⟨rfl, by omega, HX⟩)))⟩
            case measure => simp [intOf]
      · have hq := hk.out
        by_cases u1 : (X : Int) < 65536
        · have H : Hid (oneP s.data.toList = (0, 0)) := Lib.hid (by rw [HP.out, if_pos (by omega)])
          have e1 : decide ((X : Int) < 65536) = true := decide_eq_true (by omega)
          clear hq hX u1
          go_wp2_with fail
          go_ret2
          exact OneIs.mk H.out
        · by_cases u3 : 1114111 < (X : Int)
          · have H : Hid (oneP s.data.toList = (0, 0)) := Lib.hid (by rw [HP.out, if_pos (by omega)])
            have e1 : decide ((X : Int) < 65536) = false := decide_eq_false (by omega)
            have e2 : decide (55296 ≤ (X : Int)) = true := decide_eq_true (by omega)
            have e3 : decide ((X : Int) < 57344) = false := decide_eq_false (by omega)
            have e4 : decide (1114111 < (X : Int)) = true := decide_eq_true (by omega)
            clear hq hX u1 u3
            go_wp2_with fail
            go_ret2
            exact OneIs.mk H.out
          · have H : Hid (oneP s.data.toList = (X, 4)) := Lib.hid (by rw [HP.out, if_neg (by omega), ← hq.2.2.2])
            have e1 : decide ((X : Int) < 65536) = false := decide_eq_false (by omega)
            have e2 : decide (55296 ≤ (X : Int)) = true := decide_eq_true (by omega)
            have e3 : decide ((X : Int) < 57344) = false := decide_eq_false (by omega)
            have e4 : decide (1114111 < (X : Int)) = false := decide_eq_false (by omega)
            clear hq hX u1 u3
            go_wp2_with fail
            go_ret2
            exact OneIs.mk H.out
theorem refOne_any (s : ByteArray) (hs : s.size ≤ 140737488355328) (w : World) : Calls Tryz.prog 187 #[.string s] w (OneIs s w) := by
  by_cases h0 : s.size = 0
  · exact refOne_none s h0 w
  · have h0 : 0 < s.size := by omega
    obtain ⟨c, hc⟩ : ∃ c, s[0] = c := ⟨_, rfl⟩
    have hl := c.toNat_lt
    by_cases c1 : c.toNat < 128
    · exact refOne_0 s h0 c hc c1 w
    · by_cases c2 : 192 ≤ c.toNat ∧ c.toNat < 248
      · by_cases c3 : c.toNat < 224
        · exact refOne_2 s hs h0 c hc c2.1 c3 w
        · by_cases c4 : c.toNat < 240
          · exact refOne_3 s hs h0 c hc (by omega) c4 w
          · exact refOne_4 s hs h0 c hc (by omega) c2.2 w
      · exact refOne_X s h0 c hc (by omega) w
end Go.Proofs.YtjgfbicllgalkaaGreatDoor.Cs

namespace Go.Proofs.YtjgfbicllgalkaaGreatDoor.Cs
set_option maxRecDepth 100000
open Go.RowKit

def rcells (l : List Nat) : List Value := l.map fun x : Nat => Value.int .i32 (x : Int)
theorem rcells_length (l : List Nat) : (rcells l).length = l.length := by simp [rcells]
theorem rcells_snoc (l : List Nat) (x : Nat) : rcells (l ++ [x]) = rcells l ++ [.int .i32 (x : Int)] := by simp [rcells]
/-- The slice v holds the letters l, in a row of the call's own (blocks from base on). -/
def Runes (w : World) (base : Nat) (v : Value) (l : List Nat) : Prop := w.ownsRow base 21 1 v l.length (rcells l)
theorem infoRune : (Tryz.prog.info? 21).map (fun i => (i.zero, i.size, i.bytes)) = some (some (.int .i32 0), 1, 4) := by kernel_rfl
theorem runes_snoc {base : Nat} {l : List Nat} {x : Nat} {w' : World} {v' : Value} (hown : w'.ownsRow base 21 1 v' (l.length + 1) (rcells l ++ [.int .i32 (x : Int)])) : Runes w' base v' (l ++ [x]) := by
  unfold Runes; rw [rcells_snoc, List.length_append]; exact hown
theorem Runes.keep {w w' : World} {base : Nat} {v : Value} {l : List Nat} (h : Runes w base v l) (hb : Below w.heap.size w w') : Runes w' base v l := by
  refine h.kept (row := none) ⟨hb.os, hb.tape, hb.output, hb.size, fun k hk _ => hb.block k hk⟩ ?_
  cases e : v.ownBlock with
  | none => exact .inl rfl
  | some k => exact .inr (by simp)
/-- A row of letters, laid open. -/
theorem Runes.at_ {w : World} {base : Nat} {v : Value} {l : List Nat} (h : Runes w base v l) :
    ∃ a cap, v = .slice a l.length cap ∧ ∀ i (hi : i < l.length), ∃ g, a = some ⟨g, 0, none⟩ ∧ (base ≤ g ∧ g < w.heap.size) ∧ w.cell? ⟨g, i, none⟩ = some (.int .i32 (l[i] : Int)) := by
  obtain ⟨hl, ⟨rfl, h0⟩ | ⟨g, cap, cur, rfl, hb, hg, _, _, _, ht⟩⟩ := h
  · exact ⟨none, 0, by rw [h0], fun i hi => by omega⟩
  · refine ⟨_, cap, rfl, fun i hi => ⟨g, rfl, ⟨hb, (Array.getElem?_eq_some_iff.1 hg).1⟩, ?_⟩⟩
    have hn : (rcells l)[i]? = some (.int .i32 (l[i] : Int)) := by simp [rcells, hi]
    rw [← ht] at hn
    have h2 := Lib.cells_of_row hg _ i _ hn
    rwa [Lib.addr_add, Nat.zero_add] at h2
theorem oneP_bad {l : List UInt8} (hne : l ≠ []) (hb : bad l = true) : oneP l = (0, 0) := by unfold oneP; rw [if_neg hne, if_pos hb]
theorem oneP_good {l : List UInt8} (hne : l ≠ []) (hb : bad l = false) : oneP l = Lib.decodeL l := by unfold oneP; rw [if_neg hne, hb, if_neg (by simp)]
theorem full_not {t : ByteArray} (h : 0 < t.size) : (!t.toList.isEmpty) = true := by rw [full_of h]; rfl
theorem none_not {t : ByteArray} (h : ¬ 0 < t.size) : (!t.toList.isEmpty) = false := by
  rw [ByteArray.toList_eq, List.eq_nil_of_length_eq_zero (l := t.data.toList) (by rw [list_size]; omega)]; rfl
/-- What the document's own step answers, in plain words. -/
theorem one_cases {t : ByteArray} (h : 0 < t.size) :
    (oneP t.data.toList = (0, 0) ∧ lets t.data.toList = [] ∧ Lib.validD t.data.toList = false) ∨
    (∃ x n : Nat, oneP t.data.toList = (x, n) ∧ 1 ≤ n ∧ n ≤ t.size ∧ x ≤ 1114111 ∧ lets t.data.toList = x :: lets (t.extract n t.size).data.toList ∧ Lib.validD t.data.toList = Lib.validD (t.extract n t.size).data.toList ∧ (t.extract n t.size).size = t.size - n) := by
  have hne : t.data.toList ≠ [] := fun e => by have := list_size t; rw [e] at this; simp at this; omega
  rcases hb : bad t.data.toList with _ | _
  · right
    exact ⟨(Lib.decodeL t.data.toList).1, (Lib.decodeL t.data.toList).2, oneP_good hne hb, Lib.decodeL_width _, by rw [← list_size]; exact Lib.decodeL_le _ hne, Lib.decodeL_rune _, by rw [lets_good hne hb, Lib.ext_list], by rw [valid_good hne hb, Lib.ext_list], Lib.ext_size _ _⟩
  · exact .inl ⟨oneP_bad hne hb, lets_bad hne hb, valid_bad hne hb⟩
/-- The letters' row, and whether the text is right. -/
def LetsIs (s : ByteArray) (w : World) (e : Ending) (W' : World) : Prop := ∃ v, e = .returned (.tuple #[v, .bool (Lib.validD s.data.toList)]) ∧ Runes W' w.heap.size v (lets s.data.toList) ∧ Below w.heap.size w W'

set_option maxHeartbeats 1000000 in
theorem refLetters_any (s : ByteArray) (hs : s.size ≤ 68719476736) (w : World) :
    Calls Tryz.prog 118 #[.string s] w (LetsIs s w) := by
  obtain ⟨i0, hi, hz0, hz1, hz2⟩ := info_parts infoRune
  go_enter Tryz.func118, Tryz.ntmps118
  go_wp2_with fail
  go_loopw [0, 4] (fun tv v wr => ∃ (t : ByteArray) (l : List Nat), tv = .string t ∧ Hid (l ++ lets t.data.toList = lets s.data.toList ∧ Lib.validD t.data.toList = Lib.validD s.data.toList) ∧ l.length + t.size ≤ s.size ∧ Runes wr w.heap.size v l ∧ Below w.heap.size w wr) (fun tv _ _ => match tv with | .string t => t.size | _ => 0)
  case atStart => exact ⟨s, [], rfl, Lib.hid ⟨by rw [List.nil_append], rfl⟩, by simp, World.ownsRow_nil _ _ _ _, Below.refl _ _⟩
  case round =>
    obtain ⟨t, l, rfl, hl, hll, hown, hbel⟩ := hrel
    have hz := hbel.size
    by_cases h0 : 0 < t.size
    · have hse := full_not h0
      have C := Lib.hid (fun W => refOne_any t (by omega) W)
      rcases one_cases h0 with ⟨h1, h2, h3⟩ | ⟨x, n, h1, hn1, hn2, hx, h2, h3, h4⟩
      · have HE := Lib.hid (show l = lets s.data.toList ∧ Lib.validD s.data.toList = false by have := hl.out; rw [h2, List.append_nil] at this; exact ⟨this.1, this.2.symm.trans h3⟩)
        unfold OneIs at C
        rw [h1] at C
        clear h1 h2 h3
        go_wp2_with fail
        refine (C.out _).mono ?_
        rintro e w1 ⟨rfl, rfl⟩
        go_wp2_with fail
        go_ret2
        exact ⟨_, by rw [HE.out.2]; rfl, by rw [← HE.out.1]; exact hown, hbel⟩
      · have HL := Lib.hid (show (l ++ [x]) ++ lets (t.extract n t.size).data.toList = lets s.data.toList ∧ Lib.validD (t.extract n t.size).data.toList = Lib.validD s.data.toList by have := hl.out; rw [h2] at this; exact ⟨by rw [← this.1, List.append_assoc]; rfl, h3.symm.trans this.2⟩)
        have HSZ := Lib.hid h4
        unfold OneIs at C
        rw [h1] at C
        clear h1 h2 h3 h4
        have hnn : ((n : Int) == 0) = false := by simp; omega
        go_wp2_with fail
        refine (C.out _).mono ?_
        rintro e w1 ⟨rfl, rfl⟩
        go_wp2_with (at_builtin; refine wpList_append_own _ rfl _ _ 148 rfl w.heap.size 21 i0 (.int .i32 0) 1 4 Tryz.underlying148 hi hz0 hz1 hz2 rfl (by decide) _ _ _ rfl (World.ownsRow.alloc hown _) ⟨wr.heap.size, 0, none⟩ 1 1 [.int .i32 (x : Int)] rfl rfl (World.news_of_block (cs := #[.int .i32 (x : Int)]) (t := 21) (fr := (0, 0)) (heap_alloc_new wr _)) (by simp [Value.oneCell']) (by unfold maxLen; omega) (by omega) (by simp; omega) ?_; intro v' w1 hown' hgrow _)
        go_roundw
        case rel => exact ⟨_, _, rfl, HL, by rw [List.length_append, HSZ.out]; simp; omega, runes_snoc hown', (hbel.alloc hz _).grown hgrow (by simp; omega) (fun k e => (World.ownsRow.lt hown k e).1)⟩
        case measure => show (t.extract _ t.size).size < t.size; rw [HSZ.out]; omega
    · have HE := Lib.hid (show l = lets s.data.toList ∧ Lib.validD s.data.toList = true by have := hl.out; rw [List.eq_nil_of_length_eq_zero (l := t.data.toList) (by rw [list_size]; omega)] at this; exact ⟨by rw [← this.1, lets_nil, List.append_nil], this.2.symm.trans Lib.validD_nil⟩)
      have hse := none_not h0
      go_wp2_with fail
      go_ret2
      exact ⟨_, by rw [HE.out.2]; rfl, by rw [← HE.out.1]; exact hown, hbel⟩

theorem refValid_any (s : ByteArray) (hs : s.size ≤ 68719476736) (w : World) :
    Calls Tryz.prog 70 #[.string s] w fun e w' => e = .returned (.bool (Lib.validD s.data.toList)) ∧ Below w.heap.size w w' := by
  have C := Lib.hid (refLetters_any s hs w)
  unfold LetsIs at C
  generalize Lib.validD s.data.toList = b at C ⊢
  go_enter Tryz.func70, Tryz.ntmps70
  go_wp2_with fail
  refine C.out.mono ?_
  rintro e w1 ⟨v, rfl, _, b1⟩
  go_wp2_with fail
  go_ret
  exact ⟨rfl, b1⟩
/-- The greatest letter that the document's own charset has. -/
def mostP (k : Int) : Int := if k = 1 then 127 else if k = 2 then 255 else 1114111
theorem refMost_any (k : Int) (w : World) :
    Calls Tryz.prog 212 #[.int .i64 k] w fun e w' => e = .returned (.int .i64 (mostP k)) ∧ w' = w := by
  have h : k = 1 ∨ k = 2 ∨ (¬ k = 1 ∧ ¬ k = 2) := by omega
  rcases h with rfl | rfl | ⟨h1, h2⟩
  · go_enter Tryz.func212, Tryz.ntmps212
    go_wp2
    go_ret
    exact ⟨rfl, rfl⟩
  · go_enter Tryz.func212, Tryz.ntmps212
    go_wp2
    go_ret
    exact ⟨rfl, rfl⟩
  · have H := Lib.hid (show mostP k = 1114111 by unfold mostP; rw [if_neg h1, if_neg h2])
    go_enter Tryz.func212, Tryz.ntmps212
    go_wp2
    go_ret
    exact ⟨by rw [H.out]; rfl, rfl⟩
end Go.Proofs.YtjgfbicllgalkaaGreatDoor.Cs

namespace Go.Proofs.YtjgfbicllgalkaaGreatDoor.Cs
set_option maxRecDepth 100000
open Go.RowKit

theorem conv_row (w : World) (l : List UInt8) (cs : Array Value) (hcs : cs = (l.map fun c => Value.int .u8 (c.toNat : Int)).toArray) (cap : Nat) :
    (convert 103 9 (.slice (some ⟨w.heap.size, 0, none⟩) l.length cap)).run Tryz.prog (w.alloc (.cells cs 5)) = .ok (.string ⟨l.toArray⟩) (w.alloc (.cells cs 5)) := by
  subst hcs
  refine run_convert_bytes_back _ _ _ 5 ⟨w.heap.size, 0, none⟩ cap l Tryz.underlying103 Tryz.underlying5 Tryz.underlying9 fun j hj => ?_
  rw [Lib.addr_add, Nat.zero_add]
  have h := heap_alloc_new w (.cells (l.map fun c => Value.int .u8 (c.toNat : Int)).toArray 5)
  unfold World.cell?
  rw [h]
  simp [hj]
theorem refPut_1 (c : UInt8) (h : c.toNat < 128) (w : World) :
    Calls Tryz.prog 213 #[.int .i64 (c.toNat : Int)] w fun e w' => e = .returned (.string ⟨#[c]⟩) ∧ Below w.heap.size w w' := by
  have z : (c.toNat : Int) < 128 := by omega
  have hconv := conv_row w [c] _ rfl 1
  simp only [List.map_cons, List.map_nil, List.length_cons, List.length_nil, Nat.zero_add] at hconv
  go_enter Tryz.func213, Tryz.ntmps213
  go_wp2_with fail
  go_ret
  exact ⟨rfl, (Below.refl _ _).alloc (Nat.le_refl _) _⟩
theorem refPut_2 (c p q : UInt8) (h : 128 ≤ c.toNat) (hp : 192 + (c.toNat : Int) / 64 = (p.toNat : Int)) (hq : 128 + (c.toNat : Int) % 64 = (q.toNat : Int)) (w : World) :
    Calls Tryz.prog 213 #[.int .i64 (c.toNat : Int)] w fun e w' => e = .returned (.string ⟨#[p, q]⟩) ∧ Below w.heap.size w w' := by
  have hc := c.toNat_lt
  have hp8 := p.toNat_lt
  have hq8 := q.toNat_lt
  have d1 : decide ((c.toNat : Int) < 128) = false := decide_eq_false (by omega)
  have d2 : decide ((c.toNat : Int) < 2048) = true := decide_eq_true (by omega)
  have hconv := conv_row w [p, q] _ rfl 2
  simp only [List.map_cons, List.map_nil, List.length_cons, List.length_nil, Nat.zero_add, Nat.reduceAdd] at hconv
  go_enter Tryz.func213, Tryz.ntmps213
  go_wp2_with fail
  go_ret
  exact ⟨rfl, (Below.refl _ _).alloc (Nat.le_refl _) _⟩
theorem refPut_any (c : UInt8) (w : World) :
    Calls Tryz.prog 213 #[.int .i64 (c.toNat : Int)] w fun e w' => e = .returned (.string ⟨(Lib.encodeRune (c.toNat : Int)).toArray⟩) ∧ Below w.heap.size w w' := by
  have hc := c.toNat_lt
  rcases enc1 c with ⟨h, e⟩ | ⟨h, e⟩
  · rw [e]; exact refPut_1 c h w
  · rw [e]; exact refPut_2 c _ _ h (by rw [UInt8.toNat_ofNat']; omega) (by rw [UInt8.toNat_ofNat']; omega) w
end Go.Proofs.YtjgfbicllgalkaaGreatDoor.Cs

namespace Go.Proofs.YtjgfbicllgalkaaGreatDoor.CsR
set_option maxRecDepth 100000
open Go.RowKit Cs

def Pair (r : List UInt8 × Int) (w : World) (e : Ending) (w' : World) : Prop := e = .returned (.tuple #[.string ⟨r.1.toArray⟩, .int .i64 r.2]) ∧ Below w.heap.size w w'
theorem Pair.mk {r : List UInt8 × Int} {w w' : World} {l : List UInt8} {n : Int} (h : r = (l, n)) (hb : Below w.heap.size w w') : Pair r w (.returned (.tuple #[.string ⟨l.toArray⟩, .int .i64 n])) w' := by subst h; exact ⟨rfl, hb⟩
theorem Pair.own {r : List UInt8 × Int} {w w' : World} {s : ByteArray} {n : Int} (h : r = (s.data.toList, n)) (hb : Below w.heap.size w w') : Pair r w (.returned (.tuple #[.string s, .int .i64 n])) w' := by subst h; exact ⟨by rw [← own_text], hb⟩
theorem below3 {a b c : World} (h : Below a.heap.size a b) (k : Below b.heap.size b c) : Below a.heap.size a c := h.trans (k.mono h.size)
theorem dec_none {k : Int} {l : List UInt8} (h1 : ¬ k = 1) (h2 : ¬ k = 2) (h3 : ¬ k = 3) : dec k l = ([], 5) := by unfold dec; rw [if_neg (by omega), if_neg h3]
theorem enc_none {k : Int} {l : List UInt8} (h1 : ¬ k = 1) (h2 : ¬ k = 2) (h3 : ¬ k = 3) : enc k l = ([], 5) := by unfold enc; rw [if_neg (by omega), if_neg h3]
theorem cat_lists (a b : List UInt8) : ((⟨a.toArray⟩ : ByteArray) ++ ⟨b.toArray⟩) = ⟨(a ++ b).toArray⟩ := by
  apply ByteArray.ext; simp [ByteArray.data_append]
theorem ulen {l : List UInt8} {n : Nat} (h : l.length = n) : (⟨l.toArray⟩ : ByteArray).size = n := by simp [ByteArray.size, h]
theorem enc1_length (c : UInt8) : (Lib.encodeRune (c.toNat : Int)).length ≤ 2 := by
  rcases enc1 c with ⟨_, e⟩ | ⟨_, e⟩ <;> rw [e] <;> simp
theorem within_cut {m : Int} {l : List UInt8} {k : Nat} {c : UInt8} (hc : l.drop k = c :: l.drop (k + 1)) (h : within m ((l.take k).map UInt8.toNat) = true) (hle : (c.toNat : Int) ≤ m) : within m ((l.take (k + 1)).map UInt8.toNat) = true := by
  have hk : k < l.length := by
    rcases Nat.lt_or_ge k l.length with h | h
    · exact h
    · rw [List.drop_eq_nil_of_le h] at hc; cases hc
  rw [List.drop_eq_getElem_cons hk] at hc
  injection hc with hc1 _
  rw [List.take_succ_eq_append_getElem hk, hc1, List.map_append]
  unfold within at *
  rw [List.all_append, h, Bool.true_and]
  simp [hle]
theorem within_over {m : Int} {l : List UInt8} {k : Nat} {c : UInt8} (hc : l.drop k = c :: l.drop (k + 1)) (hle : ¬ (c.toNat : Int) ≤ m) : within m (l.map UInt8.toNat) = false := by
  have hm : c ∈ l := List.mem_of_mem_drop (i := k) (by rw [hc]; exact List.mem_cons_self)
  cases h : within m (l.map UInt8.toNat) with
  | false => rfl
  | true =>
    have := List.all_eq_true.1 h c.toNat (List.mem_map_of_mem hm)
    exact absurd (of_decide_eq_true this) hle
theorem latin_cut {l : List UInt8} {k : Nat} {c : UInt8} {u : ByteArray} (hc : l.drop k = c :: l.drop (k + 1)) (h : u = ⟨(latin (l.take k)).toArray⟩) : u ++ ⟨(Lib.encodeRune (c.toNat : Int)).toArray⟩ = ⟨(latin (l.take (k + 1))).toArray⟩ := by
  have hk : k < l.length := by
    rcases Nat.lt_or_ge k l.length with h | h
    · exact h
    · rw [List.drop_eq_nil_of_le h] at hc; cases hc
  rw [List.drop_eq_getElem_cons hk] at hc
  injection hc with hc1 _
  rw [h, cat_lists, List.take_succ_eq_append_getElem hk, latin_snoc, hc1]
theorem drop_at (s : ByteArray) (k : Nat) (h : k < s.size) : s.data.toList.drop k = s[k] :: s.data.toList.drop (k + 1) := by
  rw [List.drop_eq_getElem_cons (by rw [list_size]; exact h)]; rfl

theorem refDecode_X (k : Int) (h1 : ¬ k = 1) (h2 : ¬ k = 2) (h3 : ¬ k = 3) (s : ByteArray) (w : World) :
    Calls Tryz.prog 150 #[.int .i64 k, .string s] w (Pair (dec k s.data.toList) w) := by
  have HR := Lib.hid (dec_none (l := s.data.toList) h1 h2 h3)
  rcases (by omega : k < 1 ∨ (¬ k < 1 ∧ 3 < k)) with h | ⟨h, h'⟩
  · go_enter Tryz.func150, Tryz.ntmps150
    go_wp2_with fail
    go_ret2
    exact Pair.mk HR.out (Below.refl _ _)
  · go_enter Tryz.func150, Tryz.ntmps150
    go_wp2_with fail
    go_ret2
    exact Pair.mk HR.out (Below.refl _ _)
theorem refDecode_3 (s : ByteArray) (hs : s.size ≤ 34359738368) (w : World) :
    Calls Tryz.prog 150 #[.int .i64 3, .string s] w (Pair (dec 3 s.data.toList) w) := by
  have C2 := Lib.hid (fun W => refValid_any s (by omega) W)
  have HD : Hid (dec 3 s.data.toList = if Lib.validD s.data.toList = true then (s.data.toList, 0) else ([], 16)) := Lib.hid (by unfold dec; rw [if_neg (by decide), if_pos rfl])
  cases hv : Lib.validD s.data.toList with
  | false =>
    rw [hv] at C2 HD
    have HR := Lib.hid (show dec 3 s.data.toList = ([], 16) by rw [HD.out, if_neg (by simp)])
    clear HD hv
    go_enter Tryz.func150, Tryz.ntmps150
    go_wp2_with fail
    refine (C2.out _).mono ?_
    rintro e w1 ⟨rfl, b1⟩
    go_wp2_with fail
    go_ret2
    exact Pair.mk HR.out b1
  | true =>
    rw [hv] at C2 HD
    have HR := Lib.hid (show dec 3 s.data.toList = (s.data.toList, 0) by rw [HD.out, if_pos rfl])
    clear HD hv
    go_enter Tryz.func150, Tryz.ntmps150
    go_wp2_with fail
    refine (C2.out _).mono ?_
    rintro e w1 ⟨rfl, b1⟩
    go_wp2_with fail
    go_ret2
    exact Pair.own HR.out b1
set_option maxHeartbeats 1000000 in
theorem refDecode_12 (k m : Int) (hk : k = 1 ∨ k = 2) (hm : mostP k = m) (hm' : lastL k = m) (s : ByteArray) (hs : s.size ≤ 34359738368) (w : World) :
    Calls Tryz.prog 150 #[.int .i64 k, .string s] w (Pair (dec k s.data.toList) w) := by
  have hk1 : 1 ≤ k := by omega
  have hk2 : k ≤ 3 := by omega
  have hk3 : (k == 3) = false := by rcases hk with rfl | rfl <;> rfl
  have C0 := Lib.hid (fun W => refMost_any k W)
  rw [hm] at C0
  have HD : Hid (dec k s.data.toList = if within m (s.data.toList.map UInt8.toNat) = true then (latin s.data.toList, 0) else ([], 16)) := Lib.hid (by unfold dec; rw [if_pos hk, hm'])
  clear hk hm hm'
  go_enter Tryz.func150, Tryz.ntmps150
  go_wp2_with fail
  go_loopw [6, 7] (fun uv iv wr => ∃ (i : Nat) (u : ByteArray), i ≤ s.size ∧ iv = .int .i64 (i : Int) ∧ uv = .string u ∧ u.size ≤ 2 * i ∧ Hid (u = ⟨(latin (s.data.toList.take i)).toArray⟩ ∧ within m ((s.data.toList.take i).map UInt8.toNat) = true) ∧ Below w.heap.size w wr) (fun _ iv _ => s.size - (intOf iv).toNat)
  case atStart => exact ⟨0, ByteArray.empty, Nat.zero_le _, rfl, rfl, by simp, Lib.hid ⟨by rw [List.take_zero]; rfl, by rw [List.take_zero]; rfl⟩, Below.refl _ _⟩
  case round =>
    obtain ⟨i, u, hi, rfl, rfl, hus, hu, hbel⟩ := hrel
    by_cases hlt : i < s.size
    · obtain ⟨c, hc⟩ : ∃ c, s[i] = c := ⟨_, rfl⟩
      have hd := drop_at s i hlt
      rw [hc] at hd
      have hc8 := c.toNat_lt
      have CP := Lib.hid (fun W => refPut_any c W)
      have HU : Hid (u ++ ⟨(Lib.encodeRune (c.toNat : Int)).toArray⟩ = ⟨(latin (s.data.toList.take (i + 1))).toArray⟩) := Lib.hid (latin_cut hd hu.out.1)
      have hz2 : (⟨(Lib.encodeRune (c.toNat : Int)).toArray⟩ : ByteArray).size ≤ 2 := by rw [ulen rfl]; exact enc1_length c
      have hz : (u ++ (⟨(Lib.encodeRune (c.toNat : Int)).toArray⟩ : ByteArray)).size ≤ 2 * (i + 1) := by rw [ByteArray.size_append]; omega
      have HZ := Lib.hid hz
      clear hz
      generalize (⟨(Lib.encodeRune (c.toNat : Int)).toArray⟩ : ByteArray) = t at *
      by_cases hle : (c.toNat : Int) ≤ m
      · have HW := Lib.hid (within_cut hd hu.out.2 hle)
        clear hd
        go_wp2_with fail
        go_quiet ((go_at_call 212; exact Calls.quiet_of_same (C0.out _)))
        go_wp2_with fail
        refine (CP.out _).mono ?_
        rintro e w1 ⟨rfl, b1⟩
        have b2 : Below wr.heap.size wr w1 := ⟨b1.os, b1.tape, b1.output, b1.size, b1.block⟩
        go_wp2_with fail
        go_roundw
        case rel => exact ⟨i + 1, _, by omega, by go_num, rfl, HZ.out, Lib.hid ⟨HU.out, HW.out⟩, hbel.trans (b2.mono hbel.size)⟩
        case measure => simp [intOf]; omega
      · have HR := Lib.hid (show dec k s.data.toList = ([], 16) by rw [HD.out, within_over hd hle, if_neg (by simp)])
        clear hd
        go_wp2_with fail
        go_quiet ((go_at_call 212; exact Calls.quiet_of_same (C0.out _)))
        go_wp2_with fail
        go_ret2
        exact Pair.mk HR.out ⟨hbel.os, hbel.tape, hbel.output, hbel.size, hbel.block⟩
    · obtain rfl : i = s.size := by omega
      have hx := hu.out
      rw [List.take_of_length_le (by rw [list_size]; exact Nat.le_refl _)] at hx
      have HR := Lib.hid (show dec k s.data.toList = (latin s.data.toList, 0) by rw [HD.out, if_pos hx.2])
      obtain rfl := hx.1
      clear hu hx hus
      go_wp2_with fail
      go_ret2
      exact Pair.mk HR.out hbel
theorem refDecode_turns (k : Int) (s : ByteArray) (hs : s.size ≤ 34359738368) (w : World) :
    Calls Tryz.prog 150 #[.int .i64 k, .string s] w (Pair (dec k s.data.toList) w) := by
  by_cases h12 : k = 1 ∨ k = 2
  · exact refDecode_12 k _ h12 rfl (by rcases h12 with rfl | rfl <;> rfl) s hs w
  · by_cases h3 : k = 3
    · subst h3; exact refDecode_3 s hs w
    · exact refDecode_X k (by omega) (by omega) h3 s w

/-- What the document's own Encode answers of a charset whose greatest letter is m. -/
def encM (k m : Int) (l : List UInt8) : List UInt8 × Int := if Lib.validD l = true then (if within m (lets l) = true then (if k = 3 then (l, 0) else (bytesOf (lets l), 0)) else ([], 16)) else ([], 3)
theorem encM_eq {k : Int} (hk : k = 1 ∨ k = 2 ∨ k = 3) (l : List UInt8) : enc k l = encM k (mostP k) l := by
  rcases hk with rfl | rfl | rfl
  · rfl
  · rfl
  · unfold enc encM
    rw [if_neg (by decide), if_pos rfl, show mostP 3 = 1114111 from rfl, within_all, if_pos rfl, if_pos rfl]
theorem within_take {m : Int} {L : List Nat} {i : Nat} (hi : i < L.length) (h : within m (L.take i) = true) (hle : (L[i] : Int) ≤ m) : within m (L.take (i + 1)) = true := by
  rw [List.take_succ_eq_append_getElem hi]
  unfold within at *
  rw [List.all_append, h, Bool.true_and]
  simp [hle]
theorem within_not {m : Int} {L : List Nat} {i : Nat} (hi : i < L.length) (hle : ¬ (L[i] : Int) ≤ m) : within m L = false := by
  cases h : within m L with
  | false => rfl
  | true => exact absurd (of_decide_eq_true (List.all_eq_true.1 h _ (List.getElem_mem hi))) hle
theorem bytes_take {L : List Nat} {i : Nat} (hi : i < L.length) : bytesOf (L.take (i + 1)) = bytesOf (L.take i) ++ [UInt8.ofNat L[i]] := by
  rw [List.take_succ_eq_append_getElem hi]; unfold bytesOf; rw [List.map_append]; rfl
theorem low8 (x : Nat) : (x : Int) % 256 = ((UInt8.ofNat x).toNat : Int) := by rw [UInt8.toNat_ofNat']; omega

end Go.Proofs.YtjgfbicllgalkaaGreatDoor.CsR
