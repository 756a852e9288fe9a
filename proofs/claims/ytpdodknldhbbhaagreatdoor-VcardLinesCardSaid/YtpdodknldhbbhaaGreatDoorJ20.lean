/-
Texts joined in one file, each with its own conditions: Go's library on UTF-8 at this program's numbers: two tables that it reads, as the rows list them; that they stay; a letter off a text's beginning, whether a text is right, a letter's bytes behind a row. Conditions: the tables hold what the rows list. · charset.ofBytes is the text whose letters are bytes. Conditions: there are at most 2^36 bytes. · The document's own letter at a text's beginning is the plain function's. Conditions: the text has at most 2^47 bytes. · The document's own letters of a text: a row of the call's own, and whether the text is right; its letters' bytes; its greatest letter. Conditions: the text has at most 2^36 bytes.
-/
import Derived.Test.YtpdodknldhbbhaaGreatDoorRows
import Derived.Test.YtpdodknldhbbhaaGreatDoorShelf
import Derived.Test.YtpdodknldhbbhaaGreatDoorJ06
import Derived.Test.YtpdodknldhbbhaaGreatDoorJ17
import Derived.Lib.LaidU8T
import Derived.PinnedBridge
import Derived.MakeChecks
import Derived.Shelf.Unicode.ValidAny
import Derived.IntWalk
import Derived.Test.YtpdodknldhbbhaaGreatDoorJ19
import Derived.Laws.DeepStrings4
namespace Go.Proofs.YtpdodknldhbbhaaGreatDoor.Cs
set_option maxRecDepth 100000
open Go.RowKit Go.Lib Go.Shelf

def Tabs (w : World) : Prop := Lib.Utf8Tabs 1 2 w
theorem Tabs.below {w w' : World} {b : Nat} (h : Tabs w) (hb : Below b w w') (hB : w.heap.size ≤ b) : Tabs w' := by
  have k : ∀ {a : Addr} {v : Value}, w.cell? a = some v → w'.cell? a = some v := fun {a v} hc => (hb.cell (Nat.lt_of_lt_of_le (World.block_lt_of_cell? w a hc) hB)).trans hc
  exact ⟨fun c hc => k (h.1 c hc), fun i hi => ⟨k (h.2 i hi).1, k (h.2 i hi).2⟩⟩
theorem Tabs.lt {w : World} (h : Tabs w) : 1 < w.heap.size ∧ 2 < w.heap.size :=
  ⟨World.block_lt_of_cell? w _ (h.1 0 (by decide)), World.block_lt_of_cell? w _ (h.2 0 (by decide)).1⟩
theorem Tabs.kept {w w' : World} {b : Nat} (h : Tabs w) (hb : Below b w w') (h1 : 1 < b) (h2 : 2 < b) : Tabs w' :=
  ⟨fun c hc => (hb.cell (p := ⟨1, c, none⟩) h1).trans (h.1 c hc), fun i hi => ⟨(hb.cell (p := ⟨2, 2 * i, none⟩) h2).trans (h.2 i hi).1, (hb.cell (p := ⟨2, 2 * i + 1, none⟩) h2).trans (h.2 i hi).2⟩⟩
theorem own_text {s : ByteArray} : s = ⟨s.data.toList.toArray⟩ := by cases s; simp
theorem decodeGo_eq {s : ByteArray} (h : 0 < s.size) : decodeGo s = decodeL s.data.toList := by
  unfold decodeGo decodeL
  rw [if_neg (by omega), ← own_text]
theorem decode_any (s : ByteArray) (h : 0 < s.size) (w : World) (T : Tabs w) :
    Calls Tryz.prog 134 #[.string s] w fun e w' => e = .returned (.tuple #[.int .i32 ((decodeL s.data.toList).1 : Int), .int .i64 ((decodeL s.data.toList).2 : Int)]) ∧ Below w.heap.size w w' := by
  have := Tryz.utf8_DecodeRuneInString s w T
  rwa [decodeGo_eq h] at this
theorem utf8_valid (s : ByteArray) (w : World) (hs : s.size ≤ 9223372036854775807) (T : Tabs w) :
    Calls Tryz.prog 167 #[.string s] w fun e w' => e = .returned (.bool (validD s.data.toList)) ∧ Below w.heap.size w w' :=
  Any.utf8_ValidString Tryz.lays196 s w hs T
theorem valid_any (s : ByteArray) (w : World) (hs : s.size ≤ 9223372036854775807) (T : Tabs w) :
    Calls Tryz.prog 144 #[.string s] w fun e w' => e = .returned (.bool (validD s.data.toList)) ∧ Below w.heap.size w w' := by
  have C := Lib.hid (utf8_valid s w hs T)
  generalize validD s.data.toList = b at C ⊢
  go_enter Tryz.func144, Tryz.ntmps144
  go_wp2_with fail
  refine C.out.mono ?_
  rintro e w1 ⟨rfl, b1⟩
  go_wp2_with fail
  go_ret
  exact ⟨rfl, b1⟩
theorem runeCells_byte (c : UInt8) : runeCells (c.toNat : Int) = Bytes.cells (encodeRune (c.toNat : Int)) := (byteCells_encodeRune _).symm
theorem add_any (B : Nat) (v : Value) (l : List UInt8) (c : UInt8) (w : World) (hown : Bytes.Has w B v l) (hlen : l.length + 4 ≤ 140737488355328) (hBw : B ≤ w.heap.size) :
    Calls Tryz.prog 191 #[v, .int .i32 (c.toNat : Int)] w fun e w' => ∃ v', e = .returned v' ∧ Bytes.Has w' B v' (l ++ encodeRune (c.toNat : Int)) ∧ Below B w w' := by
  have hc := c.toNat_lt
  refine (Tryz.utf8_AppendRune_plain B v l.length (Bytes.cells l) (c.toNat : Int) (by omega) (by omega) w hown hlen hBw).mono ?_
  rintro e w' ⟨v', rfl, h, o, hg⟩
  rw [runeCells_byte] at h
  exact ⟨v', rfl, Bytes.Has.laid (by rw [Bytes.cells_length]) h, Bytes.Has.below hown (Below.refl _ _) hBw o hg⟩

theorem u8X : U8Extra Tryz.prog Tryz.lays197_ren := ⟨by kernel_rfl, by kernel_rfl, by kernel_rfl, by kernel_rfl, by kernel_rfl, by kernel_rfl, by kernel_rfl⟩
theorem accept_eq : (Rows.laid_unicode_utf8_acceptRanges : DataW Unit) = acceptData := by kernel_rfl
theorem tabs_of_laid {W : World} (hL : laidMetH Tryz.prog [("unicode/utf8.acceptRanges", Rows.laid_unicode_utf8_acceptRanges), ("unicode/utf8.first", Rows.laid_unicode_utf8_first)] W) : Tabs W := by
  rw [MakeChecks.laidMetH_plain _ _ _ (by kernel_rfl)] at hL
  have r1 := Lib.laidMet.reads hL (.head _)
  have r3 := Lib.laidMet.reads hL (.tail _ (.head _))
  rw [accept_eq] at r1
  rw [show (Rows.laid_unicode_utf8_first) = firstData from Pinned.utf8First_eq] at r3
  exact utf8Tabs_of_readsT { Tryz.lays197 with } u8X r3 r1
end Go.Proofs.YtpdodknldhbbhaaGreatDoor.Cs

namespace Go.Proofs.YtpdodknldhbbhaaGreatDoor.Cs
set_option maxRecDepth 100000
open Go.RowKit

theorem latin_next {l pre r : List UInt8} {k : Nat} {c : UInt8} (hc : l.drop k = c :: l.drop (k + 1)) (h : pre ++ latin (l.drop k) = r) : (pre ++ Lib.encodeRune (c.toNat : Int)) ++ latin (l.drop (k + 1)) = r := by
  rw [← h, hc, latin_cons, List.append_assoc]
theorem drop_at (s : ByteArray) (k : Nat) (h : k < s.size) : s.data.toList.drop k = s[k] :: s.data.toList.drop (k + 1) := by
  rw [List.drop_eq_getElem_cons (by rw [list_size]; exact h)]; rfl
theorem enc1_length (c : UInt8) : (Lib.encodeRune (c.toNat : Int)).length ≤ 2 := by
  rcases enc1 c with ⟨_, e⟩ | ⟨_, e⟩ <;> rw [e] <;> simp

set_option maxHeartbeats 800000 in
theorem ofBytes_any (s : ByteArray) (hs : s.size ≤ 68719476736) (w : World) :
    Calls Tryz.prog 180 #[.string s] w fun e w' => e = .returned (.string ⟨(latin s.data.toList).toArray⟩) ∧ Below w.heap.size w w' := by
  go_enter Tryz.func180, Tryz.ntmps180
  go_wp2
  go_loopw [3, 7] (fun v i wr => ∃ (k : Nat) (l : List UInt8), k ≤ s.size ∧ i = .int .i64 k ∧ Hid (l ++ latin (s.data.toList.drop k) = latin s.data.toList) ∧ l.length ≤ 2 * k ∧ Bytes.Has wr w.heap.size v l ∧ Below w.heap.size w wr) (fun _ i _ => s.size - (intOf i).toNat)
  case atStart => exact ⟨0, [], Nat.zero_le _, rfl, Lib.hid (by simp), by simp, Bytes.Has.nil _ _, Below.refl _ _⟩
  case round =>
    obtain ⟨k, l, hk, rfl, hl, hll, hown, hbel⟩ := hrel
    have hz := hbel.size
    by_cases hlt : k < s.size
    · obtain ⟨c, hc⟩ : ∃ c, s[k] = c := ⟨_, rfl⟩
      have HL := Lib.hid (latin_next (by rw [drop_at s k hlt, hc]) hl.out)
      have C := Lib.hid (add_any w.heap.size _ l c wr hown (by omega) hz)
      have h2 := enc1_length c
      have hc8 := c.toNat_lt
      go_wp2_with fail
      refine C.out.mono ?_
      rintro e w1 ⟨v', rfl, hown1, b1⟩
      go_wp2_with fail
      go_roundw
      case rel => exact ⟨k + 1, _, by omega, by go_num, HL, by rw [List.length_append]; omega, hown1, hbel.trans b1⟩
      case measure => simp [intOf]; omega
    · obtain rfl : k = s.size := by omega
      have HE := Lib.hid (show l = latin s.data.toList by rw [← hl.out, List.drop_eq_nil_of_le (by rw [list_size]; exact Nat.le_refl _)]; simp [latin])
      have ht := hown.text
      rw [HE.out] at ht
      go_wp2_with fail
      go_ret
      exact ⟨rfl, hbel⟩
end Go.Proofs.YtpdodknldhbbhaaGreatDoor.Cs

namespace Go.Proofs.YtpdodknldhbbhaaGreatDoor.Cs
set_option maxRecDepth 100000
open Go.RowKit

theorem ret_one {l : List UInt8} {a k : Nat} (h : oneP l = (a, k)) : Ending.returned (.tuple #[.int .i64 (a : Int), .int .i64 (k : Int)]) = .returned (.tuple #[.int .i64 ((oneP l).1 : Int), .int .i64 ((oneP l).2 : Int)]) := by rw [h]
/-- What the document's own letter answers. -/
def OneIs (s : ByteArray) (w : World) (e : Ending) (w' : World) : Prop := e = .returned (.tuple #[.int .i64 ((oneP s.data.toList).1 : Int), .int .i64 ((oneP s.data.toList).2 : Int)]) ∧ w = w'
theorem OneIs.mk {s : ByteArray} {w : World} {a k : Nat} (h : oneP s.data.toList = (a, k)) : OneIs s w (.returned (.tuple #[.int .i64 (a : Int), .int .i64 (k : Int)])) w := ⟨ret_one h, rfl⟩
end Go.Proofs.YtpdodknldhbbhaaGreatDoor.Cs

namespace Go.Proofs.YtpdodknldhbbhaaGreatDoor.Cs
set_option maxRecDepth 100000
open Go.RowKit

def rcells (l : List Nat) : List Value := l.map fun x : Nat => Value.int .i32 (x : Int)
/-- The slice v holds the letters l, in a row of the call's own (blocks from base on). -/
def Runes (w : World) (base : Nat) (v : Value) (l : List Nat) : Prop := w.ownsRow base 21 1 v l.length (rcells l)
theorem Runes.keep {w w' : World} {base : Nat} {v : Value} {l : List Nat} (h : Runes w base v l) (hb : Below w.heap.size w w') : Runes w' base v l := by
  refine h.kept (row := none) ⟨hb.os, hb.tape, hb.output, hb.size, fun k hk _ => hb.block k hk⟩ ?_
  cases e : v.ownBlock with
  | none => exact .inl rfl
  | some k => exact .inr (by simp)
/-- A row of letters, laid open. -/
theorem Runes.at_ {w : World} {base : Nat} {v : Value} {l : List Nat} (h : Runes w base v l) :
    ∃ a cap, v = .slice a l.length cap ∧ ∀ i (hi : i < l.length), ∃ g, a = some ⟨g, 0, none⟩ ∧ (base ≤ g ∧ g < w.heap.size) ∧ w.cell? ⟨g, i, none⟩ = some (.int .i32 (l[i] : Int)) := by
  obtain ⟨hl, ⟨rfl, h0⟩ | ⟨g, cap, cur, rfl, hb, hg, _, _, _, ht⟩⟩ := h
  · exact ⟨none, 0, by rw [h0], fun i hi => by omega⟩
  · refine ⟨_, cap, rfl, fun i hi => ⟨g, rfl, ⟨hb, (Array.getElem?_eq_some_iff.1 hg).1⟩, ?_⟩⟩
    have hn : (rcells l)[i]? = some (.int .i32 (l[i] : Int)) := by simp [rcells, hi]
    rw [← ht] at hn
    have h2 := Lib.cells_of_row hg _ i _ hn
    rwa [Lib.addr_add, Nat.zero_add] at h2
end Go.Proofs.YtpdodknldhbbhaaGreatDoor.Cs
