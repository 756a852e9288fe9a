/-
Go's library on UTF-8 at this program's numbers: two tables that it reads, as the rows list them; that they stay; a letter off a text's beginning, whether a text is right, a letter's bytes behind a row. Conditions: the tables hold what the rows list.
-/
import Derived.Test.YtpgjalikgmagiaaDoorRows
import Derived.Test.YtpgjalikgmagiaaDoorShelf
import Derived.Test.YtpgjalikgmagiaaDoorBytes
import Derived.Test.YtpgjalikgmagiaaDoorCsMath
import Derived.Lib.LaidU8T
import Derived.PinnedBridge
import Derived.MakeChecks
import Derived.Shelf.Unicode.ValidAny
namespace Go.Proofs.YtpgjalikgmagiaaDoor.Cs
set_option maxRecDepth 100000
open Go.RowKit Go.Lib Go.Shelf

def Tabs (w : World) : Prop := Lib.Utf8Tabs 0 1 w
theorem Tabs.below {w w' : World} {b : Nat} (h : Tabs w) (hb : Below b w w') (hB : w.heap.size ≤ b) : Tabs w' := by
  have k : ∀ {a : Addr} {v : Value}, w.cell? a = some v → w'.cell? a = some v := fun {a v} hc => (hb.cell (Nat.lt_of_lt_of_le (World.block_lt_of_cell? w a hc) hB)).trans hc
  exact ⟨fun c hc => k (h.1 c hc), fun i hi => ⟨k (h.2 i hi).1, k (h.2 i hi).2⟩⟩
theorem Tabs.lt {w : World} (h : Tabs w) : 0 < w.heap.size ∧ 1 < w.heap.size :=
  ⟨World.block_lt_of_cell? w _ (h.1 0 (by decide)), World.block_lt_of_cell? w _ (h.2 0 (by decide)).1⟩
theorem Tabs.kept {w w' : World} {b : Nat} (h : Tabs w) (hb : Below b w w') (h1 : 0 < b) (h2 : 1 < b) : Tabs w' :=
  ⟨fun c hc => (hb.cell (p := ⟨0, c, none⟩) h1).trans (h.1 c hc), fun i hi => ⟨(hb.cell (p := ⟨1, 2 * i, none⟩) h2).trans (h.2 i hi).1, (hb.cell (p := ⟨1, 2 * i + 1, none⟩) h2).trans (h.2 i hi).2⟩⟩
theorem list_size (s : ByteArray) : s.data.toList.length = s.size := by rw [Array.length_toList]; rfl
theorem own_text {s : ByteArray} : s = ⟨s.data.toList.toArray⟩ := by cases s; simp
theorem decodeGo_eq {s : ByteArray} (h : 0 < s.size) : decodeGo s = decodeL s.data.toList := by
  unfold decodeGo decodeL
  rw [if_neg (by omega), ← own_text]
theorem utf8_valid (s : ByteArray) (w : World) (hs : s.size ≤ 9223372036854775807) (T : Tabs w) :
    Calls Tryd.prog 33 #[.string s] w fun e w' => e = .returned (.bool (validD s.data.toList)) ∧ Below w.heap.size w w' :=
  Any.utf8_ValidString Tryd.lays196 s w hs T
theorem runeCells_byte (c : UInt8) : runeCells (c.toNat : Int) = Bytes.cells (encodeRune (c.toNat : Int)) := (byteCells_encodeRune _).symm
theorem u8X : U8Extra Tryd.prog Tryd.lays196_ren := ⟨by kernel_rfl, by kernel_rfl, by kernel_rfl, by kernel_rfl, by kernel_rfl, by kernel_rfl, by kernel_rfl⟩
theorem accept_eq : (Rows.laid_unicode_utf8_acceptRanges : DataW Unit) = acceptData := by kernel_rfl
theorem tabs_of_laid {W : World} (hL : laidMetH Tryd.prog [("unicode/utf8.acceptRanges", Rows.laid_unicode_utf8_acceptRanges), ("unicode/utf8.first", Rows.laid_unicode_utf8_first)] W) : Tabs W := by
  rw [MakeChecks.laidMetH_plain _ _ _ (by kernel_rfl)] at hL
  have r1 := Lib.laidMet.reads hL (.head _)
  have r3 := Lib.laidMet.reads hL (.tail _ (.head _))
  rw [accept_eq] at r1
  rw [show (Rows.laid_unicode_utf8_first) = firstData from Pinned.utf8First_eq] at r3
  exact utf8Tabs_of_readsT { Tryd.lays196 with } u8X r3 r1
end Go.Proofs.YtpgjalikgmagiaaDoor.Cs
