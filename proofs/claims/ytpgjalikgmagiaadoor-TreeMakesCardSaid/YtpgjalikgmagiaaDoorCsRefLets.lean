/-
The document's own letters of a text: a row of the call's own, and whether the text is right; its letters' bytes; its greatest letter. Conditions: the text has at most 2^36 bytes.
-/
import Derived.Test.YtpgjalikgmagiaaDoorCsRefOne
import Derived.Laws.DeepStrings4
namespace Go.Proofs.YtpgjalikgmagiaaDoor.Cs
set_option maxRecDepth 100000
open Go.RowKit

def rcells (l : List Nat) : List Value := l.map fun x : Nat => Value.int .i32 (x : Int)
theorem rcells_length (l : List Nat) : (rcells l).length = l.length := by simp [rcells]
theorem rcells_snoc (l : List Nat) (x : Nat) : rcells (l ++ [x]) = rcells l ++ [.int .i32 (x : Int)] := by simp [rcells]
/-- The slice v holds the letters l, in a row of the call's own (blocks from base on). -/
def Runes (w : World) (base : Nat) (v : Value) (l : List Nat) : Prop := w.ownsRow base 21 1 v l.length (rcells l)
theorem infoRune : (Tryd.prog.info? 21).map (fun i => (i.zero, i.size, i.bytes)) = some (some (.int .i32 0), 1, 4) := by kernel_rfl
theorem runes_snoc {base : Nat} {l : List Nat} {x : Nat} {w' : World} {v' : Value} (hown : w'.ownsRow base 21 1 v' (l.length + 1) (rcells l ++ [.int .i32 (x : Int)])) : Runes w' base v' (l ++ [x]) := by
  unfold Runes; rw [rcells_snoc, List.length_append]; exact hown
theorem Runes.keep {w w' : World} {base : Nat} {v : Value} {l : List Nat} (h : Runes w base v l) (hb : Below w.heap.size w w') : Runes w' base v l := by
  refine h.kept (row := none) ⟨hb.os, hb.tape, hb.output, hb.size, fun k hk _ => hb.block k hk⟩ ?_
  cases e : v.ownBlock with
  | none => exact .inl rfl
  | some k => exact .inr (by simp)
/-- A row of letters, laid open. -/
theorem Runes.at_ {w : World} {base : Nat} {v : Value} {l : List Nat} (h : Runes w base v l) :
    ∃ a cap, v = .slice a l.length cap ∧ ∀ i (hi : i < l.length), ∃ g, a = some ⟨g, 0, none⟩ ∧ (base ≤ g ∧ g < w.heap.size) ∧ w.cell? ⟨g, i, none⟩ = some (.int .i32 (l[i] : Int)) := by
  obtain ⟨hl, ⟨rfl, h0⟩ | ⟨g, cap, cur, rfl, hb, hg, _, _, _, ht⟩⟩ := h
  · exact ⟨none, 0, by rw [h0], fun i hi => by omega⟩
  · refine ⟨_, cap, rfl, fun i hi => ⟨g, rfl, ⟨hb, (Array.getElem?_eq_some_iff.1 hg).1⟩, ?_⟩⟩
    have hn : (rcells l)[i]? = some (.int .i32 (l[i] : Int)) := by simp [rcells, hi]
    rw [← ht] at hn
    have h2 := Lib.cells_of_row hg _ i _ hn
    rwa [Lib.addr_add, Nat.zero_add] at h2
theorem oneP_bad {l : List UInt8} (hne : l ≠ []) (hb : bad l = true) : oneP l = (0, 0) := by unfold oneP; rw [if_neg hne, if_pos hb]
theorem oneP_good {l : List UInt8} (hne : l ≠ []) (hb : bad l = false) : oneP l = Lib.decodeL l := by unfold oneP; rw [if_neg hne, hb, if_neg (by simp)]
theorem full_not {t : ByteArray} (h : 0 < t.size) : (!t.toList.isEmpty) = true := by rw [full_of h]; rfl
theorem none_not {t : ByteArray} (h : ¬ 0 < t.size) : (!t.toList.isEmpty) = false := by
  rw [ByteArray.toList_eq, List.eq_nil_of_length_eq_zero (l := t.data.toList) (by rw [list_size]; omega)]; rfl
/-- What the document's own step answers, in plain words. -/
theorem one_cases {t : ByteArray} (h : 0 < t.size) :
    (oneP t.data.toList = (0, 0) ∧ lets t.data.toList = [] ∧ Lib.validD t.data.toList = false) ∨
    (∃ x n : Nat, oneP t.data.toList = (x, n) ∧ 1 ≤ n ∧ n ≤ t.size ∧ x ≤ 1114111 ∧ lets t.data.toList = x :: lets (t.extract n t.size).data.toList ∧ Lib.validD t.data.toList = Lib.validD (t.extract n t.size).data.toList ∧ (t.extract n t.size).size = t.size - n) := by
  have hne : t.data.toList ≠ [] := fun e => by have := list_size t; rw [e] at this; simp at this; omega
  rcases hb : bad t.data.toList with _ | _
  · right
    exact ⟨(Lib.decodeL t.data.toList).1, (Lib.decodeL t.data.toList).2, oneP_good hne hb, Lib.decodeL_width _, by rw [← list_size]; exact Lib.decodeL_le _ hne, Lib.decodeL_rune _, by rw [lets_good hne hb, Lib.ext_list], by rw [valid_good hne hb, Lib.ext_list], Lib.ext_size _ _⟩
  · exact .inl ⟨oneP_bad hne hb, lets_bad hne hb, valid_bad hne hb⟩
/-- The letters' row, and whether the text is right. -/
def LetsIs (s : ByteArray) (w : World) (e : Ending) (W' : World) : Prop := ∃ v, e = .returned (.tuple #[v, .bool (Lib.validD s.data.toList)]) ∧ Runes W' w.heap.size v (lets s.data.toList) ∧ Below w.heap.size w W'

set_option maxHeartbeats 1000000 in
theorem refLetters_any (s : ByteArray) (hs : s.size ≤ 68719476736) (w : World) :
    Calls Tryd.prog 34 #[.string s] w (LetsIs s w) := by
  obtain ⟨i0, hi, hz0, hz1, hz2⟩ := info_parts infoRune
  go_enter Tryd.func34, Tryd.ntmps34
  go_wp2_with fail
  go_loopw [0, 4] (fun tv v wr => ∃ (t : ByteArray) (l : List Nat), tv = .string t ∧ Hid (l ++ lets t.data.toList = lets s.data.toList ∧ Lib.validD t.data.toList = Lib.validD s.data.toList) ∧ l.length + t.size ≤ s.size ∧ Runes wr w.heap.size v l ∧ Below w.heap.size w wr) (fun tv _ _ => match tv with | .string t => t.size | _ => 0)
  case atStart => exact ⟨s, [], rfl, Lib.hid ⟨by rw [List.nil_append], rfl⟩, by simp, World.ownsRow_nil _ _ _ _, Below.refl _ _⟩
  case round =>
    obtain ⟨t, l, rfl, hl, hll, hown, hbel⟩ := hrel
    have hz := hbel.size
    by_cases h0 : 0 < t.size
    · have hse := full_not h0
      have C := Lib.hid (fun W => refOne_any t (by omega) W)
      rcases one_cases h0 with ⟨h1, h2, h3⟩ | ⟨x, n, h1, hn1, hn2, hx, h2, h3, h4⟩
      · have HE := Lib.hid (show l = lets s.data.toList ∧ Lib.validD s.data.toList = false by have := hl.out; rw [h2, List.append_nil] at this; exact ⟨this.1, this.2.symm.trans h3⟩)
        unfold OneIs at C
        rw [h1] at C
        clear h1 h2 h3
        go_wp2_with fail
        refine (C.out _).mono ?_
        rintro e w1 ⟨rfl, rfl⟩
        go_wp2_with fail
        go_ret2
        exact ⟨_, by rw [HE.out.2]; rfl, by rw [← HE.out.1]; exact hown, hbel⟩
      · have HL := Lib.hid (show (l ++ [x]) ++ lets (t.extract n t.size).data.toList = lets s.data.toList ∧ Lib.validD (t.extract n t.size).data.toList = Lib.validD s.data.toList by have := hl.out; rw [h2] at this; exact ⟨by rw [← this.1, List.append_assoc]; rfl, h3.symm.trans this.2⟩)
        have HSZ := Lib.hid h4
        unfold OneIs at C
        rw [h1] at C
        clear h1 h2 h3 h4
        have hnn : ((n : Int) == 0) = false := by simp; omega
        go_wp2_with fail
        refine (C.out _).mono ?_
        rintro e w1 ⟨rfl, rfl⟩
        go_wp2_with (at_builtin; refine wpList_append_own _ rfl _ _ 52 rfl w.heap.size 21 i0 (.int .i32 0) 1 4 Tryd.underlying52 hi hz0 hz1 hz2 rfl (by decide) _ _ _ rfl (World.ownsRow.alloc hown _) ⟨wr.heap.size, 0, none⟩ 1 1 [.int .i32 (x : Int)] rfl rfl (World.news_of_block (cs := #[.int .i32 (x : Int)]) (t := 21) (fr := (0, 0)) (heap_alloc_new wr _)) (by simp [Value.oneCell']) (by unfold maxLen; omega) (by omega) (by simp; omega) ?_; intro v' w1 hown' hgrow _)
        go_roundw
        case rel => exact ⟨_, _, rfl, HL, by rw [List.length_append, HSZ.out]; simp; omega, runes_snoc hown', (hbel.alloc hz _).grown hgrow (by simp; omega) (fun k e => (World.ownsRow.lt hown k e).1)⟩
        case measure => show (t.extract _ t.size).size < t.size; rw [HSZ.out]; omega
    · have HE := Lib.hid (show l = lets s.data.toList ∧ Lib.validD s.data.toList = true by have := hl.out; rw [List.eq_nil_of_length_eq_zero (l := t.data.toList) (by rw [list_size]; omega)] at this; exact ⟨by rw [← this.1, lets_nil, List.append_nil], this.2.symm.trans Lib.validD_nil⟩)
      have hse := none_not h0
      go_wp2_with fail
      go_ret2
      exact ⟨_, by rw [HE.out.2]; rfl, by rw [← HE.out.1]; exact hown, hbel⟩

theorem refValid_any (s : ByteArray) (hs : s.size ≤ 68719476736) (w : World) :
    Calls Tryd.prog 29 #[.string s] w fun e w' => e = .returned (.bool (Lib.validD s.data.toList)) ∧ Below w.heap.size w w' := by
  have C := Lib.hid (refLetters_any s hs w)
  unfold LetsIs at C
  generalize Lib.validD s.data.toList = b at C ⊢
  go_enter Tryd.func29, Tryd.ntmps29
  go_wp2_with fail
  refine C.out.mono ?_
  rintro e w1 ⟨v, rfl, _, b1⟩
  go_wp2_with fail
  go_ret
  exact ⟨rfl, b1⟩
/-- The greatest letter that the document's own charset has. -/
def mostP (k : Int) : Int := if k = 1 then 127 else if k = 2 then 255 else 1114111
end Go.Proofs.YtpgjalikgmagiaaDoor.Cs
