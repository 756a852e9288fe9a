/-
charset.asBytes are a text's letters as bytes. Conditions: the text has at most 2^36 bytes; the library's tables hold what the rows list.
-/
import Derived.Test.YtmahdlaifbbjgaaDoorCsLetters
import Derived.Maps.AppendAt
namespace Go.Proofs.YtmahdlaifbbjgaaDoor.Cs
open Go.RowKit Go.Shelf
attribute [local go_sem] Oper.semAt_some

theorem bytesOf_snoc (l : List Nat) (x : Nat) : bytesOf (l ++ [x]) = bytesOf l ++ [UInt8.ofNat x] := by simp [bytesOf]
theorem bytesOf_length (l : List Nat) : (bytesOf l).length = l.length := by simp [bytesOf]
theorem low8 (x : Nat) : (x : Int) % 256 = ((UInt8.ofNat x).toNat : Int) := by rw [UInt8.toNat_ofNat']; omega
theorem boxed_past {W w1 : World} {B Bo n₀ k : Nat} {x v v' : Value} {t e : TypeId} {xs : List Value} {tmp : Obj} (h : Boxed W B t x) (ht : t ≠ e) (hne : B ≠ Bo)
    (hrow : W.ownsRow n₀ e 1 v k xs) (hgrow : (W.alloc tmp).grownBy w1 v.ownBlock) : Boxed (w1.setCell ⟨Bo, 0, none⟩ v') B t x :=
  ((h.alloc tmp).kept hgrow (h.not_row ht hrow)).kept (grownBy_setCell' w1 Bo v') (fun e => hne (by injection e))
/-- What a round keeps: all that lay below a place, and one box above it. -/
def KeepsAt (b B : Nat) (s : ByteArray) (W W' : World) : Prop := Below b W W' ∧ (Boxed W B 9 (.string s) → Boxed W' B 9 (.string s))
theorem KeepsAt.t {b B : Nat} {s : ByteArray} {A C D : World} (h : KeepsAt b B s A C) (k : KeepsAt b B s C D) : KeepsAt b B s A D := ⟨h.1.trans k.1, fun hh => k.2 (h.2 hh)⟩
theorem KeepsAt.b {b B : Nat} {s : ByteArray} {w : World} (hn : b ≤ w.heap.size) (W : World) (l : Nat) (o o' : Obj) (hw : w.heap.size ≤ l) (hl : W.heap[l]? = some o) (hc : o.isCells = false) (hk : o.isWalk = false) : KeepsAt b B s W (W.putObj l o') :=
  ⟨belowK_b hn W l o o' hw hl hc hk, fun hh => by
    have hne : B ≠ l := by rintro rfl; unfold Boxed at hh; rw [hl] at hh; cases hh; simp [Obj.isCells] at hc
    exact (World.putObj_heap_other hne).trans hh⟩

set_option maxRecDepth 100000 in
set_option maxHeartbeats 1000000 in
theorem asBytes_in (s : ByteArray) (hs : s.size ≤ 68719476736) (w : World) (T : Tabs w) :
    CallsIn Fence.wide 5 Tryd.prog 26 #[.string s] w fun e W' => e = .returned (.string ⟨(bytesOf (lets s.data.toList)).toArray⟩) ∧ Below w.heap.size w W' := by
  have hN := lets_length s.data.toList
  rw [list_size] at hN
  have tl := T.lt
  obtain ⟨i0, hi, hz0, hz1, hz2⟩ := info_parts Bytes.infoByte
  refine callsIn_of_wp_marks Tryd.func26 rfl trivial ?_ rfl
  simp only [Tryd.ntmps26, List.size_toArray, List.length_cons, List.length_nil, Nat.reduceAdd, Nat.reduceSub, Array.replicate_succ, Array.replicate_zero, List.push_toArray, List.append_toArray, List.nil_append, List.cons_append]
  gi_wp2_with (refine ⟨trivial, ?_⟩; gi_at_call 7; refine (callsIn_wide.2 (letters_any s _)).mono ?_; rintro e w' ⟨rfl, rfl⟩)
  have bO := Boxed.new w 46 (.slice none 0 0)
  have hOne := letters_one s (w.alloc (.cells #[.slice none 0 0] 46)) (T.below ((Below.refl _ w).alloc (Nat.le_refl _) _) (Nat.le_refl _))
  have hB0 : Below w.heap.size w ((w.alloc (.cells #[.slice none 0 0] 46)).alloc (.cells #[.string s] 9)) := ((Below.refl _ w).alloc (Nat.le_refl _) _).alloc (by simp) _
  simp only [World.size_alloc] at hOne
  refine wpIn_rangeFunc_ownG rfl (by omega) (gf := 17) (lb := #[.pointer (some ⟨w.heap.size + 1, 0, none⟩)]) rfl trivial (enters_of Tryd.func17 (by kernel_rfl) rfl)
    (letters_stops (5 - 1) (by omega) (w.heap.size + 1) s (KeepsAt w.heap.size (w.heap.size + 1) s) (fun W W' hk ho => ho.kept hk.1 tl.1 tl.2 (hk.2 ho.1)) _ hOne) KeepsAt.t (KeepsAt.b (by simp; omega)) (Below.refl _ _) (fun _ => rfl)
    (fun pre W => ((∃ v, Boxed W w.heap.size 46 v ∧ W.ownsRow w.heap.size 5 1 v pre.length (Bytes.cells (bytesOf pre)) ∧ True) ∧ Boxed W (w.heap.size + 1) 9 (.string s)) ∧ Below w.heap.size w W)
    (fun _ _ _ => False)
    (OwnFrom.and (OwnFrom.and (Own.from (holdsRow_own w.heap.size w.heap.size 46 5 1 (fun pre => List.length pre) (fun pre => Bytes.cells (bytesOf pre)) (fun _ _ => True)) _) (Own.from (boxed_own _ _ _) _)) (ownFrom_below (Nat.le_refl _) (by simp; omega)))
    (fun _ _ _ _ _ hs _ _ => hs)
    ⟨⟨⟨_, bO.alloc _, World.ownsRow_nil _ _ _ _, trivial⟩, hOne.1⟩, hB0⟩
    (fun x => { tmps := #[.string s, undef, .string { data := #[] }, .pointer (some ⟨w.heap.size, 0, none⟩), .int .i32 (x : Int), .string s, .func (.func 17) #[] #[.pointer (some ⟨w.heap.size + 1, 0, none⟩)], .int .i32 (x : Int), undef, undef, undef, undef, undef, undef, undef], defers := [] }) ?assign ?body ?done ?stop
  case assign =>
    intro l x W K hK
    gi_wp2
    exact hK
  case body =>
    rintro l pre x W ⟨⟨⟨v, hv, hrow, _⟩, hbn⟩, hB⟩ hlt
    have hc := hv.cell
    have h8 := low8 x
    generalize hx : UInt8.ofNat x = c at h8
    have HX := Lib.hid hx
    clear hx
    gi_wp2_with (gi_at_builtin; refine wpListIn_append_own _ rfl _ _ 46 rfl w.heap.size 5 i0 (.int .u8 0) 1 1 Tryd.underlying46 hi hz0 hz1 hz2 rfl (by decide) _ _ _ rfl (hrow.alloc _) ⟨W.heap.size, 0, none⟩ 1 1 [.int .u8 (c.toNat : Int)] rfl rfl (cell_one_new _ _ _) (by simp [Value.oneCell']) (by unfold maxLen; omega) (by omega) (by have := hB.size; simp; omega) ?_; intro v' w1 hown' hgrow _; obtain ⟨g', cap', rfl⟩ := ownsRow_succ hown'; obtain ⟨hv1, hv2, hr2, hk2, hb2⟩ := hv.appended (by decide) hrow hB.size (Nat.le_refl _) hown' hgrow; have hc1 := hv1.cell; have hf1 := hv1.frozen)
    have hb3 : Boxed W (w.heap.size + 1) 9 (.string s) → Boxed (w1.setCell ⟨w.heap.size, 0, none⟩ (.slice (some ⟨g', 0, none⟩) (pre.length + 1) cap')) (w.heap.size + 1) 9 (.string s) := fun h => boxed_past h (by decide) (by omega) hrow hgrow
    exact ⟨hk2.from _, ⟨hb2, hb3⟩, ⟨⟨_, hv2, by rw [bytesOf_snoc, HX.out, List.length_append, Bytes.cells_append]; exact hr2, trivial⟩, hb3 hbn⟩, hB.trans hb2⟩
  case done =>
    rintro D ys W hD rfl ⟨⟨⟨v, hv, hrow, _⟩, hbn⟩, hB⟩ hK
    have hc := hv.cell
    have ht : Bytes.Has W w.heap.size v (bytesOf (lets s.data.toList)) := by unfold Bytes.Has; rw [bytesOf_length]; exact hrow
    have htx := ht.text
    gi_wp2
    refine ⟨by simp, .inl ⟨_, _, rfl, run_takeDeferred hK, ?_⟩⟩
    exact ⟨_, results_tmp rfl _ _ _, rfl, hB.trans (belowK_b (w := w) (Nat.le_refl _) W D _ _ (by simp at hD; omega) hK rfl rfl)⟩
  case stop =>
    rintro D c pre W _ _ h _
    exact h.elim
theorem asBytes_any (s : ByteArray) (hs : s.size ≤ 68719476736) (w : World) (T : Tabs w) :
    Calls Tryd.prog 26 #[.string s] w fun e W' => e = .returned (.string ⟨(bytesOf (lets s.data.toList)).toArray⟩) ∧ Below w.heap.size w W' :=
  callsIn_wide.1 (asBytes_in s hs w T)
end Go.Proofs.YtmahdlaifbbjgaaDoor.Cs
