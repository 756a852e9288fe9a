/-
figure.Text answers a number's digits. Conditions: the number is an int.
-/
import Derived.Test.YtogdnjanfmapeaaBytes
import Derived.Test.YtogdnjanfmapeaaFigDigits
import Derived.Maps.AppendAt
namespace Go.Proofs.Ytogdnjanfmapeaa.Fig
open Go.RowKit Go.Shelf
attribute [local go_sem] Oper.semAt_some

/-- An append to a box's row, seen from another box. -/
theorem boxed_past {W w1 : World} {B Bo n₀ k : Nat} {x v v' : Value} {t : TypeId} {xs : List Value} {tmp : Obj} (h : Boxed W B t x) (ht : t ≠ 5) (hne : B ≠ Bo)
    (hrow : W.ownsRow n₀ 5 1 v k xs) (hgrow : (W.alloc tmp).grownBy w1 v.ownBlock) : Boxed (w1.setCell ⟨Bo, 0, none⟩ v') B t x :=
  ((h.alloc tmp).kept hgrow (h.not_row ht hrow)).kept (grownBy_setCell' w1 Bo v') (fun e => hne (by injection e))

set_option maxRecDepth 100000 in
set_option maxHeartbeats 2000000 in
theorem text_in (n : Int) (h0 : -9223372036854775808 ≤ n) (h1 : n ≤ 9223372036854775807) (w : World) :
    CallsIn Fence.wide 5 Try.prog 10 #[.int .i64 n] w fun e W' => e = .returned (.string ⟨(txt n).toArray⟩) ∧ Below w.heap.size w W' := by
  have hT : (txt n).length ≤ 21 := txt_length n (by omega)
  obtain ⟨i0, hi, hz0, hz1, hz2⟩ := info_parts Bytes.infoByte
  refine callsIn_of_wp_marks Try.func10 rfl trivial ?_ rfl
  simp only [Try.ntmps10, List.size_toArray, List.length_cons, List.length_nil, Nat.reduceAdd, Nat.reduceSub, Array.replicate_succ, Array.replicate_zero, List.push_toArray, List.append_toArray, List.nil_append, List.cons_append]
  gi_wp2_with (refine ⟨trivial, ?_⟩; gi_at_call 9; refine (callsIn_wide.2 (digits_any n _)).mono ?_; rintro e w' ⟨rfl, rfl⟩)
  have bO := Boxed.new w 23 (.slice none 0 0)
  have bN := Boxed.new (w.alloc (.cells #[.slice none 0 0] 23)) 3 (.int .i64 n)
  rw [World.size_alloc] at bN
  have hB0 : Below w.heap.size w ((w.alloc (.cells #[.slice none 0 0] 23)).alloc (.cells #[.int .i64 n] 3)) := ((Below.refl _ w).alloc (Nat.le_refl _) _).alloc (by simp) _
  refine wpIn_rangeFunc_ownG rfl (by omega) (gf := 20) (lb := #[.pointer (some ⟨w.heap.size + 1, 0, none⟩)]) rfl trivial (enters_of Try.func20 (by kernel_rfl) rfl)
    (digits_stops (5 - 1) (by omega) (w.heap.size + 1) n h0 h1 _ bN) KeepsBox.t (fun W l o o' _ hl hc _ => KeepsBox.b W l o o' hl hc) (Below.refl _ _) (fun _ => rfl)
    (fun pre W => ((∃ v, Boxed W w.heap.size 23 v ∧ W.ownsRow w.heap.size 5 1 v pre.length (Bytes.cells pre) ∧ True) ∧ Boxed W (w.heap.size + 1) 3 (.int .i64 n)) ∧ Below w.heap.size w W)
    (fun _ _ _ => False)
    (OwnFrom.and (OwnFrom.and (Own.from (holdsRow_own w.heap.size w.heap.size 23 5 1 (fun pre => List.length pre) (fun pre => Bytes.cells pre) (fun _ _ => True)) _) (Own.from (boxed_own _ _ _) _)) (ownFrom_below (Nat.le_refl _) (by simp; omega)))
    (fun _ _ _ _ _ hs _ _ => hs)
    ⟨⟨⟨_, bO.alloc _, World.ownsRow_nil _ _ _ _, trivial⟩, bN⟩, hB0⟩
    (fun x => { tmps := #[.int .i64 n, undef, .string { data := #[] }, .pointer (some ⟨w.heap.size, 0, none⟩), .int .u8 (x.toNat : Int), .int .i64 n, .func (.func 20) #[] #[.pointer (some ⟨w.heap.size + 1, 0, none⟩)], .int .u8 (x.toNat : Int), undef, undef, undef, undef, undef, undef], defers := [] }) ?assign ?body ?done ?stop
  case assign =>
    intro l x W K hK
    gi_wp2
    exact hK
  case body =>
    rintro l pre x W ⟨⟨⟨v, hv, hrow, _⟩, hbn⟩, hB⟩ hlt
    have hc := hv.cell
    gi_wp2_with (gi_at_builtin; refine wpListIn_append_own _ rfl _ _ 23 rfl w.heap.size 5 i0 (.int .u8 0) 1 1 Try.underlying23 hi hz0 hz1 hz2 rfl (by decide) _ _ _ rfl (hrow.alloc _) ⟨W.heap.size, 0, none⟩ 1 1 [.int .u8 (x.toNat : Int)] rfl rfl (cell_one_new _ _ _) (by simp [Value.oneCell']) (by unfold maxLen; omega) (by omega) (by have := hB.size; simp; omega) ?_; intro v' w1 hown' hgrow _; obtain ⟨g', cap', rfl⟩ := ownsRow_succ hown'; obtain ⟨hv1, hv2, hr2, hk2, hb2⟩ := hv.appended (by decide) hrow hB.size (Nat.le_refl _) hown' hgrow; have hc1 := hv1.cell; have hf1 := hv1.frozen)
    have hb3 : KeepsBox n (w.heap.size + 1) W (w1.setCell ⟨w.heap.size, 0, none⟩ (.slice (some ⟨g', 0, none⟩) (pre.length + 1) cap')) := fun h => boxed_past h (by decide) (by omega) hrow hgrow
    exact ⟨hk2.from _, hb3, ⟨⟨_, hv2, Bytes.Has.laid1 hr2, trivial⟩, hb3 hbn⟩, hB.trans hb2⟩
  case done =>
    rintro D ys W hD rfl ⟨⟨⟨v, hv, hrow, _⟩, hbn⟩, hB⟩ hK
    have hc := hv.cell
    have ht : Bytes.Has W w.heap.size v (txt n) := hrow
    have htx := ht.text
    gi_wp2
    refine ⟨by simp, .inl ⟨_, _, rfl, run_takeDeferred hK, ?_⟩⟩
    exact ⟨_, results_tmp rfl _ _ _, rfl, hB.trans (belowK_b (w := w) (Nat.le_refl _) W D _ _ (by simp at hD; omega) hK rfl rfl)⟩
  case stop =>
    rintro D c pre W _ _ h _
    exact h.elim

theorem text_any (n : Int) (w : World) (h0 : -9223372036854775808 ≤ n) (h1 : n ≤ 9223372036854775807) :
    Calls Try.prog 10 #[.int .i64 n] w fun e W' => e = .returned (.string ⟨(txt n).toArray⟩) ∧ Below w.heap.size w W' :=
  callsIn_wide.1 (text_in n h0 h1 w)
end Go.Proofs.Ytogdnjanfmapeaa.Fig
