/-
charset.within tells whether none of a text's letters is above one. Conditions: the one is an int32; the library's tables hold what the rows list.
-/
import Derived.Test.YtmahdlaifbbjgaaDoorCsLetters
namespace Go.Proofs.YtmahdlaifbbjgaaDoor.Cs
open Go.RowKit Go.Shelf
attribute [local go_sem] Oper.semAt_some

theorem below_put_p {B : Nat} {a w : World} (h : Below B a w) {D : Nat} {o : Obj} (hD : B ≤ D) (hk : w.heap[D]? = some o) (o' : Obj) : Below B a (w.putObj D o') :=
  h.grown (grownBy_putObj' w D o') (by have := (Array.getElem?_eq_some_iff.1 hk).1; omega) (fun k e => by cases e; exact hD)
theorem within_snoc (m : Int) (l : List Nat) (x : Nat) : within m (l ++ [x]) = (within m l && decide ((x : Int) ≤ m)) := by
  unfold within; rw [List.all_append]; simp
theorem within_prefix {m : Int} {p l : List Nat} (h : p <+: l) (hw : within m p = false) : within m l = false := by
  obtain ⟨r, rfl⟩ := h
  unfold within at *
  rw [List.all_append, hw, Bool.false_and]

set_option maxRecDepth 100000 in
set_option maxHeartbeats 2000000 in
theorem within_in (s : ByteArray) (m : Int) (w : World) (T : Tabs w) :
    CallsIn Fence.wide 5 Tryd.prog 22 #[.string s, .int .i32 m] w fun e W' => e = .returned (.bool (within m (lets s.data.toList))) ∧ Below w.heap.size w W' := by
  refine callsIn_of_wp_marks Tryd.func22 rfl trivial ?_ rfl
  simp only [Tryd.ntmps22, List.size_toArray, List.length_cons, List.length_nil, Nat.reduceAdd, Nat.reduceSub, Array.replicate_succ, Array.replicate_zero, List.push_toArray, List.append_toArray, List.nil_append, List.cons_append]
  gi_wp2_with (refine ⟨trivial, ?_⟩; gi_at_call 7; refine (callsIn_wide.2 (letters_any s _)).mono ?_; rintro e w' ⟨rfl, rfl⟩)
  have bM := Boxed.new w 21 (.int .i32 m)
  have bR := Boxed.new (w.alloc (.cells #[.int .i32 m] 21)) 4 (.bool false)
  have hB1 : Below w.heap.size w ((w.alloc (.cells #[.int .i32 m] 21)).alloc (.cells #[.bool false] 4)) := ((Below.refl _ w).alloc (Nat.le_refl _) _).alloc (by simp) _
  have hOne := letters_one s ((w.alloc (.cells #[.int .i32 m] 21)).alloc (.cells #[.bool false] 4)) (T.below hB1 (Nat.le_refl _))
  have bM0 := (bM.alloc (.cells #[.bool false] 4)).alloc (.cells #[.string s] 9)
  have bR0 := bR.alloc (.cells #[.string s] 9)
  have hB0 := hB1.alloc (by simp; omega) (.cells #[.string s] 9)
  have hz0' : (((w.alloc (.cells #[.int .i32 m] 21)).alloc (.cells #[.bool false] 4)).alloc (.cells #[.string s] 9)).heap.size = w.heap.size + 1 + 1 + 1 := by simp
  simp only [World.size_alloc] at hOne bR0
  clear bM bR hB1
  generalize hW0 : (((w.alloc (.cells #[.int .i32 m] 21)).alloc (.cells #[.bool false] 4)).alloc (.cells #[.string s] 9)) = W0 at *
  clear hW0
  have hsz : W0.heap.size = w.heap.size + 3 := by omega
  have HZ := Lib.hid hsz
  clear hz0' hsz
  refine wpIn_rangeFunc_ownG rfl (by omega) (gf := 17) (lb := #[.pointer (some ⟨w.heap.size + 1 + 1, 0, none⟩)]) rfl trivial (enters_of Tryd.func17 (by kernel_rfl) rfl)
    (letters_stops (5 - 1) (by omega) (w.heap.size + 1 + 1) s (Below (w.heap.size + 3)) (fun W W' hb ho => ho.below hb (by omega)) W0 hOne) belowK_t (belowK_b (by rw [HZ.out]; omega)) (Below.refl _ _) (fun _ => rfl)
    (fun pre V => within m pre = true ∧ Below (w.heap.size + 3) W0 V)
    (fun c l V => (c = .ret ∧ within m l = false) ∧ Boxed V (w.heap.size + 1) 4 (.bool false) ∧ Below w.heap.size w V)
    (OwnFrom.and (ownFrom_pure _ (fun pre => within m pre = true)) (ownFrom_below (by rw [HZ.out]; omega) (by rw [HZ.out]; omega)))
    (fun c => OwnFrom.and (ownFrom_pure _ (fun l => c = .ret ∧ within m l = false)) (OwnFrom.and (Own.from (boxed_own _ _ _) _) (ownFrom_below (Nat.le_refl _) (by rw [HZ.out]; omega))))
    ⟨rfl, Below.refl _ _⟩
    (fun x => { tmps := #[.string s, .int .i32 m, undef, .pointer (some ⟨w.heap.size, 0, none⟩), .pointer (some ⟨w.heap.size + 1, 0, none⟩), .int .i32 (x : Int), .string s, .func (.func 17) #[] #[.pointer (some ⟨w.heap.size + 1 + 1, 0, none⟩)], .int .i32 (x : Int), undef, undef, undef], defers := [] }) ?assign ?body ?done ?stop
  case assign =>
    intro l x V K hK
    gi_wp2
    exact hK
  case body =>
    rintro l pre x V ⟨hw, hB⟩ hlt
    have bMV : Boxed V w.heap.size 21 (.int .i32 m) := (hB.block w.heap.size (by omega)).trans bM0
    have bRV : Boxed V (w.heap.size + 1) 4 (.bool false) := (hB.block (w.heap.size + 1) (by omega)).trans bR0
    have hcM := bMV.cell
    have hcR := bRV.cell
    have hfR := bRV.frozen
    by_cases hx : m < (x : Int)
    · gi_wp2_with fail
      exact ⟨(KeepsOthers.setCell _ _ _).from _, ⟨rfl, by rw [within_snoc, decide_eq_false (by omega), Bool.and_false]⟩, bRV.set _, (hB0.trans (hB.mono (by omega))).setCell (p := ⟨w.heap.size + 1, 0, none⟩) (by simp) _⟩
    · gi_wp2_with fail
      exact ⟨KeepsFrom.refl _ _, Below.refl _ _, by rw [within_snoc, hw, decide_eq_true (by omega)]; rfl, hB⟩
  case stop =>
    rintro D c l V hD hSp ⟨⟨rfl, hwl⟩, bRV, hB⟩ hK
    have HR := Lib.hid (within_prefix hSp hwl)
    clear hwl
    have hne : D ≠ w.heap.size + 1 := by rintro rfl; rw [show V.heap[w.heap.size + 1]? = _ from bRV] at hK; cases hK
    have hc5 := (bRV.kept (grownBy_putObj' V D (.deferred Option.none)) (by rintro ⟨⟩; exact hne rfl)).cell
    have h3 := HZ.out
    gi_wp2
    refine ⟨by simp, .inl ⟨_, _, rfl, run_takeDeferred hK, ?_⟩⟩
    refine ⟨.bool false, ?_, by rw [HR.out], below_put_p hB (by omega) hK _⟩
    simp [results, Tryd.f22, go_sem, hc5]
  case done =>
    rintro D ys V hD rfl ⟨hw, hB⟩ hK
    have HR := Lib.hid hw
    clear hw
    have bRV : Boxed V (w.heap.size + 1) 4 (.bool false) := (hB.block (w.heap.size + 1) (by omega)).trans bR0
    have hne : D ≠ w.heap.size + 1 := by rintro rfl; rw [show V.heap[w.heap.size + 1]? = _ from bRV] at hK; cases hK
    have hK' := (KeepsOthers.setCell V ⟨w.heap.size + 1, 0, none⟩ (.bool true)).same D _ hK rfl
    have hc5 := ((bRV.set (.bool true)).kept (grownBy_putObj' _ D (.deferred Option.none)) (by rintro ⟨⟩; exact hne rfl)).cell
    have hcR := bRV.cell
    have hfR := bRV.frozen
    have h3 := HZ.out
    gi_wp2
    refine ⟨by simp, .inl ⟨_, _, rfl, run_takeDeferred hK', ?_⟩⟩
    refine ⟨.bool true, ?_, by rw [HR.out], below_put_p ((hB0.trans (hB.mono (by omega))).setCell (p := ⟨w.heap.size + 1, 0, none⟩) (by simp) _) (by omega) hK' _⟩
    simp [results, Tryd.f22, go_sem, hc5]
theorem within_any (s : ByteArray) (m : Int) (w : World) (T : Tabs w) :
    Calls Tryd.prog 22 #[.string s, .int .i32 m] w fun e W' => e = .returned (.bool (within m (lets s.data.toList))) ∧ Below w.heap.size w W' :=
  callsIn_wide.1 (within_in s m w T)
end Go.Proofs.YtmahdlaifbbjgaaDoor.Cs
