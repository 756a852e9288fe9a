/-
Whether one of the first elements lies deeper than it may: the program's answer. Conditions: the element lies below the caller's blocks; fewer than 3000 lie at most thirteen deep.
-/
import Derived.Test.YtpgjalikgmagiaaDoorTrWithin
import Derived.Test.YtpgjalikgmagiaaDoorTrRefTop
namespace Go.Proofs.YtpgjalikgmagiaaDoor.Tr
set_option maxRecDepth 100000
open Go.RowKit Sq
attribute [local go_sem] Oper.semAt_some

theorem below_put_p {B : Nat} {a w : World} (h : Below B a w) {D : Nat} {o : Obj} (hD : B ≤ D) (hk : w.heap[D]? = some o) (o' : Obj) : Below B a (w.putObj D o') :=
  h.grown (grownBy_putObj' w D o') (by have := (Array.getElem?_eq_some_iff.1 hk).1; omega) (fun k e => by cases e; exact hD)
theorem foldg (p q : Tmp) (a b : Value) (T : Array Value) : ((#[p, q] : Array Tmp).zip #[a, b]).foldl (fun t (p, v) => t.setIfInBounds p v) T = (T.setIfInBounds p a).setIfInBounds q b := by simp

/-- None of them lies too deep. -/
def NoDeep (l : List (Nat × Iv)) : Prop := ∀ y ∈ l, ¬ 12 < y.1
theorem NoDeep.snoc {l : List (Nat × Iv)} {x : Nat × Iv} (h : NoDeep l) (hx : ¬ 12 < x.1) : NoDeep (l ++ [x]) := fun y hy => by
  rcases List.mem_append.1 hy with h1 | h1
  · exact h y h1
  · rw [List.mem_singleton] at h1; subst h1; exact hx
def IsDeep (l : List (Nat × Iv)) : Prop := ∃ y ∈ l, 12 < y.1
set_option maxHeartbeats 2000000 in
theorem deep_any (x : Iv) (w : World) (hx : Ok w w.heap.size x) (hl : (preV w 13 1 x).length < 3000) :
    Calls Tryd.prog 16 #[elV x] w fun e w' => e = .returned (.bool ((preV w 13 1 x).any fun y => decide (12 < y.1))) ∧ Below w.heap.size w w' := by
  obtain ⟨a, c, hkv⟩ := hx.len
  obtain ⟨U1, hU1⟩ : ∃ U1, w.alloc (.cells #[.int .i64 x.1.page, .string x.1.name, .string x.1.text, .bool x.1.bare, x.2] 24) = U1 := ⟨_, rfl⟩
  obtain ⟨U2, hU2⟩ : ∃ U2, U1.alloc (.cells #[.bool false] 4) = U2 := ⟨_, rfl⟩
  obtain ⟨U3, hU3⟩ : ∃ U3, U2.alloc (.cells #[.int .i64 0] 3) = U3 := ⟨_, rfl⟩
  have z1 : U1.heap.size = w.heap.size + 1 := by rw [← hU1, World.size_alloc]
  have z2 : U2.heap.size = w.heap.size + 2 := by rw [← hU2, World.size_alloc, z1]
  have z3 : U3.heap.size = w.heap.size + 3 := by rw [← hU3, World.size_alloc, z2]
  have b1 : ElAt U3 w.heap.size x.1 x.2 := by
    have h : ElAt U1 w.heap.size x.1 x.2 := by rw [← hU1]; exact heap_alloc_new w _
    rw [← hU3, ← hU2]
    exact (((Below.refl (w.heap.size + 1) U1).alloc (by omega) _).alloc (by simp only [World.size_alloc]; omega) _).block _ (by omega) |>.trans h
  have b2 : Boxed U3 (w.heap.size + 1) 4 (.bool false) := by
    have h := Boxed.new U1 4 (.bool false); rw [hU2, z1] at h
    rw [← hU3]; exact h.alloc _
  have b3 : Boxed U3 (w.heap.size + 2) 3 (.int .i64 0) := by
    have h := Boxed.new U2 3 (.int .i64 0); rw [hU3, z2] at h; exact h
  have hB3 : Below w.heap.size w U3 := by
    rw [← hU3, ← hU2, ← hU1]
    exact (((Below.refl _ w).alloc (Nat.le_refl _) _).alloc (by simp) _).alloc (by simp only [World.size_alloc]; omega) _
  have q0 := b1.c0
  have q1 := b1.c1
  have q2 := b1.c2
  have q3 := b1.c3
  have q4 := b1.c4
  rw [hkv] at q4
  have CW := Lib.hid (within_any x 1 13 U3)
  have hwn := wi_new x 1 13 U3
  obtain ⟨V0, hV0⟩ : ∃ V0, ((U3.alloc (.cells #[.int .i64 x.1.page, .string x.1.name, .string x.1.text, .bool x.1.bare, x.2] 24)).alloc (.cells #[.int .i64 1] 3)).alloc (.cells #[.int .i64 13] 3) = V0 := ⟨_, rfl⟩
  have hz0 : V0.heap.size = w.heap.size + 6 := by rw [← hV0]; simp only [World.size_alloc]; omega
  have hS0 : Below (w.heap.size + 3) U3 V0 := by
    rw [← hV0]
    exact (((Below.refl _ U3).alloc (by omega) _).alloc (by simp only [World.size_alloc]; omega) _).alloc (by simp only [World.size_alloc]; omega) _
  rw [hV0] at CW hwn
  rw [z3] at CW hwn
  have hB0 : Below w.heap.size w V0 := hB3.trans (hS0.mono (by omega))
  have hsq := within_sq w w.heap.size 12 1 x (w.heap.size + 3) V0 13 hx hB0 (by omega) (by omega) (by omega) hwn
  have b2' : Boxed V0 (w.heap.size + 1) 4 (.bool false) := (hS0.block _ (by omega)).trans b2
  have b3' : Boxed V0 (w.heap.size + 2) 3 (.int .i64 0) := (hS0.block _ (by omega)).trans b3
  rw [show (12 : Nat) + 1 = 13 from rfl] at hsq
  have HX := Lib.hid (preV_ok 13 1 hx)
  have HF := Lib.hid (fun y (hy : y ∈ preV w 13 1 x) => preV_fst y hy)
  generalize preV w 13 1 x = xs at hsq HX HF hl ⊢
  unfold elW at CW
  unfold elV
  rw [hkv] at CW hU1 ⊢
  obtain ⟨R, hR⟩ : ∃ R, (xs.any fun y => decide (12 < y.1)) = R := ⟨_, rfl⟩
  rw [hR]
  have HR := Lib.hid hR
  have HKV := Lib.hid hkv
  have HL := Lib.hid hl
  have HB := Lib.hid (And.intro hB0 (And.intro b2' (And.intro b3' (And.intro hz0 (And.intro hsq hB3)))))
  clear hx hl hR hkv hB0 b2' b3' hz0 hsq hB3 hS0 hwn hV0 b1 b2 b3 z1 z2 z3
  subst hU1 hU2 hU3
  refine (callsIn_wide (n := 5)).1 ?_
  refine callsIn_of_wp_marks Tryd.func16 rfl trivial ?_ rfl
  simp only [Tryd.ntmps16, List.size_toArray, List.length_cons, List.length_nil, Nat.reduceAdd, Nat.reduceSub, Array.replicate_succ, Array.replicate_zero, List.push_toArray, List.append_toArray, List.nil_append, List.cons_append]
  gi_wp2_with (refine ⟨trivial, ?_⟩; gi_at_call 17; refine (callsIn_wide.2 CW.out).mono ?_; rintro e V0 ⟨rfl, rfl⟩)
  obtain ⟨hB0, b2', b3', hz0, hsq, -⟩ := HB.out
  refine range_sq1 (gf := 25) (lb := #[.pointer (some ⟨w.heap.size + 3 + 1, 0, none⟩), .pointer (some ⟨w.heap.size + 3, 0, none⟩), .pointer (some ⟨w.heap.size + 3 + 1 + 1, 0, none⟩)]) rfl eg_within hsq (Stays.refl _ _) (fun k hk => by rcases hk with h | h <;> omega) (fun _ => rfl)
    (fun pre _ V => NoDeep pre ∧ (Boxed V (w.heap.size + 2) 3 (.int .i64 (pre.length : Int)) ∧ Below (w.heap.size + 2) V0 V))
    (fun c pre _ V => (c = .ret ∧ IsDeep pre) ∧ (Boxed V (w.heap.size + 1) 4 (.bool true) ∧ Below w.heap.size w V))
    (Foot.and (Foot.pure (fun (pre : List (Nat × Iv)) => NoDeep pre)) (Foot.and (Foot.boxed _ _ (fun (pre : List (Nat × Iv)) => .int .i64 (pre.length : Int)) (by omega)) (Foot.below (by omega) (by omega))))
    (fun c => Foot.and (Foot.pure (fun (pre : List (Nat × Iv)) => c = .ret ∧ IsDeep pre)) (Foot.and (Foot.boxed _ _ (fun _ => .bool true) (by omega)) (Foot.below (by omega) (Nat.le_refl _))))
    ⟨fun y hy => by simp at hy, b3', Below.refl _ _⟩ ?round ?done ?stop
  case round =>
    rintro l pre ⟨yd, ye, yv⟩ O W1 hO hp
    unfold encW elW
    dsimp only
    rw [foldg]
    simp only [List.setIfInBounds_toArray, List.set_cons_succ, List.set_cons_zero]
    gi_wp2
    refine ⟨trivial, ?_⟩
    rintro V ⟨hno, hcnt, hB⟩ hRW hOl hrec hOW
    have hbF := (hB.block (w.heap.size + 1) (by omega)).trans b2'
    have hbF : Boxed V (w.heap.size + 1) 4 (.bool false) := hbF
    have hpl := hp.length_le
    rw [List.length_append, List.length_singleton] at hpl
    have hl3 := HL.out
    have hcc := hcnt.cell
    have hcf := hcnt.frozen
    have hcb := hbF.cell
    have hfb := hbF.frozen
    have hOn : ∀ k, (O k ∨ Rd w.heap.size (w.heap.size + 3) k) → k ≠ w.heap.size + 1 ∧ k ≠ w.heap.size + 2 := fun k hk => by
      rcases hk with h | h | h
      · have := hO k h; omega
      · omega
      · omega
    by_cases hd : (yd : Int) > 12
    · gi_wp2_with fail
      refine ⟨(Stays.refl _ _).setCell _ _ (fun h => (hOn _ h).1 rfl), ⟨rfl, _, List.mem_append_right _ (List.mem_singleton.2 rfl), by show 12 < yd; omega⟩, hbF.set _, (hB0.trans (hB.mono (by omega))).setCell (p := ⟨w.heap.size + 1, 0, none⟩) (by simp) _⟩
    · have hne : ((pre.length : Int) + 1 == 5000) = false := by simp; omega
      have hcs := (hcnt.set (.int .i64 ((pre.length : Int) + 1))).cell
      gi_wp2_with fail
      refine ⟨(Stays.refl _ _).setCell _ _ (fun h => (hOn _ h).2 rfl), ?_, ?_, hB.setCell (p := ⟨w.heap.size + 2, 0, none⟩) (by simp) _⟩
      · exact hno.snoc (by show ¬ 12 < yd; omega)
      · rw [List.length_append, List.length_singleton]; exact hcnt.set _
  case stop =>
    rintro D c' pre O V hD hOD hO hRW hpre ⟨⟨rfl, y, hy, hyd⟩, hbT, hB⟩ hK
    have HE := Lib.hid (show R = true by rw [← HR.out, List.any_eq_true]; exact ⟨y, hpre.subset hy, decide_eq_true hyd⟩)
    have hne : D ≠ w.heap.size + 1 := by omega
    have hc5 := (hbT.kept (grownBy_putObj' V D (.deferred Option.none)) (by rintro ⟨⟩; exact hne rfl)).cell
    have hwD : w.heap.size ≤ D := by omega
    clear hD hy hyd hpre
    gi_wp2_with fail
    refine ⟨by simp, .inl ⟨_, _, rfl, run_takeDeferred hK, ?_⟩⟩
    refine ⟨.bool true, ?_, by rw [HE.out], below_put_p hB hwD hK _⟩
    simp [results, Tryd.f16, go_sem, hc5]
  case done =>
    rintro D O V hD hOD hO hRW ⟨hno, hcnt, hB⟩ hK
    have HE := Lib.hid (show R = false by rw [← HR.out, List.any_eq_false]; exact fun y hy => by simpa using hno y hy)
    have hbF : Boxed V (w.heap.size + 1) 4 (.bool false) := (hB.block (w.heap.size + 1) (by omega)).trans b2'
    have hne : D ≠ w.heap.size + 1 := by omega
    have hcb := hbF.cell
    have hfb := hbF.frozen
    have hK' := (KeepsOthers.setCell V ⟨w.heap.size + 1, 0, none⟩ (.bool false)).same D _ hK rfl
    have hc5 := ((hbF.set (.bool false)).kept (grownBy_putObj' _ D (.deferred Option.none)) (by rintro ⟨⟩; exact hne rfl)).cell
    have hwD : w.heap.size ≤ D := by omega
    have HBF := Lib.hid ((hB0.trans (hB.mono (by omega))).setCell (p := ⟨w.heap.size + 1, 0, none⟩) (by simp) (.bool false))
    clear hD hno
    gi_wp2_with fail
    refine ⟨by simp, .inl ⟨_, _, rfl, run_takeDeferred hK', ?_⟩⟩
    refine ⟨.bool false, ?_, by rw [HE.out], below_put_p HBF.out hwD hK' _⟩
    simp [results, Tryd.f16, go_sem, hc5]
end Go.Proofs.YtpgjalikgmagiaaDoor.Tr
