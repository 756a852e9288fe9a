/-
A line's parameters, as the program reads them, piece by piece. Conditions: the text has at most 10000 bytes.
-/
import Derived.Test.YtccgpemcdbcjeaaDoorPpPPar
import Derived.Test.YtccgpemcdbcjeaaDoorPpSeq
import Derived.Test.YtccgpemcdbcjeaaDoorApp
import Derived.BigRegionIn
import Derived.BigQuiet
namespace Go.Proofs.YtccgpemcdbcjeaaDoor.Pp
open Go.RowKit Sq
attribute [local go_sem] Oper.semAt_some

/-- Parameters, piece by piece: the place, what has been read, what is left. -/
def pars : Nat → List (ByteArray × ByteArray) → List ByteArray → List (ByteArray × ByteArray) × Nat × Int
  | _, ps, [] => (ps, 0, 0)
  | a, ps, x :: r => if ps.length = 6 then ([], a, 4) else if (ppar x).2 = false then ([], a, 3) else pars (a + x.size + 1) (ps ++ [(ppar x).1]) r
def atOf (pre : List ByteArray) : Nat := pre.foldl (fun a x => a + x.size + 1) 0
def psOf (pre : List ByteArray) : List (ByteArray × ByteArray) := pre.map fun x => (ppar x).1
theorem atOf_snoc (pre : List ByteArray) (x : ByteArray) : atOf (pre ++ [x]) = atOf pre + x.size + 1 := by unfold atOf; rw [List.foldl_append]; rfl
theorem psOf_snoc (pre : List ByteArray) (x : ByteArray) : psOf (pre ++ [x]) = psOf pre ++ [(ppar x).1] := by unfold psOf; rw [List.map_append]; rfl
theorem psOf_length (pre : List ByteArray) : (psOf pre).length = pre.length := by unfold psOf; rw [List.length_map]
theorem drop_next {pre xs : List ByteArray} {x : ByteArray} (h : pre ++ [x] <+: xs) : xs.drop pre.length = x :: xs.drop (pre ++ [x]).length := by
  obtain ⟨r, rfl⟩ := h
  rw [List.append_assoc, List.drop_left]; simp
theorem atOf_ge (pre r : List ByteArray) : atOf pre ≤ atOf (pre ++ r) := by
  induction r generalizing pre with
  | nil => simp
  | cons x r ih =>
    have := ih (pre ++ [x])
    rw [atOf_snoc, List.append_assoc] at this
    exact Nat.le_trans (by omega) this
theorem atOf_cons (x : ByteArray) (r : List ByteArray) : atOf (x :: r) = x.size + 1 + atOf r := by
  have h : ∀ (r : List ByteArray) (a : Nat), r.foldl (fun a x => a + x.size + 1) a = a + r.foldl (fun a x => a + x.size + 1) 0 := by
    intro r
    induction r with
    | nil => intro a; rfl
    | cons y r ih => intro a; rw [List.foldl_cons, ih, List.foldl_cons, ih (0 + y.size + 1)]; omega
  unfold atOf
  rw [List.foldl_cons, h]; omega
theorem atOf_pcs (c : UInt8) (s : ByteArray) : atOf (pcs c s) = s.size + 1 := by
  have h : ∀ (n : Nat) (s : ByteArray), s.size ≤ n → atOf (pcs c s) = s.size + 1 := by
    intro n
    induction n with
    | zero =>
      intro s hs
      rw [pcs_no (by omega), atOf_cons]; show s.size + 1 + 0 = _; omega
    | succ n ih =>
      intro s hs
      by_cases hi : s.data.toList.idxOf c < s.size
      · have e1 : (s.extract 0 (s.data.toList.idxOf c)).size = s.data.toList.idxOf c := by rw [ByteArray.size_extract]; omega
        have e2 : (s.extract (s.data.toList.idxOf c + 1) s.size).size = s.size - (s.data.toList.idxOf c + 1) := by rw [ByteArray.size_extract]; omega
        rw [pcs_yes hi, atOf_cons, ih _ (by rw [e2]; omega), e1, e2]; omega
      · rw [pcs_no hi, atOf_cons]; show s.size + 1 + 0 = _; omega
  exact h _ s (Nat.le_refl _)
theorem atOf_bound {c : UInt8} {s : ByteArray} {pre : List ByteArray} (h : pre <+: pcs c s) : atOf pre ≤ s.size + 1 := by
  obtain ⟨r, hr⟩ := h
  rw [← atOf_pcs c s, ← hr]; exact atOf_ge pre r
theorem pars_full {pre xs : List ByteArray} {x : ByteArray} {R : List (ByteArray × ByteArray) × Nat × Int} (hp : pre ++ [x] <+: xs) (h : pars (atOf pre) (psOf pre) (xs.drop pre.length) = R) (h6 : pre.length = 6) : R = ([], atOf pre, 4) := by
  rw [← h, drop_next hp, pars, if_pos (by rw [psOf_length]; exact h6)]
theorem pars_bad {pre xs : List ByteArray} {x : ByteArray} {R : List (ByteArray × ByteArray) × Nat × Int} (hp : pre ++ [x] <+: xs) (h : pars (atOf pre) (psOf pre) (xs.drop pre.length) = R) (h6 : ¬ pre.length = 6) (hx : (ppar x).2 = false) : R = ([], atOf pre, 3) := by
  rw [← h, drop_next hp, pars, if_neg (by rw [psOf_length]; exact h6), if_pos hx]
theorem pars_next {pre xs : List ByteArray} {x : ByteArray} {R : List (ByteArray × ByteArray) × Nat × Int} (hp : pre ++ [x] <+: xs) (h : pars (atOf pre) (psOf pre) (xs.drop pre.length) = R) (h6 : ¬ pre.length = 6) (hx : (ppar x).2 = true) : pars (atOf (pre ++ [x])) (psOf (pre ++ [x])) (xs.drop (pre ++ [x]).length) = R := by
  rw [← h, drop_next hp, pars, if_neg (by rw [psOf_length]; exact h6), if_neg (by rw [hx]; simp), atOf_snoc, psOf_snoc]
theorem pars_done {xs : List ByteArray} {R : List (ByteArray × ByteArray) × Nat × Int} (h : pars (atOf xs) (psOf xs) (xs.drop xs.length) = R) : R = (psOf xs, 0, 0) := by
  rw [← h, List.drop_length]; rfl

theorem putBelow {B : Nat} {a w : World} (h : Below B a w) {D : Nat} {o : Obj} (hD : B ≤ D) (hk : w.heap[D]? = some o) (o' : Obj) : Below B a (w.putObj D o') :=
  h.grown (grownBy_putObj' w D o') (by have := (Array.getElem?_eq_some_iff.1 hk).1; omega) (fun k e => by cases e; exact hD)
theorem ended {V : World} {b : Nat} {u0 u1 u2 : Value} {t0 t1 t2 : TypeId} (h0 : Boxed V b t0 u0) (h1 : Boxed V (b + 1) t1 u1) (h2 : Boxed V (b + 1 + 1) t2 u2) (x0 x1 x2 : Value) :
    Boxed (((V.setCell ⟨b, 0, none⟩ x0).setCell ⟨b + 1, 0, none⟩ x1).setCell ⟨b + 1 + 1, 0, none⟩ x2) b t0 x0 ∧ Boxed (((V.setCell ⟨b, 0, none⟩ x0).setCell ⟨b + 1, 0, none⟩ x1).setCell ⟨b + 1 + 1, 0, none⟩ x2) (b + 1) t1 x1 ∧ Boxed (((V.setCell ⟨b, 0, none⟩ x0).setCell ⟨b + 1, 0, none⟩ x1).setCell ⟨b + 1 + 1, 0, none⟩ x2) (b + 1 + 1) t2 x2 ∧
      ∀ O : Nat → Prop, ¬ O b → ¬ O (b + 1) → ¬ O (b + 1 + 1) → Stays O V (((V.setCell ⟨b, 0, none⟩ x0).setCell ⟨b + 1, 0, none⟩ x1).setCell ⟨b + 1 + 1, 0, none⟩ x2) := by
  have a0 := h0.set x0
  have a1 := h1.other (by omega : b + 1 ≠ b) x0
  have a2 := h2.other (by omega : b + 1 + 1 ≠ b) x0
  have c0 := a0.other (by omega : b ≠ b + 1) x1
  have c1 := a1.set x1
  have c2 := a2.other (by omega : b + 1 + 1 ≠ b + 1) x1
  exact ⟨c0.other (by omega) x2, c1.other (by omega) x2, c2.set x2, fun O n0 n1 n2 => (((Stays.refl _ _).setCell _ _ n0).setCell _ _ n1).setCell _ _ n2⟩
set_option maxRecDepth 100000 in
set_option maxHeartbeats 8000000 in
theorem parParams_any (s : ByteArray) (w : World) (hs : s.size ≤ 10000) :
    Calls Tryd.prog 24 #[.string s] w fun e w' => ∃ v, e = .returned (.tuple #[v, .int .i64 ((pars 0 [] (pcs 59 s)).2.1 : Int), .int .i64 (pars 0 [] (pcs 59 s)).2.2]) ∧ Own w' w.heap.size v (pars 0 [] (pcs 59 s)).1 ∧ Below w.heap.size w w' := by
  obtain ⟨i0, hi, hz0, hz1, hz2⟩ := info_parts infoP
  have hz5 : (((((w.alloc (.cells #[.slice none 0 0] 22)).alloc (.cells #[.int .i64 0] 3)).alloc (.cells #[.int .i64 0] 26)).alloc (.cells #[.slice none 0 0] 22)).alloc (.cells #[.int .i64 0] 3)).heap.size = w.heap.size + 5 := by simp
  have b0 : Boxed (((((w.alloc (.cells #[.slice none 0 0] 22)).alloc (.cells #[.int .i64 0] 3)).alloc (.cells #[.int .i64 0] 26)).alloc (.cells #[.slice none 0 0] 22)).alloc (.cells #[.int .i64 0] 3)) (w.heap.size) 22 (.slice none 0 0) := by
    have h := Boxed.new w 22 (.slice none 0 0)
    exact h |>.alloc (.cells #[.int .i64 0] 3) |>.alloc (.cells #[.int .i64 0] 26) |>.alloc (.cells #[.slice none 0 0] 22) |>.alloc (.cells #[.int .i64 0] 3)
  have b1 : Boxed (((((w.alloc (.cells #[.slice none 0 0] 22)).alloc (.cells #[.int .i64 0] 3)).alloc (.cells #[.int .i64 0] 26)).alloc (.cells #[.slice none 0 0] 22)).alloc (.cells #[.int .i64 0] 3)) (w.heap.size + 1) 3 (.int .i64 0) := by
    have h := Boxed.new (w.alloc (.cells #[.slice none 0 0] 22)) 3 (.int .i64 0)
    rw [show (w.alloc (.cells #[.slice none 0 0] 22)).heap.size = w.heap.size + 1 by simp] at h
    exact h |>.alloc (.cells #[.int .i64 0] 26) |>.alloc (.cells #[.slice none 0 0] 22) |>.alloc (.cells #[.int .i64 0] 3)
  have b2 : Boxed (((((w.alloc (.cells #[.slice none 0 0] 22)).alloc (.cells #[.int .i64 0] 3)).alloc (.cells #[.int .i64 0] 26)).alloc (.cells #[.slice none 0 0] 22)).alloc (.cells #[.int .i64 0] 3)) (w.heap.size + 1 + 1) 26 (.int .i64 0) := by
    have h := Boxed.new ((w.alloc (.cells #[.slice none 0 0] 22)).alloc (.cells #[.int .i64 0] 3)) 26 (.int .i64 0)
    rw [show ((w.alloc (.cells #[.slice none 0 0] 22)).alloc (.cells #[.int .i64 0] 3)).heap.size = w.heap.size + 1 + 1 by simp] at h
    exact h |>.alloc (.cells #[.slice none 0 0] 22) |>.alloc (.cells #[.int .i64 0] 3)
  have b3 : Boxed (((((w.alloc (.cells #[.slice none 0 0] 22)).alloc (.cells #[.int .i64 0] 3)).alloc (.cells #[.int .i64 0] 26)).alloc (.cells #[.slice none 0 0] 22)).alloc (.cells #[.int .i64 0] 3)) (w.heap.size + 1 + 1 + 1) 22 (.slice none 0 0) := by
    have h := Boxed.new (((w.alloc (.cells #[.slice none 0 0] 22)).alloc (.cells #[.int .i64 0] 3)).alloc (.cells #[.int .i64 0] 26)) 22 (.slice none 0 0)
    rw [show (((w.alloc (.cells #[.slice none 0 0] 22)).alloc (.cells #[.int .i64 0] 3)).alloc (.cells #[.int .i64 0] 26)).heap.size = w.heap.size + 1 + 1 + 1 by simp] at h
    exact h |>.alloc (.cells #[.int .i64 0] 3)
  have b4 : Boxed (((((w.alloc (.cells #[.slice none 0 0] 22)).alloc (.cells #[.int .i64 0] 3)).alloc (.cells #[.int .i64 0] 26)).alloc (.cells #[.slice none 0 0] 22)).alloc (.cells #[.int .i64 0] 3)) (w.heap.size + 1 + 1 + 1 + 1) 3 (.int .i64 0) := by
    have h := Boxed.new ((((w.alloc (.cells #[.slice none 0 0] 22)).alloc (.cells #[.int .i64 0] 3)).alloc (.cells #[.int .i64 0] 26)).alloc (.cells #[.slice none 0 0] 22)) 3 (.int .i64 0)
    rw [show ((((w.alloc (.cells #[.slice none 0 0] 22)).alloc (.cells #[.int .i64 0] 3)).alloc (.cells #[.int .i64 0] 26)).alloc (.cells #[.slice none 0 0] 22)).heap.size = w.heap.size + 1 + 1 + 1 + 1 by simp] at h
    exact h
  have hB5 : Below w.heap.size w (((((w.alloc (.cells #[.slice none 0 0] 22)).alloc (.cells #[.int .i64 0] 3)).alloc (.cells #[.int .i64 0] 26)).alloc (.cells #[.slice none 0 0] 22)).alloc (.cells #[.int .i64 0] 3)) := (((((Below.refl _ w).alloc (Nat.le_refl _) _).alloc (by simp) _).alloc (by simp; omega) _).alloc (by simp; omega) _).alloc (by simp; omega) _
  have HBD : Hid (∀ pre, pre <+: pcs 59 s → atOf pre ≤ s.size + 1) := Lib.hid (fun pre h => atOf_bound h)
  obtain ⟨xs, hxs⟩ : ∃ xs, pcs 59 s = xs := ⟨_, rfl⟩
  have HXS := Lib.hid hxs
  rw [hxs] at HBD ⊢
  obtain ⟨⟨rp, ra, re⟩, hR⟩ : ∃ R, pars 0 [] xs = R := ⟨_, rfl⟩
  rw [hR]
  simp only
  have HRR := Lib.hid hR
  clear hxs hR
  refine (callsIn_wide (n := 5)).1 ?_
  refine callsIn_of_wp_marks Tryd.func24 rfl trivial ?_ rfl
  simp only [Tryd.ntmps24, List.size_toArray, List.length_cons, List.length_nil, Nat.reduceAdd, Nat.reduceSub, Array.replicate_succ, Array.replicate_zero, List.push_toArray, List.append_toArray, List.nil_append, List.cons_append]
  have CS := Lib.hid (fun W => splitSeq_any s 59 W)
  have HFIVE := Lib.hid (And.intro hz5 (And.intro hB5 (And.intro b0 (And.intro b1 (And.intro b2 (And.intro b3 b4))))))
  clear hz5 hB5 b0 b1 b2 b3 b4
  gi_wp2_with fail
  refine ⟨trivial, (callsIn_wide.2 (CS.out _)).mono ?_⟩
  obtain ⟨hz5, hB5, b0, b1, b2, b3, b4⟩ := HFIVE.out
  clear HFIVE
  generalize (((((w.alloc (.cells #[.slice none 0 0] 22)).alloc (.cells #[.int .i64 0] 3)).alloc (.cells #[.int .i64 0] 26)).alloc (.cells #[.slice none 0 0] 22)).alloc (.cells #[.int .i64 0] 3)) = W5 at *
  rintro e V0 ⟨rfl, hbV, hzV, c5, c6, c7⟩
  rw [hz5] at hzV c5 c6 c7 hbV ⊢
  have hB0 : Below w.heap.size w V0 := hB5.trans (hbV.mono (by omega))
  have d0 := (hbV.block w.heap.size (by omega)).trans b0
  have d1 := (hbV.block (w.heap.size + 1) (by omega)).trans b1
  have d2 := (hbV.block (w.heap.size + 1 + 1) (by omega)).trans b2
  have d3 := (hbV.block (w.heap.size + 1 + 1 + 1) (by omega)).trans b3
  have d4 := (hbV.block (w.heap.size + 1 + 1 + 1 + 1) (by omega)).trans b4
  change Boxed V0 w.heap.size 22 (.slice none 0 0) at d0
  change Boxed V0 (w.heap.size + 1) 3 (.int .i64 0) at d1
  change Boxed V0 (w.heap.size + 1 + 1) 26 (.int .i64 0) at d2
  change Boxed V0 (w.heap.size + 1 + 1 + 1) 22 (.slice none 0 0) at d3
  change Boxed V0 (w.heap.size + 1 + 1 + 1 + 1) 3 (.int .i64 0) at d4
  have hso := splitSeq_so s 59 (by omega) (w.heap.size + 5 + 1) (w.heap.size + 5) (w.heap.size + 5 + 2) V0 c6 c5 c7 (by omega) (by omega)
  rw [HXS.out] at hso
  clear hz5 hB5 b0 b1 b2 b3 b4 hbV CS c5 c6 c7
  gi_wp2_with fail
  refine range_so1 (gf := 52) (lb := #[.pointer (some ⟨w.heap.size + 5 + 1, 0, none⟩), .pointer (some ⟨w.heap.size + 5, 0, none⟩), .pointer (some ⟨w.heap.size + 5 + 2, 0, none⟩)]) rfl eg_split hso (Stays.refl _ _) (Stays.refl _ _) (fun k hk => by omega) (fun k hk => by omega) (fun k hk => by omega) (fun _ => rfl)
    (fun pre O V => ((∃ v, Boxed V (w.heap.size + 1 + 1 + 1) 22 v ∧ V.ownsRow (w.heap.size + 8) 37 2 v pre.length (pcells (psOf pre)) ∧ (∀ g, v.ownBlock = some g → ¬ O g)) ∧ Boxed V (w.heap.size + 1 + 1 + 1 + 1) 3 (.int .i64 (atOf pre : Int))) ∧ (Boxed V w.heap.size 22 (.slice none 0 0) ∧ Boxed V (w.heap.size + 1) 3 (.int .i64 0) ∧ Boxed V (w.heap.size + 1 + 1) 26 (.int .i64 0)) ∧ Below w.heap.size w V ∧ (pars (atOf pre) (psOf pre) (xs.drop pre.length) = (rp, ra, re) ∧ pre.length ≤ 6))
    (fun c pre O V => (Boxed V w.heap.size 22 (.slice none 0 0) ∧ Boxed V (w.heap.size + 1) 3 (.int .i64 (ra : Int)) ∧ Boxed V (w.heap.size + 1 + 1) 26 (.int .i64 re)) ∧ Below w.heap.size w V ∧ (c = .ret ∧ rp = []))
    (FootO.and (FootO.and (FootO.row (β := List ByteArray) (w.heap.size + 8) (w.heap.size + 1 + 1 + 1) 22 37 2 (fun pre => List.length pre) (fun pre => pcells (psOf pre)) (by omega)) (FootO.boxed (β := List ByteArray) (w.heap.size + 1 + 1 + 1 + 1) 3 (fun pre => .int .i64 (atOf pre : Int)) (by omega))) (FootO.and (FootO.and (FootO.boxed (β := List ByteArray) w.heap.size 22 (fun _ => .slice none 0 0) (by omega)) (FootO.and (FootO.boxed (β := List ByteArray) (w.heap.size + 1) 3 (fun _ => .int .i64 0) (by omega)) (FootO.boxed (β := List ByteArray) (w.heap.size + 1 + 1) 26 (fun _ => .int .i64 0) (by omega)))) (FootO.and (FootO.below (fun k hk => by omega) (Nat.le_refl _)) (FootO.pure (fun pre => pars (atOf pre) (psOf pre) (xs.drop (List.length pre)) = (rp, ra, re) ∧ List.length pre ≤ 6)))))
    (fun c => FootO.and (FootO.and (FootO.boxed (β := List ByteArray) w.heap.size 22 (fun _ => .slice none 0 0) (by omega)) (FootO.and (FootO.boxed (β := List ByteArray) (w.heap.size + 1) 3 (fun _ => .int .i64 (ra : Int)) (by omega)) (FootO.boxed (β := List ByteArray) (w.heap.size + 1 + 1) 26 (fun _ => .int .i64 re) (by omega)))) (FootO.and (FootO.below (fun k hk => by omega) (Nat.le_refl _)) (FootO.pure (fun _ => c = .ret ∧ rp = []))))
    ⟨⟨⟨_, d3, World.ownsRow_nil _ _ _ _, fun g e => by simp [Value.ownBlock] at e⟩, d4⟩, ⟨d0, d1, d2⟩, hB0, HRR.out, Nat.zero_le _⟩ ?round ?done ?stop
  case round =>
    rintro l pre x O W1 hO hp
    unfold encS
    gi_wp2
    refine ⟨trivial, ?_⟩
    rintro V ⟨⟨⟨v, hv, hrow, hvO⟩, h4⟩, ⟨h0, h1, h2⟩, hB, hpars, hlen⟩ hRW hOl hrec hOW
    obtain ⟨sa, sc, rfl⟩ := shapeP hrow
    have hc3 := hv.cell
    have hc4 := h4.cell
    have hpx : pre ++ [x] <+: xs := hp
    have hle := own_lt hrow
    have OUT : ∀ k, k < w.heap.size + 5 → ¬ (O k ∨ k = w.heap.size + 5 + 1 ∨ k = w.heap.size + 5 + 2) := fun k hk h => by
      rcases h with h | h
      · have := hOW k h; omega
      · omega
    have INV : ∀ k, (O k ∨ k = w.heap.size + 5 + 1 ∨ k = w.heap.size + 5 + 2) → k < V.heap.size := fun k h => by
      have := hRW.size
      rcases h with h | h
      · exact (hOW k h).2
      · omega
    by_cases h6 : pre.length = 6
    · have h66 : ((pre.length : Int) == 6) = true := by simp; omega
      have HE := Lib.hid (pars_full hp hpars h6)
      have mixed : Tryd.prog.follows .mixedOrders = true := by kernel_rfl
      have hc0 := h0.cell
      have hc1 := h1.cell
      have hc2 := h2.cell
      have f0 := h0.frozen
      have f1 := h1.frozen
      have f2 := h2.frozen
      gi_wp2_with fail
      gi_region_with_o (fail)
      all_goals
        gi_wp2_with fail
        obtain ⟨e0, e1, e2, eS⟩ := ended h0 h1 h2 (.slice none 0 0) (.int .i64 (atOf pre : Int)) (.int .i64 4)
        have hE := HE.out
        simp only [Prod.mk.injEq] at hE
        obtain ⟨rfl, rfl, rfl⟩ := hE
        exact ⟨(eS _ (fun h => OUT _ (by omega) h) (fun h => OUT _ (by omega) h) (fun h => OUT _ (by omega) h)).drew, ⟨e0, e1, e2⟩, (hB.trans ((eS (fun k => k < w.heap.size) (by omega) (by omega) (by omega)).below fun k hk => hk)).drew, rfl, rfl⟩
    · have h66 : ((pre.length : Int) == 6) = false := by simp; omega
      have hat := HBD.out _ hpx
      rw [atOf_snoc] at hat
      have CP := Lib.hid (fun W => parParam_any x W (by omega))
      have HBAD := Lib.hid (pars_bad hp hpars h6)
      have HNEXT := Lib.hid (pars_next hp hpars h6)
      have HPS := Lib.hid (psOf_snoc pre x)
      have HAT := Lib.hid (show ((atOf (pre ++ [x]) : Nat) : Int) = (atOf pre : Int) + ((x.size : Int) + 1) by rw [atOf_snoc]; omega)
      obtain ⟨⟨⟨qn, qv⟩, ok⟩, hq⟩ : ∃ q, ppar x = q := ⟨_, rfl⟩
      rw [hq] at CP HBAD HNEXT HPS
      simp only at CP HBAD HNEXT HPS
      have hown : Own V (w.heap.size + 8) (.slice sa pre.length sc) (psOf pre) := by unfold Own; rw [psOf_length]; exact hrow
      have hat1 : (atOf pre : Int) + ((x.size : Int) + 1) ≤ 10001 := by omega
      have hxs : (x.size : Int) ≤ 10001 := by omega
      have hzV := hRW.size
      have hA : pre.length + 1 ≤ maxLen := by unfold maxLen; omega
      have hA2 : (pre.length + 1) * 32 ≤ 140737488355328 := by omega
      clear hpars hq hat
      cases ok with
      | false =>
        have HE := Lib.hid (HBAD.out rfl)
        clear HBAD HNEXT HPS HAT hat1 hxs hA hA2 hs hown
        gi_wp2_with (refine ⟨trivial, ?_⟩; gi_at_call 34; refine (CallsIn.inRound l (callsIn_wide.2 (CP.out _))).mono ?_; rintro e w2 ⟨rfl, b2⟩; have g0 := (Boxed.alloc (show Boxed w2 w.heap.size 22 _ from (b2.block _ h0.lt).trans h0) (.cells #[.string qn, .string qv] 37)); have g1 := (Boxed.alloc (show Boxed w2 (w.heap.size + 1) 3 _ from (b2.block _ h1.lt).trans h1) (.cells #[.string qn, .string qv] 37)); have g2 := (Boxed.alloc (show Boxed w2 (w.heap.size + 1 + 1) 26 _ from (b2.block _ h2.lt).trans h2) (.cells #[.string qn, .string qv] 37)); have g4 := (Boxed.alloc (show Boxed w2 (w.heap.size + 1 + 1 + 1 + 1) 3 _ from (b2.block _ h4.lt).trans h4) (.cells #[.string qn, .string qv] 37)); have hc0 := g0.cell; have hc1 := g1.cell; have hc2 := g2.cell; have f0 := g0.frozen; have f1 := g1.frozen; have f2 := g2.frozen; have hc4q := g4.cell)
        have mixed : Tryd.prog.follows .mixedOrders = true := by kernel_rfl
        gi_region_with_o (fail)
        all_goals
          gi_wp2_with fail
          obtain ⟨e0, e1, e2, eS⟩ := ended g0 g1 g2 (.slice none 0 0) (.int .i64 (atOf pre : Int)) (.int .i64 3)
          have hE := HE.out
          simp only [Prod.mk.injEq] at hE
          obtain ⟨rfl, rfl, rfl⟩ := hE
          have bq : Below V.heap.size V (w2.alloc (.cells #[.string qn, .string qv] 37)) := b2.alloc b2.size _
          exact ⟨((Stays.of_below bq (fun k hk => INV k hk)).trans (eS _ (fun h => OUT _ (by omega) h) (fun h => OUT _ (by omega) h) (fun h => OUT _ (by omega) h))).drew, ⟨e0, e1, e2⟩, ((hB.trans (bq.mono hB.size)).trans ((eS (fun k => k < w.heap.size) (by omega) (by omega) (by omega)).below fun k hk => hk)).drew, rfl, rfl⟩
      | true =>
        have HN := Lib.hid (HNEXT.out rfl)
        have HLEN : Hid (pre.length + 1 ≤ 6) := Lib.hid (by omega)
        clear HBAD HNEXT hs hlen
        have HA := Lib.hid hA
        have HA2 := Lib.hid hA2
        clear hA hA2
        have HW8 : Hid (w.heap.size + 8 ≤ V.heap.size) := Lib.hid (by omega)
        gi_wp2_with (first
          | (refine ⟨trivial, ?_⟩; gi_at_call 34; refine (CallsIn.inRound l (callsIn_wide.2 (CP.out _))).mono ?_; rintro e w2 ⟨rfl, b2⟩; have HX : Hid (QAt (w2.alloc (.cells #[.string qn, .string qv] 37)) w2.heap.size qn qv) := Lib.hid (heap_alloc_new w2 _); have bq : Below V.heap.size V (w2.alloc (.cells #[.string qn, .string qv] 37)) := b2.alloc b2.size _; have hvq : Boxed (w2.alloc (.cells #[.string qn, .string qv] 37)) (w.heap.size + 1 + 1 + 1) 22 _ := (bq.block _ hv.lt).trans hv; have h4q : Boxed (w2.alloc (.cells #[.string qn, .string qv] 37)) (w.heap.size + 1 + 1 + 1 + 1) 3 _ := (bq.block _ h4.lt).trans h4; have hownq : Own (w2.alloc (.cells #[.string qn, .string qv] 37)) (w.heap.size + 8) (.slice sa pre.length sc) (psOf pre) := hown.below bq; have hrowq : World.ownsRow (w2.alloc (.cells #[.string qn, .string qv] 37)) (w.heap.size + 8) 37 2 (.slice sa pre.length sc) pre.length (pcells (psOf pre)) := (by unfold Own at hownq; rw [psOf_length] at hownq; exact hownq); have hc3q := hvq.cell; have q0 := HX.out.c0; have q1 := HX.out.c1; have hzq : (w2.alloc (.cells #[.string qn, .string qv] 37)).heap.size = w2.heap.size + 1 := World.size_alloc _ _; have hnew := heap_alloc_new (w2.alloc (.cells #[.string qn, .string qv] 37)) (.cells #[.string qn, .string qv] 37); rw [hzq] at hnew; have hns : ∀ j u, [Value.string qn, Value.string qv][j]? = some u → ((w2.alloc (.cells #[.string qn, .string qv] 37)).alloc (.cells #[.string qn, .string qv] 37)).cell? (Addr.add ⟨w2.heap.size + 1, 0, none⟩ j) = some u := World.news_of_block (cs := #[.string qn, .string qv]) (t := 37) (fr := (0, 0)) hnew; have hA3 : w.heap.size + 8 ≤ ((w2.alloc (.cells #[.string qn, .string qv] 37)).alloc (.cells #[.string qn, .string qv] 37)).heap.size := (by rw [World.size_alloc, hzq]; have := b2.size; have := HW8.out; omega); have HNS := Lib.hid hns; have HBQ := Lib.hid bq; clear hnew hns bq hzq)
          | (gi_at_builtin; refine App.walk_append _ rfl _ _ 22 rfl (w.heap.size + 8) 37 i0 (.agg #[.string .empty, .string .empty]) 2 32 Tryd.underlying22 hi hz0 hz1 hz2 rfl (by decide) _ pre.length _ rfl (hrowq.alloc _) ⟨w2.heap.size + 1, 0, none⟩ 1 1 [.string qn, .string qv] rfl rfl HNS.out (by simp [Value.oneCell']) HA.out HA2.out hA3 (by decide) ?_; intro v' w5 hown' hgrow hwhere; obtain ⟨ga, gc, rfl⟩ := shapeP hown'; obtain ⟨hv1, hv2, hr2, hfresh, hSt⟩ := App.collect hvq (by decide) hrowq hown' hgrow hwhere; have hc5 := hv1.cell; have hf5 := hv1.frozen; have h4b := hSt.boxed ⟨h4q.lt, by omega, fun e => by have := hle _ e.symm; omega⟩ h4q; have hc4b := h4b.cell; have hf4b := h4b.frozen))
        have hle2 := own_lt hr2
        have hS5 : ∀ (u : Value) (T : World), Stays (fun k => k ≠ w.heap.size + 1 + 1 + 1 + 1) T (T.setCell ⟨w.heap.size + 1 + 1 + 1 + 1, 0, none⟩ u) := fun u T => (Stays.refl _ _).setCell _ _ (fun h => h rfl)
        have hB0 := HBQ.out
        have SALL : ∀ (u : Value), Stays (fun k => k < V.heap.size ∧ k ≠ w.heap.size + 1 + 1 + 1 ∧ k ≠ w.heap.size + 1 + 1 + 1 + 1 ∧ some k ≠ (Value.slice sa pre.length sc).ownBlock) V _ := fun u =>
          ((Stays.of_below (O := fun k => k < V.heap.size ∧ k ≠ w.heap.size + 1 + 1 + 1 ∧ k ≠ w.heap.size + 1 + 1 + 1 + 1 ∧ some k ≠ (Value.slice sa pre.length sc).ownBlock) hB0 (fun k hk => hk.1)).trans (hSt.mono fun k hk => ⟨Nat.lt_of_lt_of_le hk.1 hB0.size, hk.2.1, hk.2.2.2⟩)).trans ((hS5 u _).mono fun k hk => hk.2.2.1)
        have hOne : ∀ k, (O k ∨ k = w.heap.size + 5 + 1 ∨ k = w.heap.size + 5 + 2) → k < V.heap.size ∧ k ≠ w.heap.size + 1 + 1 + 1 ∧ k ≠ w.heap.size + 1 + 1 + 1 + 1 ∧ some k ≠ (Value.slice sa pre.length sc).ownBlock := fun k hk => by
          refine ⟨INV k hk, fun e => OUT k (by omega) hk, fun e => OUT k (by omega) hk, fun e => ?_⟩
          rcases hk with hk | hk
          · exact hvO k e.symm hk
          · have := hle k e.symm; omega
        have bA : ∀ k, k < w.heap.size + 1 + 1 + 1 → k < V.heap.size ∧ k ≠ w.heap.size + 1 + 1 + 1 ∧ k ≠ w.heap.size + 1 + 1 + 1 + 1 ∧ some k ≠ (Value.slice sa pre.length sc).ownBlock := fun k hk => ⟨by have := HW8.out; omega, by omega, by omega, fun e => by have := hle k e.symm; omega⟩
        refine ⟨(SALL _).mono hOne, ⟨⟨_, (hS5 _ _).boxed (by omega) hv2, ?_, ?_⟩, ?_⟩, ⟨(SALL _).boxed (bA _ (by omega)) h0, (SALL _).boxed (bA _ (by omega)) h1, (SALL _).boxed (bA _ (by omega)) h2⟩, hB.trans (((SALL _).mono fun k hk => bA k (by omega)).below fun k hk => hk), HN.out, by rw [List.length_append]; exact HLEN.out⟩
        · have hr3 := (hS5 (.int .i64 ((atOf pre : Int) + ((x.size : Int) + 1))) _).row hr2 (fun g e => by have := hle2 g e; omega)
          rw [HPS.out, List.length_append, pcells_append]
          exact hr3
        · intro g e hg
          rcases hfresh g e with h | h
          · exact hvO g h hg
          · have := (hOW g hg).2; have := hB0.size; omega
        · rw [HAT.out]; exact h4b.set _
  case stop =>
    rintro D c pre O V hD hOD hO hRW hpre ⟨⟨h0, h1, h2⟩, hB, rfl, rfl⟩ hK
    have hK0 := hK
    have e0 := (h0.kept (grownBy_putObj' V D (.deferred Option.none)) (by rintro ⟨⟩; omega)).cell
    have e1 := (h1.kept (grownBy_putObj' V D (.deferred Option.none)) (by rintro ⟨⟩; omega)).cell
    have e2 := (h2.kept (grownBy_putObj' V D (.deferred Option.none)) (by rintro ⟨⟩; omega)).cell
    gi_wp2_with fail
    refine ⟨by simp, .inl ⟨_, _, rfl, run_takeDeferred hK, ?_⟩⟩
    refine ⟨.tuple #[.slice none 0 0, .int .i64 (ra : Int), .int .i64 re], ?_, ⟨_, rfl, Own.nil _ _, putBelow hB (by omega) hK _⟩⟩
    simp [results, Tryd.f24, go_sem, e0, e1, e2]
  case done =>
    rintro D O V hD hOD hO hRW ⟨⟨⟨v, hv, hrow, hvO⟩, h4⟩, ⟨h0, h1, h2⟩, hB, hpars, hlen⟩ hK
    obtain ⟨sa, sc, rfl⟩ := shapeP hrow
    have hE := pars_done hpars
    simp only [Prod.mk.injEq] at hE
    obtain ⟨rfl, rfl, rfl⟩ := hE
    have hle := own_lt hrow
    have hown : Own V (w.heap.size + 8) (.slice sa xs.length sc) (psOf xs) := by unfold Own; rw [psOf_length]; exact hrow
    have hc3 := hv.cell
    have hc0 := h0.cell
    have hc1 := h1.cell
    have hc2 := h2.cell
    have f0 := h0.frozen
    have f1 := h1.frozen
    have f2 := h2.frozen
    obtain ⟨a0, a1, a2, aS⟩ := ended h0 h1 h2 (.slice sa xs.length sc) (.int .i64 0) (.int .i64 0)
    gi_wp2_with fail
    have hK' := (KeepsOthers.setCell _ ⟨w.heap.size + 1 + 1, 0, none⟩ (.int .i64 0)).same D _ ((KeepsOthers.setCell _ ⟨w.heap.size + 1, 0, none⟩ (.int .i64 0)).same D _ ((KeepsOthers.setCell V ⟨w.heap.size, 0, none⟩ (.slice sa xs.length sc)).same D _ hK rfl) rfl) rfl
    have e0 := (a0.kept (grownBy_putObj' _ D (.deferred Option.none)) (by rintro ⟨⟩; omega)).cell
    have e1 := (a1.kept (grownBy_putObj' _ D (.deferred Option.none)) (by rintro ⟨⟩; omega)).cell
    have e2 := (a2.kept (grownBy_putObj' _ D (.deferred Option.none)) (by rintro ⟨⟩; omega)).cell
    refine ⟨by simp, .inl ⟨_, _, rfl, run_takeDeferred hK', ?_⟩⟩
    refine ⟨.tuple #[.slice sa xs.length sc, .int .i64 0, .int .i64 0], ?_, ⟨_, rfl, ?_, putBelow (hB.trans ((aS (fun k => k < w.heap.size) (by omega) (by omega) (by omega)).below fun k hk => hk)) (by omega) hK' _⟩⟩
    · simp [results, Tryd.f24, go_sem, e0, e1, e2]
    · have hO : Own _ (w.heap.size + 8) _ (psOf xs) := (aS (fun k => k ≠ w.heap.size ∧ k ≠ w.heap.size + 1 ∧ k ≠ w.heap.size + 1 + 1) (by omega) (by omega) (by omega)).row hown (fun g e => by have := hle g e; omega)
      have hO2 := own_low (b' := w.heap.size) (by omega) hO
      exact ((Stays.refl (fun k => k ≠ D) _).putObj D _ (fun h => h rfl)).row hO2 (fun g e h => hvO g e (h ▸ hOD))
end Go.Proofs.YtccgpemcdbcjeaaDoor.Pp
