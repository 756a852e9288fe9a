/-
Texts joined in one file, each with its own conditions: A line's parameters, as the program reads them, piece by piece. Conditions: the text has at most 10000 bytes. · What stands ahead of a line's value, and the line, as the program reads them. Conditions: the text has at most 10000 bytes. · A line, as the program reads it: what it hands back is what the plain function 'prs' says. Conditions: the text has at most 10000 bytes. · What the program reads of a line is what the document reads: both plain functions are the same. No program in it, no conditions. · What is printed is read, and what is read is as long as what is printed of it: over the plain functions. No program in it, no conditions.
-/
import Derived.Test.YtpdodknldhbbhaaGreatDoorJ24
import Derived.Test.YtpdodknldhbbhaaGreatDoorJ25
import Derived.Test.YtpdodknldhbbhaaGreatDoorJ05
import Derived.BigRegionIn
import Derived.BigQuiet
import Derived.Test.YtpdodknldhbbhaaGreatDoorJ10
import Derived.Test.YtpdodknldhbbhaaGreatDoorJ19
namespace Go.Proofs.YtpdodknldhbbhaaGreatDoor.Pp
set_option maxRecDepth 100000
open Go.RowKit Sq
attribute [local go_sem] Oper.semAt_some

/-- Parameters, piece by piece: the place, what has been read, what is left. -/
def pars : Nat → List (ByteArray × ByteArray) → List ByteArray → List (ByteArray × ByteArray) × Nat × Int
  | _, ps, [] => (ps, 0, 0)
  | a, ps, x :: r => if ps.length = 6 then ([], a, 4) else if (ppar x).2 = false then ([], a, 3) else pars (a + x.size + 1) (ps ++ [(ppar x).1]) r
def atOf (pre : List ByteArray) : Nat := pre.foldl (fun a x => a + x.size + 1) 0
def psOf (pre : List ByteArray) : List (ByteArray × ByteArray) := pre.map fun x => (ppar x).1
theorem atOf_snoc (pre : List ByteArray) (x : ByteArray) : atOf (pre ++ [x]) = atOf pre + x.size + 1 := by unfold atOf; rw [List.foldl_append]; rfl
theorem psOf_snoc (pre : List ByteArray) (x : ByteArray) : psOf (pre ++ [x]) = psOf pre ++ [(ppar x).1] := by unfold psOf; rw [List.map_append]; rfl
theorem psOf_length (pre : List ByteArray) : (psOf pre).length = pre.length := by unfold psOf; rw [List.length_map]
theorem drop_next {pre xs : List ByteArray} {x : ByteArray} (h : pre ++ [x] <+: xs) : xs.drop pre.length = x :: xs.drop (pre ++ [x]).length := by
  obtain ⟨r, rfl⟩ := h
  rw [List.append_assoc, List.drop_left]; simp
theorem atOf_ge (pre r : List ByteArray) : atOf pre ≤ atOf (pre ++ r) := by
  induction r generalizing pre with
  | nil => simp
  | cons x r ih =>
    have := ih (pre ++ [x])
    rw [atOf_snoc, List.append_assoc] at this
    exact Nat.le_trans (by omega) this
theorem atOf_cons (x : ByteArray) (r : List ByteArray) : atOf (x :: r) = x.size + 1 + atOf r := by
  have h : ∀ (r : List ByteArray) (a : Nat), r.foldl (fun a x => a + x.size + 1) a = a + r.foldl (fun a x => a + x.size + 1) 0 := by
    intro r
    induction r with
    | nil => intro a; rfl
    | cons y r ih => intro a; rw [List.foldl_cons, ih, List.foldl_cons, ih (0 + y.size + 1)]; omega
  unfold atOf
  rw [List.foldl_cons, h]; omega
theorem atOf_pcs (c : UInt8) (s : ByteArray) : atOf (pcs c s) = s.size + 1 := by
  have h : ∀ (n : Nat) (s : ByteArray), s.size ≤ n → atOf (pcs c s) = s.size + 1 := by
    intro n
    induction n with
    | zero =>
      intro s hs
      rw [pcs_no (by omega), atOf_cons]; show s.size + 1 + 0 = _; omega
    | succ n ih =>
      intro s hs
      by_cases hi : s.data.toList.idxOf c < s.size
      · have e1 : (s.extract 0 (s.data.toList.idxOf c)).size = s.data.toList.idxOf c := by rw [ByteArray.size_extract]; omega
        have e2 : (s.extract (s.data.toList.idxOf c + 1) s.size).size = s.size - (s.data.toList.idxOf c + 1) := by rw [ByteArray.size_extract]; omega
        rw [pcs_yes hi, atOf_cons, ih _ (by rw [e2]; omega), e1, e2]; omega
      · rw [pcs_no hi, atOf_cons]; show s.size + 1 + 0 = _; omega
  exact h _ s (Nat.le_refl _)
theorem atOf_bound {c : UInt8} {s : ByteArray} {pre : List ByteArray} (h : pre <+: pcs c s) : atOf pre ≤ s.size + 1 := by
  obtain ⟨r, hr⟩ := h
  rw [← atOf_pcs c s, ← hr]; exact atOf_ge pre r
theorem pars_full {pre xs : List ByteArray} {x : ByteArray} {R : List (ByteArray × ByteArray) × Nat × Int} (hp : pre ++ [x] <+: xs) (h : pars (atOf pre) (psOf pre) (xs.drop pre.length) = R) (h6 : pre.length = 6) : R = ([], atOf pre, 4) := by
  rw [← h, drop_next hp, pars, if_pos (by rw [psOf_length]; exact h6)]
theorem pars_bad {pre xs : List ByteArray} {x : ByteArray} {R : List (ByteArray × ByteArray) × Nat × Int} (hp : pre ++ [x] <+: xs) (h : pars (atOf pre) (psOf pre) (xs.drop pre.length) = R) (h6 : ¬ pre.length = 6) (hx : (ppar x).2 = false) : R = ([], atOf pre, 3) := by
  rw [← h, drop_next hp, pars, if_neg (by rw [psOf_length]; exact h6), if_pos hx]
theorem pars_next {pre xs : List ByteArray} {x : ByteArray} {R : List (ByteArray × ByteArray) × Nat × Int} (hp : pre ++ [x] <+: xs) (h : pars (atOf pre) (psOf pre) (xs.drop pre.length) = R) (h6 : ¬ pre.length = 6) (hx : (ppar x).2 = true) : pars (atOf (pre ++ [x])) (psOf (pre ++ [x])) (xs.drop (pre ++ [x]).length) = R := by
  rw [← h, drop_next hp, pars, if_neg (by rw [psOf_length]; exact h6), if_neg (by rw [hx]; simp), atOf_snoc, psOf_snoc]
theorem pars_done {xs : List ByteArray} {R : List (ByteArray × ByteArray) × Nat × Int} (h : pars (atOf xs) (psOf xs) (xs.drop xs.length) = R) : R = (psOf xs, 0, 0) := by
  rw [← h, List.drop_length]; rfl

theorem putBelow {B : Nat} {a w : World} (h : Below B a w) {D : Nat} {o : Obj} (hD : B ≤ D) (hk : w.heap[D]? = some o) (o' : Obj) : Below B a (w.putObj D o') :=
  h.grown (grownBy_putObj' w D o') (by have := (Array.getElem?_eq_some_iff.1 hk).1; omega) (fun k e => by cases e; exact hD)
theorem ended {V : World} {b : Nat} {u0 u1 u2 : Value} {t0 t1 t2 : TypeId} (h0 : Boxed V b t0 u0) (h1 : Boxed V (b + 1) t1 u1) (h2 : Boxed V (b + 1 + 1) t2 u2) (x0 x1 x2 : Value) :
    Boxed (((V.setCell ⟨b, 0, none⟩ x0).setCell ⟨b + 1, 0, none⟩ x1).setCell ⟨b + 1 + 1, 0, none⟩ x2) b t0 x0 ∧ Boxed (((V.setCell ⟨b, 0, none⟩ x0).setCell ⟨b + 1, 0, none⟩ x1).setCell ⟨b + 1 + 1, 0, none⟩ x2) (b + 1) t1 x1 ∧ Boxed (((V.setCell ⟨b, 0, none⟩ x0).setCell ⟨b + 1, 0, none⟩ x1).setCell ⟨b + 1 + 1, 0, none⟩ x2) (b + 1 + 1) t2 x2 ∧
      ∀ O : Nat → Prop, ¬ O b → ¬ O (b + 1) → ¬ O (b + 1 + 1) → Stays O V (((V.setCell ⟨b, 0, none⟩ x0).setCell ⟨b + 1, 0, none⟩ x1).setCell ⟨b + 1 + 1, 0, none⟩ x2) := by
  have a0 := h0.set x0
  have a1 := h1.other (by omega : b + 1 ≠ b) x0
  have a2 := h2.other (by omega : b + 1 + 1 ≠ b) x0
  have c0 := a0.other (by omega : b ≠ b + 1) x1
  have c1 := a1.set x1
  have c2 := a2.other (by omega : b + 1 + 1 ≠ b + 1) x1
  exact ⟨c0.other (by omega) x2, c1.other (by omega) x2, c2.set x2, fun O n0 n1 n2 => (((Stays.refl _ _).setCell _ _ n0).setCell _ _ n1).setCell _ _ n2⟩
set_option maxHeartbeats 8000000 in
theorem parParams_any (s : ByteArray) (w : World) (hs : s.size ≤ 10000) :
    Calls Tryz.prog 164 #[.string s] w fun e w' => ∃ v, e = .returned (.tuple #[v, .int .i64 ((pars 0 [] (pcs 59 s)).2.1 : Int), .int .i64 (pars 0 [] (pcs 59 s)).2.2]) ∧ Own w' w.heap.size v (pars 0 [] (pcs 59 s)).1 ∧ Below w.heap.size w w' := by
  obtain ⟨i0, hi, hz0, hz1, hz2⟩ := info_parts infoP
  have hz5 : (((((w.alloc (.cells #[.slice none 0 0] 51)).alloc (.cells #[.int .i64 0] 3)).alloc (.cells #[.int .i64 0] 26)).alloc (.cells #[.slice none 0 0] 51)).alloc (.cells #[.int .i64 0] 3)).heap.size = w.heap.size + 5 := by simp
  have b0 : Boxed (((((w.alloc (.cells #[.slice none 0 0] 51)).alloc (.cells #[.int .i64 0] 3)).alloc (.cells #[.int .i64 0] 26)).alloc (.cells #[.slice none 0 0] 51)).alloc (.cells #[.int .i64 0] 3)) (w.heap.size) 51 (.slice none 0 0) := by
    have h := Boxed.new w 51 (.slice none 0 0)
    exact h |>.alloc (.cells #[.int .i64 0] 3) |>.alloc (.cells #[.int .i64 0] 26) |>.alloc (.cells #[.slice none 0 0] 51) |>.alloc (.cells #[.int .i64 0] 3)
  have b1 : Boxed (((((w.alloc (.cells #[.slice none 0 0] 51)).alloc (.cells #[.int .i64 0] 3)).alloc (.cells #[.int .i64 0] 26)).alloc (.cells #[.slice none 0 0] 51)).alloc (.cells #[.int .i64 0] 3)) (w.heap.size + 1) 3 (.int .i64 0) := by
    have h := Boxed.new (w.alloc (.cells #[.slice none 0 0] 51)) 3 (.int .i64 0)
    rw [show (w.alloc (.cells #[.slice none 0 0] 51)).heap.size = w.heap.size + 1 by simp] at h
    exact h |>.alloc (.cells #[.int .i64 0] 26) |>.alloc (.cells #[.slice none 0 0] 51) |>.alloc (.cells #[.int .i64 0] 3)
  have b2 : Boxed (((((w.alloc (.cells #[.slice none 0 0] 51)).alloc (.cells #[.int .i64 0] 3)).alloc (.cells #[.int .i64 0] 26)).alloc (.cells #[.slice none 0 0] 51)).alloc (.cells #[.int .i64 0] 3)) (w.heap.size + 1 + 1) 26 (.int .i64 0) := by
    have h := Boxed.new ((w.alloc (.cells #[.slice none 0 0] 51)).alloc (.cells #[.int .i64 0] 3)) 26 (.int .i64 0)
    rw [show ((w.alloc (.cells #[.slice none 0 0] 51)).alloc (.cells #[.int .i64 0] 3)).heap.size = w.heap.size + 1 + 1 by simp] at h
    exact h |>.alloc (.cells #[.slice none 0 0] 51) |>.alloc (.cells #[.int .i64 0] 3)
  have b3 : Boxed (((((w.alloc (.cells #[.slice none 0 0] 51)).alloc (.cells #[.int .i64 0] 3)).alloc (.cells #[.int .i64 0] 26)).alloc (.cells #[.slice none 0 0] 51)).alloc (.cells #[.int .i64 0] 3)) (w.heap.size + 1 + 1 + 1) 51 (.slice none 0 0) := by
    have h := Boxed.new (((w.alloc (.cells #[.slice none 0 0] 51)).alloc (.cells #[.int .i64 0] 3)).alloc (.cells #[.int .i64 0] 26)) 51 (.slice none 0 0)
    rw [show (((w.alloc (.cells #[.slice none 0 0] 51)).alloc (.cells #[.int .i64 0] 3)).alloc (.cells #[.int .i64 0] 26)).heap.size = w.heap.size + 1 + 1 + 1 by simp] at h
    exact h |>.alloc (.cells #[.int .i64 0] 3)
  have b4 : Boxed (((((w.alloc (.cells #[.slice none 0 0] 51)).alloc (.cells #[.int .i64 0] 3)).alloc (.cells #[.int .i64 0] 26)).alloc (.cells #[.slice none 0 0] 51)).alloc (.cells #[.int .i64 0] 3)) (w.heap.size + 1 + 1 + 1 + 1) 3 (.int .i64 0) := by
    have h := Boxed.new ((((w.alloc (.cells #[.slice none 0 0] 51)).alloc (.cells #[.int .i64 0] 3)).alloc (.cells #[.int .i64 0] 26)).alloc (.cells #[.slice none 0 0] 51)) 3 (.int .i64 0)
    rw [show ((((w.alloc (.cells #[.slice none 0 0] 51)).alloc (.cells #[.int .i64 0] 3)).alloc (.cells #[.int .i64 0] 26)).alloc (.cells #[.slice none 0 0] 51)).heap.size = w.heap.size + 1 + 1 + 1 + 1 by simp] at h
    exact h
  have hB5 : Below w.heap.size w (((((w.alloc (.cells #[.slice none 0 0] 51)).alloc (.cells #[.int .i64 0] 3)).alloc (.cells #[.int .i64 0] 26)).alloc (.cells #[.slice none 0 0] 51)).alloc (.cells #[.int .i64 0] 3)) := (((((Below.refl _ w).alloc (Nat.le_refl _) _).alloc (by simp) _).alloc (by simp; omega) _).alloc (by simp; omega) _).alloc (by simp; omega) _
  have HBD : Hid (∀ pre, pre <+: pcs 59 s → atOf pre ≤ s.size + 1) := Lib.hid (fun pre h => atOf_bound h)
  obtain ⟨xs, hxs⟩ : ∃ xs, pcs 59 s = xs := ⟨_, rfl⟩
  have HXS := Lib.hid hxs
  rw [hxs] at HBD ⊢
  obtain ⟨⟨rp, ra, re⟩, hR⟩ : ∃ R, pars 0 [] xs = R := ⟨_, rfl⟩
  rw [hR]
  simp only
  have HRR := Lib.hid hR
  clear hxs hR
  refine (callsIn_wide (n := 5)).1 ?_
  refine callsIn_of_wp_marks Tryz.func164 rfl trivial ?_ rfl
  simp only [Tryz.ntmps164, List.size_toArray, List.length_cons, List.length_nil, Nat.reduceAdd, Nat.reduceSub, Array.replicate_succ, Array.replicate_zero, List.push_toArray, List.append_toArray, List.nil_append, List.cons_append]
  have CS := Lib.hid (fun W => splitSeq_any s 59 W)
  have HFIVE := Lib.hid (And.intro hz5 (And.intro hB5 (And.intro b0 (And.intro b1 (And.intro b2 (And.intro b3 b4))))))
  clear hz5 hB5 b0 b1 b2 b3 b4
  gi_wp2_with fail
  refine ⟨trivial, (callsIn_wide.2 (CS.out _)).mono ?_⟩
  obtain ⟨hz5, hB5, b0, b1, b2, b3, b4⟩ := HFIVE.out
  clear HFIVE
  generalize (((((w.alloc (.cells #[.slice none 0 0] 51)).alloc (.cells #[.int .i64 0] 3)).alloc (.cells #[.int .i64 0] 26)).alloc (.cells #[.slice none 0 0] 51)).alloc (.cells #[.int .i64 0] 3)) = W5 at *
  rintro e V0 ⟨rfl, hbV, hzV, c5, c6, c7⟩
  rw [hz5] at hzV c5 c6 c7 hbV ⊢
  have hB0 : Below w.heap.size w V0 := hB5.trans (hbV.mono (by omega))
  have d0 := (hbV.block w.heap.size (by omega)).trans b0
  have d1 := (hbV.block (w.heap.size + 1) (by omega)).trans b1
  have d2 := (hbV.block (w.heap.size + 1 + 1) (by omega)).trans b2
  have d3 := (hbV.block (w.heap.size + 1 + 1 + 1) (by omega)).trans b3
  have d4 := (hbV.block (w.heap.size + 1 + 1 + 1 + 1) (by omega)).trans b4
  change Boxed V0 w.heap.size 51 (.slice none 0 0) at d0
  change Boxed V0 (w.heap.size + 1) 3 (.int .i64 0) at d1
  change Boxed V0 (w.heap.size + 1 + 1) 26 (.int .i64 0) at d2
  change Boxed V0 (w.heap.size + 1 + 1 + 1) 51 (.slice none 0 0) at d3
  change Boxed V0 (w.heap.size + 1 + 1 + 1 + 1) 3 (.int .i64 0) at d4
  have hso := splitSeq_so s 59 (by omega) (w.heap.size + 5 + 1) (w.heap.size + 5) (w.heap.size + 5 + 2) V0 c6 c5 c7 (by omega) (by omega)
  rw [HXS.out] at hso
  clear hz5 hB5 b0 b1 b2 b3 b4 hbV CS c5 c6 c7
  gi_wp2_with fail
  refine range_so1 (gf := 198) (lb := #[.pointer (some ⟨w.heap.size + 5 + 1, 0, none⟩), .pointer (some ⟨w.heap.size + 5, 0, none⟩), .pointer (some ⟨w.heap.size + 5 + 2, 0, none⟩)]) rfl eg_split hso (Stays.refl _ _) (Stays.refl _ _) (fun k hk => by omega) (fun k hk => by omega) (fun k hk => by omega) (fun _ => rfl)
    (fun pre O V => ((∃ v, Boxed V (w.heap.size + 1 + 1 + 1) 51 v ∧ V.ownsRow (w.heap.size + 8) 66 2 v pre.length (pcells (psOf pre)) ∧ (∀ g, v.ownBlock = some g → ¬ O g)) ∧ Boxed V (w.heap.size + 1 + 1 + 1 + 1) 3 (.int .i64 (atOf pre : Int))) ∧ (Boxed V w.heap.size 51 (.slice none 0 0) ∧ Boxed V (w.heap.size + 1) 3 (.int .i64 0) ∧ Boxed V (w.heap.size + 1 + 1) 26 (.int .i64 0)) ∧ Below w.heap.size w V ∧ (pars (atOf pre) (psOf pre) (xs.drop pre.length) = (rp, ra, re) ∧ pre.length ≤ 6))
    (fun c pre O V => (Boxed V w.heap.size 51 (.slice none 0 0) ∧ Boxed V (w.heap.size + 1) 3 (.int .i64 (ra : Int)) ∧ Boxed V (w.heap.size + 1 + 1) 26 (.int .i64 re)) ∧ Below w.heap.size w V ∧ (c = .ret ∧ rp = []))
    (FootO.and (FootO.and (FootO.row (β := List ByteArray) (w.heap.size + 8) (w.heap.size + 1 + 1 + 1) 51 66 2 (fun pre => List.length pre) (fun pre => pcells (psOf pre)) (by omega)) (FootO.boxed (β := List ByteArray) (w.heap.size + 1 + 1 + 1 + 1) 3 (fun pre => .int .i64 (atOf pre : Int)) (by omega))) (FootO.and (FootO.and (FootO.boxed (β := List ByteArray) w.heap.size 51 (fun _ => .slice none 0 0) (by omega)) (FootO.and (FootO.boxed (β := List ByteArray) (w.heap.size + 1) 3 (fun _ => .int .i64 0) (by omega)) (FootO.boxed (β := List ByteArray) (w.heap.size + 1 + 1) 26 (fun _ => .int .i64 0) (by omega)))) (FootO.and (FootO.below (fun k hk => by omega) (Nat.le_refl _)) (FootO.pure (fun pre => pars (atOf pre) (psOf pre) (xs.drop (List.length pre)) = (rp, ra, re) ∧ List.length pre ≤ 6)))))
    (fun c => FootO.and (FootO.and (FootO.boxed (β := List ByteArray) w.heap.size 51 (fun _ => .slice none 0 0) (by omega)) (FootO.and (FootO.boxed (β := List ByteArray) (w.heap.size + 1) 3 (fun _ => .int .i64 (ra : Int)) (by omega)) (FootO.boxed (β := List ByteArray) (w.heap.size + 1 + 1) 26 (fun _ => .int .i64 re) (by omega)))) (FootO.and (FootO.below (fun k hk => by omega) (Nat.le_refl _)) (FootO.pure (fun _ => c = .ret ∧ rp = []))))
    ⟨⟨⟨_, d3, World.ownsRow_nil _ _ _ _, fun g e => by simp [Value.ownBlock] at e⟩, d4⟩, ⟨d0, d1, d2⟩, hB0, HRR.out, Nat.zero_le _⟩ ?round ?done ?stop
  case round =>
    rintro l pre x O W1 hO hp
    unfold encS
    gi_wp2
    refine ⟨trivial, ?_⟩
    rintro V ⟨⟨⟨v, hv, hrow, hvO⟩, h4⟩, ⟨h0, h1, h2⟩, hB, hpars, hlen⟩ hRW hOl hrec hOW
    obtain ⟨sa, sc, rfl⟩ := shapeP hrow
    have hc3 := hv.cell
    have hc4 := h4.cell
    have hpx : pre ++ [x] <+: xs := hp
    have hle := own_lt hrow
    have OUT : ∀ k, k < w.heap.size + 5 → ¬ (O k ∨ k = w.heap.size + 5 + 1 ∨ k = w.heap.size + 5 + 2) := fun k hk h => by
      rcases h with h | h
      · have := hOW k h; omega
      · omega
    have INV : ∀ k, (O k ∨ k = w.heap.size + 5 + 1 ∨ k = w.heap.size + 5 + 2) → k < V.heap.size := fun k h => by
      have := hRW.size
      rcases h with h | h
      · exact (hOW k h).2
      · omega
    by_cases h6 : pre.length = 6
    · have h66 : ((pre.length : Int) == 6) = true := by simp; omega
      have HE := Lib.hid (pars_full hp hpars h6)
      have mixed : Tryz.prog.follows .mixedOrders = true := by kernel_rfl
      have hc0 := h0.cell
      have hc1 := h1.cell
      have hc2 := h2.cell
      have f0 := h0.frozen
      have f1 := h1.frozen
      have f2 := h2.frozen
      gi_wp2_with fail
      gi_region_with_o (fail)
      all_goals
        gi_wp2_with fail
        obtain ⟨e0, e1, e2, eS⟩ := ended h0 h1 h2 (.slice none 0 0) (.int .i64 (atOf pre : Int)) (.int .i64 4)
        have hE := HE.out
        simp only [Prod.mk.injEq] at hE
        obtain ⟨rfl, rfl, rfl⟩ := hE
        exact ⟨(eS _ (fun h => OUT _ (by omega) h) (fun h => OUT _ (by omega) h) (fun h => OUT _ (by omega) h)).drew, ⟨e0, e1, e2⟩, (hB.trans ((eS (fun k => k < w.heap.size) (by omega) (by omega) (by omega)).below fun k hk => hk)).drew, rfl, rfl⟩
    · have h66 : ((pre.length : Int) == 6) = false := by simp; omega
      have hat := HBD.out _ hpx
      rw [atOf_snoc] at hat
      have CP := Lib.hid (fun W => parParam_any x W (by omega))
      have HBAD := Lib.hid (pars_bad hp hpars h6)
      have HNEXT := Lib.hid (pars_next hp hpars h6)
      have HPS := Lib.hid (psOf_snoc pre x)
      have HAT := Lib.hid (show ((atOf (pre ++ [x]) : Nat) : Int) = (atOf pre : Int) + ((x.size : Int) + 1) by rw [atOf_snoc]; omega)
      obtain ⟨⟨⟨qn, qv⟩, ok⟩, hq⟩ : ∃ q, ppar x = q := ⟨_, rfl⟩
      rw [hq] at CP HBAD HNEXT HPS
      simp only at CP HBAD HNEXT HPS
      have hown : Own V (w.heap.size + 8) (.slice sa pre.length sc) (psOf pre) := by unfold Own; rw [psOf_length]; exact hrow
      have hat1 : (atOf pre : Int) + ((x.size : Int) + 1) ≤ 10001 := by omega
      have hxs : (x.size : Int) ≤ 10001 := by omega
      have hzV := hRW.size
      have hA : pre.length + 1 ≤ maxLen := by unfold maxLen; omega
      have hA2 : (pre.length + 1) * 32 ≤ 140737488355328 := by omega
      clear hpars hq hat
      cases ok with
      | false =>
        have HE := Lib.hid (HBAD.out rfl)
        clear HBAD HNEXT HPS HAT hat1 hxs hA hA2 hs hown
        gi_wp2_with (refine ⟨trivial, ?_⟩; gi_at_call 183; refine (CallsIn.inRound l (callsIn_wide.2 (CP.out _))).mono ?_; rintro e w2 ⟨rfl, b2⟩; have g0 := (Boxed.alloc (show Boxed w2 w.heap.size 51 _ from (b2.block _ h0.lt).trans h0) (.cells #[.string qn, .string qv] 66)); have g1 := (Boxed.alloc (show Boxed w2 (w.heap.size + 1) 3 _ from (b2.block _ h1.lt).trans h1) (.cells #[.string qn, .string qv] 66)); have g2 := (Boxed.alloc (show Boxed w2 (w.heap.size + 1 + 1) 26 _ from (b2.block _ h2.lt).trans h2) (.cells #[.string qn, .string qv] 66)); have g4 := (Boxed.alloc (show Boxed w2 (w.heap.size + 1 + 1 + 1 + 1) 3 _ from (b2.block _ h4.lt).trans h4) (.cells #[.string qn, .string qv] 66)); have hc0 := g0.cell; have hc1 := g1.cell; have hc2 := g2.cell; have f0 := g0.frozen; have f1 := g1.frozen; have f2 := g2.frozen; have hc4q := g4.cell)
        have mixed : Tryz.prog.follows .mixedOrders = true := by kernel_rfl
        gi_region_with_o (fail)
        all_goals
          gi_wp2_with fail
          obtain ⟨e0, e1, e2, eS⟩ := ended g0 g1 g2 (.slice none 0 0) (.int .i64 (atOf pre : Int)) (.int .i64 3)
          have hE := HE.out
          simp only [Prod.mk.injEq] at hE
          obtain ⟨rfl, rfl, rfl⟩ := hE
          have bq : Below V.heap.size V (w2.alloc (.cells #[.string qn, .string qv] 66)) := b2.alloc b2.size _
          exact ⟨((Stays.of_below bq (fun k hk => INV k hk)).trans (eS _ (fun h => OUT _ (by omega) h) (fun h => OUT _ (by omega) h) (fun h => OUT _ (by omega) h))).drew, ⟨e0, e1, e2⟩, ((hB.trans (bq.mono hB.size)).trans ((eS (fun k => k < w.heap.size) (by omega) (by omega) (by omega)).below fun k hk => hk)).drew, rfl, rfl⟩
      | true =>
        have HN := Lib.hid (HNEXT.out rfl)
        have HLEN : Hid (pre.length + 1 ≤ 6) := Lib.hid (by omega)
        clear HBAD HNEXT hs hlen
        have HA := Lib.hid hA
        have HA2 := Lib.hid hA2
        clear hA hA2
        have HW8 : Hid (w.heap.size + 8 ≤ V.heap.size) := Lib.hid (by omega)
        gi_wp2_with (first
          | (refine ⟨trivial, ?_⟩; gi_at_call 183; refine (CallsIn.inRound l (callsIn_wide.2 (CP.out _))).mono ?_; rintro e w2 ⟨rfl, b2⟩; have HX : Hid (QAt (w2.alloc (.cells #[.string qn, .string qv] 66)) w2.heap.size qn qv) := Lib.hid (heap_alloc_new w2 _); have bq : Below V.heap.size V (w2.alloc (.cells #[.string qn, .string qv] 66)) := b2.alloc b2.size _; have hvq : Boxed (w2.alloc (.cells #[.string qn, .string qv] 66)) (w.heap.size + 1 + 1 + 1) 51 _ := (bq.block _ hv.lt).trans hv; have h4q : Boxed (w2.alloc (.cells #[.string qn, .string qv] 66)) (w.heap.size + 1 + 1 + 1 + 1) 3 _ := (bq.block _ h4.lt).trans h4; have hownq : Own (w2.alloc (.cells #[.string qn, .string qv] 66)) (w.heap.size + 8) (.slice sa pre.length sc) (psOf pre) := hown.below bq; have hrowq : World.ownsRow (w2.alloc (.cells #[.string qn, .string qv] 66)) (w.heap.size + 8) 66 2 (.slice sa pre.length sc) pre.length (pcells (psOf pre)) := (by unfold Own at hownq; rw [psOf_length] at hownq; exact hownq); have hc3q := hvq.cell; have q0 := HX.out.c0; have q1 := HX.out.c1; have hzq : (w2.alloc (.cells #[.string qn, .string qv] 66)).heap.size = w2.heap.size + 1 := World.size_alloc _ _; have hnew := heap_alloc_new (w2.alloc (.cells #[.string qn, .string qv] 66)) (.cells #[.string qn, .string qv] 66); rw [hzq] at hnew; have hns : ∀ j u, [Value.string qn, Value.string qv][j]? = some u → ((w2.alloc (.cells #[.string qn, .string qv] 66)).alloc (.cells #[.string qn, .string qv] 66)).cell? (Addr.add ⟨w2.heap.size + 1, 0, none⟩ j) = some u := World.news_of_block (cs := #[.string qn, .string qv]) (t := 66) (fr := (0, 0)) hnew; have hA3 : w.heap.size + 8 ≤ ((w2.alloc (.cells #[.string qn, .string qv] 66)).alloc (.cells #[.string qn, .string qv] 66)).heap.size := (by rw [World.size_alloc, hzq]; have := b2.size; have := HW8.out; omega); have HNS := Lib.hid hns; have HBQ := Lib.hid bq; clear hnew hns bq hzq)
          | (gi_at_builtin; refine App.walk_append _ rfl _ _ 51 rfl (w.heap.size + 8) 66 i0 (.agg #[.string .empty, .string .empty]) 2 32 Tryz.underlying51 hi hz0 hz1 hz2 rfl (by decide) _ pre.length _ rfl (hrowq.alloc _) ⟨w2.heap.size + 1, 0, none⟩ 1 1 [.string qn, .string qv] rfl rfl HNS.out (by simp [Value.oneCell']) HA.out HA2.out hA3 (by decide) ?_; intro v' w5 hown' hgrow hwhere; obtain ⟨ga, gc, rfl⟩ := shapeP hown'; obtain ⟨hv1, hv2, hr2, hfresh, hSt⟩ := App.collect hvq (by decide) hrowq hown' hgrow hwhere; have hc5 := hv1.cell; have hf5 := hv1.frozen; have h4b := hSt.boxed ⟨h4q.lt, by omega, fun e => by have := hle _ e.symm; omega⟩ h4q; have hc4b := h4b.cell; have hf4b := h4b.frozen))
        have hle2 := own_lt hr2
        have hS5 : ∀ (u : Value) (T : World), Stays (fun k => k ≠ w.heap.size + 1 + 1 + 1 + 1) T (T.setCell ⟨w.heap.size + 1 + 1 + 1 + 1, 0, none⟩ u) := fun u T => (Stays.refl _ _).setCell _ _ (fun h => h rfl)
        have hB0 := HBQ.out
        have SALL : ∀ (u : Value), Stays (fun k => k < V.heap.size ∧ k ≠ w.heap.size + 1 + 1 + 1 ∧ k ≠ w.heap.size + 1 + 1 + 1 + 1 ∧ some k ≠ (Value.slice sa pre.length sc).ownBlock) V _ := fun u =>
          ((Stays.of_below (O := fun k => k < V.heap.size ∧ k ≠ w.heap.size + 1 + 1 + 1 ∧ k ≠ w.heap.size + 1 + 1 + 1 + 1 ∧ some k ≠ (Value.slice sa pre.length sc).ownBlock) hB0 (fun k hk => hk.1)).trans (hSt.mono fun k hk => ⟨Nat.lt_of_lt_of_le hk.1 hB0.size, hk.2.1, hk.2.2.2⟩)).trans ((hS5 u _).mono fun k hk => hk.2.2.1)
        have hOne : ∀ k, (O k ∨ k = w.heap.size + 5 + 1 ∨ k = w.heap.size + 5 + 2) → k < V.heap.size ∧ k ≠ w.heap.size + 1 + 1 + 1 ∧ k ≠ w.heap.size + 1 + 1 + 1 + 1 ∧ some k ≠ (Value.slice sa pre.length sc).ownBlock := fun k hk => by
          refine ⟨INV k hk, fun e => OUT k (by omega) hk, fun e => OUT k (by omega) hk, fun e => ?_⟩
          rcases hk with hk | hk
          · exact hvO k e.symm hk
          · have := hle k e.symm; omega
        have bA : ∀ k, k < w.heap.size + 1 + 1 + 1 → k < V.heap.size ∧ k ≠ w.heap.size + 1 + 1 + 1 ∧ k ≠ w.heap.size + 1 + 1 + 1 + 1 ∧ some k ≠ (Value.slice sa pre.length sc).ownBlock := fun k hk => ⟨by have := HW8.out; omega, by omega, by omega, fun e => by have := hle k e.symm; omega⟩
        refine ⟨(SALL _).mono hOne, ⟨⟨_, (hS5 _ _).boxed (by omega) hv2, ?_, ?_⟩, ?_⟩, ⟨(SALL _).boxed (bA _ (by omega)) h0, (SALL _).boxed (bA _ (by omega)) h1, (SALL _).boxed (bA _ (by omega)) h2⟩, hB.trans (((SALL _).mono fun k hk => bA k (by omega)).below fun k hk => hk), HN.out, by rw [List.length_append]; exact HLEN.out⟩
        · have hr3 := (hS5 (.int .i64 ((atOf pre : Int) + ((x.size : Int) + 1))) _).row hr2 (fun g e => by have := hle2 g e; omega)
          rw [HPS.out, List.length_append, pcells_append]
          exact hr3
        · intro g e hg
          rcases hfresh g e with h | h
          · exact hvO g h hg
          · have := (hOW g hg).2; have := hB0.size; omega
        · rw [HAT.out]; exact h4b.set _
  case stop =>
    rintro D c pre O V hD hOD hO hRW hpre ⟨⟨h0, h1, h2⟩, hB, rfl, rfl⟩ hK
    have hK0 := hK
    have e0 := (h0.kept (grownBy_putObj' V D (.deferred Option.none)) (by rintro ⟨⟩; omega)).cell
    have e1 := (h1.kept (grownBy_putObj' V D (.deferred Option.none)) (by rintro ⟨⟩; omega)).cell
    have e2 := (h2.kept (grownBy_putObj' V D (.deferred Option.none)) (by rintro ⟨⟩; omega)).cell
    gi_wp2_with fail
    refine ⟨by simp, .inl ⟨_, _, rfl, run_takeDeferred hK, ?_⟩⟩
    refine ⟨.tuple #[.slice none 0 0, .int .i64 (ra : Int), .int .i64 re], ?_, ⟨_, rfl, Own.nil _ _, putBelow hB (by omega) hK _⟩⟩
    simp [results, Tryz.f164, go_sem, e0, e1, e2]
  case done =>
    rintro D O V hD hOD hO hRW ⟨⟨⟨v, hv, hrow, hvO⟩, h4⟩, ⟨h0, h1, h2⟩, hB, hpars, hlen⟩ hK
    obtain ⟨sa, sc, rfl⟩ := shapeP hrow
    have hE := pars_done hpars
    simp only [Prod.mk.injEq] at hE
    obtain ⟨rfl, rfl, rfl⟩ := hE
    have hle := own_lt hrow
    have hown : Own V (w.heap.size + 8) (.slice sa xs.length sc) (psOf xs) := by unfold Own; rw [psOf_length]; exact hrow
    have hc3 := hv.cell
    have hc0 := h0.cell
    have hc1 := h1.cell
    have hc2 := h2.cell
    have f0 := h0.frozen
    have f1 := h1.frozen
    have f2 := h2.frozen
    obtain ⟨a0, a1, a2, aS⟩ := ended h0 h1 h2 (.slice sa xs.length sc) (.int .i64 0) (.int .i64 0)
    gi_wp2_with fail
    have hK' := (KeepsOthers.setCell _ ⟨w.heap.size + 1 + 1, 0, none⟩ (.int .i64 0)).same D _ ((KeepsOthers.setCell _ ⟨w.heap.size + 1, 0, none⟩ (.int .i64 0)).same D _ ((KeepsOthers.setCell V ⟨w.heap.size, 0, none⟩ (.slice sa xs.length sc)).same D _ hK rfl) rfl) rfl
    have e0 := (a0.kept (grownBy_putObj' _ D (.deferred Option.none)) (by rintro ⟨⟩; omega)).cell
    have e1 := (a1.kept (grownBy_putObj' _ D (.deferred Option.none)) (by rintro ⟨⟩; omega)).cell
    have e2 := (a2.kept (grownBy_putObj' _ D (.deferred Option.none)) (by rintro ⟨⟩; omega)).cell
    refine ⟨by simp, .inl ⟨_, _, rfl, run_takeDeferred hK', ?_⟩⟩
    refine ⟨.tuple #[.slice sa xs.length sc, .int .i64 0, .int .i64 0], ?_, ⟨_, rfl, ?_, putBelow (hB.trans ((aS (fun k => k < w.heap.size) (by omega) (by omega) (by omega)).below fun k hk => hk)) (by omega) hK' _⟩⟩
    · simp [results, Tryz.f164, go_sem, e0, e1, e2]
    · have hO : Own _ (w.heap.size + 8) _ (psOf xs) := (aS (fun k => k ≠ w.heap.size ∧ k ≠ w.heap.size + 1 ∧ k ≠ w.heap.size + 1 + 1) (by omega) (by omega) (by omega)).row hown (fun g e => by have := hle g e; omega)
      have hO2 := own_low (b' := w.heap.size) (by omega) hO
      exact ((Stays.refl (fun k => k ≠ D) _).putObj D _ (fun h => h rfl)).row hO2 (fun g e h => hvO g e (h ▸ hOD))
end Go.Proofs.YtpdodknldhbbhaaGreatDoor.Pp

namespace Go.Proofs.YtpdodknldhbbhaaGreatDoor.Pp
set_option maxRecDepth 100000
open Go.RowKit

theorem upS (s : ByteArray) : (upB s).size = s.size := by unfold upB up; rw [← list_size]; simp
/-- Group, name, place and error of what stands ahead of the first ; -/
structure Nms where
  g : ByteArray
  n : ByteArray
  at_ : Nat
  err : Int
def nameQ (k : Nat) (g n : ByteArray) : Nms := if nameB n = false then ⟨⟨#[]⟩, ⟨#[]⟩, k - n.size, 14⟩ else ⟨g, n, 0, 0⟩
def groupQ (k : Nat) (u : ByteArray) : Nms :=
  if u.data.toList.idxOf 46 < u.size then (if nameB (u.extract 0 (u.data.toList.idxOf 46)) = false then ⟨⟨#[]⟩, ⟨#[]⟩, 0, 14⟩ else nameQ k (u.extract 0 (u.data.toList.idxOf 46)) (u.extract (u.data.toList.idxOf 46 + 1) u.size)) else nameQ k ⟨#[]⟩ u
def names (s : ByteArray) : Nms := groupQ s.size (upB s)
set_option maxHeartbeats 2000000 in
theorem parNames_any (s : ByteArray) (w : World) (hs : s.size ≤ 10000) :
    Calls Tryz.prog 163 #[.string s] w fun e w' => e = .returned (.tuple #[prV (names s).g (names s).n (.slice none 0 0) ⟨#[]⟩ (.slice none 0 0), .int .i64 ((names s).at_ : Int), .int .i64 (names s).err]) ∧ Below w.heap.size w w' := by
  have HB : Below w.heap.size w (w.alloc (.cells #[.string ⟨#[]⟩, .string ⟨#[]⟩, .slice none 0 0, .string ⟨#[]⟩, .slice none 0 0] 53)) := (Below.refl _ _).alloc (Nat.le_refl _) _
  have HZ : PrAt (w.alloc (.cells #[.string ⟨#[]⟩, .string ⟨#[]⟩, .slice none 0 0, .string ⟨#[]⟩, .slice none 0 0] 53)) w.heap.size ⟨#[]⟩ ⟨#[]⟩ (.slice none 0 0) ⟨#[]⟩ (.slice none 0 0) := heap_alloc_new w _
  have CC := Lib.hid (fun W => pCaps_any s W (by omega))
  have hu := upS s
  unfold names prV
  generalize upB s = u at CC hu ⊢
  by_cases hi : u.data.toList.idxOf 46 < u.size
  · have C := Lib.hid (fun W => scut_yes 46 u W (by unfold maxLen; omega) (by rw [list_size]; exact hi))
    rw [groupQ, if_pos hi]
    have hn : (u.extract (u.data.toList.idxOf 46 + 1) u.size).size ≤ s.size := by rw [ByteArray.size_extract]; omega
    generalize u.extract 0 (u.data.toList.idxOf 46) = g at C ⊢
    generalize u.extract (u.data.toList.idxOf 46 + 1) u.size = n at C hn ⊢
    have CG := Lib.hid (fun W => pName_any g W)
    generalize nameB g = x at CG ⊢
    clear hu hi
    cases x with
    | false =>
      rw [if_pos rfl]
      clear hs hn
      go_enter Tryz.func163, Tryz.ntmps163
      go_wp2_with fail
      refine (CC.out _).mono ?_
      rintro e w1 ⟨rfl, b1⟩
      go_wp2_with fail
      refine (C.out _).mono ?_
      rintro e w2 ⟨rfl, b2⟩
      have HZ2 := (HZ.below b1).below b2
      have HB2 := HB.trans ((b1.trans (b2.mono b1.size)).mono HB.size)
      have q0 := HZ2.c0
      have s0 := HZ2.f 0
      have q1 := HZ2.c1
      have s1 := HZ2.f 1
      have q2 := HZ2.c2
      have s2 := HZ2.f 2
      have q3 := HZ2.c3
      have s3 := HZ2.f 3
      have q4 := HZ2.c4
      have s4 := HZ2.f 4
      go_wp2_with fail
      refine (CG.out _).mono ?_
      rintro e w' ⟨rfl, rfl⟩
      go_wp2_with fail
      exact bodyPost_ret (v := .tuple #[.agg #[.string ⟨#[]⟩, .string ⟨#[]⟩, .slice none 0 0, .string ⟨#[]⟩, .slice none 0 0], .int .i64 (0 : Int), .int .i64 14]) (by simp [results, Tryz.results163, go_sem, q0, q1, q2, q3, q4]) rfl ⟨rfl, (((((HB2.setCell (Nat.le_refl _) _).setCell (Nat.le_refl _) _).setCell (Nat.le_refl _) _).setCell (Nat.le_refl _) _).setCell (Nat.le_refl _) _)⟩
    | true =>
      rw [if_neg (by simp)]
      have CN := Lib.hid (fun W => pName_any n W)
      unfold nameQ
      generalize nameB n = y at CN ⊢
      have hk : ((s.size - n.size : Nat) : Int) = (s.size : Int) - (n.size : Int) := by omega
      cases y with
      | false =>
        rw [if_pos rfl]
        simp only
        rw [hk]
        have hs1 : (s.size : Int) ≤ 10000 := by omega
        have hn1 : (n.size : Int) ≤ (s.size : Int) := by omega
        clear hs hn hk
        go_enter Tryz.func163, Tryz.ntmps163
        go_wp2_with fail
        refine (CC.out _).mono ?_
        rintro e w1 ⟨rfl, b1⟩
        go_wp2_with fail
        refine (C.out _).mono ?_
        rintro e w2 ⟨rfl, b2⟩
        have HZ2 := (HZ.below b1).below b2
        have HB2 := HB.trans ((b1.trans (b2.mono b1.size)).mono HB.size)
        have q0 := HZ2.c0
        have s0 := HZ2.f 0
        have q1 := HZ2.c1
        have s1 := HZ2.f 1
        have q2 := HZ2.c2
        have s2 := HZ2.f 2
        have q3 := HZ2.c3
        have s3 := HZ2.f 3
        have q4 := HZ2.c4
        have s4 := HZ2.f 4
        go_wp2_with fail
        refine (CG.out _).mono ?_
        rintro e w' ⟨rfl, rfl⟩
        go_wp2_with fail
        refine (CN.out _).mono ?_
        rintro e w' ⟨rfl, rfl⟩
        go_wp2_with fail
        exact bodyPost_ret (v := .tuple #[.agg #[.string ⟨#[]⟩, .string ⟨#[]⟩, .slice none 0 0, .string ⟨#[]⟩, .slice none 0 0], .int .i64 ((s.size : Int) - (n.size : Int) : Int), .int .i64 14]) (by simp [results, Tryz.results163, go_sem, q0, q1, q2, q3, q4]) rfl ⟨rfl, (((((HB2.setCell (Nat.le_refl _) _).setCell (Nat.le_refl _) _).setCell (Nat.le_refl _) _).setCell (Nat.le_refl _) _).setCell (Nat.le_refl _) _)⟩
      | true =>
        rw [if_neg (by simp)]
        clear hk hs hn
        go_enter Tryz.func163, Tryz.ntmps163
        go_wp2_with fail
        refine (CC.out _).mono ?_
        rintro e w1 ⟨rfl, b1⟩
        go_wp2_with fail
        refine (C.out _).mono ?_
        rintro e w2 ⟨rfl, b2⟩
        have HZ2 := (HZ.below b1).below b2
        have HB2 := HB.trans ((b1.trans (b2.mono b1.size)).mono HB.size)
        have q0 := HZ2.c0
        have s0 := HZ2.f 0
        have q1 := HZ2.c1
        have s1 := HZ2.f 1
        have q2 := HZ2.c2
        have s2 := HZ2.f 2
        have q3 := HZ2.c3
        have s3 := HZ2.f 3
        have q4 := HZ2.c4
        have s4 := HZ2.f 4
        go_wp2_with fail
        refine (CG.out _).mono ?_
        rintro e w' ⟨rfl, rfl⟩
        go_wp2_with fail
        refine (CN.out _).mono ?_
        rintro e w' ⟨rfl, rfl⟩
        go_wp2_with fail
        exact bodyPost_ret (v := .tuple #[.agg #[.string g, .string n, .slice none 0 0, .string ⟨#[]⟩, .slice none 0 0], .int .i64 (0 : Int), .int .i64 0]) (by simp [results, Tryz.results163, go_sem, q0, q1, q2, q3, q4]) rfl ⟨rfl, (((((HB2.setCell (Nat.le_refl _) _).setCell (Nat.le_refl _) _).setCell (Nat.le_refl _) _).setCell (Nat.le_refl _) _).setCell (Nat.le_refl _) _)⟩
  · have C := Lib.hid (fun W => scut_no 46 u W (by rw [list_size]; exact hi))
    rw [groupQ, if_neg hi]
    have hn : u.size ≤ s.size := by omega
    clear hu hi
    generalize u = n at *
    have CN := Lib.hid (fun W => pName_any n W)
    unfold nameQ
    generalize nameB n = y at CN ⊢
    have hk : ((s.size - n.size : Nat) : Int) = (s.size : Int) - (n.size : Int) := by omega
    cases y with
    | false =>
      rw [if_pos rfl]
      simp only
      rw [hk]
      have hs1 : (s.size : Int) ≤ 10000 := by omega
      have hn1 : (n.size : Int) ≤ (s.size : Int) := by omega
      clear hs hn hk
      go_enter Tryz.func163, Tryz.ntmps163
      go_wp2_with fail
      refine (CC.out _).mono ?_
      rintro e w1 ⟨rfl, b1⟩
      go_wp2_with fail
      refine (C.out _).mono ?_
      rintro e w2 ⟨rfl, b2⟩
      have HZ2 := (HZ.below b1).below b2
      have HB2 := HB.trans ((b1.trans (b2.mono b1.size)).mono HB.size)
      have q0 := HZ2.c0
      have s0 := HZ2.f 0
      have q1 := HZ2.c1
      have s1 := HZ2.f 1
      have q2 := HZ2.c2
      have s2 := HZ2.f 2
      have q3 := HZ2.c3
      have s3 := HZ2.f 3
      have q4 := HZ2.c4
      have s4 := HZ2.f 4
      go_wp2_with fail
      refine (CN.out _).mono ?_
      rintro e w' ⟨rfl, rfl⟩
      go_wp2_with fail
      exact bodyPost_ret (v := .tuple #[.agg #[.string ⟨#[]⟩, .string ⟨#[]⟩, .slice none 0 0, .string ⟨#[]⟩, .slice none 0 0], .int .i64 ((s.size : Int) - (n.size : Int) : Int), .int .i64 14]) (by simp [results, Tryz.results163, go_sem, q0, q1, q2, q3, q4]) rfl ⟨rfl, (((((HB2.setCell (Nat.le_refl _) _).setCell (Nat.le_refl _) _).setCell (Nat.le_refl _) _).setCell (Nat.le_refl _) _).setCell (Nat.le_refl _) _)⟩
    | true =>
      rw [if_neg (by simp)]
      clear hk hs hn
      go_enter Tryz.func163, Tryz.ntmps163
      go_wp2_with fail
      refine (CC.out _).mono ?_
      rintro e w1 ⟨rfl, b1⟩
      go_wp2_with fail
      refine (C.out _).mono ?_
      rintro e w2 ⟨rfl, b2⟩
      have HZ2 := (HZ.below b1).below b2
      have HB2 := HB.trans ((b1.trans (b2.mono b1.size)).mono HB.size)
      have q0 := HZ2.c0
      have s0 := HZ2.f 0
      have q1 := HZ2.c1
      have s1 := HZ2.f 1
      have q2 := HZ2.c2
      have s2 := HZ2.f 2
      have q3 := HZ2.c3
      have s3 := HZ2.f 3
      have q4 := HZ2.c4
      have s4 := HZ2.f 4
      go_wp2_with fail
      refine (CN.out _).mono ?_
      rintro e w' ⟨rfl, rfl⟩
      go_wp2_with fail
      exact bodyPost_ret (v := .tuple #[.agg #[.string ⟨#[]⟩, .string n, .slice none 0 0, .string ⟨#[]⟩, .slice none 0 0], .int .i64 (0 : Int), .int .i64 0]) (by simp [results, Tryz.results163, go_sem, q0, q1, q2, q3, q4]) rfl ⟨rfl, (((((HB2.setCell (Nat.le_refl _) _).setCell (Nat.le_refl _) _).setCell (Nat.le_refl _) _).setCell (Nat.le_refl _) _).setCell (Nat.le_refl _) _)⟩
end Go.Proofs.YtpdodknldhbbhaaGreatDoor.Pp

namespace Go.Proofs.YtpdodknldhbbhaaGreatDoor.Pp
set_option maxRecDepth 100000
open Go.RowKit

theorem PrAt.set4 {w : World} {b : Nat} {g n v : ByteArray} {pv av : Value} (h : PrAt w b g n pv v av) (x : Value) : PrAt (w.setCell ⟨b, 4, none⟩ x) b g n pv v x := heap_set h _
theorem pars_at (l : List ByteArray) : ∀ (a : Nat) (ps : List (ByteArray × ByteArray)), (pars a ps l).2.1 ≤ a + atOf l := by
  induction l with
  | nil => intro a ps; simp [pars]
  | cons x r ih =>
    intro a ps
    rw [pars, atOf_cons]
    split
    · show a ≤ _; omega
    · split
      · show a ≤ _; omega
      · exact Nat.le_trans (ih _ _) (by omega)
theorem pars_pcs (s : ByteArray) : (pars 0 [] (pcs 59 s)).2.1 ≤ s.size + 1 := by
  have := pars_at (pcs 59 s) 0 []
  rw [atOf_pcs] at this; omega
/-- What stands ahead of the first : -/
def hd (s : ByteArray) : Par :=
  if s.data.toList.idxOf 59 < s.size then (if (names (s.extract 0 (s.data.toList.idxOf 59))).err = 0 then
      ⟨(names (s.extract 0 (s.data.toList.idxOf 59))).g, (names (s.extract 0 (s.data.toList.idxOf 59))).n, (pars 0 [] (pcs 59 (s.extract (s.data.toList.idxOf 59 + 1) s.size))).1, ⟨#[]⟩, (s.extract 0 (s.data.toList.idxOf 59)).size + 1 + (pars 0 [] (pcs 59 (s.extract (s.data.toList.idxOf 59 + 1) s.size))).2.1, (pars 0 [] (pcs 59 (s.extract (s.data.toList.idxOf 59 + 1) s.size))).2.2⟩
    else ⟨(names (s.extract 0 (s.data.toList.idxOf 59))).g, (names (s.extract 0 (s.data.toList.idxOf 59))).n, [], ⟨#[]⟩, (names (s.extract 0 (s.data.toList.idxOf 59))).at_, (names (s.extract 0 (s.data.toList.idxOf 59))).err⟩)
  else ⟨(names s).g, (names s).n, [], ⟨#[]⟩, (names s).at_, (names s).err⟩
/-- The line. -/
def prs (s : ByteArray) : Par :=
  if s.data.toList.idxOf 58 < s.size then (if (hd (s.extract 0 (s.data.toList.idxOf 58))).err = 0 then
      (if vfE (s.extract (s.data.toList.idxOf 58 + 1) s.size) = 0 then ⟨(hd (s.extract 0 (s.data.toList.idxOf 58))).g, (hd (s.extract 0 (s.data.toList.idxOf 58))).n, (hd (s.extract 0 (s.data.toList.idxOf 58))).ps, s.extract (s.data.toList.idxOf 58 + 1) s.size, 0, 0⟩
        else errP ((s.extract 0 (s.data.toList.idxOf 58)).size + 1 + (vfA (s.extract (s.data.toList.idxOf 58 + 1) s.size)).toNat) (vfE (s.extract (s.data.toList.idxOf 58 + 1) s.size)))
    else errP (hd (s.extract 0 (s.data.toList.idxOf 58))).at_ (hd (s.extract 0 (s.data.toList.idxOf 58))).err)
  else errP s.size 1
theorem vfA_le (v : ByteArray) : 0 ≤ vfA v ∧ vfA v ≤ v.size := by
  unfold vfA idxO
  split
  · exact ⟨Int.le_refl _, by omega⟩
  · split
    · split
      · refine ⟨by omega, by omega⟩
      · omega
    · exact ⟨Int.le_refl _, by omega⟩
set_option maxHeartbeats 4000000 in
theorem parHead_any (s : ByteArray) (w : World) (hs : s.size ≤ 10000) :
    Calls Tryz.prog 137 #[.string s] w fun e w' => Told w (hd s) e w' := by
  have HB : Below w.heap.size w (w.alloc (.cells #[.string ⟨#[]⟩, .string ⟨#[]⟩, .slice none 0 0, .string ⟨#[]⟩, .slice none 0 0] 53)) := (Below.refl _ _).alloc (Nat.le_refl _) _
  have HZ : PrAt (w.alloc (.cells #[.string ⟨#[]⟩, .string ⟨#[]⟩, .slice none 0 0, .string ⟨#[]⟩, .slice none 0 0] 53)) w.heap.size ⟨#[]⟩ ⟨#[]⟩ (.slice none 0 0) ⟨#[]⟩ (.slice none 0 0) := heap_alloc_new w _
  by_cases hi : s.data.toList.idxOf 59 < s.size
  · have C := Lib.hid (fun W => scut_yes 59 s W (by unfold maxLen; omega) (by rw [list_size]; exact hi))
    rw [hd, if_pos hi]
    have hn : (s.extract 0 (s.data.toList.idxOf 59)).size ≤ 10000 := by rw [ByteArray.size_extract]; omega
    have hr : (s.extract (s.data.toList.idxOf 59 + 1) s.size).size ≤ 9999 := by rw [ByteArray.size_extract]; omega
    generalize s.extract 0 (s.data.toList.idxOf 59) = nm at C hn ⊢
    generalize s.extract (s.data.toList.idxOf 59 + 1) s.size = rest at C hr ⊢
    have CN := Lib.hid (fun W => parNames_any nm W hn)
    have CP := Lib.hid (fun W => parParams_any rest W (by omega))
    have ha2 := pars_pcs rest
    obtain ⟨⟨l, a2, r2⟩, hq⟩ : ∃ q, pars 0 [] (pcs 59 rest) = q := ⟨_, rfl⟩
    rw [hq] at CP ha2 ⊢
    generalize names nm = q at CN ⊢
    obtain ⟨g, n, a, er⟩ := q
    unfold prV at CN
    simp only at CN CP ha2 ⊢
    unfold Told prV
    clear hq hi hs
    by_cases he : er = 0
    · subst he
      rw [if_pos rfl]
      simp only
      have hh1 : (nm.size : Int) ≤ 10000 := by omega
      have hh2 : (a2 : Int) ≤ 10000 := by omega
      have hcast : ((nm.size + 1 + a2 : Nat) : Int) = (nm.size : Int) + 1 + (a2 : Int) := by omega
      rw [hcast]
      clear ha2 hr hn hcast
      go_enter Tryz.func137, Tryz.ntmps137
      go_wp2_with fail
      refine (C.out _).mono ?_
      rintro e w1 ⟨rfl, b1⟩
      go_wp2_with fail
      refine (CN.out _).mono ?_
      rintro e w2 ⟨rfl, b2⟩
      have hz12 : w.heap.size + 1 ≤ w2.heap.size := by have h1 := b1.size; have h2 := b2.size; rw [World.size_alloc] at h1; omega
      have HZ2 := (HZ.below b1).below b2
      have HB2 := HB.trans ((b1.trans (b2.mono b1.size)).mono HB.size)
      have b3 : Below w2.heap.size w2 (w2.alloc (.cells #[.string g, .string n, .slice none 0 0, .string ⟨#[]⟩, .slice none 0 0] 53)) := (Below.refl _ _).alloc (Nat.le_refl _) _
      have HZ3 := HZ2.below b3
      have HP3 : PrAt (w2.alloc (.cells #[.string g, .string n, .slice none 0 0, .string ⟨#[]⟩, .slice none 0 0] 53)) w2.heap.size g n (.slice none 0 0) ⟨#[]⟩ (.slice none 0 0) := heap_alloc_new w2 _
      have HB3 := HB2.trans (b3.mono HB2.size)
      have q0 := HZ3.c0
      have s0 := HZ3.f 0
      have q1 := HZ3.c1
      have s1 := HZ3.f 1
      have q2 := HZ3.c2
      have s2 := HZ3.f 2
      have q3 := HZ3.c3
      have s3 := HZ3.f 3
      have q4 := HZ3.c4
      have s4 := HZ3.f 4
      go_wp2_with fail
      refine (CP.out _).mono ?_
      rintro e w4 ⟨pv, rfl, hown, b4⟩
      obtain ⟨pa, pc, rfl⟩ := shapeP hown
      have HZ4 := HZ3.below b4
      have HP4 := HP3.below b4
      have HB4 := HB3.trans (b4.mono HB3.size)
      have m2 := HP4.c2
      have mf2 := HP4.f 2
      have HP5 := HP4.set2 (.slice pa l.length pc)
      have HZ5 := HZ4.other (a := ⟨w2.heap.size, 2, none⟩) (by show w.heap.size ≠ w2.heap.size; omega) (.slice pa l.length pc)
      have HB5 := HB4.setCell (p := ⟨w2.heap.size, 2, none⟩) (show w.heap.size ≤ w2.heap.size by omega) (.slice pa l.length pc)
      rw [World.size_alloc] at hown
      have HO5 := Own.set hown (a := ⟨w2.heap.size, 2, none⟩) (show w2.heap.size < w2.heap.size + 1 by omega) (.slice pa l.length pc)
      clear q0 q1 q2 q3 q4 s0 s1 s2 s3 s4
      have q0 := HZ5.c0
      have s0 := HZ5.f 0
      have q1 := HZ5.c1
      have s1 := HZ5.f 1
      have q2 := HZ5.c2
      have s2 := HZ5.f 2
      have q3 := HZ5.c3
      have s3 := HZ5.f 3
      have q4 := HZ5.c4
      have s4 := HZ5.f 4
      have p0 := HP5.c0
      have p1 := HP5.c1
      have p2 := HP5.c2
      have p3 := HP5.c3
      have p4 := HP5.c4
      go_wp2_with fail
      exact bodyPost_ret (v := .tuple #[.agg #[.string g, .string n, .slice pa l.length pc, .string ⟨#[]⟩, .slice none 0 0], .int .i64 ((nm.size : Int) + 1 + (a2 : Int)), .int .i64 r2]) (by simp [results, Tryz.results137, go_sem, q0, q1, q2, q3, q4]) rfl ⟨_, rfl, own_low (by omega) (Own.set (Own.set (Own.set (Own.set (Own.set HO5 (by show w.heap.size < _; omega) _) (by show w.heap.size < _; omega) _) (by show w.heap.size < _; omega) _) (by show w.heap.size < _; omega) _) (by show w.heap.size < _; omega) _), (((((HB5.setCell (Nat.le_refl _) _).setCell (Nat.le_refl _) _).setCell (Nat.le_refl _) _).setCell (Nat.le_refl _) _).setCell (Nat.le_refl _) _)⟩
    · have hne : (er != 0) = true := bne_iff_ne.2 he
      rw [if_neg he]
      simp only
      clear ha2 hr hn
      go_enter Tryz.func137, Tryz.ntmps137
      go_wp2_with fail
      refine (C.out _).mono ?_
      rintro e w1 ⟨rfl, b1⟩
      go_wp2_with fail
      refine (CN.out _).mono ?_
      rintro e w2 ⟨rfl, b2⟩
      have hz12 : w.heap.size + 1 ≤ w2.heap.size := by have h1 := b1.size; have h2 := b2.size; rw [World.size_alloc] at h1; omega
      have HZ2 := (HZ.below b1).below b2
      have HB2 := HB.trans ((b1.trans (b2.mono b1.size)).mono HB.size)
      have b3 : Below w2.heap.size w2 (w2.alloc (.cells #[.string g, .string n, .slice none 0 0, .string ⟨#[]⟩, .slice none 0 0] 53)) := (Below.refl _ _).alloc (Nat.le_refl _) _
      have HZ3 := HZ2.below b3
      have HP3 : PrAt (w2.alloc (.cells #[.string g, .string n, .slice none 0 0, .string ⟨#[]⟩, .slice none 0 0] 53)) w2.heap.size g n (.slice none 0 0) ⟨#[]⟩ (.slice none 0 0) := heap_alloc_new w2 _
      have HB3 := HB2.trans (b3.mono HB2.size)
      have q0 := HZ3.c0
      have s0 := HZ3.f 0
      have q1 := HZ3.c1
      have s1 := HZ3.f 1
      have q2 := HZ3.c2
      have s2 := HZ3.f 2
      have q3 := HZ3.c3
      have s3 := HZ3.f 3
      have q4 := HZ3.c4
      have s4 := HZ3.f 4
      have p0 := HP3.c0
      have p1 := HP3.c1
      have p2 := HP3.c2
      have p3 := HP3.c3
      have p4 := HP3.c4
      go_wp2_with fail
      exact bodyPost_ret (v := .tuple #[.agg #[.string g, .string n, .slice none 0 0, .string ⟨#[]⟩, .slice none 0 0], .int .i64 (a : Int), .int .i64 er]) (by simp [results, Tryz.results137, go_sem, q0, q1, q2, q3, q4]) rfl ⟨_, rfl, Own.nil _ _, (((((HB3.setCell (Nat.le_refl _) _).setCell (Nat.le_refl _) _).setCell (Nat.le_refl _) _).setCell (Nat.le_refl _) _).setCell (Nat.le_refl _) _)⟩
  · have C := Lib.hid (fun W => scut_no 59 s W (by rw [list_size]; exact hi))
    rw [hd, if_neg hi]
    have CN := Lib.hid (fun W => parNames_any s W hs)
    generalize names s = q at CN ⊢
    obtain ⟨g, n, a, er⟩ := q
    unfold prV at CN
    simp only at CN ⊢
    unfold Told prV
    simp only
    clear hi hs
    by_cases he : er = 0
    · subst he
      go_enter Tryz.func137, Tryz.ntmps137
      go_wp2_with fail
      refine (C.out _).mono ?_
      rintro e w1 ⟨rfl, b1⟩
      go_wp2_with fail
      refine (CN.out _).mono ?_
      rintro e w2 ⟨rfl, b2⟩
      have hz12 : w.heap.size + 1 ≤ w2.heap.size := by have h1 := b1.size; have h2 := b2.size; rw [World.size_alloc] at h1; omega
      have HZ2 := (HZ.below b1).below b2
      have HB2 := HB.trans ((b1.trans (b2.mono b1.size)).mono HB.size)
      have b3 : Below w2.heap.size w2 (w2.alloc (.cells #[.string g, .string n, .slice none 0 0, .string ⟨#[]⟩, .slice none 0 0] 53)) := (Below.refl _ _).alloc (Nat.le_refl _) _
      have HZ3 := HZ2.below b3
      have HP3 : PrAt (w2.alloc (.cells #[.string g, .string n, .slice none 0 0, .string ⟨#[]⟩, .slice none 0 0] 53)) w2.heap.size g n (.slice none 0 0) ⟨#[]⟩ (.slice none 0 0) := heap_alloc_new w2 _
      have HB3 := HB2.trans (b3.mono HB2.size)
      have q0 := HZ3.c0
      have s0 := HZ3.f 0
      have q1 := HZ3.c1
      have s1 := HZ3.f 1
      have q2 := HZ3.c2
      have s2 := HZ3.f 2
      have q3 := HZ3.c3
      have s3 := HZ3.f 3
      have q4 := HZ3.c4
      have s4 := HZ3.f 4
      have p0 := HP3.c0
      have p1 := HP3.c1
      have p2 := HP3.c2
      have p3 := HP3.c3
      have p4 := HP3.c4
      go_wp2_with fail
      exact bodyPost_ret (v := .tuple #[.agg #[.string g, .string n, .slice none 0 0, .string ⟨#[]⟩, .slice none 0 0], .int .i64 (a : Int), .int .i64 0]) (by simp [results, Tryz.results137, go_sem, q0, q1, q2, q3, q4]) rfl ⟨_, rfl, Own.nil _ _, (((((HB3.setCell (Nat.le_refl _) _).setCell (Nat.le_refl _) _).setCell (Nat.le_refl _) _).setCell (Nat.le_refl _) _).setCell (Nat.le_refl _) _)⟩
    · have hne : (er != 0) = true := bne_iff_ne.2 he
      go_enter Tryz.func137, Tryz.ntmps137
      go_wp2_with fail
      refine (C.out _).mono ?_
      rintro e w1 ⟨rfl, b1⟩
      go_wp2_with fail
      refine (CN.out _).mono ?_
      rintro e w2 ⟨rfl, b2⟩
      have hz12 : w.heap.size + 1 ≤ w2.heap.size := by have h1 := b1.size; have h2 := b2.size; rw [World.size_alloc] at h1; omega
      have HZ2 := (HZ.below b1).below b2
      have HB2 := HB.trans ((b1.trans (b2.mono b1.size)).mono HB.size)
      have b3 : Below w2.heap.size w2 (w2.alloc (.cells #[.string g, .string n, .slice none 0 0, .string ⟨#[]⟩, .slice none 0 0] 53)) := (Below.refl _ _).alloc (Nat.le_refl _) _
      have HZ3 := HZ2.below b3
      have HP3 : PrAt (w2.alloc (.cells #[.string g, .string n, .slice none 0 0, .string ⟨#[]⟩, .slice none 0 0] 53)) w2.heap.size g n (.slice none 0 0) ⟨#[]⟩ (.slice none 0 0) := heap_alloc_new w2 _
      have HB3 := HB2.trans (b3.mono HB2.size)
      have q0 := HZ3.c0
      have s0 := HZ3.f 0
      have q1 := HZ3.c1
      have s1 := HZ3.f 1
      have q2 := HZ3.c2
      have s2 := HZ3.f 2
      have q3 := HZ3.c3
      have s3 := HZ3.f 3
      have q4 := HZ3.c4
      have s4 := HZ3.f 4
      have p0 := HP3.c0
      have p1 := HP3.c1
      have p2 := HP3.c2
      have p3 := HP3.c3
      have p4 := HP3.c4
      go_wp2_with fail
      exact bodyPost_ret (v := .tuple #[.agg #[.string g, .string n, .slice none 0 0, .string ⟨#[]⟩, .slice none 0 0], .int .i64 (a : Int), .int .i64 er]) (by simp [results, Tryz.results137, go_sem, q0, q1, q2, q3, q4]) rfl ⟨_, rfl, Own.nil _ _, (((((HB3.setCell (Nat.le_refl _) _).setCell (Nat.le_refl _) _).setCell (Nat.le_refl _) _).setCell (Nat.le_refl _) _).setCell (Nat.le_refl _) _)⟩
set_option maxHeartbeats 4000000 in
theorem pParse_any (s : ByteArray) (w : World) (hs : s.size ≤ 10000) :
    Calls Tryz.prog 100 #[.string s] w fun e w' => Told w (prs s) e w' := by
  have HB : Below w.heap.size w (w.alloc (.cells #[.string ⟨#[]⟩, .string ⟨#[]⟩, .slice none 0 0, .string ⟨#[]⟩, .slice none 0 0] 53)) := (Below.refl _ _).alloc (Nat.le_refl _) _
  have HZ : PrAt (w.alloc (.cells #[.string ⟨#[]⟩, .string ⟨#[]⟩, .slice none 0 0, .string ⟨#[]⟩, .slice none 0 0] 53)) w.heap.size ⟨#[]⟩ ⟨#[]⟩ (.slice none 0 0) ⟨#[]⟩ (.slice none 0 0) := heap_alloc_new w _
  by_cases hi : s.data.toList.idxOf 58 < s.size
  · have C := Lib.hid (fun W => scut_yes 58 s W (by unfold maxLen; omega) (by rw [list_size]; exact hi))
    rw [prs, if_pos hi]
    have hn : (s.extract 0 (s.data.toList.idxOf 58)).size ≤ 10000 := by rw [ByteArray.size_extract]; omega
    have hr : (s.extract (s.data.toList.idxOf 58 + 1) s.size).size ≤ 10000 := by rw [ByteArray.size_extract]; omega
    generalize s.extract 0 (s.data.toList.idxOf 58) = head at C hn ⊢
    generalize s.extract (s.data.toList.idxOf 58 + 1) s.size = v at C hr ⊢
    have CH := Lib.hid (fun W => parHead_any head W hn)
    have CV := Lib.hid (fun W => pFault_any v W (by omega))
    have hva := vfA_le v
    generalize vfE v = ve at CV ⊢
    generalize vfA v = va at CV hva ⊢
    generalize hd head = q at CH ⊢
    obtain ⟨g, n, l, hv, a, er⟩ := q
    unfold Told prV at CH
    simp only at CH ⊢
    clear hi hs
    by_cases he : er = 0
    · subst he
      rw [if_pos rfl]
      by_cases hve : ve = 0
      · subst hve
        rw [if_pos rfl]
        unfold Told prV
        simp only
        clear hva hr hn
        go_enter Tryz.func100, Tryz.ntmps100
        go_wp2_with fail
        refine (C.out _).mono ?_
        rintro e w1 ⟨rfl, b1⟩
        go_wp2_with fail
        refine (CH.out _).mono ?_
        rintro e w2 ⟨pv, rfl, hown, b2⟩
        obtain ⟨pa, pc, rfl⟩ := shapeP hown
        have hz12 : w.heap.size + 1 ≤ w1.heap.size := by have h1 := b1.size; rw [World.size_alloc] at h1; omega
        have HZ2 := (HZ.below b1).below b2
        have HB2 := HB.trans ((b1.trans (b2.mono b1.size)).mono HB.size)
        have b3 : Below w2.heap.size w2 (w2.alloc (.cells #[.string g, .string n, .slice pa l.length pc, .string hv, .slice none 0 0] 53)) := (Below.refl _ _).alloc (Nat.le_refl _) _
        have HZ3 := HZ2.below b3
        have HP3 : PrAt (w2.alloc (.cells #[.string g, .string n, .slice pa l.length pc, .string hv, .slice none 0 0] 53)) w2.heap.size g n (.slice pa l.length pc) hv (.slice none 0 0) := heap_alloc_new w2 _
        have HB3 := HB2.trans (b3.mono HB2.size)
        have hown3 : Own (w2.alloc (.cells #[.string g, .string n, .slice pa l.length pc, .string hv, .slice none 0 0] 53)) w1.heap.size (.slice pa l.length pc) l := hown.below b3
        go_wp2_with fail
        refine (CV.out _).mono ?_
        rintro e w4 ⟨rfl, b4⟩
        have HZ4 := HZ3.below b4
        have HP4 := HP3.below b4
        have HB4 := HB3.trans (b4.mono HB3.size)
        have hown4 := hown3.below b4
        have b34 := b3.size
        rw [World.size_alloc] at b34
        have m3 := HP4.c3
        have mf3 := HP4.f 3
        have HP5 := HP4.set3 v
        have HZ5 := HZ4.other (a := ⟨w2.heap.size, 3, none⟩) (by show w.heap.size ≠ w2.heap.size; have := b2.size; omega) (.string v)
        have HB5 := HB4.setCell (p := ⟨w2.heap.size, 3, none⟩) (show w.heap.size ≤ w2.heap.size by have := b2.size; omega) (.string v)
        have hlt := Sq.own_lt hown
        have HO5 := Own.setNe hown4 (a := ⟨w2.heap.size, 3, none⟩) (fun k e => (hlt k e).2) (.string v)
        have q0 := HZ5.c0
        have s0 := HZ5.f 0
        have q1 := HZ5.c1
        have s1 := HZ5.f 1
        have q2 := HZ5.c2
        have s2 := HZ5.f 2
        have q3 := HZ5.c3
        have s3 := HZ5.f 3
        have q4 := HZ5.c4
        have s4 := HZ5.f 4
        have p0 := HP5.c0
        have p1 := HP5.c1
        have p2 := HP5.c2
        have p3 := HP5.c3
        have p4 := HP5.c4
        go_wp2_with fail
        exact bodyPost_ret (v := .tuple #[.agg #[.string g, .string n, .slice pa l.length pc, .string v, .slice none 0 0], .int .i64 0, .int .i64 0]) (by simp [results, Tryz.results100, go_sem, q0, q1, q2, q3, q4]) rfl ⟨.slice pa l.length pc, rfl, own_low (by omega) (Own.set (Own.set (Own.set (Own.set (Own.set HO5 (by show w.heap.size < _; omega) _) (by show w.heap.size < _; omega) _) (by show w.heap.size < _; omega) _) (by show w.heap.size < _; omega) _) (by show w.heap.size < _; omega) _), (((((HB5.setCell (Nat.le_refl _) _).setCell (Nat.le_refl _) _).setCell (Nat.le_refl _) _).setCell (Nat.le_refl _) _).setCell (Nat.le_refl _) _)⟩
      · have hne : (ve != 0) = true := bne_iff_ne.2 hve
        rw [if_neg hve]
        have hh1 : (head.size : Int) ≤ 10000 := by omega
        have hh2 : 0 ≤ va := hva.1
        have hh3 : va ≤ 10000 := by omega
        have hcast : ((head.size + 1 + va.toNat : Nat) : Int) = (head.size : Int) + 1 + va := by omega
        clear hva hr hn
        go_enter Tryz.func100, Tryz.ntmps100
        go_wp2_with fail
        refine (C.out _).mono ?_
        rintro e w1 ⟨rfl, b1⟩
        go_wp2_with fail
        refine (CH.out _).mono ?_
        rintro e w2 ⟨pv, rfl, hown, b2⟩
        obtain ⟨pa, pc, rfl⟩ := shapeP hown
        have hz12 : w.heap.size + 1 ≤ w1.heap.size := by have h1 := b1.size; rw [World.size_alloc] at h1; omega
        have HZ2 := (HZ.below b1).below b2
        have HB2 := HB.trans ((b1.trans (b2.mono b1.size)).mono HB.size)
        have b3 : Below w2.heap.size w2 (w2.alloc (.cells #[.string g, .string n, .slice pa l.length pc, .string hv, .slice none 0 0] 53)) := (Below.refl _ _).alloc (Nat.le_refl _) _
        have HZ3 := HZ2.below b3
        have HP3 : PrAt (w2.alloc (.cells #[.string g, .string n, .slice pa l.length pc, .string hv, .slice none 0 0] 53)) w2.heap.size g n (.slice pa l.length pc) hv (.slice none 0 0) := heap_alloc_new w2 _
        have HB3 := HB2.trans (b3.mono HB2.size)
        have hown3 : Own (w2.alloc (.cells #[.string g, .string n, .slice pa l.length pc, .string hv, .slice none 0 0] 53)) w1.heap.size (.slice pa l.length pc) l := hown.below b3
        go_wp2_with fail
        refine (CV.out _).mono ?_
        rintro e w4 ⟨rfl, b4⟩
        have HZ4 := HZ3.below b4
        have HP4 := HP3.below b4
        have HB4 := HB3.trans (b4.mono HB3.size)
        have hown4 := hown3.below b4
        have b34 := b3.size
        rw [World.size_alloc] at b34
        have q0 := HZ4.c0
        have s0 := HZ4.f 0
        have q1 := HZ4.c1
        have s1 := HZ4.f 1
        have q2 := HZ4.c2
        have s2 := HZ4.f 2
        have q3 := HZ4.c3
        have s3 := HZ4.f 3
        have q4 := HZ4.c4
        have s4 := HZ4.f 4
        go_wp2_with fail
        exact bodyPost_ret (v := .tuple #[.agg #[.string ⟨#[]⟩, .string ⟨#[]⟩, .slice none 0 0, .string ⟨#[]⟩, .slice none 0 0], .int .i64 ((head.size : Int) + 1 + va), .int .i64 ve]) (by simp [results, Tryz.results100, go_sem, q0, q1, q2, q3, q4]) rfl (by rw [← hcast]; exact told_err ((((((HB4.setCell (Nat.le_refl _) _).setCell (Nat.le_refl _) _).setCell (Nat.le_refl _) _).setCell (Nat.le_refl _) _).setCell (Nat.le_refl _) _)))
    · have hne : (er != 0) = true := bne_iff_ne.2 he
      rw [if_neg he]
      clear hva hr hn
      go_enter Tryz.func100, Tryz.ntmps100
      go_wp2_with fail
      refine (C.out _).mono ?_
      rintro e w1 ⟨rfl, b1⟩
      go_wp2_with fail
      refine (CH.out _).mono ?_
      rintro e w2 ⟨pv, rfl, hown, b2⟩
      obtain ⟨pa, pc, rfl⟩ := shapeP hown
      have hz12 : w.heap.size + 1 ≤ w1.heap.size := by have h1 := b1.size; rw [World.size_alloc] at h1; omega
      have HZ2 := (HZ.below b1).below b2
      have HB2 := HB.trans ((b1.trans (b2.mono b1.size)).mono HB.size)
      have b3 : Below w2.heap.size w2 (w2.alloc (.cells #[.string g, .string n, .slice pa l.length pc, .string hv, .slice none 0 0] 53)) := (Below.refl _ _).alloc (Nat.le_refl _) _
      have HZ3 := HZ2.below b3
      have HP3 : PrAt (w2.alloc (.cells #[.string g, .string n, .slice pa l.length pc, .string hv, .slice none 0 0] 53)) w2.heap.size g n (.slice pa l.length pc) hv (.slice none 0 0) := heap_alloc_new w2 _
      have HB3 := HB2.trans (b3.mono HB2.size)
      have hown3 : Own (w2.alloc (.cells #[.string g, .string n, .slice pa l.length pc, .string hv, .slice none 0 0] 53)) w1.heap.size (.slice pa l.length pc) l := hown.below b3
      have q0 := HZ3.c0
      have s0 := HZ3.f 0
      have q1 := HZ3.c1
      have s1 := HZ3.f 1
      have q2 := HZ3.c2
      have s2 := HZ3.f 2
      have q3 := HZ3.c3
      have s3 := HZ3.f 3
      have q4 := HZ3.c4
      have s4 := HZ3.f 4
      go_wp2_with fail
      exact bodyPost_ret (v := .tuple #[.agg #[.string ⟨#[]⟩, .string ⟨#[]⟩, .slice none 0 0, .string ⟨#[]⟩, .slice none 0 0], .int .i64 (a : Int), .int .i64 er]) (by simp [results, Tryz.results100, go_sem, q0, q1, q2, q3, q4]) rfl (told_err ((((((HB3.setCell (Nat.le_refl _) _).setCell (Nat.le_refl _) _).setCell (Nat.le_refl _) _).setCell (Nat.le_refl _) _).setCell (Nat.le_refl _) _)))
  · have C := Lib.hid (fun W => scut_no 58 s W (by rw [list_size]; exact hi))
    rw [prs, if_neg hi]
    clear hi
    have hs1 : (s.size : Int) ≤ 10000 := by omega
    clear hs
    go_enter Tryz.func100, Tryz.ntmps100
    go_wp2_with fail
    refine (C.out _).mono ?_
    rintro e w1 ⟨rfl, b1⟩
    have HZ1 := HZ.below b1
    have HB1 := HB.trans (b1.mono HB.size)
    have q0 := HZ1.c0
    have s0 := HZ1.f 0
    have q1 := HZ1.c1
    have s1 := HZ1.f 1
    have q2 := HZ1.c2
    have s2 := HZ1.f 2
    have q3 := HZ1.c3
    have s3 := HZ1.f 3
    have q4 := HZ1.c4
    have s4 := HZ1.f 4
    go_wp2_with fail
    exact bodyPost_ret (v := .tuple #[.agg #[.string ⟨#[]⟩, .string ⟨#[]⟩, .slice none 0 0, .string ⟨#[]⟩, .slice none 0 0], .int .i64 (s.size : Int), .int .i64 1]) (by simp [results, Tryz.results100, go_sem, q0, q1, q2, q3, q4]) rfl (told_err ((((((HB1.setCell (Nat.le_refl _) _).setCell (Nat.le_refl _) _).setCell (Nat.le_refl _) _).setCell (Nat.le_refl _) _).setCell (Nat.le_refl _) _)))
end Go.Proofs.YtpdodknldhbbhaaGreatDoor.Pp

namespace Go.Proofs.YtpdodknldhbbhaaGreatDoor.Pp
set_option maxRecDepth 100000
open Go.RowKit Cs

theorem ext_list (s : ByteArray) (a z : Nat) : (s.extract a z).data.toList = (s.data.toList.take z).drop a := by
  rw [ByteArray.data_extract, Array.toList_extract, List.extract_eq_take_drop, List.drop_take]
theorem find_ext (s : ByteArray) (a z : Nat) (c : UInt8) : find s a z c = a + (s.extract a z).data.toList.idxOf c := by
  unfold find findN; rw [ext_list]
theorem ext_size {s : ByteArray} {a z : Nat} (hz : z ≤ s.size) : (s.extract a z).size = z - a := by rw [ByteArray.size_extract]; omega
theorem mk_of (s : ByteArray) : (⟨s.data.toList.toArray⟩ : ByteArray) = s := by apply ByteArray.ext; simp
theorem ext_of_list {s t : ByteArray} (h : s.data.toList = t.data.toList) : s = t := by rw [← mk_of s, h, mk_of]
theorem ext_ext (s : ByteArray) (a z i j : Nat) (h : a + j ≤ z) : (s.extract a z).extract i j = s.extract (a + i) (a + j) := by
  apply ext_of_list
  rw [ext_list, ext_list, ext_list, List.take_drop, List.take_take, List.drop_drop]
  rw [show min (a + j) z = a + j by omega]
theorem ext_whole (s : ByteArray) : s.extract 0 s.size = s := by
  apply ext_of_list; rw [ext_list, List.drop_zero, List.take_of_length_le (by rw [list_size]; exact Nat.le_refl _)]
theorem idx_le (s : ByteArray) (c : UInt8) : s.data.toList.idxOf c ≤ s.size := by rw [← list_size]; exact List.idxOf_le_length
theorem up_list (s : ByteArray) : (upB s).data.toList = up s.data.toList := by unfold upB; simp
theorem up_ext (s : ByteArray) (a z : Nat) : (upB s).extract a z = upB (s.extract a z) := by
  apply ext_of_list
  rw [ext_list, up_list, up_list, ext_list]
  unfold up
  rw [List.map_drop, List.map_take]
theorem cap1_dot (x : UInt8) : (cap1 x == 46) = (x == 46) := by
  by_cases h : 97 ≤ (x.toNat : Int) ∧ (x.toNat : Int) ≤ 122
  · have h2 := cap1_yes h.1 h.2
    have e1 : (cap1 x == 46) = false := beq_eq_false_iff_ne.2 (fun e => by rw [e] at h2; have : ((46 : UInt8).toNat : Int) = 46 := rfl; omega)
    have e2 : (x == 46) = false := beq_eq_false_iff_ne.2 (fun e => by subst e; have : ((46 : UInt8).toNat : Int) = 46 := rfl; omega)
    rw [e1, e2]
  · rw [cap1_no h]
theorem idx_up (l : List UInt8) : (up l).idxOf 46 = l.idxOf 46 := by
  unfold up
  induction l with
  | nil => rfl
  | cons x r ih => rw [List.map_cons, List.idxOf_cons, List.idxOf_cons, cap1_dot, ih]
theorem valc_cap (x : UInt8) : valc (cap1 x) = valc x := by
  by_cases h : 97 ≤ (x.toNat : Int) ∧ (x.toNat : Int) ≤ 122
  · have h2 := cap1_yes h.1 h.2
    unfold valc
    rw [decide_eq_true (by omega), decide_eq_true (by omega)]
  · rw [cap1_no h]
theorem valB_up (s : ByteArray) : valB (upB s) = valB s := by
  unfold valB
  rw [up_list]
  unfold up valL
  cases s.data.toList with
  | nil => rfl
  | cons c r =>
    simp only [List.map_cons]
    rw [List.length_cons, List.length_map, List.length_cons, List.all_cons, List.all_cons, valc_cap, List.all_map]
    congr 2
    exact congrArg (fun f => List.all r f) (funext fun x => valc_cap x)

theorem ppar_eq (s : ByteArray) (a t : Nat) (ht : t ≤ s.size) (ha : a ≤ t) : (ppar (s.extract a t)).1 = parOf s a t (find s a t 61) ∧
    ((ppar (s.extract a t)).2 = false ↔ (paramB (parOf s a t (find s a t 61)).1 (parOf s a t (find s a t 61)).2 = false ∨ find s a t 61 = a)) := by
  have hx := ext_size (s := s) (a := a) ht
  have hi := idx_le (s.extract a t) 61
  have hf := find_ext s a t 61
  unfold ppar parOf paramB
  rw [hf]
  generalize (s.extract a t).data.toList.idxOf 61 = i at hi
  by_cases h : i < (s.extract a t).size
  · rw [if_pos h, if_pos (by omega : a + i < t)]
    rw [ext_ext s a t 0 i (by omega), ext_ext s a t (i + 1) _ (by omega), hx, Nat.add_zero, show a + (t - a) = t by omega, ← Nat.add_assoc]
    refine ⟨rfl, ?_⟩
    simp only
    have hn : (upB (s.extract a (a + i))).size = i := by rw [upS, ext_size (by omega)]; omega
    by_cases h0 : i = 0
    · subst h0
      rw [nameB_none hn]
      simp
    · rw [decide_eq_false (by rw [hn]; exact h0), Bool.false_or]
      constructor
      · exact fun h => .inl h
      · rintro (h | h)
        · exact h
        · omega
  · rw [if_neg h, if_neg (by omega : ¬ a + i < t)]
    refine ⟨rfl, ?_⟩
    simp only
    rw [valB_up, decide_eq_true (show (⟨#[]⟩ : ByteArray).size = 0 from rfl), Bool.true_or, Bool.true_and]
    constructor
    · exact fun h => .inl h
    · rintro (h | h)
      · exact h
      · exact valB_none (by omega)

/-- The rest of a line: its parameters read, the value; or an error. -/
def goOn (s : ByteArray) (z : Nat) (g n : ByteArray) (r : List (ByteArray × ByteArray) × Nat × Int) : Par := if r.2.2 = 0 then tailP s z g n r.1 else errP r.2.1 r.2.2
theorem parsP_pars (s : ByteArray) (z : Nat) (g n : ByteArray) (hz : z ≤ s.size) : ∀ (d stop : Nat) (ps : List (ByteArray × ByteArray)), z - stop ≤ d → stop < z → parsP s z g n stop ps = goOn s z g n (pars (stop + 1) ps (pcs 59 (s.extract (stop + 1) z))) := by
  intro d
  induction d with
  | zero => intro stop ps hd hs; omega
  | succ d ih =>
    intro stop ps hd hs
    have hx := ext_size (s := s) (a := stop + 1) hz
    have hi := idx_le (s.extract (stop + 1) z) 59
    have hf := find_ext s (stop + 1) z 59
    rw [parsP, dif_pos hs]
    simp only
    by_cases h : (s.extract (stop + 1) z).data.toList.idxOf 59 < (s.extract (stop + 1) z).size
    · rw [pcs_yes h, hx, ext_ext s (stop + 1) z 0 _ (by omega), ext_ext s (stop + 1) z _ _ (by omega), Nat.add_zero, show stop + 1 + (z - (stop + 1)) = z by omega, ← Nat.add_assoc]
      rw [← hf]
      have hlt : find s (stop + 1) z 59 < z := by omega
      have hge : stop + 1 ≤ find s (stop + 1) z 59 := by omega
      obtain ⟨t, ht⟩ : ∃ t, find s (stop + 1) z 59 = t := ⟨_, rfl⟩
      rw [ht] at hlt hge ⊢
      obtain ⟨e1, e2⟩ := ppar_eq s (stop + 1) t (by omega) hge
      rw [pars, e1]
      by_cases h6 : ps.length = 6
      · rw [if_pos h6, if_pos h6]; rfl
      · rw [if_neg h6, if_neg h6]
        by_cases hb : paramB (parOf s (stop + 1) t (find s (stop + 1) t 61)).1 (parOf s (stop + 1) t (find s (stop + 1) t 61)).2 = false ∨ find s (stop + 1) t 61 = stop + 1
        · rw [if_pos hb, if_pos (e2.2 hb)]; rfl
        · rw [if_neg hb, if_neg (fun h' => hb (e2.1 h')), ih t _ (by omega) hlt, ext_size (by omega : t ≤ s.size), show stop + 1 + (t - (stop + 1)) + 1 = t + 1 by omega]
    · rw [pcs_no h]
      have ht : find s (stop + 1) z 59 = z := by omega
      rw [ht]
      obtain ⟨e1, e2⟩ := ppar_eq s (stop + 1) z hz (by omega)
      rw [pars, e1]
      by_cases h6 : ps.length = 6
      · rw [if_pos h6, if_pos h6]; rfl
      · rw [if_neg h6, if_neg h6]
        by_cases hb : paramB (parOf s (stop + 1) z (find s (stop + 1) z 61)).1 (parOf s (stop + 1) z (find s (stop + 1) z 61)).2 = false ∨ find s (stop + 1) z 61 = stop + 1
        · rw [if_pos hb, if_pos (e2.2 hb)]; rfl
        · rw [if_neg hb, if_neg (fun h' => hb (e2.1 h')), parsP, dif_neg (Nat.lt_irrefl _), pars]; rfl
/-- A place further on. -/
theorem pars_shift (b : Nat) (l : List ByteArray) : ∀ (a : Nat) (ps : List (ByteArray × ByteArray)), pars (b + a) ps l = ((pars a ps l).1, if (pars a ps l).2.2 = 0 then 0 else b + (pars a ps l).2.1, (pars a ps l).2.2) := by
  induction l with
  | nil => intro a ps; rfl
  | cons x r ih =>
    intro a ps
    rw [pars, pars]
    by_cases h6 : ps.length = 6
    · rw [if_pos h6, if_pos h6]; rfl
    · rw [if_neg h6, if_neg h6]
      by_cases hb : (ppar x).2 = false
      · rw [if_pos hb, if_pos hb]; rfl
      · rw [if_neg hb, if_neg hb, ← ih, show b + a + x.size + 1 = b + (a + x.size + 1) by omega]
theorem tail_eq (s : ByteArray) (z : Nat) (g n : ByteArray) (ps : List (ByteArray × ByteArray)) :
    (if vfE (s.extract (z + 1) s.size) = 0 then (⟨g, n, ps, s.extract (z + 1) s.size, 0, 0⟩ : Par) else errP (z + 1 + (vfA (s.extract (z + 1) s.size)).toNat) (vfE (s.extract (z + 1) s.size))) = tailP s z g n ps := by
  unfold tailP
  simp only
  generalize s.extract (z + 1) s.size = v
  unfold vfE vfA
  by_cases h : 2400 < v.size
  · rw [if_pos h, if_pos h, if_pos h, if_neg (by decide)]; rfl
  · rw [if_neg h, if_neg h, if_neg h]
    unfold idxO
    by_cases hf : v.data.toList.findIdx oddb < v.size
    · simp [hf]
    · simp [hf]
/-- What stands ahead of the first : and then the value. -/
theorem group_eq (s : ByteArray) (z : Nat) (hz : z < s.size) :
    (if (hd (s.extract 0 z)).err = 0 then tailP s z (hd (s.extract 0 z)).g (hd (s.extract 0 z)).n (hd (s.extract 0 z)).ps else errP (hd (s.extract 0 z)).at_ (hd (s.extract 0 z)).err) = groupP s z := by
  have hx := ext_size (s := s) (a := 0) (Nat.le_of_lt hz)
  have hi := idx_le (s.extract 0 z) 59
  have hf := find_ext s 0 z 59
  rw [Nat.zero_add] at hf
  unfold groupP
  simp only
  rw [hf]
  obtain ⟨stop, hs⟩ : ∃ k, (s.extract 0 z).data.toList.idxOf 59 = k := ⟨_, rfl⟩
  rw [hs] at hi ⊢
  have hsz : stop ≤ z := by omega
  -- the names
  have hN : names (s.extract 0 stop) = groupQ stop (upB (s.extract 0 stop)) := by unfold names; rw [ext_size (by omega)]; rfl
  have key : (if (names (s.extract 0 stop)).err = 0 then parsP s z (names (s.extract 0 stop)).g (names (s.extract 0 stop)).n stop [] else errP (names (s.extract 0 stop)).at_ (names (s.extract 0 stop)).err) = (if find s 0 stop 46 < stop then (if nameB (upB (s.extract 0 (find s 0 stop 46))) = false then errP 0 14 else nameP s z stop (upB (s.extract 0 (find s 0 stop 46))) (find s 0 stop 46 + 1)) else nameP s z stop ⟨#[]⟩ 0) := by
    have hd' : find s 0 stop 46 = (upB (s.extract 0 stop)).data.toList.idxOf 46 := by rw [up_list, idx_up, find_ext, Nat.zero_add]
    have hu : (upB (s.extract 0 stop)).size = stop := by rw [upS, ext_size (by omega)]; omega
    rw [hN]
    unfold groupQ
    rw [← hd', hu]
    generalize find s 0 stop 46 = d
    by_cases h : d < stop
    · rw [if_pos h, if_pos h, up_ext, up_ext, ext_ext s 0 stop 0 d (by omega), ext_ext s 0 stop (d + 1) stop (by omega)]
      simp only [Nat.zero_add]
      by_cases hg : nameB (upB (s.extract 0 d)) = false
      · rw [if_pos hg, if_pos hg]; rfl
      · rw [if_neg hg, if_neg hg]
        unfold nameQ nameP
        by_cases hn : nameB (upB (s.extract (d + 1) stop)) = false
        · rw [if_pos hn, if_pos hn]
          simp only
          rw [if_neg (by decide), upS, ext_size (by omega), show stop - (stop - (d + 1)) = d + 1 by omega]
        · rw [if_neg hn, if_neg hn]; rfl
    · rw [if_neg h, if_neg h]
      unfold nameQ nameP
      by_cases hn : nameB (upB (s.extract 0 stop)) = false
      · rw [if_pos hn, if_pos hn]
        simp only
        rw [if_neg (by decide), hu, Nat.sub_self]
      · rw [if_neg hn, if_neg hn]; rfl
  rw [← key]
  unfold hd
  rw [hs]
  by_cases h : stop < (s.extract 0 z).size
  · rw [if_pos h, hx, ext_ext s 0 z 0 stop (by omega), ext_ext s 0 z (stop + 1) _ (by omega)]
    simp only [Nat.zero_add, Nat.sub_zero]
    have hsl : stop < z := by omega
    have hss : (s.extract 0 stop).size = stop := by rw [ext_size (by omega)]; omega
    rw [hss]
    generalize names (s.extract 0 stop) = q
    by_cases he : q.err = 0
    · rw [if_pos he, if_pos he]
      simp only
      rw [parsP_pars s z q.g q.n (by omega) (z - stop) stop [] (Nat.le_refl _) hsl]
      have hp := pars_shift (stop + 1) (pcs 59 (s.extract (stop + 1) z)) 0 []
      rw [Nat.add_zero] at hp
      rw [hp]
      unfold goOn
      generalize pars 0 [] (pcs 59 (s.extract (stop + 1) z)) = r
      simp only
      by_cases hr : r.2.2 = 0
      · rw [if_pos hr, if_pos hr]
      · rw [if_neg hr, if_neg hr, if_neg hr]
    · rw [if_neg he, if_neg he]
      simp only
      rw [if_neg he]
  · rw [if_neg h]
    have hsl : stop = z := by omega
    subst hsl
    simp only
    generalize names (s.extract 0 stop) = q
    by_cases he : q.err = 0
    · rw [if_pos he, if_pos he, parsP, dif_neg (Nat.lt_irrefl _)]
    · rw [if_neg he, if_neg he]
theorem prs_eq (s : ByteArray) : prs s = parse s := by
  have hi := idx_le s 58
  have hf := find_ext s 0 s.size 58
  rw [Nat.zero_add, ext_whole] at hf
  unfold prs parse
  simp only
  rw [hf]
  by_cases h : s.data.toList.idxOf 58 < s.size
  · rw [if_pos h, if_neg (show ¬ s.data.toList.idxOf 58 = s.size by omega), ext_size (by omega : s.data.toList.idxOf 58 ≤ s.size), Nat.sub_zero, tail_eq, group_eq s _ h]
  · rw [if_neg h, if_pos (show s.data.toList.idxOf 58 = s.size by omega)]
end Go.Proofs.YtpdodknldhbbhaaGreatDoor.Pp

namespace Go.Proofs.YtpdodknldhbbhaaGreatDoor.Pp
set_option maxRecDepth 100000
open Go.RowKit Cs

theorem app_list (a b : ByteArray) : (a ++ b).data.toList = a.data.toList ++ b.data.toList := by rw [ByteArray.data_append, Array.toList_append]
theorem app_assoc (a b c : ByteArray) : a ++ b ++ c = a ++ (b ++ c) := ByteArray.append_assoc
/-- A text parted at the byte that its beginning has not. -/
theorem cut_at {a b : ByteArray} {c : UInt8} (h : c ∉ a.data.toList) : (a ++ (⟨#[c]⟩ ++ b)).data.toList.idxOf c = a.size ∧ a.size < (a ++ (⟨#[c]⟩ ++ b)).size ∧ (a ++ (⟨#[c]⟩ ++ b)).extract 0 a.size = a ∧ (a ++ (⟨#[c]⟩ ++ b)).extract (a.size + 1) (a ++ (⟨#[c]⟩ ++ b)).size = b := by
  have hl : (a ++ (⟨#[c]⟩ ++ b)).data.toList = a.data.toList ++ (c :: b.data.toList) := by rw [app_list, app_list]; rfl
  have hs : (a ++ (⟨#[c]⟩ ++ b)).size = a.size + (1 + b.size) := by rw [ByteArray.size_append, ByteArray.size_append]; rfl
  refine ⟨?_, by omega, ?_, ?_⟩
  · rw [hl, List.idxOf_append, if_neg h, List.idxOf_cons_self, list_size, Nat.zero_add]
  · apply ext_of_list
    rw [ext_list, hl, List.drop_zero, ← list_size, List.take_left']
    rfl
  · apply ext_of_list
    rw [ext_list, hl, hs, List.take_of_length_le (by rw [List.length_append, List.length_cons, list_size, list_size]; omega), ← list_size]
    rw [show a.data.toList.length + 1 = (a.data.toList ++ [c]).length by simp, show a.data.toList ++ c :: b.data.toList = (a.data.toList ++ [c]) ++ b.data.toList by simp, List.drop_left]
/-- A parameter as a piece. -/
def pieceB (p : ByteArray × ByteArray) : ByteArray := if p.1.size = 0 then p.2 else p.1 ++ (⟨#[61]⟩ ++ p.2)
theorem withP_eq (acc : ByteArray) (p : ByteArray × ByteArray) : withP acc p = acc ++ (⟨#[59]⟩ ++ pieceB p) := by
  unfold withP pieceB
  split
  · rw [app_assoc]
  · rw [app_assoc, app_assoc, app_assoc]
/-- All pieces, each behind its ; -/
def tailB : List (ByteArray × ByteArray) → ByteArray
  | [] => ⟨#[]⟩
  | p :: r => ⟨#[59]⟩ ++ (pieceB p ++ tailB r)
theorem app_nil (a : ByteArray) : a ++ (⟨#[]⟩ : ByteArray) = a := by apply ext_of_list; rw [app_list]; exact List.append_nil _
theorem fold_tail (ps : List (ByteArray × ByteArray)) : ∀ acc : ByteArray, ps.foldl withP acc = acc ++ tailB ps := by
  induction ps with
  | nil => intro acc; rw [List.foldl_nil, tailB, app_nil]
  | cons p r ih => intro acc; rw [List.foldl_cons, ih, withP_eq, tailB, app_assoc, app_assoc]
theorem lineB_eq (g n : ByteArray) (ps : List (ByteArray × ByteArray)) (v : ByteArray) : lineB g n ps v = (headL g n ++ tailB ps) ++ (⟨#[58]⟩ ++ v) := by unfold lineB; rw [fold_tail, app_assoc]

theorem param_parts {p : ByteArray × ByteArray} (h : paramB p.1 p.2 = true) : (p.1.size = 0 ∨ nameB p.1 = true) ∧ valB p.2 = true := by
  unfold paramB at h
  rw [Bool.and_eq_true, Bool.or_eq_true] at h
  exact ⟨h.1.imp of_decide_eq_true id, h.2⟩
theorem good_all {ps : List (ByteArray × ByteArray)} (h : goodPs ps = true) : ∀ p ∈ ps, paramB p.1 p.2 = true := by
  unfold goodPs at h; rw [List.all_eq_true] at h; exact h
theorem tail_bound (ps : List (ByteArray × ByteArray)) (h : ∀ p ∈ ps, paramB p.1 p.2 = true) : (tailB ps).size ≤ 66 * ps.length := by
  induction ps with
  | nil => exact Nat.zero_le _
  | cons p r ih =>
    have hp := param_parts (h p (by simp))
    have i := ih (fun q hq => h q (List.mem_cons_of_mem _ hq))
    have hv := valB_le hp.2
    have hn : p.1.size ≤ 32 := by
      rcases hp.1 with h0 | h0
      · omega
      · exact nameB_le h0
    have hb : (pieceB p).size ≤ 65 := by
      unfold pieceB
      split
      · omega
      · rw [ByteArray.size_append, ByteArray.size_append]; show _ + (1 + _) ≤ _; omega
    rw [tailB, ByteArray.size_append, ByteArray.size_append, List.length_cons]
    show 1 + _ ≤ _
    omega
theorem line_bound {g n v : ByteArray} {ps : List (ByteArray × ByteArray)} {m : Nat} (h : chk g n ps v m = 0) : (lineB g n ps v).size ≤ 5000 := by
  obtain ⟨h1, h2, h3, -, h5, h6⟩ := chk_ok h
  obtain ⟨g1, g2⟩ := goodNames_le h1
  have ht := tail_bound ps (good_all h3)
  have hh : (headL g n).size ≤ 65 := by
    unfold headL
    split
    · omega
    · rw [ByteArray.size_append, ByteArray.size_append]; show _ + 1 + _ ≤ _; omega
  rw [lineB_eq, ByteArray.size_append, ByteArray.size_append, ByteArray.size_append]
  show _ + (1 + _) ≤ _
  omega
end Go.Proofs.YtpdodknldhbbhaaGreatDoor.Pp
