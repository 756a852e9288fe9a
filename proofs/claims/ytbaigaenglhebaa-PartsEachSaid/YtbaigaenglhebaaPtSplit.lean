/-
The program's Split answers a value's parts, or nothing and the place of what is wrong. Conditions: the text has at most 2^40 bytes.
-/
import Derived.Test.YtbaigaenglhebaaPtTold
import Derived.Test.YtbaigaenglhebaaApp
namespace Go.Proofs.Ytbaigaenglhebaa.Pt
open Go.RowKit Strs Sq
attribute [local go_sem] Oper.semAt_some

/-- Parts, a place and an error's number. -/
def splitL (t : List UInt8) : List (List UInt8) × Nat × Nat := match (parts t).2 with | none => ((parts t).1, 0, 0) | some k => ([], k, 3)
def SplitAns (w : World) (r : List (List UInt8) × Nat × Nat) (e : Ending) (W' : World) : Prop :=
  ∃ v, e = .returned (.tuple #[v, .int .i64 (r.2.1 : Int), .int .i64 (r.2.2 : Int)]) ∧ Strs W' w.heap.size v r.1 ∧ Below w.heap.size w W'

theorem told_right {r : List (List UInt8) × Option Nat} (h : ∀ x ∈ told r, x.2 = -1) : r.2 = none ∧ (told r).map (·.1) = r.1 := by
  obtain ⟨l, f⟩ := r
  cases f with
  | none => refine ⟨rfl, ?_⟩; unfold told; rw [List.append_nil, List.map_map]; exact List.map_id l
  | some k => have := h ([], (k : Int)) (by unfold told; simp); simp at this
theorem told_fault {r : List (List UInt8) × Option Nat} {p : List UInt8} {f : Int} (h : (p, f) ∈ told r) (hf : f ≠ -1) : ∃ k : Nat, r.2 = some k ∧ f = (k : Int) := by
  obtain ⟨l, g⟩ := r
  unfold told at h
  cases g with
  | none =>
    simp only [List.append_nil, List.mem_map, Prod.mk.injEq] at h
    obtain ⟨_, _, _, h⟩ := h
    exact absurd h.symm hf
  | some k =>
    simp only [List.mem_append, List.mem_map, List.mem_singleton, Prod.mk.injEq] at h
    rcases h with ⟨_, _, _, h⟩ | ⟨_, h⟩
    · exact absurd h.symm hf
    · exact ⟨k, rfl, h⟩
theorem splitL_right {t : List UInt8} (h : ∀ x ∈ told (parts t), x.2 = -1) : splitL t = ((told (parts t)).map (·.1), 0, 0) := by
  obtain ⟨h1, h2⟩ := told_right h
  unfold splitL; rw [h1, h2]
theorem splitL_fault {t : List UInt8} {p : List UInt8} {f : Int} (h : (p, f) ∈ told (parts t)) (hf : f ≠ -1) : ∃ k : Nat, splitL t = ([], k, 3) ∧ f = (k : Int) := by
  obtain ⟨k, h1, h2⟩ := told_fault h hf
  exact ⟨k, by unfold splitL; rw [h1], h2⟩

set_option maxRecDepth 100000 in
set_option maxHeartbeats 2000000 in
theorem split_any (s : ByteArray) (hs : s.size ≤ 1099511627776) (w : World) :
    Calls Try.prog 15 #[.string s] w (SplitAns w (splitL s.data.toList)) := by
  obtain ⟨i0, hi, hz0, hz1, hz2⟩ := info_parts infoStr
  have HF := Lib.hid (fun p f h => splitL_fault (t := s.data.toList) (p := p) (f := f) h)
  have HR := Lib.hid (fun h => splitL_right (t := s.data.toList) h)
  obtain ⟨sp, hsp⟩ : ∃ sp, splitL s.data.toList = sp := ⟨_, rfl⟩
  rw [hsp] at HR HF ⊢
  clear hsp
  refine (callsIn_wide (n := 5)).1 ?_
  refine callsIn_of_wp_marks Try.func15 rfl trivial ?_ rfl
  simp only [Try.ntmps15, List.size_toArray, List.length_cons, List.length_nil, Nat.reduceAdd, Nat.reduceSub, Array.replicate_succ, Array.replicate_zero, List.push_toArray, List.append_toArray, List.nil_append, List.cons_append]
  gi_wp2_with (refine ⟨trivial, ?_⟩; gi_at_call 26; refine (callsIn_wide.2 (told_any s _)).mono ?_; rintro e w' ⟨rfl, rfl⟩)
  obtain ⟨V1, hV1⟩ : ∃ V1, w.alloc (.cells #[.slice none 0 0] 33) = V1 := ⟨_, rfl⟩
  obtain ⟨V2, hV2⟩ : ∃ V2, V1.alloc (.cells #[.int .i64 0] 3) = V2 := ⟨_, rfl⟩
  obtain ⟨V3, hV3⟩ : ∃ V3, V2.alloc (.cells #[.int .i64 0] 35) = V3 := ⟨_, rfl⟩
  obtain ⟨V4, hV4⟩ : ∃ V4, V3.alloc (.cells #[.slice none 0 0] 33) = V4 := ⟨_, rfl⟩
  obtain ⟨V0, hV0⟩ : ∃ V0, V4.alloc (.cells #[.string s] 9) = V0 := ⟨_, rfl⟩
  have z1 : V1.heap.size = w.heap.size + 1 := by rw [← hV1]; simp
  have z2 : V2.heap.size = w.heap.size + 2 := by rw [← hV2]; simp; omega
  have z3 : V3.heap.size = w.heap.size + 3 := by rw [← hV3]; simp; omega
  have z4 : V4.heap.size = w.heap.size + 4 := by rw [← hV4]; simp; omega
  have z0 : V0.heap.size = w.heap.size + 5 := by rw [← hV0]; simp; omega
  have b0 : Boxed V0 w.heap.size 33 (.slice none 0 0) := by
    have h := Boxed.new w 33 (.slice none 0 0); rw [hV1] at h
    rw [← hV0, ← hV4, ← hV3, ← hV2]; exact (((h.alloc _).alloc _).alloc _).alloc _
  have b1 : Boxed V0 (w.heap.size + 1) 3 (.int .i64 0) := by
    have h := Boxed.new V1 3 (.int .i64 0); rw [hV2, z1] at h
    rw [← hV0, ← hV4, ← hV3]; exact ((h.alloc _).alloc _).alloc _
  have b2 : Boxed V0 (w.heap.size + 2) 35 (.int .i64 0) := by
    have h := Boxed.new V2 35 (.int .i64 0); rw [hV3, z2] at h
    rw [← hV0, ← hV4]; exact (h.alloc _).alloc _
  have b3 : Boxed V0 (w.heap.size + 3) 33 (.slice none 0 0) := by
    have h := Boxed.new V3 33 (.slice none 0 0); rw [hV4, z3] at h
    rw [← hV0]; exact h.alloc _
  have b4 : Boxed V0 (w.heap.size + 4) 9 (.string s) := by
    have h := Boxed.new V4 9 (.string s); rw [hV0, z4] at h; exact h
  have hV : Below w.heap.size w V0 := by
    rw [← hV0, ← hV4, ← hV3, ← hV2, ← hV1]
    exact (((((Below.refl _ w).alloc (Nat.le_refl _) _).alloc (by simp) _).alloc (by simp; omega) _).alloc (by simp; omega) _).alloc (by simp; omega) _
  have hg : ((((w.alloc (.cells #[.slice none 0 0] 33)).alloc (.cells #[.int .i64 0] 3)).alloc (.cells #[.int .i64 0] 35)).alloc (.cells #[.slice none 0 0] 33)).alloc (.cells #[.string s] 9) = V0 := by rw [hV1, hV2, hV3, hV4, hV0]
  rw [hg]
  clear hg hV1 hV2 hV3 hV4 hV0 z1 z2 z3 z4
  obtain ⟨all, hall⟩ : ∃ all, told (parts s.data.toList) = all := ⟨_, rfl⟩
  have hsq := told_sq s hs (w.heap.size + 4) V0 b4
  rw [hall] at hsq
  have hn : all.length ≤ 1099511627778 := by
    rw [← hall]; have h1 := told_length (parts s.data.toList); have h2 := (sm_length s.data.toList [] 0).1; rw [list_size] at h2; unfold parts at *; omega
  have HN := Lib.hid hn
  rw [hall] at HR
  simp only [hall] at HF
  clear hn hall
  refine range_sq1 (gf := 34) (lb := #[.pointer (some ⟨w.heap.size + 1 + 1 + 1 + 1, 0, none⟩)]) rfl eg_told hsq (Stays.refl _ _) (fun k hk => by omega) (fun _ => rfl)
    (fun pre O V => ((∃ v, Boxed V (w.heap.size + 3) 33 v ∧ V.ownsRow (w.heap.size + 5) 9 1 v pre.length (scells (pre.map (·.1))) ∧ (∀ g, v.ownBlock = some g → ¬ O g) ∧ True) ∧ (∀ x ∈ pre, x.2 = -1)) ∧ Below (w.heap.size + 3) V0 V)
    (fun c pre _ V => ∃ f : Int, (c = .ret ∧ f ≠ -1 ∧ ∃ p, (p, f) ∈ pre) ∧ Boxed V w.heap.size 33 (.slice none 0 0) ∧ Boxed V (w.heap.size + 1) 3 (.int .i64 f) ∧ Boxed V (w.heap.size + 2) 35 (.int .i64 3) ∧ Below w.heap.size w V)
    (Foot.and (Foot.and (Foot.row (H := V0.heap.size) (β := List (List UInt8 × Int)) (w.heap.size + 5) (w.heap.size + 3) 33 9 1 (fun pre => List.length pre) (fun pre => scells (List.map (·.1) pre)) (fun _ _ => True) (by omega)) (Foot.pure (fun (pre : List (List UInt8 × Int)) => ∀ x ∈ pre, x.2 = -1))) (Foot.below (by omega) (by omega)))
    (fun c => Foot.ex fun f => Foot.and (Foot.pure (fun (pre : List (List UInt8 × Int)) => c = .ret ∧ f ≠ -1 ∧ ∃ p, (p, f) ∈ pre)) (Foot.and (Foot.boxed _ _ (fun _ => .slice none 0 0) (by omega)) (Foot.and (Foot.boxed _ _ (fun _ => .int .i64 f) (by omega)) (Foot.and (Foot.boxed _ _ (fun _ => .int .i64 3) (by omega)) (Foot.below (by omega) (Nat.le_refl _))))))
    ⟨⟨⟨_, b3, World.ownsRow_nil _ _ _ _, fun g e => by simp [Value.ownBlock] at e, trivial⟩, fun x hx => by simp at hx⟩, Below.refl _ _⟩ ?round ?done ?stop
  case round =>
    rintro l pre ⟨p, f⟩ O W1 hO hp
    unfold encP
    gi_wp2
    refine ⟨trivial, ?_⟩
    rintro V ⟨⟨⟨v, hv, hrow, hvO, _⟩, hpm⟩, hB⟩ hRW hOl hrec hOW
    obtain ⟨sa, sc, rfl⟩ := Strs.shape hrow
    have hzV := hRW.size
    have c0 : Boxed V w.heap.size 33 (.slice none 0 0) := (hB.block _ (by omega)).trans b0
    have c1 : Boxed V (w.heap.size + 1) 3 (.int .i64 0) := (hB.block _ (by omega)).trans b1
    have c2 : Boxed V (w.heap.size + 2) 35 (.int .i64 0) := (hB.block _ (by omega)).trans b2
    by_cases hf : f = -1
    · subst hf
      have hpl := hp.length_le
      have hA : pre.length + 1 ≤ maxLen := by have := HN.out; unfold maxLen; simp at hpl; omega
      have hA2 : (pre.length + 1) * 16 ≤ 140737488355328 := by have := HN.out; simp at hpl; omega
      have hA3 : w.heap.size + 5 ≤ (V.alloc (.cells #[.string ⟨p.toArray⟩] 9)).heap.size := by simp; omega
      have hc := hv.cell
      clear hpl c0 c1 c2
      gi_wp2_with (gi_at_builtin; refine App.walk_append _ rfl _ _ 33 rfl (w.heap.size + 5) 9 i0 (.string .empty) 1 16 Try.underlying33 hi hz0 hz1 hz2 rfl (by decide) _ pre.length _ rfl (hrow.alloc _) ⟨V.heap.size, 0, none⟩ 1 1 [.string ⟨p.toArray⟩] rfl rfl (cell_one_new _ _ _) (by simp [Value.oneCell']) hA hA2 hA3 (by decide) ?_; intro v' w1 hown' hgrow hwhere; obtain ⟨g', cap', rfl⟩ := ownsRow_succ hown'; obtain ⟨hv1, hv2, hr2, hfresh, hSt⟩ := App.collect hv (by decide) hrow hown' hgrow hwhere; have hc4 := hv1.cell; have hf4 := hv1.frozen)
      have hle := own_lt hrow
      have hr := App.collect_round (R := fun k => k = w.heap.size + 4) (n₀ := w.heap.size + 3) hSt hfresh (fun k hk => by have := hOW k hk; omega) hvO (fun k hk => by subst hk; exact ⟨by omega, by omega, fun e => by have := hle _ e.symm; omega⟩) (Nat.le_refl _) (by omega) (fun g e => by have := hle g e; omega) hB
      exact ⟨hr.1, ⟨⟨_, hv2, by rw [List.map_append, List.length_append]; exact Strs.snoc_row hr2, hr.2.1, trivial⟩, fun x hx => by rcases List.mem_append.1 hx with h | h; exact hpm x h; simp at h; rw [h]⟩, hr.2.2⟩
    · have hfb : (f == -1) = false := by simpa using hf
      have n01 : w.heap.size + 1 ≠ w.heap.size := by omega
      have n02 : w.heap.size + 2 ≠ w.heap.size := by omega
      have n12 : w.heap.size + 2 ≠ w.heap.size + 1 := by omega
      have n10 : w.heap.size ≠ w.heap.size + 1 := by omega
      have n20 : w.heap.size ≠ w.heap.size + 2 := by omega
      have n21 : w.heap.size + 1 ≠ w.heap.size + 2 := by omega
      have d0 := c0.set (.slice none 0 0)
      have d1 := Boxed.other c1 n01 (.slice none 0 0)
      have d2 := Boxed.other c2 n02 (.slice none 0 0)
      have e0 := Boxed.other d0 n10 (.int .i64 f)
      have e1 := d1.set (.int .i64 f)
      have e2 := Boxed.other d2 n12 (.int .i64 f)
      have f0 := Boxed.other e0 n20 (.int .i64 3)
      have f1 := Boxed.other e1 n21 (.int .i64 3)
      have f2 := e2.set (.int .i64 3)
      have x0 := c0.cell
      have x1 := d1.cell
      have x2 := e2.cell
      have y0 := c0.frozen
      have y1 := d1.frozen
      have y2 := e2.frozen
      gi_wp2_with fail
      have hOn : ∀ k, O k → w.heap.size + 5 ≤ k := fun k hk => by have := hO k hk; omega
      refine ⟨(((Stays.refl _ _).setCell _ _ ?_).setCell _ _ ?_).setCell _ _ ?_, f, ⟨rfl, hf, p, by simp⟩, f0, f1, f2, (((hV.trans (hB.mono (by omega))).setCell (p := ⟨w.heap.size, 0, none⟩) (Nat.le_refl _) _).setCell (p := ⟨w.heap.size + 1, 0, none⟩) (by simp) _).setCell (p := ⟨w.heap.size + 2, 0, none⟩) (by simp) _⟩
      all_goals (rintro (h | h); have := hOn _ h; omega; omega)
  case stop =>
    rintro D c pre O V hD hOD hO hRW hpre ⟨f, ⟨rfl, hf, p, hmem⟩, c0, c1, c2, hB⟩ hK
    obtain ⟨k, hk, rfl⟩ := HF.out p f (hpre.subset hmem) hf
    subst hk
    have hDl : D < V.heap.size := (Array.getElem?_eq_some_iff.1 hK).1
    have hp0 := (c0.kept (grownBy_putObj' V D (.deferred Option.none)) (by rintro ⟨⟩; omega)).cell
    have hp1 := (c1.kept (grownBy_putObj' V D (.deferred Option.none)) (by rintro ⟨⟩; omega)).cell
    have hp2 := (c2.kept (grownBy_putObj' V D (.deferred Option.none)) (by rintro ⟨⟩; omega)).cell
    gi_wp2_with fail
    refine ⟨by simp, .inl ⟨_, _, rfl, run_takeDeferred hK, ?_⟩⟩
    refine ⟨.tuple #[.slice none 0 0, .int .i64 (k : Int), .int .i64 3], ?_, _, rfl, Strs.nil _ _, below_put_p hB (by omega) hK _⟩
    simp [results, Try.f15, go_sem, hp0, hp1, hp2]
  case done =>
    rintro D O V hD hOD hO hRW ⟨⟨⟨v, hv, hrow, hvO, _⟩, hpm⟩, hB⟩ hK
    have hsp := HR.out hpm
    subst hsp
    obtain ⟨sa, sc, rfl⟩ := Strs.shape hrow
    have hDl : D < V.heap.size := (Array.getElem?_eq_some_iff.1 hK).1
    have hzV := hRW.size
    have c0 : Boxed V w.heap.size 33 (.slice none 0 0) := (hB.block _ (by omega)).trans b0
    have c1 : Boxed V (w.heap.size + 1) 3 (.int .i64 0) := (hB.block _ (by omega)).trans b1
    have c2 : Boxed V (w.heap.size + 2) 35 (.int .i64 0) := (hB.block _ (by omega)).trans b2
    have n01 : w.heap.size + 1 ≠ w.heap.size := by omega
    have n02 : w.heap.size + 2 ≠ w.heap.size := by omega
    have n12 : w.heap.size + 2 ≠ w.heap.size + 1 := by omega
    have n10 : w.heap.size ≠ w.heap.size + 1 := by omega
    have n20 : w.heap.size ≠ w.heap.size + 2 := by omega
    have n21 : w.heap.size + 1 ≠ w.heap.size + 2 := by omega
    have hR : Strs V (w.heap.size + 5) (.slice sa all.length sc) (all.map (·.1)) := by unfold Strs; rw [List.length_map]; exact hrow
    have hcl := hv.cell
    have d0 := c0.set (.slice sa all.length sc)
    have d1 := Boxed.other c1 n01 (.slice sa all.length sc)
    have d2 := Boxed.other c2 n02 (.slice sa all.length sc)
    have e0 := Boxed.other d0 n10 (.int .i64 0)
    have e1 := d1.set (.int .i64 0)
    have e2 := Boxed.other d2 n12 (.int .i64 0)
    have f0 := Boxed.other e0 n20 (.int .i64 0)
    have f1 := Boxed.other e1 n21 (.int .i64 0)
    have f2 := e2.set (.int .i64 0)
    have hS : Stays (fun k => w.heap.size + 3 ≤ k) V (((V.setCell ⟨w.heap.size, 0, none⟩ (.slice sa all.length sc)).setCell ⟨w.heap.size + 1, 0, none⟩ (.int .i64 0)).setCell ⟨w.heap.size + 2, 0, none⟩ (.int .i64 0)) := (((Stays.refl _ _).setCell _ _ (by omega)).setCell _ _ (by omega)).setCell _ _ (by omega)
    have hK' := (hS.block D (by omega)).trans hK
    have hR2 : Strs _ (w.heap.size + 5) (.slice sa all.length sc) (all.map (·.1)) := hS.row hR (fun g e => by have := own_lt hR g e; omega)
    have hB2 : Below w.heap.size w (((V.setCell ⟨w.heap.size, 0, none⟩ (.slice sa all.length sc)).setCell ⟨w.heap.size + 1, 0, none⟩ (.int .i64 0)).setCell ⟨w.heap.size + 2, 0, none⟩ (.int .i64 0)) := (((hV.trans (hB.mono (by omega))).setCell (p := ⟨w.heap.size, 0, none⟩) (Nat.le_refl _) _).setCell (p := ⟨w.heap.size + 1, 0, none⟩) (by simp) _).setCell (p := ⟨w.heap.size + 2, 0, none⟩) (by simp) _
    have hp0 := (f0.kept (grownBy_putObj' _ D (.deferred Option.none)) (by rintro ⟨⟩; omega)).cell
    have hp1 := (f1.kept (grownBy_putObj' _ D (.deferred Option.none)) (by rintro ⟨⟩; omega)).cell
    have hp2 := (f2.kept (grownBy_putObj' _ D (.deferred Option.none)) (by rintro ⟨⟩; omega)).cell
    have x0 := c0.cell
    have x1 := d1.cell
    have x2 := e2.cell
    have y0 := c0.frozen
    have y1 := d1.frozen
    have y2 := e2.frozen
    have HQ := Lib.hid (And.intro hR2 hB2)
    clear hR2 hB2 hR hrow
    gi_wp2_with fail
    refine ⟨by simp, .inl ⟨_, _, rfl, run_takeDeferred hK', ?_⟩⟩
    refine ⟨.tuple #[.slice sa all.length sc, .int .i64 0, .int .i64 0], ?_, .slice sa all.length sc, rfl, (HQ.out.1.put _ hK' rfl).low (show w.heap.size ≤ w.heap.size + 5 by omega), below_put_p HQ.out.2 (by omega) hK' _⟩
    simp [results, Try.f15, go_sem, hp0, hp1, hp2]
end Go.Proofs.Ytbaigaenglhebaa.Pt
