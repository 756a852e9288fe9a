/-
For every text and every number the law PartsEach returns true and changes nothing that was there. Conditions: the number is an int.
-/
import Derived.Test.YtbaigaenglhebaaPtEach
import Derived.Test.YtbaigaenglhebaaPtRef
import Derived.Test.YtbaigaenglhebaaPtWorks
import Derived.Test.YtbaigaenglhebaaPtSame
import Derived.Deep.RegionHeld3
namespace Go.Proofs.Ytbaigaenglhebaa.Pt
open Go.RowKit Strs Sq
attribute [local go_sem] Oper.semAt_some

theorem reads_take {W : World} {a : Option Addr} {n cap k : Nat} {l : List (List UInt8)} (h : Reads W (.slice a n cap) l) (hk : k ≤ l.length) : Reads W (.slice a k cap) (l.take k) := by
  obtain ⟨a', cap', he, hc, b, o, h1, h2⟩ := h
  cases he
  have hl : (l.take k).length = k := by rw [List.length_take]; omega
  refine ⟨a, cap, by rw [hl], by rw [hl]; omega, b, o, fun hne => h1 (fun e => hne (by rw [e, List.take_nil])), fun i hi => ?_⟩
  rw [hl] at hi
  rw [h2 i (by omega)]
  simp
theorem boxed_keep {V W : World} {b : Nat} {t : TypeId} {v : Value} (h : Boxed V b t v) (hB : Below V.heap.size V W) : Boxed W b t v := (hB.block b h.lt).trans h

/-- Where a row of texts lies. -/
theorem strs_where {W0 : World} {base : Nat} {a : Option Addr} {cap : Nat} {l : List (List UInt8)} (h : Strs W0 base (.slice a l.length cap) l) : (a = none ∧ cap = 0 ∧ l.length = 0) ∨ ∃ g, a = some ⟨g, 0, none⟩ ∧ l.length ≤ cap := by
  obtain ⟨_, ⟨hv, h0⟩ | ⟨g, cap', cur, hv, _, _, h1, _⟩⟩ := h
  · simp only [Value.slice.injEq] at hv
    exact .inl ⟨hv.1, hv.2.2, h0⟩
  · simp only [Value.slice.injEq] at hv
    exact .inr ⟨g, hv.1, by omega⟩

/-- What has been gathered between two parts. -/
def GatI (Z m : Nat) (V0 : World) (pre : List (List UInt8)) (O : Nat → Prop) (V : World) : Prop :=
  ((∃ v, Boxed V Z 33 v ∧ V.ownsRow (Z + 1) 9 1 v pre.length (scells pre) ∧ (∀ g, v.ownBlock = some g → ¬ O g) ∧ True) ∧ pre.length ≤ m) ∧ Below Z V0 V
/-- .. where the loop has been left. -/
def GatX (Z m : Nat) (V0 : World) (c : Code) (pre : List (List UInt8)) (O : Nat → Prop) (V : World) : Prop :=
  ((∃ v, Boxed V Z 33 v ∧ V.ownsRow (Z + 1) 9 1 v m (scells (pre.take m)) ∧ (∀ g, v.ownBlock = some g → ¬ O g) ∧ True) ∧ (c = .exit 0 ∧ pre.length = m + 1)) ∧ Below Z V0 V
theorem gatI_foot {Z m H : Nat} {V0 : World} (h1 : Z < H) (h2 : Z ≤ V0.heap.size) : Foot H (GatI Z m V0) :=
  Foot.and (Foot.and (Foot.row (β := List (List UInt8)) (Z + 1) Z 33 9 1 (fun pre => List.length pre) (fun pre => scells pre) (fun _ _ => True) h1) (Foot.pure (fun (pre : List (List UInt8)) => List.length pre ≤ m))) (Foot.below (by omega) h2)
theorem gatX_foot {Z m H : Nat} {V0 : World} (h1 : Z < H) (h2 : Z ≤ V0.heap.size) (c : Code) : Foot H (GatX Z m V0 c) :=
  Foot.and (Foot.and (Foot.row (β := List (List UInt8)) (Z + 1) Z 33 9 1 (fun _ => m) (fun pre => scells (List.take m pre)) (fun _ _ => True) h1) (Foot.pure (fun (pre : List (List UInt8)) => c = .exit 0 ∧ List.length pre = m + 1))) (Foot.below (by omega) h2)

set_option maxRecDepth 100000 in
set_option maxHeartbeats 4000000 in
theorem each_in (s : ByteArray) (most : Int) (hs : ¬ 3000 < s.size) (w : World) :
    CallsIn Fence.wide 5 Try.prog 5 #[.string s, .int .i64 most] w fun e W' => e = .returned (.bool true) ∧ Below w.heap.size w W' := by
  obtain ⟨i0, hi, hz0, hz1, hz2⟩ := info_parts infoStr
  obtain ⟨u, hu⟩ : ∃ u : Nat, IntKind.u64.wrap most = (u : Int) := ⟨(IntKind.u64.wrap most).toNat, by rw [IntKind.wrap_u64]; omega⟩
  obtain ⟨m, hm⟩ : ∃ m : Nat, m = u % 3002 := ⟨_, rfl⟩
  have hm2 : (u : Int) % 3002 = (m : Int) := by omega
  have hm3 : m ≤ 3001 := by omega
  clear hm
  have CE := Lib.hid (fun W => each_any s W)
  have CS := Lib.hid (fun W => refSome_any s (by omega) W)
  have hnf := fun (W : World) (B : Nat) => Laws.run_eql_func_nil W 41 _ _ _ (.func 28) #[] #[.pointer (some ⟨B, 0, none⟩)] Try.underlying41
  have hLn := (sm_length s.data.toList [] 0).1
  rw [list_size] at hLn
  change (parts s.data.toList).1.length ≤ _ at hLn
  have SQ := Lib.hid (fun B W h => each_sq s (by omega) B W h)
  obtain ⟨L, f, hLf⟩ : ∃ L f, parts s.data.toList = (L, f) := ⟨_, _, rfl⟩
  rw [hLf] at CS SQ hLn
  have hLn : L.length ≤ s.size + 1 := hLn
  have HSZ := Lib.hid hs
  refine callsIn_of_wp_marks Try.func5 rfl trivial ?_ rfl
  simp only [Try.ntmps5, List.size_toArray, List.length_cons, List.length_nil, Nat.reduceAdd, Nat.reduceSub, Array.replicate_succ, Array.replicate_zero, List.push_toArray, List.append_toArray, List.nil_append, List.cons_append]
  have hs3 : ¬ (3000 : Int) < (s.size : Int) := by omega
  clear hs hLf
  gi_wp2_with (refine ⟨trivial, ?_⟩; gi_at_call 20; refine (callsIn_wide.2 (CE.out _)).mono ?_; rintro e w' ⟨rfl, rfl⟩)
  have b3 := (Boxed.new w 3 (.int .i64 most)).alloc (.cells #[.string s] 9)
  have b4 := Boxed.new (w.alloc (.cells #[.int .i64 most] 3)) 9 (.string s)
  simp only [World.size_alloc] at b4
  have hV : Below w.heap.size w ((w.alloc (.cells #[.int .i64 most] 3)).alloc (.cells #[.string s] 9)) := ((Below.refl _ w).alloc (Nat.le_refl _) _).alloc (by simp) _
  have hz : ((w.alloc (.cells #[.int .i64 most] 3)).alloc (.cells #[.string s] 9)).heap.size = w.heap.size + 2 := by simp
  generalize ((w.alloc (.cells #[.int .i64 most] 3)).alloc (.cells #[.string s] 9)) = Wa at *
  refine ⟨trivial, (callsIn_wide.2 (CS.out _)).mono ?_⟩
  rintro e w2 ⟨v2, rfl, hS2, c2⟩
  have hS2 : Strs w2 Wa.heap.size v2 L := hS2
  obtain ⟨aM, cM, rfl, _⟩ := strs_at hS2
  have hz2' : w.heap.size + 2 ≤ w2.heap.size := by have := c2.size; omega
  have d3 : Boxed w2 w.heap.size 3 (.int .i64 most) := (c2.block _ (by omega)).trans b3
  have d4 : Boxed w2 (w.heap.size + 1) 9 (.string s) := (c2.block _ (by omega)).trans b4
  have hB2 : Below w.heap.size w w2 := hV.trans (c2.mono hV.size)
  have HRM0 := hS2.reads
  have hsq0 : Sq Try.prog 28 #[.pointer (some ⟨w.heap.size + 1, 0, none⟩)] encE (fun k => k = w.heap.size + 1) L w2 := SQ.out _ w2 d4
  have hcM := d3.cell
  have hfM := d3.frozen
  have hS2lt := fun g e => own_lt hS2 g e
  have HSH := Lib.hid (strs_where hS2)
  clear b3 b4 hV CE CS SQ c2 hS2
  gi_wp2_with fail
  obtain ⟨W3, hW3⟩ : ∃ W3, w2.setCell ⟨w.heap.size, 0, none⟩ (.int .i64 (m : Int)) = W3 := ⟨_, rfl⟩
  obtain ⟨V0, hV0⟩ : ∃ V0, W3.alloc (.cells #[.slice none 0 0] 33) = V0 := ⟨_, rfl⟩
  have z3 : W3.heap.size = w2.heap.size := by rw [← hW3, World.size_setCell]
  have z0 : V0.heap.size = w2.heap.size + 1 := by rw [← hV0, World.size_alloc, z3]
  have hS3 : Stays (fun k => k < w2.heap.size ∧ k ≠ w.heap.size) w2 V0 := by
    rw [← hV0, ← hW3]
    exact ((Stays.refl _ w2).setCell _ _ (fun h => h.2 rfl)).alloc _ (fun k hk => by have := hk.1; rw [World.size_setCell]; omega)
  have f3 : Boxed V0 w.heap.size 3 (.int .i64 (m : Int)) := by have h := d3.set (.int .i64 (m : Int)); rw [hW3] at h; rw [← hV0]; exact h.alloc _
  have f8 : Boxed V0 w2.heap.size 33 (.slice none 0 0) := by have h := Boxed.new W3 33 (.slice none 0 0); rw [hV0, z3] at h; exact h
  have hB0 : Below w.heap.size w V0 := hB2.trans (hS3.below fun k hk => by omega)
  have HRM : Hid (Reads V0 (.slice aM L.length cM) L) := Lib.hid (HRM0.stays hS3 (fun g e => by have := hS2lt g e; omega))
  have hg : (w2.setCell ⟨w.heap.size, 0, none⟩ (.int .i64 (m : Int))).alloc (.cells #[.slice none 0 0] 33) = V0 := by rw [hW3, hV0]
  rw [hg]
  have HE3 := Lib.hid f3
  have HB0 := Lib.hid hB0
  have HAM := Lib.hid (fun g (e : (Value.slice aM L.length cM).ownBlock = some g) => (hS2lt g e).2)
  clear hg hW3 hV0 z3 hB2 d3 d4 HRM0 hcM hfM hS2lt hu hm2 hnf f3 hB0
  have hsR : Stays (fun k => k = w.heap.size + 1) w2 V0 := hS3.mono fun k hk => by omega
  clear hS3
  refine range_sq1 (gf := 28) (lb := #[.pointer (some ⟨w.heap.size + 1, 0, none⟩)]) rfl eg_each hsq0 hsR (fun k hk => by omega) (fun _ => rfl)
    (GatI w2.heap.size m V0) (GatX w2.heap.size m V0) (gatI_foot (by omega) (by omega)) (gatX_foot (by omega) (by omega))
    ⟨⟨⟨_, f8, World.ownsRow_nil _ _ _ _, fun g e => by simp [Value.ownBlock] at e, trivial⟩, Nat.zero_le _⟩, Below.refl _ _⟩ ?round ?done ?stop
  case round =>
    rintro l pre x O W1 hO hp
    unfold encE
    gi_wp2
    refine ⟨trivial, ?_⟩
    rintro V ⟨⟨⟨v, hv, hrow, hvO, _⟩, hpm⟩, hB⟩ hRW hOl hrec hOW
    obtain ⟨sa, sc, rfl⟩ := Strs.shape hrow
    have hzV := hRW.size
    have hpl := hp.length_le
    simp only [List.length_append, List.length_singleton] at hpl
    have bm : Boxed V w.heap.size 3 (.int .i64 (m : Int)) := (hB.block _ (by omega)).trans HE3.out
    have hcm := bm.cell
    have hc := hv.cell
    by_cases hb : pre.length = m
    · have hbb : ((pre.length : Int) == (m : Int)) = true := by simp; omega
      clear HSZ
      gi_wp2_with fail
      exact ⟨Stays.refl _ _, ⟨⟨_, hv, by rw [List.take_append_of_le_length (by omega), List.take_of_length_le (by omega), ← hb]; exact hrow, hvO, trivial⟩, rfl, by rw [List.length_append, hb]; rfl⟩, hB⟩
    · have hbb : ((pre.length : Int) == (m : Int)) = false := by simp; omega
      have hA : pre.length + 1 ≤ maxLen := by have := HSZ.out; unfold maxLen; omega
      have hA2 : (pre.length + 1) * 16 ≤ 140737488355328 := by have := HSZ.out; omega
      have hA3 : w2.heap.size + 1 ≤ (V.alloc (.cells #[.string ⟨x.toArray⟩] 9)).heap.size := by simp; omega
      clear hpl
      gi_wp2_with (gi_at_builtin; refine App.walk_append _ rfl _ _ 33 rfl (w2.heap.size + 1) 9 i0 (.string .empty) 1 16 Try.underlying33 hi hz0 hz1 hz2 rfl (by decide) _ pre.length _ rfl (hrow.alloc _) ⟨V.heap.size, 0, none⟩ 1 1 [.string ⟨x.toArray⟩] rfl rfl (cell_one_new _ _ _) (by simp [Value.oneCell']) hA hA2 hA3 (by decide) ?_; intro v' w1 hown' hgrow hwhere; obtain ⟨g', cap', rfl⟩ := ownsRow_succ hown'; obtain ⟨hv1, hv2, hr2, hfresh, hSt⟩ := App.collect hv (by decide) hrow hown' hgrow hwhere; have hc4 := hv1.cell; have hf4 := hv1.frozen)
      have hle := own_lt hrow
      have hr := App.collect_round (R := fun k => k = w.heap.size + 1) (n₀ := w2.heap.size) hSt hfresh (fun k hk => by have := hOW k hk; omega) hvO (fun k hk => by subst hk; exact ⟨by omega, by omega, fun e => by have := hle _ e.symm; omega⟩) (Nat.le_refl _) (by omega) (fun g e => by have := hle g e; omega) hB
      exact ⟨hr.1, ⟨⟨_, hv2, by rw [List.length_append]; exact Strs.snoc_row hr2, hr.2.1, trivial⟩, by simp; omega⟩, hr.2.2⟩
  case stop =>
    rintro D c pre O V hD hOD hO hRW hpre ⟨⟨⟨v, hv, hrow, hvO, _⟩, rfl, hpm⟩, hB⟩ hK
    have hpl := hpre.length_le
    have hzV := hRW.size
    have hlm : ¬ L.length < m := by omega
    have htk : pre.take m = L.take m := by obtain ⟨r, rfl⟩ := hpre; rw [List.take_append_of_le_length (by omega)]
    rw [htk] at hrow
    have hkl : (L.take m).length = m := by rw [List.length_take]; omega
    clear htk hpre
    rcases HSH.out with ⟨rfl, rfl, hL0⟩ | ⟨gM, rfl, hcap⟩
    · omega
    have hcp : (m : Int) ≤ (cM : Int) := by omega
    clear hpm hcap
    obtain ⟨sa, sc, rfl⟩ := Strs.shape hrow
    have hDl : D < V.heap.size := (Array.getElem?_eq_some_iff.1 hK).1
    have bm : Boxed V w.heap.size 3 (.int .i64 (m : Int)) := (hB.block _ (by omega)).trans HE3.out
    have hRl : Reads V (.slice sa m sc) (L.take m) := (show Strs V (w2.heap.size + 1) (.slice sa m sc) (L.take m) from by unfold Strs; rw [hkl]; exact hrow).reads
    have hRm : Reads V (.slice (some ⟨gM, 0, none⟩) m cM) (L.take m) := reads_take (HRM.out.stays (Stays.of_below (O := fun k => k < w2.heap.size) hB (fun _ h => h)) HAM.out) (by omega)
    have CM := Lib.hid (fun (W : World) (b : Below V.heap.size V W) => same_any _ _ (L.take m) (by rw [hkl]; unfold maxLen; omega) W (hRl.keep (Nat.le_refl _) b) (hRm.keep (Nat.le_refl _) b))
    have CW := Lib.hid (fun W => works_any W)
    have HBV := Lib.hid (HB0.out.trans (hB.mono (by omega)))
    have x1 := hv.cell
    have x2 := bm.cell
    have hDr := (Below.refl V.heap.size V).drew
    have y1 := (boxed_keep hv hDr).cell
    have y2 := (boxed_keep bm hDr).cell
    clear hRl hRm hrow hkl
    gi_wp2_with fail
    refine wpIn_wide.2 ?_
    go_region_held3 (fun W => W.cell? ⟨w2.heap.size, 0, none⟩ = some (.slice sa m sc) ∧ W.cell? ⟨w.heap.size, 0, none⟩ = some (.int .i64 (m : Int))) (first | exact ⟨z1, z2⟩ | exact ⟨y1, y2⟩) (first | (go_at_call 17; refine (CM.out _ hDr).mono ?_; rintro e V5 ⟨rfl, b5⟩; have h5 := hDr.trans b5; have z1 := (boxed_keep hv h5).cell; have z2 := (boxed_keep bm h5).cell) | (go_at_call 22; refine (CW.out _).mono ?_; rintro e V6 ⟨rfl, b6⟩; have h6 := h5.trans (b6.mono h5.size); have z1 := (boxed_keep hv h6).cell; have z2 := (boxed_keep bm h6).cell))
    all_goals
      gi_wp2
      have e1 : V6.heap[D]? = some (.deferred (some [])) := (h6.block D hDl).trans hK
      refine ⟨by simp, .inl ⟨_, _, rfl, run_takeDeferred e1, ?_⟩⟩
      exact ⟨_, results_tmp rfl _ _ _, rfl, below_put_p (HBV.out.trans (h6.mono HBV.out.size)) (by omega) e1 _⟩
  case done =>
    rintro D O V hD hOD hO hRW ⟨⟨⟨v, hv, hrow, hvO, _⟩, hLm⟩, hB⟩ hK
    have hzV := hRW.size
    rcases HSH.out with ⟨rfl, rfl, hL0⟩ | ⟨gM, rfl, hcap⟩
    · obtain rfl : L = [] := List.eq_nil_of_length_eq_zero hL0
      have hrow : V.ownsRow (w2.heap.size + 1) 9 1 v 0 (scells []) := hrow
      have hkl : ([] : List (List UInt8)).length = 0 := rfl
      clear hL0 hLm
      rcases Nat.eq_zero_or_pos m with rfl | hlm
      · skip
        obtain ⟨sa, sc, rfl⟩ := Strs.shape hrow
        have hDl : D < V.heap.size := (Array.getElem?_eq_some_iff.1 hK).1
        have bm : Boxed V w.heap.size 3 (.int .i64 (0 : Int)) := (hB.block _ (by omega)).trans HE3.out
        have hRl : Reads V (.slice sa 0 sc) ([]) := (show Strs V (w2.heap.size + 1) (.slice sa 0 sc) ([]) from by unfold Strs; rw [hkl]; exact hrow).reads
        have hRm : Reads V (.slice none 0 0) ([]) := reads_take (HRM.out.stays (Stays.of_below (O := fun k => k < w2.heap.size) hB (fun _ h => h)) HAM.out) (by omega)
        have CM := Lib.hid (fun (W : World) (b : Below V.heap.size V W) => same_any _ _ ([]) (by rw [hkl]; unfold maxLen; omega) W (hRl.keep (Nat.le_refl _) b) (hRm.keep (Nat.le_refl _) b))
        have CW := Lib.hid (fun W => works_any W)
        have HBV := Lib.hid (HB0.out.trans (hB.mono (by omega)))
        have x1 := hv.cell
        have x2 := bm.cell
        have hDr := (Below.refl V.heap.size V).drew
        have y1 := (boxed_keep hv hDr).cell
        have y2 := (boxed_keep bm hDr).cell
        clear hRl hRm hrow hkl
        gi_wp2_with fail
        refine wpIn_wide.2 ?_
        go_region_held3 (fun W => W.cell? ⟨w2.heap.size, 0, none⟩ = some (.slice sa 0 sc) ∧ W.cell? ⟨w.heap.size, 0, none⟩ = some (.int .i64 (0 : Int))) (first | exact ⟨z1, z2⟩ | exact ⟨y1, y2⟩) (first | (go_at_call 17; refine (CM.out _ hDr).mono ?_; rintro e V5 ⟨rfl, b5⟩; have h5 := hDr.trans b5; have z1 := (boxed_keep hv h5).cell; have z2 := (boxed_keep bm h5).cell) | (go_at_call 22; refine (CW.out _).mono ?_; rintro e V6 ⟨rfl, b6⟩; have h6 := h5.trans (b6.mono h5.size); have z1 := (boxed_keep hv h6).cell; have z2 := (boxed_keep bm h6).cell))
        all_goals
          gi_wp2
          have e1 : V6.heap[D]? = some (.deferred (some [])) := (h6.block D hDl).trans hK
          refine ⟨by simp, .inl ⟨_, _, rfl, run_takeDeferred e1, ?_⟩⟩
          exact ⟨_, results_tmp rfl _ _ _, rfl, below_put_p (HBV.out.trans (h6.mono HBV.out.size)) (by omega) e1 _⟩
      · skip
        obtain ⟨sa, sc, rfl⟩ := Strs.shape hrow
        have hDl : D < V.heap.size := (Array.getElem?_eq_some_iff.1 hK).1
        have bm : Boxed V w.heap.size 3 (.int .i64 (m : Int)) := (hB.block _ (by omega)).trans HE3.out
        have hRl : Reads V (.slice sa 0 sc) ([]) := (show Strs V (w2.heap.size + 1) (.slice sa 0 sc) ([]) from by unfold Strs; rw [hkl]; exact hrow).reads
        have hRm : Reads V (.slice none 0 0) ([]) := reads_take (HRM.out.stays (Stays.of_below (O := fun k => k < w2.heap.size) hB (fun _ h => h)) HAM.out) (by omega)
        have CM := Lib.hid (fun (W : World) (b : Below V.heap.size V W) => same_any _ _ ([]) (by rw [hkl]; unfold maxLen; omega) W (hRl.keep (Nat.le_refl _) b) (hRm.keep (Nat.le_refl _) b))
        have CW := Lib.hid (fun W => works_any W)
        have HBV := Lib.hid (HB0.out.trans (hB.mono (by omega)))
        have x1 := hv.cell
        have x2 := bm.cell
        have hDr := (Below.refl V.heap.size V).drew
        have y1 := (boxed_keep hv hDr).cell
        have y2 := (boxed_keep bm hDr).cell
        clear hRl hRm hrow hkl
        gi_wp2_with fail
        refine wpIn_wide.2 ?_
        go_region_held3 (fun W => W.cell? ⟨w2.heap.size, 0, none⟩ = some (.slice sa 0 sc) ∧ W.cell? ⟨w.heap.size, 0, none⟩ = some (.int .i64 (m : Int))) (first | exact ⟨z1, z2⟩ | exact ⟨y1, y2⟩) (first | (go_at_call 17; refine (CM.out _ hDr).mono ?_; rintro e V5 ⟨rfl, b5⟩; have h5 := hDr.trans b5; have z1 := (boxed_keep hv h5).cell; have z2 := (boxed_keep bm h5).cell) | (go_at_call 22; refine (CW.out _).mono ?_; rintro e V6 ⟨rfl, b6⟩; have h6 := h5.trans (b6.mono h5.size); have z1 := (boxed_keep hv h6).cell; have z2 := (boxed_keep bm h6).cell))
        all_goals
          gi_wp2
          have e1 : V6.heap[D]? = some (.deferred (some [])) := (h6.block D hDl).trans hK
          refine ⟨by simp, .inl ⟨_, _, rfl, run_takeDeferred e1, ?_⟩⟩
          exact ⟨_, results_tmp rfl _ _ _, rfl, below_put_p (HBV.out.trans (h6.mono HBV.out.size)) (by omega) e1 _⟩
    · have hcp : (L.length : Int) ≤ (cM : Int) := by omega
      have hkl : (L.take L.length).length = L.length := by rw [List.take_length]
      have hrow : V.ownsRow (w2.heap.size + 1) 9 1 v L.length (scells (L.take L.length)) := by rw [List.take_length]; exact hrow
      clear hcap
      rcases Nat.lt_or_eq_of_le hLm with hlm | hlm
      · clear hLm
        obtain ⟨sa, sc, rfl⟩ := Strs.shape hrow
        have hDl : D < V.heap.size := (Array.getElem?_eq_some_iff.1 hK).1
        have bm : Boxed V w.heap.size 3 (.int .i64 (m : Int)) := (hB.block _ (by omega)).trans HE3.out
        have hRl : Reads V (.slice sa L.length sc) (L.take L.length) := (show Strs V (w2.heap.size + 1) (.slice sa L.length sc) (L.take L.length) from by unfold Strs; rw [hkl]; exact hrow).reads
        have hRm : Reads V (.slice (some ⟨gM, 0, none⟩) L.length cM) (L.take L.length) := reads_take (HRM.out.stays (Stays.of_below (O := fun k => k < w2.heap.size) hB (fun _ h => h)) HAM.out) (by omega)
        have CM := Lib.hid (fun (W : World) (b : Below V.heap.size V W) => same_any _ _ (L.take L.length) (by rw [hkl]; unfold maxLen; omega) W (hRl.keep (Nat.le_refl _) b) (hRm.keep (Nat.le_refl _) b))
        have CW := Lib.hid (fun W => works_any W)
        have HBV := Lib.hid (HB0.out.trans (hB.mono (by omega)))
        have x1 := hv.cell
        have x2 := bm.cell
        have hDr := (Below.refl V.heap.size V).drew
        have y1 := (boxed_keep hv hDr).cell
        have y2 := (boxed_keep bm hDr).cell
        clear hRl hRm hrow hkl
        gi_wp2_with fail
        refine wpIn_wide.2 ?_
        go_region_held3 (fun W => W.cell? ⟨w2.heap.size, 0, none⟩ = some (.slice sa L.length sc) ∧ W.cell? ⟨w.heap.size, 0, none⟩ = some (.int .i64 (m : Int))) (first | exact ⟨z1, z2⟩ | exact ⟨y1, y2⟩) (first | (go_at_call 17; refine (CM.out _ hDr).mono ?_; rintro e V5 ⟨rfl, b5⟩; have h5 := hDr.trans b5; have z1 := (boxed_keep hv h5).cell; have z2 := (boxed_keep bm h5).cell) | (go_at_call 22; refine (CW.out _).mono ?_; rintro e V6 ⟨rfl, b6⟩; have h6 := h5.trans (b6.mono h5.size); have z1 := (boxed_keep hv h6).cell; have z2 := (boxed_keep bm h6).cell))
        all_goals
          gi_wp2
          have e1 : V6.heap[D]? = some (.deferred (some [])) := (h6.block D hDl).trans hK
          refine ⟨by simp, .inl ⟨_, _, rfl, run_takeDeferred e1, ?_⟩⟩
          exact ⟨_, results_tmp rfl _ _ _, rfl, below_put_p (HBV.out.trans (h6.mono HBV.out.size)) (by omega) e1 _⟩
      · subst hlm
        clear hLm
        obtain ⟨sa, sc, rfl⟩ := Strs.shape hrow
        have hDl : D < V.heap.size := (Array.getElem?_eq_some_iff.1 hK).1
        have bm : Boxed V w.heap.size 3 (.int .i64 (L.length : Int)) := (hB.block _ (by omega)).trans HE3.out
        have hRl : Reads V (.slice sa L.length sc) (L.take L.length) := (show Strs V (w2.heap.size + 1) (.slice sa L.length sc) (L.take L.length) from by unfold Strs; rw [hkl]; exact hrow).reads
        have hRm : Reads V (.slice (some ⟨gM, 0, none⟩) L.length cM) (L.take L.length) := reads_take (HRM.out.stays (Stays.of_below (O := fun k => k < w2.heap.size) hB (fun _ h => h)) HAM.out) (by omega)
        have CM := Lib.hid (fun (W : World) (b : Below V.heap.size V W) => same_any _ _ (L.take L.length) (by rw [hkl]; unfold maxLen; omega) W (hRl.keep (Nat.le_refl _) b) (hRm.keep (Nat.le_refl _) b))
        have CW := Lib.hid (fun W => works_any W)
        have HBV := Lib.hid (HB0.out.trans (hB.mono (by omega)))
        have x1 := hv.cell
        have x2 := bm.cell
        have hDr := (Below.refl V.heap.size V).drew
        have y1 := (boxed_keep hv hDr).cell
        have y2 := (boxed_keep bm hDr).cell
        clear hRl hRm hrow hkl
        gi_wp2_with fail
        refine wpIn_wide.2 ?_
        go_region_held3 (fun W => W.cell? ⟨w2.heap.size, 0, none⟩ = some (.slice sa L.length sc) ∧ W.cell? ⟨w.heap.size, 0, none⟩ = some (.int .i64 (L.length : Int))) (first | exact ⟨z1, z2⟩ | exact ⟨y1, y2⟩) (first | (go_at_call 17; refine (CM.out _ hDr).mono ?_; rintro e V5 ⟨rfl, b5⟩; have h5 := hDr.trans b5; have z1 := (boxed_keep hv h5).cell; have z2 := (boxed_keep bm h5).cell) | (go_at_call 22; refine (CW.out _).mono ?_; rintro e V6 ⟨rfl, b6⟩; have h6 := h5.trans (b6.mono h5.size); have z1 := (boxed_keep hv h6).cell; have z2 := (boxed_keep bm h6).cell))
        all_goals
          gi_wp2
          have e1 : V6.heap[D]? = some (.deferred (some [])) := (h6.block D hDl).trans hK
          refine ⟨by simp, .inl ⟨_, _, rfl, run_takeDeferred e1, ?_⟩⟩
          exact ⟨_, results_tmp rfl _ _ _, rfl, below_put_p (HBV.out.trans (h6.mono HBV.out.size)) (by omega) e1 _⟩

theorem each_law (s : ByteArray) (most : Int) (w : World) :
    Calls Try.prog 5 #[.string s, .int .i64 most] w fun e W' => e = .returned (.bool true) ∧ Below w.heap.size w W' := by
  by_cases hs : 3000 < s.size
  · have hs' : (3000 : Int) < (s.size : Int) := by omega
    go_enter Try.func5, Try.ntmps5
    go_wp2_with fail
    go_ret
    exact ⟨rfl, (Below.refl _ w).alloc (Nat.le_refl _) _⟩
  · exact callsIn_wide.1 (each_in s most hs w)
end Go.Proofs.Ytbaigaenglhebaa.Pt
