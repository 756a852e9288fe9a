/-
Check and Weight of an element: the program's answers, and the document's. Conditions: the element lies below the caller's blocks and is not too much for the law; the two tables of UTF-8 hold what the rows list.
-/
import Derived.Test.YtpgjalikgmagiaaDoorTrWeigh
import Derived.Test.YtpgjalikgmagiaaDoorTrDeep
import Derived.Test.YtpgjalikgmagiaaDoorTrRefChk
namespace Go.Proofs.YtpgjalikgmagiaaDoor.Tr
set_option maxRecDepth 100000
open Go.RowKit Sq
attribute [local go_sem] Oper.semAt_some

theorem small_cnt {e : El} (h : Small e) : cnt e ≤ 3000 ∧ weight e = cnt e := by
  have h1 := h.n 50 1
  unfold weight cnt
  rw [show (5000 : Nat) = 50 + 4950 from rfl, pre_ht 50 4950 1 e h.ht]
  omega
theorem pWeight_any (x : Iv) (w : World) (hx : Ok w w.heap.size x) (hs : Small x.1) :
    Calls Tryd.prog 8 #[elV x] w fun e w' => e = .returned (.int .i64 (weight x.1 : Int)) ∧ Below w.heap.size w w' := by
  obtain ⟨a, c, hkv⟩ := hx.len
  obtain ⟨U1, hU1⟩ : ∃ U1, w.alloc (.cells #[.int .i64 x.1.page, .string x.1.name, .string x.1.text, .bool x.1.bare, x.2] 24) = U1 := ⟨_, rfl⟩
  obtain ⟨U2, hU2⟩ : ∃ U2, U1.alloc (.cells #[.int .i64 x.1.page, .string x.1.name, .string x.1.text, .bool x.1.bare, x.2] 24) = U2 := ⟨_, rfl⟩
  have z1 : U1.heap.size = w.heap.size + 1 := by rw [← hU1, World.size_alloc]
  have z2 : U2.heap.size = w.heap.size + 2 := by rw [← hU2, World.size_alloc, z1]
  have b1 : ElAt U1 w.heap.size x.1 x.2 := by rw [← hU1]; exact heap_alloc_new w _
  have b2 : ElAt U2 (w.heap.size + 1) x.1 x.2 := by have h := heap_alloc_new U1 (.cells #[.int .i64 x.1.page, .string x.1.name, .string x.1.text, .bool x.1.bare, x.2] 24); rw [hU2, z1] at h; exact h
  have hB : Below w.heap.size w U2 := by rw [← hU2, ← hU1]; exact ((Below.refl _ w).alloc (Nat.le_refl _) _).alloc (by simp) _
  have hx2 : Ok U2 U2.heap.size x := (hx.stays hB).up hB.size
  have hl : Lst U2 U2.heap.size (.slice (some ⟨w.heap.size + 1, 0, none⟩) 1 1) [x] := ⟨_, 1, rfl, by show 1 ≤ maxLen; decide, fun j hj => by
    obtain rfl : j = 0 := by simpa using hj
    exact ⟨w.heap.size + 1, 0, rfl, by omega, b2.c0, b2.c1, b2.c2, b2.c3, b2.c4, hx2⟩⟩
  obtain ⟨h1, h2⟩ := small_cnt hs
  have hc : sumc [x] = weight x.1 := by rw [h2]; simp [sumc]
  have C := Lib.hid (weigh_any [x] _ 5000 U2 hl (fun y hy => by rw [List.mem_singleton] at hy; rw [hy]; exact hs.ht) (by rw [hc, h2]; exact h1) (by decide) (by decide))
  rw [hc] at C
  have q0 := b1.c0
  have q1 := b1.c1
  have q2 := b1.c2
  have q3 := b1.c3
  have q4 := b1.c4
  have HB := Lib.hid hB
  unfold elV
  rw [hkv] at q4 hU1 hU2 ⊢
  clear hl hx2 hB b1 b2 z1 z2 hx hs hkv h1 h2 hc
  subst hU1 hU2
  go_enter Tryd.func8, Tryd.ntmps8
  go_wp2_with (go_at_call 21; refine C.out.mono ?_; rintro e w1 ⟨rfl, b1⟩)
  go_ret
  exact ⟨rfl, HB.out.trans (b1.mono HB.out.size)⟩

/-- None of them has a flaw. -/
def Fine (l : List (Nat × Iv)) : Prop := ∀ y ∈ l, flaw y.2.1 = 0
theorem Fine.snoc {l : List (Nat × Iv)} {x : Nat × Iv} (h : Fine l) (hx : flaw x.2.1 = 0) : Fine (l ++ [x]) := fun y hy => by
  rcases List.mem_append.1 hy with h1 | h1
  · exact h y h1
  · rw [List.mem_singleton] at h1; subst h1; exact hx
theorem Fine.end_ {l : List (Nat × Iv)} (h : Fine l) : flaws flaw (bareL l) = 0 := flaws_none.2 fun x hx => by
  obtain ⟨y, hy, rfl⟩ := List.mem_map.1 hx; exact h y hy
/-- The last of them is the first that has one. -/
def Flawed (l : List (Nat × Iv)) (f : Int) : Prop := f ≠ 0 ∧ ∃ em y, l = em ++ [y] ∧ Fine em ∧ flaw y.2.1 = f
theorem flaws_append {f : El → Int} : ∀ {l r : List (Nat × El)}, (∀ x ∈ l, f x.2 = 0) → flaws f (l ++ r) = flaws f r
  | [], _, _ => rfl
  | x :: l, r, h => by
    rw [List.cons_append, flaws, if_neg (fun h0 => h0 (h x (List.mem_cons_self ..)))]
    exact flaws_append fun y hy => h y (List.mem_cons_of_mem _ hy)
theorem Flawed.of {l all : List (Nat × Iv)} {f : Int} (h : Flawed l f) (hp : l <+: all) : flaws flaw (bareL all) = f := by
  obtain ⟨h0, em, y, rfl, hf, hy⟩ := h
  obtain ⟨r, rfl⟩ := hp
  unfold bareL
  rw [List.map_append, List.map_append, List.append_assoc, flaws_append (fun x hx => by obtain ⟨z, hz, rfl⟩ := List.mem_map.1 hx; exact hf z hz)]
  show (if flaw y.2.1 ≠ 0 then flaw y.2.1 else _) = f
  rw [if_pos (by rw [hy]; exact h0), hy]

theorem ElAt.bl {w w' : World} {b : Nat} {e : El} {kv : Value} (hb : w'.heap[b]? = w.heap[b]?) (h : ElAt w b e kv) : ElAt w' b e kv := hb.trans h
set_option maxHeartbeats 4000000 in
theorem pCheck_walk (x : Iv) (w : World) (hx : Ok w w.heap.size x) (T : Cs.Tabs w) (D : Bool) (wt : Nat) (xs : List (Nat × Iv)) (hf : ∀ y ∈ xs, y.2.1.text.size ≤ 68719476736)
    (hD : ∀ w1, Below w.heap.size w w1 → Calls Tryd.prog 16 #[elV x] w1 fun e w' => e = .returned (.bool D) ∧ Below w1.heap.size w1 w')
    (hW : ∀ w1, Below w.heap.size w w1 → Calls Tryd.prog 8 #[elV x] w1 fun e w' => e = .returned (.int .i64 (wt : Int)) ∧ Below w1.heap.size w1 w') (hwt : wt ≤ 5000)
    (hxs : preV w 12 1 x = xs) :
    Calls Tryd.prog 6 #[elV x] w fun e w' => e = .returned (.int .i64 (if D = true then 9 else if 2000 < wt then 4 else flaws flaw (bareL xs))) ∧ Below w.heap.size w w' := by
  obtain ⟨a, c, hkv⟩ := hx.len
  obtain ⟨U1, hU1⟩ : ∃ U1, w.alloc (.cells #[.int .i64 x.1.page, .string x.1.name, .string x.1.text, .bool x.1.bare, x.2] 24) = U1 := ⟨_, rfl⟩
  obtain ⟨U2, hU2⟩ : ∃ U2, U1.alloc (.cells #[.int .i64 0] 26) = U2 := ⟨_, rfl⟩
  have z1 : U1.heap.size = w.heap.size + 1 := by rw [← hU1, World.size_alloc]
  have z2 : U2.heap.size = w.heap.size + 2 := by rw [← hU2, World.size_alloc, z1]
  have b1 : ElAt U2 w.heap.size x.1 x.2 := by
    have h : ElAt U1 w.heap.size x.1 x.2 := by rw [← hU1]; exact heap_alloc_new w _
    rw [← hU2]
    exact (((Below.refl (w.heap.size + 1) U1).alloc (by omega) _).block _ (by omega)).trans h
  have b2 : Boxed U2 (w.heap.size + 1) 26 (.int .i64 0) := by
    have h := Boxed.new U1 26 (.int .i64 0); rw [hU2, z1] at h; exact h
  have hB2 : Below w.heap.size w U2 := by rw [← hU2, ← hU1]; exact ((Below.refl _ w).alloc (Nat.le_refl _) _).alloc (by simp) _
  have q0 := b1.c0
  have q1 := b1.c1
  have q2 := b1.c2
  have q3 := b1.c3
  have q4 := b1.c4
  rw [hkv] at q4
  have CD := Lib.hid (hD U2 hB2)
  unfold elV at CD hW ⊢
  rw [hkv] at CD hU1 ⊢
  obtain ⟨R, hR⟩ : ∃ R, (if D = true then (9 : Int) else if 2000 < wt then 4 else flaws flaw (bareL xs)) = R := ⟨_, rfl⟩
  rw [hR]
  have HR := Lib.hid hR
  have HB := Lib.hid (And.intro hB2 (And.intro b1 (And.intro b2 (And.intro z2 (And.intro hx (And.intro T (And.intro hf hxs)))))))
  have HW := Lib.hid hW
  have HKV := Lib.hid hkv
  clear hx T hf hD hW hkv hB2 b1 b2 z1 z2 hR hxs
  subst hU1 hU2
  cases D with
  | true =>
    have HE := Lib.hid (show R = 9 by rw [← HR.out]; rfl)
    refine (callsIn_wide (n := 5)).1 ?_
    refine callsIn_of_wp_marks Tryd.func6 rfl trivial ?_ rfl
    simp only [Tryd.ntmps6, List.size_toArray, List.length_cons, List.length_nil, Nat.reduceAdd, Nat.reduceSub, Array.replicate_succ, Array.replicate_zero, List.push_toArray, List.append_toArray, List.nil_append, List.cons_append]
    gi_wp2_with (refine ⟨trivial, ?_⟩; gi_at_call 16; refine (callsIn_wide.2 CD.out).mono ?_; rintro e U3 ⟨rfl, bU3⟩; obtain ⟨hB2, b1, b2, z2, -⟩ := HB.out; have b13 := ElAt.bl (bU3.block _ (by omega)) b1; have b23 := (bU3.block _ (by omega)).trans b2; have b23 : Boxed U3 (w.heap.size + 1) 26 (.int .i64 0) := b23; have hB3 := hB2.trans (bU3.mono hB2.size); have x2 := b23.cell; have y2 := b23.frozen)
    have hc5 := (b23.set (.int .i64 9)).cell
    refine ⟨.int .i64 9, ?_, by rw [HE.out], hB3.setCell (p := ⟨w.heap.size + 1, 0, none⟩) (by simp) _⟩
    simp [results, Tryd.f6, go_sem, hc5]
  | false =>
  by_cases hw2 : (2000 : Int) < (wt : Int)
  · have HE := Lib.hid (show R = 4 by rw [← HR.out, if_neg (by simp), if_pos (by omega)])
    refine (callsIn_wide (n := 5)).1 ?_
    refine callsIn_of_wp_marks Tryd.func6 rfl trivial ?_ rfl
    simp only [Tryd.ntmps6, List.size_toArray, List.length_cons, List.length_nil, Nat.reduceAdd, Nat.reduceSub, Array.replicate_succ, Array.replicate_zero, List.push_toArray, List.append_toArray, List.nil_append, List.cons_append]
    gi_wp2_with (first | (refine ⟨trivial, ?_⟩; gi_at_call 16; refine (callsIn_wide.2 CD.out).mono ?_; rintro e U3 ⟨rfl, bU3⟩; obtain ⟨hB2, b1, b2, z2, -⟩ := HB.out; have b13 := ElAt.bl (bU3.block _ (by omega)) b1; have b23 := (bU3.block _ (by omega)).trans b2; have b23 : Boxed U3 (w.heap.size + 1) 26 (.int .i64 0) := b23; have hB3 := hB2.trans (bU3.mono hB2.size); have CW := HW.out U3 hB3; rw [HKV.out] at CW; have r0 := b13.c0; have r1 := b13.c1; have r2 := b13.c2; have r3 := b13.c3; have r4 := b13.c4; rw [HKV.out] at r4) | (refine ⟨trivial, ?_⟩; gi_at_call 8; refine (callsIn_wide.2 CW).mono ?_; rintro e U4 ⟨rfl, bU4⟩; have b24 : Boxed U4 (w.heap.size + 1) 26 (.int .i64 0) := (bU4.block _ b23.lt).trans b23; have hB4 := hB3.trans (bU4.mono hB3.size); have x2 := b24.cell; have y2 := b24.frozen))
    have hc5 := (b24.set (.int .i64 4)).cell
    refine ⟨.int .i64 4, ?_, by rw [HE.out], hB4.setCell (p := ⟨w.heap.size + 1, 0, none⟩) (by simp) _⟩
    simp [results, Tryd.f6, go_sem, hc5]
  · have HR2 := Lib.hid (show flaws flaw (bareL xs) = R by rw [← HR.out, if_neg (by simp), if_neg (by omega)])
    refine (callsIn_wide (n := 5)).1 ?_
    refine callsIn_of_wp_marks Tryd.func6 rfl trivial ?_ rfl
    simp only [Tryd.ntmps6, List.size_toArray, List.length_cons, List.length_nil, Nat.reduceAdd, Nat.reduceSub, Array.replicate_succ, Array.replicate_zero, List.push_toArray, List.append_toArray, List.nil_append, List.cons_append]
    gi_wp2_with (first | (refine ⟨trivial, ?_⟩; gi_at_call 16; refine (callsIn_wide.2 CD.out).mono ?_; rintro e U3 ⟨rfl, bU3⟩; obtain ⟨hB2, b1, b2, z2, -⟩ := HB.out; have b13 := ElAt.bl (bU3.block _ (by omega)) b1; have b23 := (bU3.block _ (by omega)).trans b2; have b23 : Boxed U3 (w.heap.size + 1) 26 (.int .i64 0) := b23; have hB3 := hB2.trans (bU3.mono hB2.size); have CW := HW.out U3 hB3; rw [HKV.out] at CW; have r0 := b13.c0; have r1 := b13.c1; have r2 := b13.c2; have r3 := b13.c3; have r4 := b13.c4; rw [HKV.out] at r4) | (refine ⟨trivial, ?_⟩; gi_at_call 8; refine (callsIn_wide.2 CW).mono ?_; rintro e U4 ⟨rfl, bU4⟩; have b14 := ElAt.bl (bU4.block _ b13.lt) b13; have b24 : Boxed U4 (w.heap.size + 1) 26 (.int .i64 0) := (bU4.block _ b23.lt).trans b23; have hB4 := hB3.trans (bU4.mono hB3.size); have r0 := b14.c0; have r1 := b14.c1; have r2 := b14.c2; have r3 := b14.c3; have r4 := b14.c4; rw [HKV.out] at r4; have CWI := within_any x 1 12 U4; unfold elW at CWI; rw [HKV.out] at CWI) | (refine ⟨trivial, ?_⟩; gi_at_call 17; refine (callsIn_wide.2 CWI).mono ?_; rintro e V0 ⟨rfl, hV0⟩))
    obtain ⟨-, -, -, -, hx, T, hf, hxs⟩ := HB.out
    try rw [← hV0]
    have hwn := wi_new x 1 12 U4
    rw [HKV.out] at hwn
    rw [← hV0] at hwn
    have hz0 : V0.heap.size = U4.heap.size + 3 := by rw [hV0]; simp only [World.size_alloc]
    have hS0 : Below U4.heap.size U4 V0 := by
      rw [hV0]
      exact (((Below.refl _ U4).alloc (Nat.le_refl _) _).alloc (by simp only [World.size_alloc]; omega) _).alloc (by simp only [World.size_alloc]; omega) _
    have hB0 : Below w.heap.size w V0 := hB4.trans (hS0.mono hB4.size)
    have b2l := b24.lt
    have b2V : Boxed V0 (w.heap.size + 1) 26 (.int .i64 0) := (hS0.block _ b2l).trans b24
    have hsq := within_sq w w.heap.size 11 1 x U4.heap.size V0 12 hx hB0 hB4.size (by omega) (by omega) hwn
    rw [show (11 : Nat) + 1 = 12 from rfl, hxs] at hsq
    have hokx : ∀ y ∈ xs, Ok w w.heap.size y.2 := by rw [← hxs]; exact preV_ok 12 1 hx
    have HQ := Lib.hid (And.intro hz0 (And.intro hB0 (And.intro b2V (And.intro T (And.intro hf hokx)))))
    have hwU := hB4.size
    clear hwn hS0 hB0 b2V hf hokx T hx hxs q0 q1 q2 q3 q4 r0 r1 r2 r3 r4 b14 b13 b23 b24 bU3 bU4 hB3 hB4 hB2 b1 b2 z2 hV0 CW CWI HW CD
    refine range_sq (gf := 25) (lb := #[.pointer (some ⟨U4.heap.size + 1, 0, none⟩), .pointer (some ⟨U4.heap.size, 0, none⟩), .pointer (some ⟨U4.heap.size + 1 + 1, 0, none⟩)]) rfl eg_within hsq (Stays.refl _ _) (fun k hk => by rcases hk with h | h <;> omega) (fun _ => rfl)
      (fun pre _ V => Fine pre ∧ Below (w.heap.size + 2) V0 V)
      (fun c pre _ V => ∃ f, (c = .ret ∧ Flawed pre f) ∧ (Boxed V (w.heap.size + 1) 26 (.int .i64 f) ∧ Below w.heap.size w V))
      (Foot.and (Foot.pure (fun (pre : List (Nat × Iv)) => Fine pre)) (Foot.below (by omega) (by omega)))
      (fun c => Foot.ex fun f => Foot.and (Foot.pure (fun (pre : List (Nat × Iv)) => c = .ret ∧ Flawed pre f)) (Foot.and (Foot.boxed _ _ (fun _ => .int .i64 f) (by omega)) (Foot.below (by omega) (Nat.le_refl _))))
      ⟨fun y hy => by simp at hy, Below.refl _ _⟩ ?round ?done ?stop
    case round =>
      intro l s y' O V hIV hRV hOl hlr hOV hps
      obtain ⟨yd, ye, yv⟩ := y'
      obtain ⟨hz0, hB0, b2V, T, hf, hokx⟩ := HQ.out
      have hmem : (yd, (ye, yv)) ∈ xs := hps.subset (by simp)
      have hok := hokx _ hmem
      have hft := hf _ hmem
      obtain ⟨ya, yc, hyv⟩ := hok.len
      simp only at hyv hft
      subst hyv
      have hfl := hok.fits.2.2
      have HIV := Lib.hid (And.intro hIV (And.intro hRV (And.intro hOV (And.intro hps (And.intro hlr hOl)))))
      clear hIV hRV hOV hps hok hokx hf hmem hsq
      unfold encW elW
      dsimp only
      rw [foldg]
      simp only [List.setIfInBounds_toArray, List.set_cons_succ, List.set_cons_zero]
      gi_wp2_with fail
      obtain ⟨⟨hfi, hB⟩, hRV, hOV, hps, ⟨rl, hrl⟩, hOl⟩ := HIV.out
      have hzV := hRV.size
      have hlV : l < V.heap.size := (hOV l hOl).2
      have hlW : V0.heap.size ≤ l := (hOV l hOl).1
      obtain ⟨Vx, hVx⟩ : ∃ Vx, V.alloc (.cells #[.int .i64 ye.page, .string ye.name, .string ye.text, .bool ye.bare, .slice ya ye.kids.length yc] 24) = Vx := ⟨_, rfl⟩
      have hSx : Stays (fun k => k < V.heap.size) V Vx := by rw [← hVx]; exact (Stays.refl _ _).alloc _ (fun k hk => hk)
      have hbx : ElAt Vx V.heap.size ye (.slice ya ye.kids.length yc) := by rw [← hVx]; exact heap_alloc_new V _
      rw [hVx]
      refine ⟨hSx.mono fun k hk => ?_, fun W2 hS2 hz2 r2 hr2 => ?_⟩
      · rcases hk with h | h | h
        · exact (hOV k h).2
        · show k < V.heap.size; omega
        · show k < V.heap.size; omega
      have hV2 : Stays (fun k => k < V.heap.size ∧ k ≠ l) V W2 := (hSx.mono fun k hk => hk.1).trans (hS2.mono fun k hk => hk.2)
      have hbx2 : ElAt W2 V.heap.size ye (.slice ya ye.kids.length yc) := (hS2.block _ (show V.heap.size ≠ l by omega)).trans hbx
      have hzW2 := hV2.size
      have hB2 : Below (w.heap.size + 2) V0 W2 := hB.trans (hV2.below fun k hk => ⟨by omega, by omega⟩)
      have hbr : Boxed W2 (w.heap.size + 1) 26 (.int .i64 0) := (hB2.block _ (by omega)).trans b2V
      have hT2 : Cs.Tabs W2 := T.below (hB0.trans (hB2.mono (by omega))) (Nat.le_refl _)
      have CF := Lib.hid (pFault_any (ye, .slice ya ye.kids.length yc) W2 hft hfl ⟨ya, yc, rfl⟩ hT2)
      unfold elV at CF
      simp only at CF
      have e0 := hbx2.c0
      have e1 := hbx2.c1
      have e2 := hbx2.c2
      have e3 := hbx2.c3
      have e4 := hbx2.c4
      have hOn : ∀ k, (O k ∨ Rd w.heap.size U4.heap.size k) → k < W2.heap.size ∧ k ≠ w.heap.size + 1 := fun k hk => by
        rcases hk with h | h | h
        · have := hOV k h; omega
        · omega
        · omega
      have HON := Lib.hid hOn
      have HP := Lib.hid (And.intro hfi (And.intro hB2 (And.intro hbr hB0)))
      clear hbx2 hbx hSx hV2 hB hB2 hbr hT2 hfi hS2 hOn hVx hRV hOV hps HIV b2V hB0 T
      generalize hfv : flaw ye = f at CF
      by_cases h0 : f = 0
      · subst h0
        gi_wp2_with (refine ⟨trivial, ?_⟩; gi_at_call 18; refine (CallsIn.inRound l (callsIn_wide.2 CF.out)).mono ?_; rintro e W3 ⟨rfl, b3⟩)
        obtain ⟨hfi, hB2, hbr, hB0⟩ := HP.out
        exact ⟨Stays.of_below b3 fun k hk => (HON.out k hk).1, hfi.snoc hfv, hB2.trans (b3.mono (by have := hbr.lt; omega))⟩
      · have h0b : (f != 0) = true := by simpa using h0
        have h0c : (f == 0) = false := by simpa using h0
        gi_wp2_with (refine ⟨trivial, ?_⟩; gi_at_call 18; refine (CallsIn.inRound l (callsIn_wide.2 CF.out)).mono ?_; rintro e W3 ⟨rfl, b3⟩; have hbr3 : Boxed W3 (w.heap.size + 1) 26 (.int .i64 0) := (b3.block _ HP.out.2.2.1.lt).trans HP.out.2.2.1; have x2 := hbr3.cell; have y2 := hbr3.frozen)
        obtain ⟨hfi, hB2, hbr, hB0⟩ := HP.out
        have hb3 : Below (w.heap.size + 2) V0 W3 := hB2.trans (b3.mono (by have := hbr.lt; omega))
        exact ⟨(Stays.of_below b3 fun k hk => (HON.out k hk).1).setCell _ _ (fun h => (HON.out _ h).2 rfl), f, ⟨rfl, h0, s, _, rfl, hfi, hfv⟩, hbr3.set _, (hB0.trans (hb3.mono (by omega))).setCell (p := ⟨w.heap.size + 1, 0, none⟩) (by simp) _⟩
    case stop =>
      rintro D c' pre O V hD hOD hO hRW hpre ⟨f, ⟨rfl, hfl⟩, hbT, hB⟩ hK
      have HE := Lib.hid (show R = f by rw [← HR2.out]; exact hfl.of hpre)
      have hne : D ≠ w.heap.size + 1 := by omega
      have hc5 := (hbT.kept (grownBy_putObj' V D (.deferred Option.none)) (by rintro ⟨⟩; exact hne rfl)).cell
      have hwD : w.heap.size ≤ D := by omega
      clear hD hfl hpre
      gi_wp2_with fail
      refine ⟨by simp, .inl ⟨_, _, rfl, run_takeDeferred hK, ?_⟩⟩
      refine ⟨.int .i64 f, ?_, by rw [HE.out], below_put_p hB hwD hK _⟩
      simp [results, Tryd.f6, go_sem, hc5]
    case done =>
      rintro D O V hD hOD hO hRW ⟨hfi, hB⟩ hK
      obtain ⟨-, hB0, b2V, -⟩ := HQ.out
      have HE := Lib.hid (show R = 0 by rw [← HR2.out]; exact hfi.end_)
      have hbF : Boxed V (w.heap.size + 1) 26 (.int .i64 0) := (hB.block (w.heap.size + 1) (by omega)).trans b2V
      have hne : D ≠ w.heap.size + 1 := by omega
      have hcb := hbF.cell
      have hfb := hbF.frozen
      have hK' := (KeepsOthers.setCell V ⟨w.heap.size + 1, 0, none⟩ (.int .i64 0)).same D _ hK rfl
      have hc5 := ((hbF.set (.int .i64 0)).kept (grownBy_putObj' _ D (.deferred Option.none)) (by rintro ⟨⟩; exact hne rfl)).cell
      have hwD : w.heap.size ≤ D := by omega
      have HBF := Lib.hid ((hB0.trans (hB.mono (by omega))).setCell (p := ⟨w.heap.size + 1, 0, none⟩) (by simp) (.int .i64 0))
      clear hD hfi hB0 b2V hB
      gi_wp2_with fail
      refine ⟨by simp, .inl ⟨_, _, rfl, run_takeDeferred hK', ?_⟩⟩
      refine ⟨.int .i64 0, ?_, by rw [HE.out], below_put_p HBF.out hwD hK' _⟩
      simp [results, Tryd.f6, go_sem, hc5]
end Go.Proofs.YtpgjalikgmagiaaDoor.Tr
