/-
unfolded is an iterator of lines, each with those that go on with it, over whatever iterator hands on the lines. Conditions: the lines have at most 2^40 bytes in all, and there are at most 2^40 of them.
-/
import Derived.Test.YtcclicgjklmihaaLnUnf1
namespace Go.Proofs.Ytcclicgjklmihaa.Ln
open Go.RowKit Strs Sq
attribute [local go_sem] Oper.semAt_some

/-- What holds between two lines: em has been handed on, the rest is on its way. -/
def UnfI (H : Nat) (y : Value) (xs all : List (Nat × List UInt8)) (J : List (Nat × List UInt8) → (Nat → Prop) → World → Prop) (pre : List (Nat × List UInt8)) (O : Nat → Prop) (V : World) : Prop :=
  ∃ (em : List (Nat × List UInt8)) (bg : Nat) (ps : List (List UInt8)) (v : Value), Hid (em ++ unf (pend bg ps) (xs.drop pre.length) = all) ∧ (ps.length ≤ pre.length ∧ bytes ps ≤ bytes (pre.map (·.2))) ∧ St H y bg ps v V ∧ (∀ g, v.ownBlock = some g → ¬ O g) ∧ J em (Mine H v O) V
/-- .. where the taker wants no more. -/
def UnfX (H : Nat) (all : List (Nat × List UInt8)) (Jx : List (Nat × List UInt8) → (Nat → Prop) → World → Prop) (_pre : List (Nat × List UInt8)) (O : Nat → Prop) (V : World) : Prop :=
  ∃ (em : List (Nat × List UInt8)) (v : Value), em <+: all ∧ (∀ g, v.ownBlock = some g → H ≤ g) ∧ Jx em (Mine H v O) V
theorem mine_more {H : Nat} {v : Value} {O O' : Nat → Prop} {n : Nat} (h : ∀ k, O' k → O k ∨ n ≤ k) : ∀ k, Mine H v O' k → Mine H v O k ∨ n ≤ k := fun k hk => by
  rcases hk with hk | hk
  · exact (h k hk).imp (fun h => .inl h) id
  · exact .inl (.inr hk)
theorem unf_foot {H : Nat} {y : Value} {xs all : List (Nat × List UInt8)} {J : List (Nat × List UInt8) → (Nat → Prop) → World → Prop} (hJ : Foot H J) : Foot (H + 3) (UnfI H y xs all J) := by
  rintro pre O O' A B ⟨em, bg, ps, v, h1, h2, h3, h4, h5⟩ hO hS hO'
  have hle := h3.le
  refine ⟨em, bg, ps, v, h1, h2, h3.stays hS ⟨h3.b2.lt, fun ho => by have := hO _ ho; omega⟩ ⟨h3.b3.lt, fun ho => by have := hO _ ho; omega⟩ ⟨h3.b4.lt, fun ho => by have := hO _ ho; omega⟩ (fun g e => ⟨(hle g e).2, h4 g e⟩), fun g e ho => ?_, hJ em _ _ A B h5 (fun k hk => ?_) (hS.mono fun k hk => ⟨hk.1, fun ho => hk.2 (.inl ho)⟩) (mine_more hO')⟩
  · rcases hO' g ho with h | h
    · exact h4 g e h
    · have := hle g e; omega
  · rcases hk with hk | rfl | rfl | rfl | hk
    · have := hO k hk; omega
    · omega
    · omega
    · omega
    · have := hle k hk; omega
theorem unf_footX {H : Nat} {all : List (Nat × List UInt8)} {Jx : List (Nat × List UInt8) → (Nat → Prop) → World → Prop} (hJ : Foot H Jx) : Foot (H + 3) (UnfX H all Jx) := by
  rintro pre O O' A B ⟨em, v, h1, h2, h3⟩ hO hS hO'
  refine ⟨em, v, h1, h2, hJ em _ _ A B h3 (fun k hk => ?_) (hS.mono fun k hk => ⟨hk.1, fun ho => hk.2 (.inl ho)⟩) (mine_more hO')⟩
  rcases hk with hk | rfl | rfl | rfl | hk
  · have := hO k hk; omega
  · omega
  · omega
  · omega
  · exact h2 k hk

/-- A round is over: only the iterator's own has turned since V. -/
theorem unf_close {H : Nat} {y : Value} {xs all : List (Nat × List UInt8)} {J : List (Nat × List UInt8) → (Nat → Prop) → World → Prop} {R O : Nat → Prop} {bg bg' : Nat} {ps ps' : List (List UInt8)} {v v' : Value} {V V' : World} {em pre' : List (Nat × List UInt8)}
    (hJ : Foot H J) (hst : St H y bg ps v V) (hst' : St H y bg' ps' v' V') (hO : ∀ k, O k → H + 3 ≤ k ∧ k < V.heap.size) (hvO : ∀ g, v.ownBlock = some g → ¬ O g) (hRH : ∀ k, R k → k < H)
    (hS : Stays (fun k => k < V.heap.size ∧ k ≠ H + 1 ∧ k ≠ H + 2 ∧ some k ≠ v.ownBlock) V V') (hfresh : ∀ g, v'.ownBlock = some g → v.ownBlock = some g ∨ V.heap.size ≤ g)
    (hJv : J em (Mine H v O) V) (HE : Hid (em ++ unf (pend bg' ps') (xs.drop pre'.length) = all)) (hps : ps'.length ≤ pre'.length ∧ bytes ps' ≤ bytes (pre'.map (·.2))) :
    Stays (fun k => O k ∨ R k) V V' ∧ UnfI H y xs all J pre' O V' := by
  have hle := hst.le
  have h2 := hst.b2.lt
  refine ⟨hS.mono fun k hk => ?_, em, bg', ps', v', HE, hps, hst', fun g e ho => ?_, mine_step hJ hJv (fun k hk => (hst.mine hO k hk).1) (hS.mono fun k hk => ⟨hk.1, fun e => hk.2 (.inr (.inr (.inl e))), fun e => hk.2 (.inr (.inr (.inr (.inl e)))), fun e => hk.2 (.inr (.inr (.inr (.inr e.symm))))⟩) hfresh⟩
  · rcases hk with hk | hk
    · have := hO k hk; exact ⟨this.2, by omega, by omega, fun e => hvO k e.symm hk⟩
    · have := hRH k hk; exact ⟨by omega, by omega, by omega, fun e => by have := hle k e.symm; omega⟩
  · rcases hfresh g e with h | h
    · exact hvO g h ho
    · have := hO g ho; omega

/-- What comes of handing on one of them: whether more is wanted. -/
def UnfY (J Jx : List (Nat × List UInt8) → (Nat → Prop) → World → Prop) (O R : Nat → Prop) (em : List (Nat × List UInt8)) (V : World) (e : Ending) (V' : World) : Prop :=
  ∃ ok, e = .returned (.bool ok) ∧ Stays (fun k => O k ∨ R k) V V' ∧ ((ok = true ∧ J em O V') ∨ (ok = false ∧ Jx em O V'))
def UnfZ (J Jx : List (Nat × List UInt8) → (Nat → Prop) → World → Prop) (O R : Nat → Prop) (em : List (Nat × List UInt8)) (V : World) (ok : Bool) (V' : World) : Prop :=
  Stays (fun k => O k ∨ R k) V V' ∧ ((ok = true ∧ J em O V') ∨ (ok = false ∧ Jx em O V'))
theorem unf_yield {P : Program} {H : Nat} {y : Value} {J Jx : List (Nat × List UInt8) → (Nat → Prop) → World → Prop} {R O : Nat → Prop} {V : World} {em : List (Nat × List UInt8)} {bg : Nat} {fl : List UInt8}
    (hJ : Foot H J) (hJv : J em O V) (hO : ∀ k, O k → H ≤ k ∧ k < V.heap.size) (hR : ∀ k, R k → k < V.heap.size)
    (h : ∀ w2, J em O w2 → (∀ k, O k → H ≤ k ∧ k < w2.heap.size) → V.heap.size ≤ w2.heap.size → Takes P y (encL (bg, fl)) w2 fun e W' => Stays (fun k => O k ∨ R k) w2 W' ∧ ((e = .returned (.bool true) ∧ J (em ++ [(bg, fl)]) O W') ∨ (e = .returned (.bool false) ∧ Jx (em ++ [(bg, fl)]) O W'))) :
    ∀ w2, Below V.drew.heap.size V.drew w2 → Takes P y #[.int .i64 (bg : Int), .string ⟨fl.toArray⟩] w2 (UnfY J Jx O R (em ++ [(bg, fl)]) V) := fun w2 b2 => by
  have b : Below V.heap.size V w2 := ((Below.refl _ V).drew).trans b2
  refine (h w2 (hJ.grow hJv (fun k hk => (hO k hk).1) b) (fun k hk => by have := hO k hk; have := b.size; omega) b.size).mono ?_
  rintro e W' ⟨hS, h⟩
  have hSV : Stays (fun k => O k ∨ R k) V W' := (Stays.of_below b fun k hk => by
    rcases hk with hk | hk
    · exact (hO k hk).2
    · exact hR k hk).trans hS
  rcases h with ⟨rfl, h⟩ | ⟨rfl, h⟩
  · exact ⟨true, rfl, hSV, .inl ⟨rfl, h⟩⟩
  · exact ⟨false, rfl, hSV, .inr ⟨rfl, h⟩⟩

/-- The block for the rounds' deferred calls is shut: the taker's word stands. -/
theorem unf_out {J Jx : List (Nat × List UInt8) → (Nat → Prop) → World → Prop} {H : Nat} {O : Nat → Prop} {all : List (Nat × List UInt8)} {V : World} {D : Nat} (hJ : Foot H J) (hJx : Foot H Jx) (hO : ∀ k, O k → H ≤ k) (hD : O D) (o : Obj)
    (h : J all O V ∨ ∃ pre, pre <+: all ∧ Jx pre O V) : ∃ O', (∀ k, O' k → H ≤ k) ∧ (J all O' (V.putObj D o) ∨ ∃ pre, pre <+: all ∧ Jx pre O' (V.putObj D o)) := by
  have hS : Stays (fun k => k < V.heap.size ∧ ¬ O k) V (V.putObj D o) := (Stays.refl _ _).putObj _ _ (fun h => h.2 hD)
  refine ⟨O, hO, ?_⟩
  rcases h with h | ⟨pre, hp, h⟩
  · exact .inl (hJ _ O O V _ h hO hS (fun k hk => .inl hk))
  · exact .inr ⟨pre, hp, hJx _ O O V _ h hO hS (fun k hk => .inl hk)⟩

set_option maxRecDepth 100000 in
set_option maxHeartbeats 2000000 in
theorem unfolded_sq {gf : FuncId} {lb : Array Value} {R : Nat → Prop} {xs : List (Nat × List UInt8)} {w : World} (hseq : Sq Try.prog gf lb encL R xs w) (eg : ∀ args w, (callFunc gf args).run Try.prog w = .ok (.enter gf args) w) (hRw : ∀ k, R k → k < w.heap.size)
    (Bf : Nat) (hB : Boxed w Bf 39 (.func (.func gf) #[] lb)) (h1 : xs.length ≤ 1099511627776) (h2 : bytes (xs.map (·.2)) ≤ 1099511627776) :
    Sq Try.prog 29 #[.pointer (some ⟨Bf, 0, none⟩)] encL (fun k => k = Bf ∨ R k) (unf none xs) w := by
  intro y J Jx W hy hR hJ hJx hY hJ0
  obtain ⟨all, hall⟩ : ∃ all, unf none xs = all := ⟨_, rfl⟩
  rw [hall] at hY ⊢
  have hB := hR.boxed (show (fun k => k = Bf ∨ R k) Bf from .inl rfl) hB
  have HY := Lib.hid hY
  clear hY
  refine (callsIn_wide (n := 5)).1 ?_
  refine callsIn_of_wp_marks Try.func29 rfl trivial ?_ rfl
  simp only [Try.ntmps29, List.size_toArray, List.length_cons, List.length_nil, Nat.reduceAdd, Nat.reduceSub, Array.replicate_succ, Array.replicate_zero, List.push_toArray, List.append_toArray, List.nil_append, List.cons_append]
  have hc := hB.cell
  obtain ⟨fy, ca, rfl⟩ : ∃ fy ca, y = .func fy #[] ca := by
    rcases hy with ⟨l, rfl⟩ | ⟨g, ca, rfl, eg⟩
    · exact ⟨_, _, rfl⟩
    · exact ⟨_, _, rfl⟩
  clear hc
  have hc := (((hB.alloc (.cells #[.func fy #[] ca] 45)).alloc (.cells #[.int .i64 0] 3)).alloc (.cells #[.slice none 0 0] 22)).cell
  gi_wp2_with fail
  have b2 := Boxed.new W 45 (.func fy #[] ca)
  have b3 := Boxed.new (W.alloc (.cells #[.func fy #[] ca] 45)) 3 (.int .i64 0)
  have b4 := Boxed.new ((W.alloc (.cells #[.func fy #[] ca] 45)).alloc (.cells #[.int .i64 0] 3)) 22 (.slice none 0 0)
  simp only [World.size_alloc] at b3 b4
  have hV : Below W.heap.size W (((W.alloc (.cells #[.func fy #[] ca] 45)).alloc (.cells #[.int .i64 0] 3)).alloc (.cells #[.slice none 0 0] 22)) := (((Below.refl _ W).alloc (Nat.le_refl _) _).alloc (by simp) _).alloc (by simp; omega) _
  have b2' := (b2.alloc (.cells #[.int .i64 0] 3)).alloc (.cells #[.slice none 0 0] 22)
  have b3' := b3.alloc (.cells #[.slice none 0 0] 22)
  have hz : (((W.alloc (.cells #[.func fy #[] ca] 45)).alloc (.cells #[.int .i64 0] 3)).alloc (.cells #[.slice none 0 0] 22)).heap.size = W.heap.size + 3 := by simp
  clear b2 b3 hc
  generalize (((W.alloc (.cells #[.func fy #[] ca] 45)).alloc (.cells #[.int .i64 0] 3)).alloc (.cells #[.slice none 0 0] 22)) = V0 at *
  obtain ⟨H, hH⟩ : ∃ H, W.heap.size = H := ⟨_, rfl⟩
  rw [hH] at b4 hV b2' b3' hz hJ hJx HY ⊢
  have hwW := hR.size
  have hst0 : St H (.func fy #[] ca) 0 [] (.slice none 0 0) V0 := ⟨b2', b3', b4, Strs.nil _ _⟩
  have hJ1 : J [] (Mine H (.slice none 0 0) (fun _ => False)) V0 := hJ [] _ _ W V0 hJ0 (fun k hk => hk.elim) (Stays.of_below hV fun k hk => by have := hk.1; omega) (fun k hk => by
    rcases hk with hk | rfl | rfl | rfl | hk
    · exact hk.elim
    · right; omega
    · right; omega
    · right; omega
    · simp [Value.ownBlock] at hk)
  have hIf := unf_foot (xs := xs) (all := all) (y := .func fy #[] ca) hJ
  have hXf := unf_footX (all := all) hJx
  have hRV : Stays R w V0 := (hR.mono fun k hk => .inr hk).trans (Stays.of_below hV fun k hk => by have := hRw k hk; omega)
  have hRH : ∀ k, k = Bf ∨ R k → k < H := fun k hk => by
    rcases hk with rfl | hk
    · have := hB.lt; omega
    · have := hRw k hk; omega
  have H1 := Lib.hid h1
  have H2 := Lib.hid h2
  rw [← hz] at hIf hXf
  clear b2' b3' b4 hB hR h1 h2 hJ0
  refine range_sq1 (gf := gf) (lb := lb) rfl eg hseq hRV (fun k hk => by have := hRH k (.inr hk); omega) (fun _ => rfl) (UnfI H (.func fy #[] ca) xs all J) (fun c pre O V => c = .ret ∧ UnfX H all Jx pre O V) hIf (fun c => Foot.and (Foot.pure fun _ => c = .ret) hXf)
    ⟨[], 0, [], .slice none 0 0, Lib.hid (by rw [← hall]; simp [pend]), ⟨Nat.le_refl _, Nat.le_refl _⟩, hst0, fun g e => by simp [Value.ownBlock] at e, hJ1⟩ ?round ?done ?stop
  case round =>
    rintro l pre ⟨n, x⟩ O W1 hO hp
    unfold encL
    gi_wp2
    refine ⟨trivial, ?_⟩
    rintro V ⟨em, bg, ps, v, HE, ⟨hp1, hp2⟩, hst, hvO, hJv⟩ hRW hOl hrec hOW
    obtain ⟨hb1, hb2⟩ := bytes_pre hp
    have hn1 : ps.length + 1 ≤ 1099511627776 := by have := H1.out; omega
    have hn2 : bytes ps + x.length ≤ 1099511627776 := by have := H2.out; simp only at hb1; omega
    obtain ⟨i0, hi, hz0, hz1, hz2⟩ := info_parts infoStr
    have hMine := hst.mine (O := O) (fun k hk => by have := hOW k hk; omega)
    obtain ⟨sa, sc, rfl⟩ := Strs.shape (show V.ownsRow H _ 1 v ps.length _ from hst.row)
    have hHV : H + 3 ≤ V.heap.size := by have := hst.b4.lt; omega
    by_cases hps : ps = []
    · subst hps
      have HE1 := Lib.hid (goes_first hp HE.out)
      simp only [List.length_nil] at hst hvO hJv hMine
      have hst1 := hst.begin n
      have hS1 : Stays (fun k => k ≠ H + 1) V (V.setCell ⟨H + 1, 0, none⟩ (.int .i64 (n : Int))) := (Stays.refl _ _).setCell _ _ (fun h => h rfl)
      obtain ⟨V1, hV1⟩ : ∃ V1, V.setCell ⟨H + 1, 0, none⟩ (.int .i64 (n : Int)) = V1 := ⟨_, rfl⟩
      rw [hV1] at hst1 hS1
      have hc := hst.b4.cell
      have hc3 := hst.b3.cell
      have hf3 := hst.b3.frozen
      have hc1 := hst1.b4.cell
      have hf1 := hst1.b4.frozen
      have hrow1 := hst1.row
      have HP1 := Lib.hid hp1
      have HP2 := Lib.hid hp2
      have hzz := hS1.size
      clear hp1 hp2 hb1 hb2 hn2 HE
      have hA : 0 + 1 ≤ maxLen := by decide
      have hA2 : (0 + 1) * 16 ≤ 140737488355328 := by decide
      have hA3 : H ≤ (V1.alloc (.cells #[.string ⟨x.toArray⟩] 9)).heap.size := by simp; omega
      gi_wp2_with fail
      refine ⟨trivial, ?_⟩
      gi_wp2_with (gi_at_builtin; refine App.walk_append _ rfl _ _ 22 rfl H 9 i0 (.string .empty) 1 16 Try.underlying22 hi hz0 hz1 hz2 rfl (by decide) _ 0 (scells []) rfl (hrow1.alloc _) ⟨V1.heap.size, 0, none⟩ 1 1 [.string ⟨x.toArray⟩] rfl rfl (cell_one_new _ _ _) (by simp [Value.oneCell']) hA hA2 hA3 (by decide) ?_; intro v' w1 hown' hgrow hwhere; obtain ⟨g', cap', rfl⟩ := ownsRow_succ hown'; obtain ⟨hv4, hst2, hfresh, hSt⟩ := hst1.append hown' hgrow hwhere; have hc4 := hv4.cell; have hf4 := hv4.frozen)
      exact unf_close hJ hst hst2 (fun k hk => by have := hOW k hk; omega) hvO (fun k hk => hRH k (.inr hk)) ((hS1.mono fun k hk => hk.2.1).trans (hSt.mono fun k hk => ⟨by have := hk.1; omega, hk.2.2⟩)) (fun g e => (hfresh g e).imp id fun h => by omega) hJv HE1 ⟨by simp, by simp [bytes]⟩
    · have CG := Lib.hid (fun W => goesOn_any ⟨x.toArray⟩ W)
      rw [mk_list] at CG
      have hlen : 0 < ps.length := by cases ps with | nil => exact absurd rfl hps | cons a r => simp
      have hlen1 : (ps.length : Int) > 0 := by omega
      have hlen2 : ((ps.length : Int) == 0) = false := by simp; exact hps
      cases hg : goes x
      · have HE1 := Lib.hid (goes_new hp hps hg HE.out)
        rw [hg] at CG
        have HP := Lib.hid (show em ++ [(bg, ps.flatten)] <+: all from ⟨_, HE1.out⟩)
        have hmix : Try.prog.follows .mixedOrders = true := by kernel_rfl
        have hstD : St H (.func fy #[] ca) bg ps (.slice sa ps.length sc) V.drew := hst.keep (Below.refl _ _).drew
        have CJ := Lib.hid (join_any (.slice sa ps.length sc) ps hps (by omega) (by omega) V.drew hstD.row.reads)
        have TY := Lib.hid (unf_yield (R := fun k => k = Bf ∨ R k) (Jx := Jx) hJ hJv (fun k hk => hMine k hk) (fun k hk => by have := hRH k hk; omega) (fun w2 h2 h3 h4 => HY.out em (bg, ps.flatten) _ w2 h2 h3 (by omega) HP.out))
        have hc2 := hstD.b2.cell
        have hc3 := hstD.b3.cell
        have hc4 := hstD.b4.cell
        have hc := hst.b4.cell
        generalize hfl : ps.flatten = fl at HE1 HP CJ TY
        clear hp1 hp2 hb1 hb2 hn2 HE hps
        gi_wp2_with (refine ⟨trivial, ?_⟩; gi_at_call 30; refine (CallsIn.inRound l (callsIn_wide.2 (CG.out _))).mono ?_; rintro e w' ⟨rfl, rfl⟩)
        refine Code.wpIn_mono (Q := fun e a' V' => e = .normal ∧ ∃ ok, a' = { tmps := #[.func fy #[] ca, .pointer (some ⟨Bf, 0, none⟩), .pointer (some ⟨H, 0, none⟩), .pointer (some ⟨H + 1, 0, none⟩), .pointer (some ⟨H + 1 + 1, 0, none⟩), .int .i64 (n : Int), .string ⟨x.toArray⟩, .func (.func gf) #[] lb, .int .i64 (n : Int), .string ⟨x.toArray⟩, .slice sa ps.length sc, .int .i64 (ps.length : Int), .bool true, .bool true, .string ⟨x.toArray⟩, .bool false, .bool true, .bool true, .func fy #[] ca, .int .i64 (bg : Int), .slice sa ps.length sc, .string ⟨fl.toArray⟩, .bool ok, .bool (!ok), undef, undef, undef, undef, undef, undef, undef, undef, undef, undef, undef, undef, undef, undef, undef, undef], defers := [] } ∧ UnfZ J Jx (Mine H (.slice sa ps.length sc) O) (fun k => k = Bf ∨ R k) (em ++ [(bg, fl)]) V ok V') ?tail ?region
        case region =>
          clear HE1 HP hJv hrec hIf hXf hst0 hJ1 HY hRW hJ hJx H1 H2 hseq hRV
          rcases hy with ⟨l', hyy⟩ | ⟨g, ca', hyy, egy⟩
          · cases hyy
            gi_region_with_o (first
              | (refine ⟨trivial, ?_⟩; gi_at_call 31; refine (CallsIn.inRound l (callsIn_wide.2 CJ.out)).mono ?_; rintro e w2 ⟨rfl, b2⟩; have hst2 := hstD.keep b2; have hc5 := hst2.b2.cell; have hc6 := hst2.b3.cell; obtain ⟨fn, tmps, assign, body, hyy, hR⟩ := (TY.out w2 b2).loop 4)
              | (refine RoundIn.mono hR ?_; rintro e W3 ⟨ok, rfl, hS3, hJ3⟩))
            all_goals exact ⟨rfl, ok, rfl, hS3, hJ3⟩
          · cases hyy
            gi_region_with_o (first
              | (refine ⟨trivial, ?_⟩; gi_at_call 31; refine (CallsIn.inRound l (callsIn_wide.2 CJ.out)).mono ?_; rintro e w2 ⟨rfl, b2⟩; have hst2 := hstD.keep b2; have hc5 := hst2.b2.cell; have hc6 := hst2.b3.cell; have hR := CallsIn.inRound l ((callsIn_wide (n := 4)).2 (TY.out w2 b2).named))
              | (refine ⟨trivial, CallsIn.mono hR ?_⟩; rintro e W3 ⟨ok, rfl, hS3, hJ3⟩))
            all_goals exact ⟨rfl, ok, rfl, hS3, hJ3⟩
        case tail =>
          rintro e a' W3 ⟨rfl, ok, rfl, hS3, hJ3⟩
          rcases hJ3 with ⟨rfl, hJ3⟩ | ⟨rfl, hJ3⟩
          · have hst3 := hst.stays hS3 (.inl (.inr (.inl rfl))) (.inl (.inr (.inr (.inl rfl)))) (.inl (.inr (.inr (.inr (.inl rfl))))) (fun g e => .inl (.inr (.inr (.inr (.inr e)))))
            have hSW := hS3.size
            have hst4 := hst3.clear
            have hS4 : Stays (fun k => k ≠ H + 2) W3 (W3.setCell ⟨H + 2, 0, none⟩ (.slice none 0 0)) := (Stays.refl _ _).setCell _ _ (fun h => h rfl)
            have hc3 := hst3.b4.cell
            have hf3 := hst3.b4.frozen
            obtain ⟨W4, hW4⟩ : ∃ W4, W3.setCell ⟨H + 1 + 1, 0, none⟩ (.slice none 0 0) = W4 := ⟨_, rfl⟩
            rw [show W3.setCell ⟨H + 2, 0, none⟩ (.slice none 0 0) = W4 from hW4] at hst4 hS4
            have hst5 := hst4.begin n
            have hS5 : Stays (fun k => k ≠ H + 1) W4 (W4.setCell ⟨H + 1, 0, none⟩ (.int .i64 (n : Int))) := (Stays.refl _ _).setCell _ _ (fun h => h rfl)
            have hc4 := hst4.b4.cell
            have hc4b := hst4.b3.cell
            have hf4b := hst4.b3.frozen
            obtain ⟨W5, hW5⟩ : ∃ W5, W4.setCell ⟨H + 1, 0, none⟩ (.int .i64 (n : Int)) = W5 := ⟨_, rfl⟩
            rw [hW5] at hst5 hS5
            have hc5 := hst5.b4.cell
            have hf5 := hst5.b4.frozen
            have hrow1 := hst5.row
            have hz4 := hS4.size
            have hz5 := hS5.size
            have hA : 0 + 1 ≤ maxLen := by decide
            have hA2 : (0 + 1) * 16 ≤ 140737488355328 := by decide
            have hA3 : H ≤ (W5.alloc (.cells #[.string ⟨x.toArray⟩] 9)).heap.size := by simp; omega
            clear hc2
            gi_wp2_with (gi_at_builtin; refine App.walk_append _ rfl _ _ 22 rfl H 9 i0 (.string .empty) 1 16 Try.underlying22 hi hz0 hz1 hz2 rfl (by decide) _ 0 (scells []) rfl (hrow1.alloc _) ⟨W5.heap.size, 0, none⟩ 1 1 [.string ⟨x.toArray⟩] rfl rfl (cell_one_new _ _ _) (by simp [Value.oneCell']) hA hA2 hA3 (by decide) ?_; intro v' w1 hown' hgrow hwhere; obtain ⟨g', cap', rfl⟩ := ownsRow_succ hown'; obtain ⟨hv4, hst6, hfresh, hSt⟩ := hst5.append hown' hgrow hwhere; have hc6 := hv4.cell; have hf6 := hv4.frozen)
            have hfin := unf_close (R := R) hJ hst3 hst6 (fun k hk => by have := hOW k hk; omega) hvO (fun k hk => hRH k (.inr hk)) ((hS4.mono fun k hk => hk.2.2.1).trans ((hS5.mono fun k hk => hk.2.1).trans (hSt.mono fun k hk => ⟨by have := hk.1; omega, hk.2.2.1, by simp [Value.ownBlock]⟩))) (fun g e => .inr (by rcases hfresh g e with h | h; simp [Value.ownBlock] at h; omega)) hJ3 HE1 ⟨by simp, by simp [bytes]⟩
            exact ⟨(hS3.mono fun k hk => by rcases hk with hk | hk; exact .inl (.inl hk); exact .inr (.inr hk)).trans hfin.1, hfin.2⟩
          · gi_wp2_with fail
            exact ⟨hS3.mono fun k hk => by rcases hk with hk | hk; exact .inl (.inl hk); exact .inr (.inr hk), rfl, em ++ [(bg, fl)], .slice sa ps.length sc, HP.out, fun g e => by have := hst.le g e; omega, hJ3⟩
      · have HE1 := Lib.hid (goes_on hp hps hg HE.out)
        rw [hg] at CG
        have hc := hst.b4.cell
        have hf := hst.b4.frozen
        have hrow1 := hst.row
        have HP1 := Lib.hid hp1
        have HP2 := Lib.hid hp2
        have hA : ps.length + 1 ≤ maxLen := by unfold maxLen; omega
        have hA2 : (ps.length + 1) * 16 ≤ 140737488355328 := by omega
        have hA3 : H ≤ (V.alloc (.cells #[.string ⟨x.toArray⟩] 9)).heap.size := by simp; omega
        clear hp1 hp2 hb1 hb2 hn2 HE hps
        gi_wp2_with (first | (refine ⟨trivial, ?_⟩; gi_at_call 30; refine (CallsIn.inRound l (callsIn_wide.2 (CG.out _))).mono ?_; rintro e w' ⟨rfl, rfl⟩) | (gi_at_builtin; refine App.walk_append _ rfl _ _ 22 rfl H 9 i0 (.string .empty) 1 16 Try.underlying22 hi hz0 hz1 hz2 rfl (by decide) _ ps.length (scells ps) rfl (hrow1.alloc _) ⟨V.heap.size, 0, none⟩ 1 1 [.string ⟨x.toArray⟩] rfl rfl (cell_one_new _ _ _) (by simp [Value.oneCell']) hA hA2 hA3 (by decide) ?_; intro v' w1 hown' hgrow hwhere; obtain ⟨g', cap', rfl⟩ := ownsRow_succ hown'; obtain ⟨hv4, hst2, hfresh, hSt⟩ := hst.append hown' hgrow hwhere; have hc4 := hv4.cell; have hf4 := hv4.frozen))
        exact unf_close hJ hst hst2 (fun k hk => by have := hOW k hk; omega) hvO (fun k hk => hRH k (.inr hk)) (hSt.mono fun k hk => ⟨hk.1, hk.2.2⟩) hfresh hJv HE1 ⟨by have := HP1.out; simp; omega, by have := HP2.out; simp [bytes] at this ⊢; omega⟩
  case done =>
    rintro D O V hD hOD hO hRW ⟨em, bg, ps, v, HE, ⟨hp1, hp2⟩, hst, hvO, hJv⟩ hK
    have hMine := hst.mine' (O := O) (fun k hk => by have := hO k hk; omega)
    obtain ⟨sa, sc, rfl⟩ := Strs.shape (show V.ownsRow H _ 1 v ps.length _ from hst.row)
    have hHV : H + 3 ≤ V.heap.size := by have := hst.b4.lt; omega
    have hc := hst.b4.cell
    by_cases hps : ps = []
    · subst hps
      have HE1 := Lib.hid (goes_end HE.out)
      gi_wp2_with fail
      refine ⟨by simp, .inl ⟨_, _, rfl, run_takeDeferred hK, ?_⟩⟩
      refine ⟨_, results_none rfl _ _ _, ⟨_, rfl⟩, ?_⟩
      try rw [hH]
      exact unf_out hJ hJx hMine (.inl hOD) _ (.inl (by rw [← HE1.out]; exact hJv))
    · have HE1 := Lib.hid (goes_last hps HE.out)
      have hlen : 0 < ps.length := by cases ps with | nil => exact absurd rfl hps | cons a r => simp
      have hlen1 : (ps.length : Int) > 0 := by omega
      have hmix : Try.prog.follows .mixedOrders = true := by kernel_rfl
      have hstD : St H (.func fy #[] ca) bg ps (.slice sa ps.length sc) V.drew := hst.keep (Below.refl _ _).drew
      have CJ := Lib.hid (join_any (.slice sa ps.length sc) ps hps (by have := H1.out; omega) (by have := H2.out; omega) V.drew hstD.row.reads)
      have hMv : ∀ k, Mine H (.slice sa ps.length sc) (fun k => k = D) k → H ≤ k ∧ k < V.heap.size := fun k hk => ⟨by have := hst.mine' (O := fun k => k = D) (fun k hk => by omega) k hk; exact this, hst.mine_lt (fun k hk => by rw [hk]; exact (Array.getElem?_eq_some_iff.1 hK).1) k hk⟩
      have hJw : J em (Mine H (.slice sa ps.length sc) (fun k => k = D)) V := hJ em _ _ V V hJv hMine (Stays.refl _ _) (fun k hk => by
        rcases hk with rfl | hk
        · exact .inl (.inl hOD)
        · exact .inl (.inr hk))
      have TY := Lib.hid (unf_yield (R := fun k => k = Bf ∨ R k) (Jx := Jx) hJ hJw hMv (fun k hk => by have := hRH k hk; omega) (fun w2 h2 h3 h4 => HY.out em (bg, ps.flatten) _ w2 h2 h3 (by omega) ⟨[], by rw [List.append_nil]; exact HE1.out⟩))
      have hc2 := hstD.b2.cell
      have hc3 := hstD.b3.cell
      have hc4 := hstD.b4.cell
      generalize hfl : ps.flatten = fl at HE1 CJ TY
      gi_wp2_with fail
      refine Code.wpIn_mono (Q := fun e a' V' => e = .normal ∧ ∃ ok, a' = { tmps := #[.func fy #[] ca, .pointer (some ⟨Bf, 0, none⟩), .pointer (some ⟨H, 0, none⟩), .pointer (some ⟨H + 1, 0, none⟩), .pointer (some ⟨H + 1 + 1, 0, none⟩), undef, undef, .func (.func gf) #[] lb, undef, undef, undef, undef, undef, undef, undef, undef, undef, undef, undef, undef, undef, undef, undef, undef, undef, undef, undef, undef, undef, undef, undef, undef, .slice sa ps.length sc, .int .i64 (ps.length : Int), .bool true, .func fy #[] ca, .int .i64 (bg : Int), .slice sa ps.length sc, .string ⟨fl.toArray⟩, .bool ok], defers := [{ target := .collected D, args := #[] }] } ∧ UnfZ J Jx (Mine H (.slice sa ps.length sc) (fun k => k = D)) (fun k => k = Bf ∨ R k) (em ++ [(bg, fl)]) V ok V') ?tail ?region
      case region =>
        clear HE1 hJv hIf hXf hst0 hJ1 HY hRW hJ hJx H1 H2 hseq hRV HE hp1 hp2 hps hJw hMv hMine hvO hfl hlen hlen1
        rcases hy with ⟨l', hyy⟩ | ⟨g, ca', hyy, egy⟩
        · cases hyy
          gi_region_with_o (first
            | (refine ⟨trivial, ?_⟩; gi_at_call 31; refine (callsIn_wide.2 CJ.out).mono ?_; rintro e w2 ⟨rfl, b2⟩; have hst2 := hstD.keep b2; have hc5 := hst2.b2.cell; have hc6 := hst2.b3.cell; obtain ⟨fn, tmps, assign, body, hyy, hR⟩ := (TY.out w2 b2).loop 4)
            | (refine RoundIn.mono hR ?_; rintro e W3 ⟨ok, rfl, hS3, hJ3⟩))
          all_goals exact ⟨rfl, ok, rfl, hS3, hJ3⟩
        · cases hyy
          gi_region_with_o (first
            | (refine ⟨trivial, ?_⟩; gi_at_call 31; refine (callsIn_wide.2 CJ.out).mono ?_; rintro e w2 ⟨rfl, b2⟩; have hst2 := hstD.keep b2; have hc5 := hst2.b2.cell; have hc6 := hst2.b3.cell; have hR := (callsIn_wide (n := 4)).2 (TY.out w2 b2).named)
            | (refine ⟨trivial, CallsIn.mono hR ?_⟩; rintro e W3 ⟨ok, rfl, hS3, hJ3⟩))
          all_goals exact ⟨rfl, ok, rfl, hS3, hJ3⟩
      case tail =>
        rintro e a' W3 ⟨rfl, ok, rfl, hS3, hJ3⟩
        have hK3 := (hS3.block D (.inl (.inl rfl))).trans hK
        gi_wp2_with fail
        refine ⟨by simp, .inl ⟨_, _, rfl, run_takeDeferred hK3, ?_⟩⟩
        refine ⟨_, results_none rfl _ _ _, ⟨_, rfl⟩, ?_⟩
        try rw [hH]
        refine unf_out hJ hJx (fun k hk => (hMv k hk).1) (.inl rfl) _ ?_
        rcases hJ3 with ⟨_, h⟩ | ⟨_, h⟩
        · exact .inl (by rw [← HE1.out]; exact h)
        · exact .inr ⟨_, ⟨[], by rw [List.append_nil]; exact HE1.out⟩, h⟩
  case stop =>
    rintro D c pre O V hD hOD hO hRW hpre ⟨rfl, em, v, h1, h2, h3⟩ hK
    gi_wp2_with fail
    refine ⟨by simp, .inl ⟨_, _, rfl, run_takeDeferred hK, ?_⟩⟩
    refine ⟨_, results_none rfl _ _ _, ⟨_, rfl⟩, ?_⟩
    try rw [hH]
    refine unf_out hJ hJx (fun k hk => ?_) (.inl hOD) _ (.inr ⟨em, h1, h3⟩)
    rcases hk with hk | rfl | rfl | rfl | hk
    · have := hO k hk; omega
    · omega
    · omega
    · omega
    · exact h2 k hk
end Go.Proofs.Ytcclicgjklmihaa.Ln
