/-
For every text and every number of letters the law CharsetLetters returns true and changes nothing that was there. Conditions: the number of letters is an int; the library's tables hold what the rows list.
-/
import Derived.Test.YtmahdlaifbbjgaaDoorCsLetters
import Derived.Test.YtmahdlaifbbjgaaDoorCsRefLets
import Derived.Test.YtmahdlaifbbjgaaDoorLaws
import Derived.Maps.AppendAt
import Derived.BigQuiet
import Derived.Deep.QuietTactic
namespace Go.Proofs.YtmahdlaifbbjgaaDoor.CsLetLaw
open Go.RowKit Go.Shelf Cs
attribute [local go_sem] Oper.semAt_some

theorem valid_a : Lib.validD [97] = true := by decide +kernel
theorem valid_ff : Lib.validD [255] = false := by decide +kernel
theorem below_put_p {B : Nat} {a w : World} (h : Below B a w) {D : Nat} {o : Obj} (hD : B ≤ D) (hk : w.heap[D]? = some o) (o' : Obj) : Below B a (w.putObj D o') :=
  h.grown (grownBy_putObj' w D o') (by have := (Array.getElem?_eq_some_iff.1 hk).1; omega) (fun k e => by cases e; exact hD)
theorem prefix_take {α : Type} {l t : List α} {k : Nat} (h : l <+: t) (hl : l.dropLast.length = k) : l.dropLast = t.take k := by
  obtain ⟨r, rfl⟩ := h
  rw [← hl, List.take_append_of_le_length (by rw [List.length_dropLast]; omega), List.dropLast_eq_take, List.length_take]
  congr 1; omega

set_option maxRecDepth 100000 in
set_option maxHeartbeats 4000000 in
theorem letters_in (s : ByteArray) (most : Int) (hs : ¬ 3000 < s.size) (w : World) (T : Tabs w) :
    CallsIn Fence.wide 7 Tryd.prog 3 #[.string s, .int .i64 most] w fun e W' => e = .returned (.bool true) ∧ Below w.heap.size w W' := by
  obtain ⟨u, hu⟩ : ∃ u : Nat, IntKind.u64.wrap most = (u : Int) := ⟨(IntKind.u64.wrap most).toNat, by rw [IntKind.wrap_u64]; omega⟩
  obtain ⟨m, hm⟩ : ∃ m : Nat, m = u % 3001 := ⟨_, rfl⟩
  have hm2 : (u : Int) % 3001 = (m : Int) := by omega
  have hm3 : m ≤ 3000 := by omega
  clear hm
  obtain ⟨i0, hi, hz0, hz1, hz2⟩ := info_parts infoRune
  have CR := Lib.hid (fun W => refLetters_any s (by omega) W)
  unfold LetsIs at CR
  have CV := Lib.hid (fun W (TW : Tabs W) => valid_any s W (by omega) TW)
  have CA := Lib.hid (fun W (TW : Tabs W) => valid_any ⟨#[97]⟩ W (by decide) TW)
  have CF := Lib.hid (fun W (TW : Tabs W) => valid_any ⟨#[255]⟩ W (by decide) TW)
  rw [valid_a] at CA
  rw [valid_ff] at CF
  have hLn := lets_length s.data.toList
  rw [list_size] at hLn
  generalize Lib.validD s.data.toList = ok at CR CV
  have hnf := fun (W : World) (B : Nat) => Laws.run_eql_func_nil W 25 _ _ _ (.func 17) #[] #[.pointer (some ⟨B, 0, none⟩)] Tryd.underlying25
  refine callsIn_of_wp_marks Tryd.func3 rfl trivial ?_ rfl
  simp only [Tryd.ntmps3, List.size_toArray, List.length_cons, List.length_nil, Nat.reduceAdd, Nat.reduceSub, Array.replicate_succ, Array.replicate_zero, List.push_toArray, List.append_toArray, List.nil_append, List.cons_append]
  have bM := Boxed.new w 3 (.int .i64 most)
  have hs3 : decide (3000 < (s.size : Int)) = false := decide_eq_false (by omega)
  clear hs
  gi_wp2_with (refine ⟨trivial, ?_⟩; gi_at_call 6; refine (callsIn_wide.2 (CR.out _)).mono ?_; rintro e w1 ⟨vw, rfl, hS, b1⟩)
  have bM1 : Boxed w1 w.heap.size 3 (.int .i64 most) := (b1.block _ bM.lt).trans bM
  have bM2 := bM1.alloc (.cells #[.string s] 9)
  have hcM := bM2.cell
  have hfM := bM2.frozen
  gi_wp2_with (refine ⟨trivial, ?_⟩; gi_at_call 7; refine (callsIn_wide.2 (letters_any s _)).mono ?_; rintro e w' ⟨rfl, rfl⟩)
  have hlt1 : w.heap.size < w1.heap.size := bM1.lt
  have tl := T.lt
  have bM0 := (bM2.set (.int .i64 (m : Int))).alloc (.cells #[.slice none 0 0] 22)
  have hsz : ((w1.alloc (.cells #[.string s] 9)).setCell ⟨w.heap.size, 0, none⟩ (.int .i64 (m : Int))).heap.size = w1.heap.size + 1 := by rw [World.size_setCell, World.size_alloc]
  have bL0 := Boxed.new ((w1.alloc (.cells #[.string s] 9)).setCell ⟨w.heap.size, 0, none⟩ (.int .i64 (m : Int))) 22 (.slice none 0 0)
  rw [hsz] at bL0
  have bS0 := (Boxed.other (Boxed.new w1 9 (.string s)) (by omega : w1.heap.size ≠ w.heap.size) (.int .i64 (m : Int))).alloc (.cells #[.slice none 0 0] 22)
  have hBa : Below w.heap.size w w1 := ((Below.refl _ w).alloc (Nat.le_refl _) (.cells #[.int .i64 most] 3)).trans (b1.mono (by simp))
  have hB0 : Below w.heap.size w (((w1.alloc (.cells #[.string s] 9)).setCell ⟨w.heap.size, 0, none⟩ (.int .i64 (m : Int))).alloc (.cells #[.slice none 0 0] 22)) := ((hBa.alloc (by omega) _).setCell (p := ⟨w.heap.size, 0, none⟩) (Nat.le_refl _) _).alloc (by rw [hsz]; omega) _
  have hOne : One (((w1.alloc (.cells #[.string s] 9)).setCell ⟨w.heap.size, 0, none⟩ (.int .i64 (m : Int))).alloc (.cells #[.slice none 0 0] 22)) w1.heap.size s := ⟨bS0, T.kept hB0 tl.1 tl.2, by omega, by omega⟩
  have hcell : Hid (∀ g i, g < w1.heap.size → g ≠ w.heap.size → (((w1.alloc (.cells #[.string s] 9)).setCell ⟨w.heap.size, 0, none⟩ (.int .i64 (m : Int))).alloc (.cells #[.slice none 0 0] 22)).cell? ⟨g, i, none⟩ = w1.cell? ⟨g, i, none⟩) := Lib.hid (fun g i h1 h2 => by
    have e1 := ((Below.refl (w1.heap.size + 1) ((w1.alloc (.cells #[.string s] 9)).setCell ⟨w.heap.size, 0, none⟩ (.int .i64 (m : Int)))).alloc (by rw [hsz]; omega) (.cells #[.slice none 0 0] 22)).cell (p := ⟨g, i, none⟩) (by show g < _; omega)
    rw [e1, World.cell?_setCell_other _ _ _ _ (fun k => h2 (congrArg Addr.block k).symm)]
    exact ((Below.refl w1.heap.size w1).alloc (Nat.le_refl _) _).cell (p := ⟨g, i, none⟩) h1)
  have hsz0 : (((w1.alloc (.cells #[.string s] 9)).setCell ⟨w.heap.size, 0, none⟩ (.int .i64 (m : Int))).alloc (.cells #[.slice none 0 0] 22)).heap.size = w1.heap.size + 2 := by rw [World.size_alloc, hsz]
  generalize (((w1.alloc (.cells #[.string s] 9)).setCell ⟨w.heap.size, 0, none⟩ (.int .i64 (m : Int))).alloc (.cells #[.slice none 0 0] 22)) = W0 at *
  have HZ := Lib.hid hsz0
  obtain ⟨a1, c1, rfl, hat1⟩ := hS.at_
  have HAT1 : Hid (∀ i (hi : i < (lets s.data.toList).length), ∃ g, a1 = some ⟨g, 0, none⟩ ∧ g < w1.heap.size ∧ W0.cell? ⟨g, i, none⟩ = some (.int .i32 ((lets s.data.toList)[i] : Int))) := Lib.hid (fun i hi => by
    obtain ⟨g, h1, ⟨h2, h3⟩, h4⟩ := hat1 i hi
    exact ⟨g, h1, h3, (hcell.out g i h3 (by rw [World.size_alloc] at h2; omega)).trans h4⟩)
  clear hm2 hu hsz0 hsz hS hat1 hcell hBa bM bM1 bM2 hcM hfM bS0 b1
  refine wpIn_rangeFunc_ownG rfl (by omega) (gf := 17) (lb := #[.pointer (some ⟨w1.heap.size, 0, none⟩)]) rfl trivial (enters_of Tryd.func17 (by kernel_rfl) rfl)
    (letters_stops (7 - 1) (by omega) w1.heap.size s (Below (w1.heap.size + 1)) (fun W W' hb ho => ho.below hb (by omega)) W0 hOne) belowK_t (belowK_b (by rw [HZ.out]; omega)) (Below.refl _ _) (fun _ => rfl)
    (fun pre V => ((∃ v, Boxed V (w1.heap.size + 1) 22 v ∧ V.ownsRow (w1.heap.size + 1) 21 1 v pre.length (rcells pre) ∧ True) ∧ pre.length ≤ m) ∧ Below (w1.heap.size + 1) W0 V)
    (fun c l V => (c = .exit 0 ∧ l.dropLast.length = m) ∧ (∃ v, Boxed V (w1.heap.size + 1) 22 v ∧ V.ownsRow (w1.heap.size + 1) 21 1 v l.dropLast.length (rcells l.dropLast) ∧ True) ∧ Below (w1.heap.size + 1) W0 V)
    (OwnFrom.and (OwnFrom.and (Own.from (holdsRow_own (w1.heap.size + 1) (w1.heap.size + 1) 22 21 1 (fun pre => List.length pre) (fun pre => rcells pre) (fun _ _ => True)) _) (ownFrom_pure _ (fun pre => List.length pre ≤ m))) (ownFrom_below (by rw [HZ.out]; omega) (by rw [HZ.out]; omega)))
    (fun c => OwnFrom.and (ownFrom_pure _ (fun l => c = .exit 0 ∧ (List.dropLast l).length = m)) (OwnFrom.and (Own.from (holdsRow_own (w1.heap.size + 1) (w1.heap.size + 1) 22 21 1 (fun l => (List.dropLast l).length) (fun l => rcells (List.dropLast l)) (fun _ _ => True)) _) (ownFrom_below (by rw [HZ.out]; omega) (by rw [HZ.out]; omega))))
    ⟨⟨⟨_, bL0, World.ownsRow_nil _ _ _ _, trivial⟩, Nat.zero_le _⟩, Below.refl _ _⟩
    (fun x => { tmps := #[.string s, .int .i64 most, undef, .pointer (some ⟨w.heap.size, 0, none⟩), .bool false, .slice a1 (lets s.data.toList).length c1, .bool ok, .func (.func 17) #[] #[.pointer (some ⟨w1.heap.size, 0, none⟩)], .pointer (some ⟨w1.heap.size + 1, 0, none⟩), .int .i32 (x : Int), undef, .string s, .int .i64 (s.size : Int), .bool false, .tuple #[.slice a1 (lets s.data.toList).length c1, .bool ok], .string s, .tuple #[.slice a1 (lets s.data.toList).length c1, .bool ok], .slice a1 (lets s.data.toList).length c1, .bool ok, .string s, .func (.func 17) #[] #[.pointer (some ⟨w1.heap.size, 0, none⟩)], .func (.func 17) #[] #[.pointer (some ⟨w1.heap.size, 0, none⟩)], .bool false, .int .i64 most, .int .u64 (u : Int), .int .u64 ((u : Int) % 3001), .int .i64 (m : Int), .func (.func 17) #[] #[.pointer (some ⟨w1.heap.size, 0, none⟩)], .int .i32 (x : Int), undef, undef, undef, undef, undef, undef, undef, undef, undef, undef, undef, undef, undef, undef, undef, undef, undef, undef, undef, undef, undef, undef, undef, undef, undef, undef, undef, undef, undef, undef, undef, undef, undef, undef, undef, undef, undef, undef, undef, undef, undef, undef, undef, undef, undef, undef, undef], defers := [] }) ?assign ?body ?done ?stop
  case assign =>
    intro l x V K hK
    gi_wp2
    exact hK
  case body =>
    rintro l pre x V ⟨⟨⟨v, hv, hrow, _⟩, hpl⟩, hB⟩ hlt
    obtain ⟨sa, sc, rfl⟩ : ∃ a cap, v = .slice a pre.length cap := by
      obtain ⟨_, ⟨rfl, h⟩ | ⟨g, cap, cur, rfl, _⟩⟩ := hrow
      · exact ⟨none, 0, by rw [h]⟩
      · exact ⟨_, cap, rfl⟩
    have hc := hv.cell
    have bMV : Boxed V w.heap.size 3 (.int .i64 (m : Int)) := (hB.block w.heap.size (by omega)).trans bM0
    have hcM := bMV.cell
    have hz := hB.size
    have h3 : w1.heap.size + 1 ≤ V.heap.size := by have := HZ.out; omega
    by_cases hb : pre.length = m
    · have hbb : ((pre.length : Int) == (m : Int)) = true := by simp; omega
      gi_wp2_with fail
      exact ⟨KeepsFrom.refl _ _, ⟨rfl, by rw [List.dropLast_concat]; exact hb⟩, ⟨_, hv, by rw [List.dropLast_concat]; exact hrow, trivial⟩, hB⟩
    · have hbb : ((pre.length : Int) == (m : Int)) = false := by simp; omega
      gi_wp2_with (gi_at_builtin; refine wpListIn_append_own _ rfl _ _ 22 rfl (w1.heap.size + 1) 21 i0 (.int .i32 0) 1 4 Tryd.underlying22 hi hz0 hz1 hz2 rfl (by decide) _ _ _ rfl (hrow.alloc _) ⟨V.heap.size, 0, none⟩ 1 1 [.int .i32 (x : Int)] rfl rfl (cell_one_new _ _ _) (by simp [Value.oneCell']) (by unfold maxLen; omega) (by omega) (by simp; omega) ?_; intro v' w2 hown' hgrow _; obtain ⟨g', cap', rfl⟩ := ownsRow_succ hown'; obtain ⟨hv1, hv2, hr2, hk2, hb2⟩ := hv.appended (by decide) hrow h3 (Nat.le_refl _) hown' hgrow; have hc1 := hv1.cell; have hf1 := hv1.frozen)
      exact ⟨hk2.from _, hb2, ⟨⟨_, hv2, by rw [rcells_snoc, List.length_append]; exact hr2, trivial⟩, by rw [List.length_append]; simp; omega⟩, hB.trans hb2⟩
  case stop =>
    rintro D c l V hD hSp ⟨⟨rfl, hll⟩, ⟨v, hv, hrow, _⟩, hB⟩ hK
    obtain ⟨R, hR, hrowR⟩ : ∃ R, R = (lets s.data.toList).take m ∧ Runes V (w1.heap.size + 1) v R := ⟨l.dropLast, prefix_take hSp hll, hrow⟩
    have hDl : D < V.heap.size := (Array.getElem?_eq_some_iff.1 hK).1
    have bMV : Boxed V w.heap.size 3 (.int .i64 (m : Int)) := (hB.block w.heap.size (by omega)).trans bM0
    have hcM := bMV.cell
    have hcL := hv.cell
    have hBw : Below w.heap.size w V := hB0.trans (hB.mono (by omega))
    have TV : Tabs V := T.kept hBw tl.1 tl.2
    obtain ⟨a2, c2, rfl, hat2⟩ := hrowR.at_
    have HAT2 := Lib.hid hat2
    have HBW := Lib.hid hBw
    have HR := Lib.hid hR
    have hmn : min (m : Int) ((lets s.data.toList).length : Int) = (R.length : Int) := by rw [hR, List.length_take]; omega
    have hRL : R.length ≤ (lets s.data.toList).length := by rw [hR, List.length_take]; omega
    clear hat2 hR hrowR hBw
    gi_wp2_with (refine ⟨trivial, ?_⟩; gi_at_call 8; refine (callsIn_wide.2 (CV.out _ TV)).mono ?_; rintro e V1 ⟨rfl, b3⟩; have hcL1 := (b3.cell (p := ⟨w1.heap.size + 1, 0, none⟩) hv.lt).trans hv.cell)
    have b3z := b3.size
    have T1 : Tabs V1 := TV.below b3 (Nat.le_refl _)
    gi_loopw [10] (fun iv wr => ∃ i : Nat, iv = .int .i64 (i : Int) ∧ i ≤ R.length ∧ Below V1.heap.size V1 wr) (fun iv _ => R.length - (intOf iv).toNat)
    case atStart => exact ⟨0, rfl, Nat.zero_le _, Below.refl _ _⟩
    case round =>
      obtain ⟨i, rfl, hiR, hbel⟩ := hrel
      have hcL2 := (hbel.cell (p := ⟨w1.heap.size + 1, 0, none⟩) (by have := hv.lt; show w1.heap.size + 1 < _; omega)).trans hcL1
      by_cases hlt : i < R.length
      · obtain ⟨g2, rfl, ⟨hg3, hg2⟩, hc2⟩ := HAT2.out i hlt
        obtain ⟨g1, rfl, hg1, hc1⟩ := HAT1.out i (by omega)
        have hd2 := (hbel.cell (p := ⟨g2, i, none⟩) (by show g2 < _; omega)).trans ((b3.cell (p := ⟨g2, i, none⟩) hg2).trans hc2)
        have hd1 := (hbel.cell (p := ⟨g1, i, none⟩) (by show g1 < _; omega)).trans ((b3.cell (p := ⟨g1, i, none⟩) (by show g1 < _; omega)).trans ((hB.cell (p := ⟨g1, i, none⟩) (by show g1 < _; omega)).trans hc1))
        have hx : R[i] = (lets s.data.toList)[i]'(by omega) := by have h := HR.out; subst h; exact List.getElem_take
        rw [hx] at hd2
        generalize (lets s.data.toList)[i]'(by omega) = x at hd1 hd2
        have hiC : i < (lets s.data.toList).length := by omega
        clear hc1 hc2 hx hcL hcM hcL1
        gi_wp2_with fail
        refine wpIn_wide.2 ?_
        go_quiet (fail)
        gi_wp2_with fail
        go_roundw
        case rel => exact ⟨i + 1, by go_num, by omega, ⟨hbel.os, hbel.tape, hbel.output, hbel.size, hbel.block⟩⟩
        case measure => simp [intOf]; omega
      · have TR : Tabs wr := T1.below hbel (Nat.le_refl _)
        have hbz := hbel.size
        gi_wp2_with (refine ⟨trivial, ?_⟩; gi_at_call 8; refine (callsIn_wide.2 (CA.out _ TR)).mono ?_; rintro e V2 ⟨rfl, b4⟩; have T2 : Tabs V2 := TR.below b4 (Nat.le_refl _))
        gi_wp2_with (refine ⟨trivial, ?_⟩; gi_at_call 8; refine (callsIn_wide.2 (CF.out _ T2)).mono ?_; rintro e V3 ⟨rfl, b5⟩)
        have b4z := b4.size
        have bAll : Below V.heap.size V V3 := ((b3.trans (hbel.mono b3z)).trans (b4.mono (by omega))).trans (b5.mono (by omega))
        have hKV : V3.heap[D]? = some (.deferred (some [])) := (bAll.block D hDl).trans hK
        have hw0 := HBW.out.size
        have h5 := HZ.out
        refine ⟨by simp, .inl ⟨_, _, rfl, run_takeDeferred hKV, ?_⟩⟩
        exact ⟨_, results_tmp rfl _ _ _, rfl, below_put_p (HBW.out.trans (bAll.mono hw0)) (by omega) hKV _⟩
  case done =>
    rintro D ys V hD rfl ⟨⟨⟨v, hv, hrow, _⟩, hpl⟩, hB⟩ hK
    obtain ⟨R, hR, hrowR⟩ : ∃ R, R = (lets s.data.toList).take m ∧ Runes V (w1.heap.size + 1) v R := ⟨lets s.data.toList, (List.take_of_length_le hpl).symm, hrow⟩
    have hDl : D < V.heap.size := (Array.getElem?_eq_some_iff.1 hK).1
    have bMV : Boxed V w.heap.size 3 (.int .i64 (m : Int)) := (hB.block w.heap.size (by omega)).trans bM0
    have hcM := bMV.cell
    have hcL := hv.cell
    have hBw : Below w.heap.size w V := hB0.trans (hB.mono (by omega))
    have TV : Tabs V := T.kept hBw tl.1 tl.2
    obtain ⟨a2, c2, rfl, hat2⟩ := hrowR.at_
    have HAT2 := Lib.hid hat2
    have HBW := Lib.hid hBw
    have HR := Lib.hid hR
    have hmn : min (m : Int) ((lets s.data.toList).length : Int) = (R.length : Int) := by rw [hR, List.length_take]; omega
    have hRL : R.length ≤ (lets s.data.toList).length := by rw [hR, List.length_take]; omega
    clear hat2 hR hrowR hBw
    gi_wp2_with (refine ⟨trivial, ?_⟩; gi_at_call 8; refine (callsIn_wide.2 (CV.out _ TV)).mono ?_; rintro e V1 ⟨rfl, b3⟩; have hcL1 := (b3.cell (p := ⟨w1.heap.size + 1, 0, none⟩) hv.lt).trans hv.cell)
    have b3z := b3.size
    have T1 : Tabs V1 := TV.below b3 (Nat.le_refl _)
    gi_loopw [10] (fun iv wr => ∃ i : Nat, iv = .int .i64 (i : Int) ∧ i ≤ R.length ∧ Below V1.heap.size V1 wr) (fun iv _ => R.length - (intOf iv).toNat)
    case atStart => exact ⟨0, rfl, Nat.zero_le _, Below.refl _ _⟩
    case round =>
      obtain ⟨i, rfl, hiR, hbel⟩ := hrel
      have hcL2 := (hbel.cell (p := ⟨w1.heap.size + 1, 0, none⟩) (by have := hv.lt; show w1.heap.size + 1 < _; omega)).trans hcL1
      by_cases hlt : i < R.length
      · obtain ⟨g2, rfl, ⟨hg3, hg2⟩, hc2⟩ := HAT2.out i hlt
        obtain ⟨g1, rfl, hg1, hc1⟩ := HAT1.out i (by omega)
        have hd2 := (hbel.cell (p := ⟨g2, i, none⟩) (by show g2 < _; omega)).trans ((b3.cell (p := ⟨g2, i, none⟩) hg2).trans hc2)
        have hd1 := (hbel.cell (p := ⟨g1, i, none⟩) (by show g1 < _; omega)).trans ((b3.cell (p := ⟨g1, i, none⟩) (by show g1 < _; omega)).trans ((hB.cell (p := ⟨g1, i, none⟩) (by show g1 < _; omega)).trans hc1))
        have hx : R[i] = (lets s.data.toList)[i]'(by omega) := by have h := HR.out; subst h; exact List.getElem_take
        rw [hx] at hd2
        generalize (lets s.data.toList)[i]'(by omega) = x at hd1 hd2
        have hiC : i < (lets s.data.toList).length := by omega
        clear hc1 hc2 hx hcL hcM hcL1
        gi_wp2_with fail
        refine wpIn_wide.2 ?_
        go_quiet (fail)
        gi_wp2_with fail
        go_roundw
        case rel => exact ⟨i + 1, by go_num, by omega, ⟨hbel.os, hbel.tape, hbel.output, hbel.size, hbel.block⟩⟩
        case measure => simp [intOf]; omega
      · have TR : Tabs wr := T1.below hbel (Nat.le_refl _)
        have hbz := hbel.size
        gi_wp2_with (refine ⟨trivial, ?_⟩; gi_at_call 8; refine (callsIn_wide.2 (CA.out _ TR)).mono ?_; rintro e V2 ⟨rfl, b4⟩; have T2 : Tabs V2 := TR.below b4 (Nat.le_refl _))
        gi_wp2_with (refine ⟨trivial, ?_⟩; gi_at_call 8; refine (callsIn_wide.2 (CF.out _ T2)).mono ?_; rintro e V3 ⟨rfl, b5⟩)
        have b4z := b4.size
        have bAll : Below V.heap.size V V3 := ((b3.trans (hbel.mono b3z)).trans (b4.mono (by omega))).trans (b5.mono (by omega))
        have hKV : V3.heap[D]? = some (.deferred (some [])) := (bAll.block D hDl).trans hK
        have hw0 := HBW.out.size
        have h5 := HZ.out
        refine ⟨by simp, .inl ⟨_, _, rfl, run_takeDeferred hKV, ?_⟩⟩
        exact ⟨_, results_tmp rfl _ _ _, rfl, below_put_p (HBW.out.trans (bAll.mono hw0)) (by omega) hKV _⟩
theorem letters_law (s : ByteArray) (most : Int) (w : World) (hs : s.size ≤ maxLen) (T : Tabs w) :
    Calls Tryd.prog 3 #[.string s, .int .i64 most] w fun e W' => e = .returned (.bool true) ∧ Below w.heap.size w W' := by
  unfold maxLen at hs
  by_cases hl : 3000 < s.size
  · have hl' : (3000 : Int) < (s.size : Int) := by omega
    go_enter Tryd.func3, Tryd.ntmps3
    go_wp2_with fail
    go_ret
    exact ⟨rfl, (Below.refl _ _).alloc (Nat.le_refl _) _⟩
  · exact callsIn_wide.1 (letters_in s most hl w T)
end Go.Proofs.YtmahdlaifbbjgaaDoor.CsLetLaw
