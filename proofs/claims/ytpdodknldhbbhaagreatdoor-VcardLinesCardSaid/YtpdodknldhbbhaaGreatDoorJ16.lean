/-
Bytes as letters: the program's Encode answers what the plain function 'enc' says. Conditions: the text has at most 2^36 bytes.
-/
import Derived.Test.YtpdodknldhbbhaaGreatDoorJ14
import Derived.Test.YtpdodknldhbbhaaGreatDoorJ15
import Derived.Test.YtpdodknldhbbhaaGreatDoorJ11
import Derived.Test.YtpdodknldhbbhaaGreatDoorJ03
import Derived.Maps.AppendAt
import Derived.Deep.AppendLies
namespace Go.Proofs.YtpdodknldhbbhaaGreatDoor.Sx
set_option maxRecDepth 100000
open Go.RowKit Go.Shelf
attribute [local go_sem] Oper.semAt_some

/-- 'copy(dst, s)', s a string, dst in a block of cells: what fits goes over. -/
theorem run_copy_str {P : Program} (w : World) (dT sT ty elem : TypeId) (b o dLen dCap m : Nat) (t : ByteArray)
    (hu : P.underlying dT = some (.slice elem)) (hz : ∀ w, (Go.sizeOf elem).run P w = .ok 1 w) (hm : Nat.min t.size dLen = m)
    (hc : ∀ j, j < m → (w.cell? ⟨b, o + j, none⟩).isSome = true) (hf : ∀ j, j < m → w.frozen? ⟨b, o + j, none⟩ = false) :
    (Builtin.copy_ #[dT, sT] ty #[.slice (some ⟨b, o, none⟩) dLen dCap, .string t]).run P w = .ok (.int .i64 (m : Int)) (w.setCells b o ((t.data.toList.take m).map fun x => Value.int .u8 (x.toNat : Int))) := by
  have hmt : m ≤ t.size := by rw [← hm]; exact Nat.min_le_left _ _
  have hl : ((t.data.toList.take m).map fun x => Value.int .u8 (x.toNat : Int)).length = m := by rw [List.length_map, List.length_take, list_size]; omega
  have hst := run_storeCells_cells (P := P) b o ((t.data.toList.take m).map fun x => Value.int .u8 (x.toNat : Int)) 0 w (by rw [hl]; simpa using hc) (by rw [hl]; simpa using hf) (by
    intro v hv
    obtain ⟨x, _, rfl⟩ := List.mem_map.1 hv
    rfl)
  rw [List.map_take] at hst
  simp [Builtin.copy_, run_underlying hu, Builtin.lenOf, Builtin.firstCells, hz, hm]
  rw [hst]
  rfl

theorem letters_of (l : List UInt8) (w : World) :
    Calls Tryz.prog 111 #[three l] w fun e w' => ∃ p q r t, Hid (four l = [p, q, r, t]) ∧ e = .returned (.agg #[.int .u8 (p.toNat : Int), .int .u8 (q.toNat : Int), .int .u8 (r.toNat : Int), .int .u8 (t.toNat : Int)]) ∧ Below w.heap.size w w' := by
  unfold three four
  have h := lettersOf_any (l.getD 0 0) (l.getD 1 0) (l.getD 2 0) w
  obtain ⟨p, hp⟩ : ∃ p, lt ((l.getD 0 0).toNat / 4) = p := ⟨_, rfl⟩
  obtain ⟨q, hq⟩ : ∃ p, lt (((l.getD 0 0).toNat % 16 * 16 + (l.getD 1 0).toNat / 16) % 64) = p := ⟨_, rfl⟩
  obtain ⟨r, hr⟩ : ∃ p, lt (((l.getD 1 0).toNat % 64 * 4 + (l.getD 2 0).toNat / 64) % 64) = p := ⟨_, rfl⟩
  obtain ⟨t, ht⟩ : ∃ p, lt ((l.getD 2 0).toNat % 64) = p := ⟨_, rfl⟩
  rw [hp, hq, hr, ht] at h
  rw [hp, hq, hr, ht]
  exact h.mono fun _ _ ⟨he, hb⟩ => ⟨p, q, r, t, Lib.hid rfl, he, hb⟩
theorem pad_cells (m : Nat) (hm : m ≤ 2) : (((⟨#[61, 61]⟩ : ByteArray).data.toList.take m).map fun x => Value.int .u8 (x.toNat : Int)) = List.replicate m (.int .u8 61) := by
  match m, hm with
  | 0, _ => rfl
  | 1, _ => rfl
  | 2, _ => rfl
/-- The pads laid over the last letters: at place o, of m of them. -/
theorem copyPad (w : World) (o m : Nat) (ho : o + m = 4) (hm : m ≤ 2) (p q r t : UInt8) (W : World) (hW : W = w.alloc (.cells #[.int .u8 (p.toNat : Int), .int .u8 (q.toNat : Int), .int .u8 (r.toNat : Int), .int .u8 (t.toNat : Int)] 136)) :
    (Builtin.copy_ #[60, 9] 3 #[.slice (some ⟨w.heap.size, o, none⟩) m m, .string ⟨#[61, 61]⟩]).run Tryz.prog W = .ok (.int .i64 (m : Int)) (W.setCells w.heap.size o (List.replicate m (.int .u8 61))) := by
  have hg : W.heap[w.heap.size]? = some (.cells #[.int .u8 (p.toNat : Int), .int .u8 (q.toNat : Int), .int .u8 (r.toNat : Int), .int .u8 (t.toNat : Int)] 136 (0, 0)) := by
    subst hW; exact heap_alloc_new w _
  have h := run_copy_str (P := Tryz.prog) W 60 9 3 5 w.heap.size o m m m ⟨#[61, 61]⟩ Tryz.underlying60 size8 (by show Nat.min 2 m = m; exact Nat.min_eq_right hm)
    (fun j hj => by rw [cell_of_row W w.heap.size (o + j) _ _ _ hg]; match o + j, (by omega : o + j < 4) with | 0, _ => rfl | 1, _ => rfl | 2, _ => rfl | 3, _ => rfl)
    (fun j hj => by simp [World.frozen?, hg])
  rw [h, pad_cells m hm]
theorem copyNone (b : Nat) (W : World) :
    (Builtin.copy_ #[60, 9] 3 #[.slice (some ⟨b, 0, none⟩) 0 0, .string ⟨#[61, 61]⟩]).run Tryz.prog W = .ok (.int .i64 0) W :=
  run_copy_str (P := Tryz.prog) W 60 9 3 5 b 0 0 0 0 ⟨#[61, 61]⟩ Tryz.underlying60 size8 rfl (fun j hj => absurd hj (Nat.not_lt_zero j)) (fun j hj => absurd hj (Nat.not_lt_zero j))
theorem boxed_past {W w1 : World} {B Bo n₀ k : Nat} {x v v' : Value} {t : TypeId} {xs : List Value} {tmp : Obj} (h : Boxed W B t x) (ht : t ≠ 5) (hne : B ≠ Bo)
    (hrow : W.ownsRow n₀ 5 1 v k xs) (hgrow : (W.alloc tmp).grownBy w1 v.ownBlock) : Boxed (w1.setCell ⟨Bo, 0, none⟩ v') B t x :=
  (((h.alloc tmp).kept hgrow (h.not_row ht hrow))).kept (grownBy_setCell' w1 Bo v') (by simpa using hne)
theorem app4 {w2 W4 : World} {base Bo : Nat} {v : Value} {l : List UInt8} (x0 x1 x2 x3 : UInt8) (hv : Boxed w2 Bo 60 v) (hrow : Bytes.Has w2 base v l) (hbase : base ≤ w2.heap.size) (hBo : base ≤ Bo) (hl : l.length ≤ 274877906944)
    (hW : W4 = (w2.alloc (.cells #[.int .u8 (x0.toNat : Int), .int .u8 (x1.toNat : Int), .int .u8 (x2.toNat : Int), .int .u8 (x3.toNat : Int)] 136)).drew) :
    ∃ g cap w5, (Builtin.append_ #[60, 60] 60 #[v, .slice (some ⟨w2.heap.size, 0, none⟩) 4 4]).run Tryz.prog W4 = .ok (.slice (some ⟨g, 0, none⟩) (l.length + 4) cap) w5 ∧ W4.cell? ⟨Bo, 0, none⟩ = some v ∧ w5.cell? ⟨Bo, 0, none⟩ = some v ∧ w5.frozen? ⟨Bo, 0, none⟩ = false ∧
      Hid (Boxed (w5.setCell ⟨Bo, 0, none⟩ (.slice (some ⟨g, 0, none⟩) (l.length + 4) cap)) Bo 60 (.slice (some ⟨g, 0, none⟩) (l.length + 4) cap) ∧ Bytes.Has (w5.setCell ⟨Bo, 0, none⟩ (.slice (some ⟨g, 0, none⟩) (l.length + 4) cap)) base (.slice (some ⟨g, 0, none⟩) (l.length + 4) cap) (l ++ [x0, x1, x2, x3]) ∧
        KeepsOthers w2 (w5.setCell ⟨Bo, 0, none⟩ (.slice (some ⟨g, 0, none⟩) (l.length + 4) cap)) ∧ Below base w2 (w5.setCell ⟨Bo, 0, none⟩ (.slice (some ⟨g, 0, none⟩) (l.length + 4) cap)) ∧
        ∀ D t x, t ≠ 5 → D ≠ Bo → Boxed w2 D t x → Boxed (w5.setCell ⟨Bo, 0, none⟩ (.slice (some ⟨g, 0, none⟩) (l.length + 4) cap)) D t x) := by
  subst hW
  obtain ⟨i0, hi, hz0, hz1, hz2⟩ := info_parts Bytes.infoByte
  obtain ⟨g, cap, w5, hrun, hown, hgrow, _, _⟩ := run_append_lies (P := Tryz.prog) (w := (w2.alloc (.cells #[.int .u8 (x0.toNat : Int), .int .u8 (x1.toNat : Int), .int .u8 (x2.toNat : Int), .int .u8 (x3.toNat : Int)] 136)).drew) 60 60 base 5 i0 (.int .u8 0) 1 1 Tryz.underlying60 hi hz0 hz1 hz2 rfl (by decide) v l.length (Bytes.cells l) (hrow.alloc _).drew
    ⟨w2.heap.size, 0, none⟩ 4 4 [.int .u8 (x0.toNat : Int), .int .u8 (x1.toNat : Int), .int .u8 (x2.toNat : Int), .int .u8 (x3.toNat : Int)] rfl (World.news_of_block (cs := #[.int .u8 (x0.toNat : Int), .int .u8 (x1.toNat : Int), .int .u8 (x2.toNat : Int), .int .u8 (x3.toNat : Int)]) (t := 136) (fr := (0, 0)) (heap_alloc_new w2 _)) (by simp [Value.oneCell']) (by decide) (by unfold maxLen; omega) (by omega) (by show base ≤ (w2.alloc _).heap.size; simp; omega) _ rfl
  have hgrow' : (w2.alloc (.cells #[.int .u8 (x0.toNat : Int), .int .u8 (x1.toNat : Int), .int .u8 (x2.toNat : Int), .int .u8 (x3.toNat : Int)] 136)).grownBy w5 v.ownBlock := by obtain ⟨a1, a2, a3, a4, a5⟩ := hgrow; exact ⟨a1, a2, a3, a4, a5⟩
  obtain ⟨h1, h2, h3, h4, h5⟩ := hv.appended (by decide) hrow hbase hBo hown hgrow'
  exact ⟨g, cap, w5, hrun, (hv.alloc _).cell, h1.cell, h1.frozen, Lib.hid ⟨h2, Bytes.Has.laid (r := [x0, x1, x2, x3]) rfl h3, h4, h5, fun D t x ht hD hb => boxed_past hb ht hD hrow hgrow'⟩⟩
/-- An append as a step of a region that draws its order, inside a fence. -/
theorem stepIn_append {F : Fence} {n : Nat} {P : Program} {ops : Array Oper} {o : Oper} {a : Act} {w : World} {K : Act → World → Prop} {Q : Exit → Act → World → Prop} {E : Prop} (hgd : o.guard = none) (s x : Operand) (t : TypeId)
    (hop : o.op = Op.call { callee := Callee.builtin Builtin.append, args := #[s, x], argTypes := #[t, t] }) {v u r : Value} {w' : World} (hs : a.eval s = v) (hx : a.eval x = u)
    (hrun : (Builtin.append_ #[t, t] o.type #[v, u]).run P w = .ok r w') (hK : K (a.put o.dst r) w') :
    if Region.wanted o (yielded ops a.tmps) = true then Oper.wpIn F n P o a w K Q else E := by
  have hw : Region.wanted o (yielded ops a.tmps) = true := by simp [Region.wanted, hgd]
  rw [if_pos hw]
  unfold Oper.wpIn
  refine ⟨?_, ?_⟩
  · simp [Oper.about, hop, resolve, Target.leads, Sem.run_pure]
  · rw [Oper.semAt_plain F _ _ (by rw [hop]; intro c hc'; cases hc')]
    simp [execOp, hop, resolve, invoke, builtin, hs, hx, hrun, Result.andThen]
    exact hK
theorem keeps_below {W W' : World} (h : Below W.heap.size W W') : KeepsOthers W W' :=
  ⟨h.size, fun k _ hk _ => (h.block k (Array.getElem?_eq_some_iff.1 hk).1).trans hk⟩
/-- What has come as letters. -/
def letters {α : Type} {P : α → Prop} (pre : List (Subtype P)) (f : α → List UInt8) : List UInt8 := (pre.map fun x => f x.1).flatten

theorem ended {P : List UInt8 → Prop} {V W0 w2 w' : World} {B : Nat} {s : ByteArray} {n : Int} {pre : List (Subtype P)} {x : Subtype P} {l : List UInt8} {v' : Value} (hB : Below B W0 V) (hT : Two V (B + 1) s n) (hb : Below V.heap.size V w2)
    (hq : Hid (letters (pre ++ [x]) quad = l))
    (hA : Hid (Boxed w' B 60 v' ∧ Bytes.Has w' B v' l ∧ KeepsOthers w2 w' ∧ Below B w2 w' ∧ ∀ D t x, t ≠ 5 → D ≠ B → Boxed w2 D t x → Boxed w' D t x)) (hz : B ≤ V.heap.size) :
    KeepsFrom W0.heap.size V w' ∧ KeepsTwo (B + 1) s n V w' ∧ ((∃ v, Boxed w' B 60 v ∧ w'.ownsRow B 5 1 v (letters (pre ++ [x]) quad).length (Bytes.cells (letters (pre ++ [x]) quad)) ∧ True) ∧ Two w' (B + 1) s n) ∧ Below B W0 w' := by
  obtain ⟨h1, h2, h3, h4, h5⟩ := hA.out
  have hk : KeepsTwo (B + 1) s n V w' := fun h => ⟨h5 _ _ _ (by decide) (by omega) ((hb.block _ h.1.lt).trans h.1), h5 _ _ _ (by decide) (by omega) ((hb.block _ h.2.lt).trans h.2)⟩
  refine ⟨((keeps_below hb).trans h3).from _, hk, ⟨⟨_, h1, ?_, trivial⟩, hk hT⟩, hB.trans ((hb.mono hz).trans h4)⟩
  rw [hq.out]; exact h2

set_option maxHeartbeats 2000000 in
theorem encode_in (s : ByteArray) (hs : s.size ≤ 68719476736) (w : World) :
    CallsIn Fence.wide 5 Tryz.prog 64 #[.string s] w fun e W' => e = .returned (.string ⟨(enc s.data.toList).toArray⟩) ∧ Below w.heap.size w W' := by
  obtain ⟨i0, hi, hz0, hz1, hz2⟩ := info_parts Bytes.infoByte
  refine callsIn_of_wp_marks Tryz.func64 rfl trivial ?_ rfl
  simp only [Tryz.ntmps64, List.size_toArray, List.length_cons, List.length_nil, Nat.reduceAdd, Nat.reduceSub, Array.replicate_succ, Array.replicate_zero, List.push_toArray, List.append_toArray, List.nil_append, List.cons_append]
  gi_wp2_with (refine ⟨trivial, ?_⟩; gi_at_call 110; refine (callsIn_wide.2 (lines_any s 3 _)).mono ?_; rintro e w' ⟨rfl, rfl⟩)
  have bO := Boxed.new w 60 (.slice none 0 0)
  have hT := lines_two s 3 (w.alloc (.cells #[.slice none 0 0] 60))
  simp only [World.size_alloc] at hT
  have bO0 := (bO.alloc (.cells #[.string s] 9)).alloc (.cells #[.int .i64 3] 3)
  have hB0 : Below w.heap.size w (((w.alloc (.cells #[.slice none 0 0] 60)).alloc (.cells #[.string s] 9)).alloc (.cells #[.int .i64 3] 3)) := (((Below.refl _ w).alloc (Nat.le_refl _) _).alloc (by simp) _).alloc (by simp; omega) _
  have hsz : (((w.alloc (.cells #[.slice none 0 0] 60)).alloc (.cells #[.string s] 9)).alloc (.cells #[.int .i64 3] 3)).heap.size = w.heap.size + 1 + 1 + 1 := by simp
  clear bO
  generalize hW0 : ((w.alloc (.cells #[.slice none 0 0] 60)).alloc (.cells #[.string s] 9)).alloc (.cells #[.int .i64 3] 3) = W0 at *
  clear hW0
  have HZ := Lib.hid (show W0.heap.size = w.heap.size + 3 by omega)
  clear hsz
  have hsz3 := cut_size (k := 3) (by decide) s.data.toList
  have hcl := cut_length (k := 3) (by decide) s.data.toList
  have hw3 : wid 3 = 3 := by decide
  have hstops := lines_stops_mem (5 - 1) (by omega) (w.heap.size + 1) s 3 (by omega) (KeepsTwo (w.heap.size + 1) s 3) (fun W W' h => h) W0 hT
  rw [hw3] at hstops
  rw [list_size] at hcl
  have HS3 := Lib.hid hsz3
  have HCL := Lib.hid hcl
  clear hsz3 hw3 hcl
  refine wpIn_rangeFunc_ownG rfl (by omega) (gf := 149) (lb := #[.pointer (some ⟨w.heap.size + 1, 0, none⟩), .pointer (some ⟨w.heap.size + 1 + 1, 0, none⟩)]) rfl trivial (enters_of Tryz.func149 (by kernel_rfl) rfl)
    hstops KeepsTwo.t (fun W l o o' _ hl hc _ => KeepsTwo.b W l o o' hl hc) (Below.refl _ _) (fun _ => rfl)
    (fun pre V => ((∃ v, Boxed V w.heap.size 60 v ∧ V.ownsRow w.heap.size 5 1 v (letters pre quad).length (Bytes.cells (letters pre quad)) ∧ True) ∧ Two V (w.heap.size + 1) s 3) ∧ Below w.heap.size W0 V)
    (fun _ _ _ => False)
    (OwnFrom.and (OwnFrom.and (Own.from (holdsRow_own w.heap.size w.heap.size 60 5 1 (fun pre => (letters pre quad).length) (fun pre => Bytes.cells (letters pre quad)) (fun _ _ => True)) _) (OwnFrom.and (Own.from (boxed_own _ _ _) _) (Own.from (boxed_own _ _ _) _))) (ownFrom_below (by rw [HZ.out]; omega) (by rw [HZ.out]; omega)))
    (fun _ _ _ _ _ hs _ _ => hs)
    ⟨⟨⟨_, bO0, World.ownsRow_nil _ _ _ _, trivial⟩, hT⟩, Below.refl _ _⟩
    (fun x => { tmps := #[.string s, undef, .string ⟨#[]⟩, .pointer (some ⟨w.heap.size, 0, none⟩), .string ⟨x.1.toArray⟩, undef, .string s, .func (.func 149) #[] #[.pointer (some ⟨w.heap.size + 1, 0, none⟩), .pointer (some ⟨w.heap.size + 1 + 1, 0, none⟩)], .string ⟨x.1.toArray⟩, undef, undef, undef, undef, undef, undef, undef, undef, undef, undef, undef, undef, undef], defers := [] }) ?assign ?body ?done ?stop
  case assign =>
    intro l x V K hK
    gi_wp2
    exact hK
  case stop =>
    rintro D c l V hD _ h _
    exact h.elim
  case done =>
    rintro D ys V hD hys ⟨⟨⟨v, hv, hrow, _⟩, hT2⟩, hB⟩ hK
    have hc := hv.cell
    have tV := Bytes.Has.text (w := V) hrow
    have HE := Lib.hid (show letters ys quad = enc s.data.toList by have h := congrArg (fun l => (l.map quad).flatten) hys; simp only [List.map_map] at h; exact h)
    rw [HE.out] at tV
    clear hrow hys
    gi_wp2
    refine ⟨by simp, .inl ⟨_, _, rfl, run_takeDeferred hK, ?_⟩⟩
    exact ⟨_, results_tmp rfl _ _ _, rfl, (hB0.trans (hB.mono (by have := HZ.out; omega))).grown (grownBy_putObj' _ _ _) (by have := hB.size; have := HZ.out; omega) (fun k e => by cases e; have := HZ.out; omega)⟩
  case body =>
    rintro l pre ⟨x, hx⟩ V ⟨⟨⟨v, hv, hrow, _⟩, hT2⟩, hB⟩ hlt
    have hxl := HS3.out x hx
    obtain ⟨sa, sc, rfl⟩ := Bytes.Has.shape hrow
    have hc := hv.cell
    have hz := hB.size
    have C3 := Lib.hid (fun V => threeOf_any x hxl.2 V)
    have hn := ulen (u := x) rfl
    have hlc : x.length = 1 ∨ x.length = 2 ∨ x.length = 3 := by omega
    have hd : 1 ≤ 5 - 1 - 1 := by omega
    have HLL := Lib.hid (show (letters pre quad).length ≤ 274877906944 by
      have h1 := quads_length (l := pre.map (·.1)) (fun y hy => by obtain ⟨z, _, rfl⟩ := List.mem_map.1 hy; exact HS3.out z.1 z.2)
      rw [List.map_map, List.length_map] at h1
      have h2 := HCL.out
      show ((pre.map fun x => quad x.1).flatten).length ≤ _
      have h3 : ((pre.map fun x => quad x.1).flatten).length = 4 * pre.length := h1
      omega)
    have hmx : Tryz.prog.follows .mixedOrders = true := by kernel_rfl
    rcases hlc with h1 | h1 | h1
    · rw [h1] at hn
      have H1 := Lib.hid h1
      clear h1 hxl
      dsimp only
      gi_wp2_with (first
        | (refine ⟨trivial, ?_⟩; gi_at_call 112; refine (CallsIn.inRound l (callsIn_wide.2 (C3.out _))).mono ?_; rintro e w1 ⟨rfl, b1⟩)
        | (refine ⟨trivial, ?_⟩; gi_at_call 111; refine (CallsIn.inRound l (callsIn_wide.2 (letters_of x _))).mono ?_; rintro e w2 ⟨p, q, r, t, hq, rfl, b2⟩; have hcp := copyPad w2 2 2 rfl (by omega) p q r t _ rfl; simp only [List.replicate, World.setCells] at hcp))
      have hqx := Lib.hid (show letters (pre ++ [⟨x, hx⟩]) quad = letters pre quad ++ [p, q, 61, 61] by unfold letters; rw [List.map_append, List.flatten_append]; show _ ++ (quad x ++ []) = _; rw [List.append_nil]; unfold quad; rw [hq.out, H1.out]; rfl)
      clear hcp
      have b3 := b1.trans (b2.mono b1.size)
      have hv2 : Boxed w2 w.heap.size 60 _ := (b3.block w.heap.size hv.lt).trans hv
      have hc2 := hv2.cell
      obtain ⟨g, cap, w5, hrun, hc4, hc5, hf5, hA⟩ := app4 p q 61 61 hv2 (Bytes.row_below hrow b3) (by have := HZ.out; have := b3.size; omega) (Nat.le_refl _) HLL.out rfl
      have hlt2 := hv2.lt
      try simp only [show (((61 : UInt8).toNat : Nat) : Int) = 61 from rfl] at hrun
      clear hc4
      refine wpIn_region_any hmx ?_
      change wpAnyIn _ _ _ _ _ _ _ _ _ (World.drew _)
      refine wpAnyIn_ready (rs := [0, 1]) (by kernel_rfl) (by simp) ?_
      refine AllReadyIn.cons rfl (fun K hK => ?_) (AllReadyIn.cons rfl (fun K hK => ?_) AllReadyIn.nil)
      · go_simp
        refine hK _ _ ?_
        clear hK K
        refine wpAnyIn_ready (rs := [1]) (by kernel_rfl) (by simp) ?_
        refine AllReadyIn.cons rfl (fun K hK => ?_) AllReadyIn.nil
        go_simp
        refine hK _ _ ?_
        clear hK K
        refine wpAnyIn_ready (rs := [2]) (by kernel_rfl) (by simp) ?_
        refine AllReadyIn.cons rfl (fun K hK => ?_) AllReadyIn.nil
        refine stepIn_append rfl _ _ _ rfl rfl rfl hrun (hK _ _ ?_)
        clear hK K
        refine wpAnyIn_ready (rs := [3]) (by kernel_rfl) (by simp) ?_
        refine AllReadyIn.cons rfl (fun K hK => ?_) AllReadyIn.nil
        go_simp
        refine hK _ _ ?_
        clear hK K
        refine wpAnyIn_done (by kernel_rfl) ?_ _
        clear hrun hc2 hc5 hf5
        gi_wp2_with fail
        exact ended hB hT2 b3 hqx hA (by have := HZ.out; omega)
      · go_simp
        refine hK _ _ ?_
        clear hK K
        refine wpAnyIn_ready (rs := [0]) (by kernel_rfl) (by simp) ?_
        refine AllReadyIn.cons rfl (fun K hK => ?_) AllReadyIn.nil
        go_simp
        refine hK _ _ ?_
        clear hK K
        refine wpAnyIn_ready (rs := [2]) (by kernel_rfl) (by simp) ?_
        refine AllReadyIn.cons rfl (fun K hK => ?_) AllReadyIn.nil
        refine stepIn_append rfl _ _ _ rfl rfl rfl hrun (hK _ _ ?_)
        clear hK K
        refine wpAnyIn_ready (rs := [3]) (by kernel_rfl) (by simp) ?_
        refine AllReadyIn.cons rfl (fun K hK => ?_) AllReadyIn.nil
        go_simp
        refine hK _ _ ?_
        clear hK K
        refine wpAnyIn_done (by kernel_rfl) ?_ _
        clear hrun hc2 hc5 hf5
        gi_wp2_with fail
        exact ended hB hT2 b3 hqx hA (by have := HZ.out; omega)
    · rw [h1] at hn
      have H1 := Lib.hid h1
      clear h1 hxl
      dsimp only
      gi_wp2_with (first
        | (refine ⟨trivial, ?_⟩; gi_at_call 112; refine (CallsIn.inRound l (callsIn_wide.2 (C3.out _))).mono ?_; rintro e w1 ⟨rfl, b1⟩)
        | (refine ⟨trivial, ?_⟩; gi_at_call 111; refine (CallsIn.inRound l (callsIn_wide.2 (letters_of x _))).mono ?_; rintro e w2 ⟨p, q, r, t, hq, rfl, b2⟩; have hcp := copyPad w2 3 1 rfl (by omega) p q r t _ rfl; simp only [List.replicate, World.setCells] at hcp))
      have hqx := Lib.hid (show letters (pre ++ [⟨x, hx⟩]) quad = letters pre quad ++ [p, q, r, 61] by unfold letters; rw [List.map_append, List.flatten_append]; show _ ++ (quad x ++ []) = _; rw [List.append_nil]; unfold quad; rw [hq.out, H1.out]; rfl)
      clear hcp
      have b3 := b1.trans (b2.mono b1.size)
      have hv2 : Boxed w2 w.heap.size 60 _ := (b3.block w.heap.size hv.lt).trans hv
      have hc2 := hv2.cell
      obtain ⟨g, cap, w5, hrun, hc4, hc5, hf5, hA⟩ := app4 p q r 61 hv2 (Bytes.row_below hrow b3) (by have := HZ.out; have := b3.size; omega) (Nat.le_refl _) HLL.out rfl
      have hlt2 := hv2.lt
      try simp only [show (((61 : UInt8).toNat : Nat) : Int) = 61 from rfl] at hrun
      clear hc4
      refine wpIn_region_any hmx ?_
      change wpAnyIn _ _ _ _ _ _ _ _ _ (World.drew _)
      refine wpAnyIn_ready (rs := [0, 1]) (by kernel_rfl) (by simp) ?_
      refine AllReadyIn.cons rfl (fun K hK => ?_) (AllReadyIn.cons rfl (fun K hK => ?_) AllReadyIn.nil)
      · go_simp
        refine hK _ _ ?_
        clear hK K
        refine wpAnyIn_ready (rs := [1]) (by kernel_rfl) (by simp) ?_
        refine AllReadyIn.cons rfl (fun K hK => ?_) AllReadyIn.nil
        go_simp
        refine hK _ _ ?_
        clear hK K
        refine wpAnyIn_ready (rs := [2]) (by kernel_rfl) (by simp) ?_
        refine AllReadyIn.cons rfl (fun K hK => ?_) AllReadyIn.nil
        refine stepIn_append rfl _ _ _ rfl rfl rfl hrun (hK _ _ ?_)
        clear hK K
        refine wpAnyIn_ready (rs := [3]) (by kernel_rfl) (by simp) ?_
        refine AllReadyIn.cons rfl (fun K hK => ?_) AllReadyIn.nil
        go_simp
        refine hK _ _ ?_
        clear hK K
        refine wpAnyIn_done (by kernel_rfl) ?_ _
        clear hrun hc2 hc5 hf5
        gi_wp2_with fail
        exact ended hB hT2 b3 hqx hA (by have := HZ.out; omega)
      · go_simp
        refine hK _ _ ?_
        clear hK K
        refine wpAnyIn_ready (rs := [0]) (by kernel_rfl) (by simp) ?_
        refine AllReadyIn.cons rfl (fun K hK => ?_) AllReadyIn.nil
        go_simp
        refine hK _ _ ?_
        clear hK K
        refine wpAnyIn_ready (rs := [2]) (by kernel_rfl) (by simp) ?_
        refine AllReadyIn.cons rfl (fun K hK => ?_) AllReadyIn.nil
        refine stepIn_append rfl _ _ _ rfl rfl rfl hrun (hK _ _ ?_)
        clear hK K
        refine wpAnyIn_ready (rs := [3]) (by kernel_rfl) (by simp) ?_
        refine AllReadyIn.cons rfl (fun K hK => ?_) AllReadyIn.nil
        go_simp
        refine hK _ _ ?_
        clear hK K
        refine wpAnyIn_done (by kernel_rfl) ?_ _
        clear hrun hc2 hc5 hf5
        gi_wp2_with fail
        exact ended hB hT2 b3 hqx hA (by have := HZ.out; omega)
    · rw [h1] at hn
      have H1 := Lib.hid h1
      clear h1 hxl
      dsimp only
      gi_wp2_with (first
        | (refine ⟨trivial, ?_⟩; gi_at_call 112; refine (CallsIn.inRound l (callsIn_wide.2 (C3.out _))).mono ?_; rintro e w1 ⟨rfl, b1⟩)
        | (refine ⟨trivial, ?_⟩; gi_at_call 111; refine (CallsIn.inRound l (callsIn_wide.2 (letters_of x _))).mono ?_; rintro e w2 ⟨p, q, r, t, hq, rfl, b2⟩; have hcp := copyNone w2.heap.size))
      have hqx := Lib.hid (show letters (pre ++ [⟨x, hx⟩]) quad = letters pre quad ++ [p, q, r, t] by unfold letters; rw [List.map_append, List.flatten_append]; show _ ++ (quad x ++ []) = _; rw [List.append_nil]; unfold quad; rw [hq.out, H1.out]; rfl)
      clear hcp
      have b3 := b1.trans (b2.mono b1.size)
      have hv2 : Boxed w2 w.heap.size 60 _ := (b3.block w.heap.size hv.lt).trans hv
      have hc2 := hv2.cell
      obtain ⟨g, cap, w5, hrun, hc4, hc5, hf5, hA⟩ := app4 p q r t hv2 (Bytes.row_below hrow b3) (by have := HZ.out; have := b3.size; omega) (Nat.le_refl _) HLL.out rfl
      have hlt2 := hv2.lt
      try simp only [show (((61 : UInt8).toNat : Nat) : Int) = 61 from rfl] at hrun
      clear hc4
      refine wpIn_region_any hmx ?_
      change wpAnyIn _ _ _ _ _ _ _ _ _ (World.drew _)
      refine wpAnyIn_ready (rs := [0, 1]) (by kernel_rfl) (by simp) ?_
      refine AllReadyIn.cons rfl (fun K hK => ?_) (AllReadyIn.cons rfl (fun K hK => ?_) AllReadyIn.nil)
      · go_simp
        refine hK _ _ ?_
        clear hK K
        refine wpAnyIn_ready (rs := [1]) (by kernel_rfl) (by simp) ?_
        refine AllReadyIn.cons rfl (fun K hK => ?_) AllReadyIn.nil
        go_simp
        refine hK _ _ ?_
        clear hK K
        refine wpAnyIn_ready (rs := [2]) (by kernel_rfl) (by simp) ?_
        refine AllReadyIn.cons rfl (fun K hK => ?_) AllReadyIn.nil
        refine stepIn_append rfl _ _ _ rfl rfl rfl hrun (hK _ _ ?_)
        clear hK K
        refine wpAnyIn_ready (rs := [3]) (by kernel_rfl) (by simp) ?_
        refine AllReadyIn.cons rfl (fun K hK => ?_) AllReadyIn.nil
        go_simp
        refine hK _ _ ?_
        clear hK K
        refine wpAnyIn_done (by kernel_rfl) ?_ _
        clear hrun hc2 hc5 hf5
        gi_wp2_with fail
        exact ended hB hT2 b3 hqx hA (by have := HZ.out; omega)
      · go_simp
        refine hK _ _ ?_
        clear hK K
        refine wpAnyIn_ready (rs := [0]) (by kernel_rfl) (by simp) ?_
        refine AllReadyIn.cons rfl (fun K hK => ?_) AllReadyIn.nil
        go_simp
        refine hK _ _ ?_
        clear hK K
        refine wpAnyIn_ready (rs := [2]) (by kernel_rfl) (by simp) ?_
        refine AllReadyIn.cons rfl (fun K hK => ?_) AllReadyIn.nil
        refine stepIn_append rfl _ _ _ rfl rfl rfl hrun (hK _ _ ?_)
        clear hK K
        refine wpAnyIn_ready (rs := [3]) (by kernel_rfl) (by simp) ?_
        refine AllReadyIn.cons rfl (fun K hK => ?_) AllReadyIn.nil
        go_simp
        refine hK _ _ ?_
        clear hK K
        refine wpAnyIn_done (by kernel_rfl) ?_ _
        clear hrun hc2 hc5 hf5
        gi_wp2_with fail
        exact ended hB hT2 b3 hqx hA (by have := HZ.out; omega)
theorem encode_any (s : ByteArray) (hs : s.size ≤ 68719476736) (w : World) :
    Calls Tryz.prog 64 #[.string s] w fun e W' => e = .returned (.string ⟨(enc s.data.toList).toArray⟩) ∧ Below w.heap.size w W' :=
  callsIn_wide.1 (encode_in s hs w)
end Go.Proofs.YtpdodknldhbbhaaGreatDoor.Sx
