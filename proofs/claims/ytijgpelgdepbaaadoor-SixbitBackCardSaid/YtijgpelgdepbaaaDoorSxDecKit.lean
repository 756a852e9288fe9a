/-
What the walk of the program's Decode goes by. Conditions: those that each theorem states.
-/
import Derived.Test.YtijgpelgdepbaaaDoorSxLines
import Derived.Test.YtijgpelgdepbaaaDoorSxEnc
import Derived.Test.YtijgpelgdepbaaaDoorSxSaidBy
import Derived.Test.YtijgpelgdepbaaaDoorSxNeq
import Derived.Test.YtijgpelgdepbaaaDoorSxDecPieces
namespace Go.Proofs.YtijgpelgdepbaaaDoor.Sx
open Go.RowKit Go.Shelf
attribute [local go_sem] Oper.semAt_some

theorem ofNat_num (n : Nat) (h : n < 256) : ((UInt8.ofNat n).toNat : Int) = (n : Int) := by
  rw [UInt8.toNat_ofNat_of_lt' h]
theorem three_of (s : ByteArray) (hs : s.size ≤ 4) (hL : ∀ c ∈ s.data.toList, isL c = true) (w : World) :
    Calls Tryd.prog 13 #[.string s] w fun e w' => ∃ p q r : UInt8, Hid (tri s.data.toList = [p, q, r]) ∧ e = .returned (.agg #[.int .u8 (p.toNat : Int), .int .u8 (q.toNat : Int), .int .u8 (r.toNat : Int)]) ∧ Below w.heap.size w w' := by
  refine (saidBy_any s hs hL w).mono fun e w' ⟨he, hb⟩ => ⟨_, _, _, Lib.hid rfl, ?_, hb⟩
  have n0 := gn_lt s.data.toList 0
  have n1 := gn_lt s.data.toList 1
  have n2 := gn_lt s.data.toList 2
  have n3 := gn_lt s.data.toList 3
  rw [he, ofNat_num _ (by omega), ofNat_num _ (by omega), ofNat_num _ (by omega)]; rfl

theorem res_boxes {w w1 : World} (b1 : Below ((w.alloc (.cells #[.string ⟨#[]⟩] 9)).alloc (.cells #[.int .i64 0] 22)).heap.size ((w.alloc (.cells #[.string ⟨#[]⟩] 9)).alloc (.cells #[.int .i64 0] 22)) w1) :
    Boxed w1 w.heap.size 9 (.string ⟨#[]⟩) ∧ Boxed w1 (w.heap.size + 1) 22 (.int .i64 0) ∧ Below w.heap.size w w1 := by
  have h0 := (Boxed.new w 9 (.string ⟨#[]⟩)).alloc (.cells #[.int .i64 0] 22)
  have h1 := Boxed.new (w.alloc (.cells #[.string ⟨#[]⟩] 9)) 22 (.int .i64 0)
  rw [World.size_alloc] at h1
  exact ⟨(b1.block _ h0.lt).trans h0, (b1.block _ h1.lt).trans h1, (((Below.refl _ w).alloc (Nat.le_refl _) _).alloc (by simp) _).trans (b1.mono (by simp; omega))⟩

theorem results_cell2 {fn : Func} {p q : Tmp} {tp tq : TypeId} (h : fn.results = #[.cell p tp, .cell q tq]) (tmps : Array Value) (P : Program) (w : World) :
    (results fn tmps).run P w =
      ((asAddr (tmps.getD p undef)).run P w).andThen fun a w₁ => ((loadVar tp a).run P w₁).andThen fun v w₂ => ((asAddr (tmps.getD q undef)).run P w₂).andThen fun b w₃ => ((loadVar tq b).run P w₃).andThen fun u w₄ => .ok (.tuple #[v, u]) w₄ := by
  simp only [results, h]
  simp [Sem.run_bind, Result.andThen]
theorem results_dec {tmps : Array Value} {W : World} {a b : Nat} {x : ByteArray} {y : Int} (h2 : tmps.getD 2 undef = .pointer (some ⟨a, 0, none⟩)) (h3 : tmps.getD 3 undef = .pointer (some ⟨b, 0, none⟩)) (hx : Boxed W a 9 (.string x)) (hy : Boxed W b 22 (.int .i64 y)) :
    (results Tryd.f5 tmps).run Tryd.prog W = .ok (.tuple #[.string x, .int .i64 y]) W := by
  have cx := hx.cell
  have cy := hy.cell
  rw [results_cell2 Tryd.results5, h2, h3]
  simp [cx, cy, go_sem, Result.andThen]
theorem boxed_other {W : World} {B D : Nat} {t : TypeId} {v x : Value} (h : Boxed W B t v) (hne : B ≠ D) : Boxed (W.setCell ⟨D, 0, none⟩ x) B t v :=
  h.kept (grownBy_setCell' W D x) (by simpa using hne)
theorem below_set {B : Nat} {a w : World} (h : Below B a w) {D : Nat} (hD : B ≤ D) (v : Value) : Below B a (w.setCell ⟨D, 0, none⟩ v) := h.setCell (p := ⟨D, 0, none⟩) hD v
theorem below_put {B : Nat} {a w : World} (h : Below B a w) {D : Nat} {o : Obj} (hD : B ≤ D) (hk : w.heap[D]? = some o) (o' : Obj) : Below B a (w.putObj D o') :=
  h.grown (grownBy_putObj' w D o') (by have := (Array.getElem?_eq_some_iff.1 hk).1; omega) (fun k e => by cases e; exact hD)
theorem boxed_put {W : World} {B D : Nat} {t : TypeId} {v : Value} {o : Obj} (h : Boxed W B t v) (hk : W.heap[D]? = some o) (ho : o.isCells = false) (o' : Obj) : Boxed (W.putObj D o') B t v := by
  have hne : B ≠ D := by rintro rfl; unfold Boxed at h; rw [hk] at h; cases h; simp [Obj.isCells] at ho
  exact (World.putObj_heap_other hne).trans h


theorem three_1 (p : UInt8) (w : World) : Calls Tryd.prog 14 #[.string ⟨#[p]⟩] w fun e w' => e = .returned (.agg #[.int .u8 (p.toNat : Int), .int .u8 0, .int .u8 0]) ∧ Below w.heap.size w w' := threeOf_any [p] (by simp) w
theorem three_2 (p q : UInt8) (w : World) : Calls Tryd.prog 14 #[.string ⟨#[p, q]⟩] w fun e w' => e = .returned (.agg #[.int .u8 (p.toNat : Int), .int .u8 (q.toNat : Int), .int .u8 0]) ∧ Below w.heap.size w w' := threeOf_any [p, q] (by simp) w
theorem three_3 (p q r : UInt8) (w : World) : Calls Tryd.prog 14 #[.string ⟨#[p, q, r]⟩] w fun e w' => e = .returned (.agg #[.int .u8 (p.toNat : Int), .int .u8 (q.toNat : Int), .int .u8 (r.toNat : Int)]) ∧ Below w.heap.size w w' := threeOf_any [p, q, r] (by simp) w
/-- The first bytes of an array of three as a text. -/
theorem conv3 (w : World) (g : Nat) (p q r : UInt8) (l : List UInt8) (hl : [p, q, r].take l.length = l) (hg : w.heap[g]? = some (.cells #[.int .u8 (p.toNat : Int), .int .u8 (q.toNat : Int), .int .u8 (r.toNat : Int)] 36 (0, 0))) :
    (convert 32 9 (.slice (some ⟨g, 0, none⟩) l.length 3)).run Tryd.prog w = .ok (.string ⟨l.toArray⟩) w := by
  refine run_convert_bytes_back w _ _ 5 _ 3 l Tryd.underlying32 Tryd.underlying5 Tryd.underlying9 ?_
  refine Lib.bytes_of_row hg ?_
  show ([p, q, r].map fun b => Value.int .u8 (b.toNat : Int)).take l.length = Bytes.cells l
  rw [← List.map_take, hl]; rfl
theorem cells3 {w : World} {g : Nat} {p q r : UInt8} (hg : w.heap[g]? = some (.cells #[.int .u8 (p.toNat : Int), .int .u8 (q.toNat : Int), .int .u8 (r.toNat : Int)] 36 (0, 0))) : w.cell? ⟨g, 0, none⟩ = some (.int .u8 (p.toNat : Int)) ∧ w.cell? ⟨g, 1, none⟩ = some (.int .u8 (q.toNat : Int)) ∧ w.cell? ⟨g, 2, none⟩ = some (.int .u8 (r.toNat : Int)) :=
  ⟨by rw [cell_of_row w g 0 _ _ _ hg]; rfl, by rw [cell_of_row w g 1 _ _ _ hg]; rfl, by rw [cell_of_row w g 2 _ _ _ hg]; rfl⟩
theorem grown_box {W w1 : World} {n₀ B : Nat} {t e : TypeId} {size : Nat} {v v' : Value} {k m : Nat} {xs ys : List Value}
    (hv : Boxed W B t v) (hte : t ≠ e) (hrow : W.ownsRow n₀ e size v k xs) (hn₀ : n₀ ≤ W.heap.size) (hB : n₀ ≤ B)
    (hown' : w1.ownsRow n₀ e size v' m ys) (hgrow : W.grownBy w1 v.ownBlock) :
    Boxed w1 B t v ∧ Boxed (w1.setCell ⟨B, 0, none⟩ v') B t v' ∧ (w1.setCell ⟨B, 0, none⟩ v').ownsRow n₀ e size v' m ys ∧ KeepsOthers W (w1.setCell ⟨B, 0, none⟩ v') ∧ Below n₀ W (w1.setCell ⟨B, 0, none⟩ v') ∧
      ∀ D u x, u ≠ e → D ≠ B → Boxed W D u x → Boxed (w1.setCell ⟨B, 0, none⟩ v') D u x := by
  have hv1 : Boxed w1 B t v := hv.kept hgrow (hv.not_row hte hrow)
  refine ⟨hv1, hv1.set v', hown'.kept (grownBy_setCell' w1 B v') (.inr (hv1.not_row hte hown').symm), ?_, ?_, fun D u x hu hD h => (h.kept hgrow (h.not_row hu hrow)).kept (grownBy_setCell' w1 B v') (by simpa using hD)⟩
  · refine (KeepsOthers.of_grownBy hgrow fun j o ej hj => ?_).trans (KeepsOthers.setCell _ _ _)
    rcases hrow.2 with ⟨rfl, _⟩ | ⟨g, cap, cur, rfl, _, hgb, _⟩
    · simp [Value.ownBlock] at ej
    · obtain rfl : g = j := by simpa [Value.ownBlock] using ej
      rw [hgb] at hj; cases hj; rfl
  · refine ((Below.refl n₀ W).grown hgrow hn₀ fun j ej => ?_).setCell (p := ⟨B, 0, none⟩) hB v'
    rcases hrow.2 with ⟨rfl, _⟩ | ⟨g, cap, cur, rfl, hb, _, _⟩
    · simp [Value.ownBlock] at ej
    · obtain rfl : g = j := by simpa [Value.ownBlock] using ej
      exact hb
theorem app3 {w6 : World} {base Bo g : Nat} {v : Value} {l : List UInt8} (p q r : UInt8) (xs : List UInt8) (hx : [p, q, r].take xs.length = xs) (hx0 : 0 < xs.length) (hx3 : xs.length ≤ 3) (hg : w6.heap[g]? = some (.cells #[.int .u8 (p.toNat : Int), .int .u8 (q.toNat : Int), .int .u8 (r.toNat : Int)] 36 (0, 0))) (hv : Boxed w6 Bo 32 v) (hrow : Bytes.Has w6 base v l) (hbase : base ≤ w6.heap.size) (hBo : base ≤ Bo) (hl : l.length ≤ 274877906944) :
    ∃ g' cap w7, (Builtin.append_ #[32, 32] 32 #[v, .slice (some ⟨g, 0, none⟩) xs.length 3]).run Tryd.prog w6.drew = .ok (.slice (some ⟨g', 0, none⟩) (l.length + xs.length) cap) w7 ∧ w7.cell? ⟨Bo, 0, none⟩ = some v ∧ w7.frozen? ⟨Bo, 0, none⟩ = false ∧
      Hid (Boxed (w7.setCell ⟨Bo, 0, none⟩ (.slice (some ⟨g', 0, none⟩) (l.length + xs.length) cap)) Bo 32 (.slice (some ⟨g', 0, none⟩) (l.length + xs.length) cap) ∧ Bytes.Has (w7.setCell ⟨Bo, 0, none⟩ (.slice (some ⟨g', 0, none⟩) (l.length + xs.length) cap)) base (.slice (some ⟨g', 0, none⟩) (l.length + xs.length) cap) (l ++ xs) ∧
        KeepsOthers w6 (w7.setCell ⟨Bo, 0, none⟩ (.slice (some ⟨g', 0, none⟩) (l.length + xs.length) cap)) ∧ Below base w6 (w7.setCell ⟨Bo, 0, none⟩ (.slice (some ⟨g', 0, none⟩) (l.length + xs.length) cap)) ∧
        ∀ D t x, t ≠ 5 → D ≠ Bo → Boxed w6 D t x → Boxed (w7.setCell ⟨Bo, 0, none⟩ (.slice (some ⟨g', 0, none⟩) (l.length + xs.length) cap)) D t x) := by
  obtain ⟨i0, hi, hz0, hz1, hz2⟩ := info_parts Bytes.infoByte
  obtain ⟨g', cap, w7, hrun, hown, hgrow, _, _⟩ := run_append_lies (P := Tryd.prog) (w := w6.drew) 32 32 base 5 i0 (.int .u8 0) 1 1 Tryd.underlying32 hi hz0 hz1 hz2 rfl (by decide) v l.length (Bytes.cells l) (Bytes.Has.drew hrow)
    ⟨g, 0, none⟩ xs.length 3 (Bytes.cells xs) (by rw [Bytes.cells_length, Nat.mul_one]) (by
      have e : Bytes.cells xs = ([p, q, r].map fun b => Value.int .u8 (b.toNat : Int)).take xs.length := by rw [← List.map_take, hx]; rfl
      rw [e]
      exact Lib.cells_of_row (w := w6.drew) hg _) (fun u hu => by simp [Bytes.cells] at hu; obtain ⟨b, _, rfl⟩ := hu; rfl) hx0 (by unfold maxLen; omega) (by omega) hbase _ rfl
  have hgrow' : w6.grownBy w7 v.ownBlock := by obtain ⟨a1, a2, a3, a4, a5⟩ := hgrow; exact ⟨a1, a2, a3, a4, a5⟩
  obtain ⟨h1, h2, h3, h4, h5, h6⟩ := grown_box hv (by decide) hrow hbase hBo hown hgrow'
  exact ⟨g', cap, w7, hrun, h1.cell, h1.frozen, Lib.hid ⟨h2, Bytes.Has.laid (r := xs) rfl h3, h4, h5, h6⟩⟩

/-- What a round finds: the bytes that have come. -/
def DI (B : Nat) (s : ByteArray) (W0 : World) {P : List UInt8 → Prop} (pre : List (Subtype P)) (V : World) : Prop :=
  (∃ v, Boxed V B 32 v ∧ V.ownsRow B 5 1 v (letters pre good).length (Bytes.cells (letters pre good)) ∧ True) ∧ Two V (B + 1) s 4 ∧ (∀ y ∈ pre, bad y.1 = false) ∧ Below B W0 V
/-- What is there where a round has returned. -/
def DX (r : Nat) (W0 : World) {P : List UInt8 → Prop} (c : Code) (l : List (Subtype P)) (V : World) : Prop :=
  (c = .ret ∧ ∃ y ∈ l, bad y.1 = true) ∧ Boxed V r 9 (.string ⟨#[]⟩) ∧ Boxed V (r + 1) 22 (.int .i64 3) ∧ Below r W0 V
theorem DI.own {B n : Nat} {s : ByteArray} {W0 : World} {P : List UInt8 → Prop} (h0 : B ≤ W0.heap.size) (hn : B ≤ n) : OwnFrom n (fun (pre : List (Subtype P)) V => DI B s W0 pre V) := by
  intro pre V V' row ⟨h1, h2, h3, h4⟩ hg hr
  have hr' : ∀ k, row = some k → ∃ o : Obj, V.heap[k]? = some o ∧ o.isCells = false := fun k e => (hr k e).2
  exact ⟨holdsRow_own B B 32 5 1 (fun pre : List (Subtype P) => (letters pre good).length) (fun pre => Bytes.cells (letters pre good)) (fun _ _ => True) pre V V' row h1 hg hr',
    ⟨boxed_own (B + 1) 9 (fun _ : Unit => .string s) () V V' row h2.1 hg hr', boxed_own (B + 1 + 1) 3 (fun _ : Unit => .int .i64 4) () V V' row h2.2 hg hr'⟩, h3,
    h4.grown hg (Nat.le_trans h0 h4.size) (fun k e => Nat.le_trans hn (hr k e).1)⟩
theorem DX.own {r n : Nat} {W0 : World} {P : List UInt8 → Prop} (h0 : r ≤ W0.heap.size) (hn : r ≤ n) (c : Code) : OwnFrom n (fun (l : List (Subtype P)) V => DX r W0 c l V) := by
  intro pre V V' row ⟨h1, h2, h3, h4⟩ hg hr
  have hr' : ∀ k, row = some k → ∃ o : Obj, V.heap[k]? = some o ∧ o.isCells = false := fun k e => (hr k e).2
  exact ⟨h1, boxed_own r 9 (fun _ : Unit => .string ⟨#[]⟩) () V V' row h2 hg hr', boxed_own (r + 1) 22 (fun _ : Unit => .int .i64 3) () V V' row h3 hg hr',
    h4.grown hg (Nat.le_trans h0 h4.size) (fun k e => Nat.le_trans hn (hr k e).1)⟩
theorem int_beq (a b : Nat) : ((a : Int) == (b : Int)) = (a == b) := by
  rw [Bool.eq_iff_iff, beq_iff_eq, beq_iff_eq]; omega
theorem int_beq0 (a : Nat) : ((a : Int) == 0) = (a == 0) := by
  rw [Bool.eq_iff_iff, beq_iff_eq, beq_iff_eq]; omega
theorem good_length (x : List UInt8) : (good x).length ≤ 3 := by
  unfold good tri; rw [List.length_take]; exact Nat.min_le_right _ _
theorem goods_length {P : List UInt8 → Prop} (pre : List (Subtype P)) : (letters pre good).length ≤ 3 * pre.length := by
  unfold letters
  induction pre with
  | nil => simp
  | cons a r ih => rw [List.map_cons, List.flatten_cons, List.length_append, List.length_cons]; have := good_length a.1; omega
theorem ended3 {P : List UInt8 → Prop} {V W0 w2 w' : World} {B : Nat} {s : ByteArray} {pre : List (Subtype P)} {x : Subtype P} {l : List UInt8} {v' : Value} (hB : Below B W0 V) (hT : Two V (B + 1) s 4) (hbad : ∀ y ∈ pre, bad y.1 = false) (hb : Below V.heap.size V w2)
    (hq : Hid (letters (pre ++ [x]) good = l)) (hbx : bad x.1 = false)
    (hA : Hid (Boxed w' B 32 v' ∧ Bytes.Has w' B v' l ∧ KeepsOthers w2 w' ∧ Below B w2 w' ∧ ∀ D t x, t ≠ 5 → D ≠ B → Boxed w2 D t x → Boxed w' D t x)) (hz : B ≤ V.heap.size) :
    KeepsFrom W0.heap.size V w' ∧ KeepsTwo (B + 1) s 4 V w' ∧ DI B s W0 (pre ++ [x]) w' := by
  obtain ⟨h1, h2, h3, h4, h5⟩ := hA.out
  have hk : KeepsTwo (B + 1) s 4 V w' := fun h => ⟨h5 _ _ _ (by decide) (by omega) ((hb.block _ h.1.lt).trans h.1), h5 _ _ _ (by decide) (by omega) ((hb.block _ h.2.lt).trans h.2)⟩
  refine ⟨((keeps_below hb).trans h3).from _, hk, ⟨_, h1, ?_, trivial⟩, hk hT, fun y hy => ?_, hB.trans ((hb.mono hz).trans h4)⟩
  · rw [hq.out]; exact h2
  · rcases List.mem_append.1 hy with h | h
    · exact hbad y h
    · rw [List.mem_singleton.1 h]; exact hbx
theorem stopped3 {P : List UInt8 → Prop} {V W0 w5 : World} {B r : Nat} {pre : List (Subtype P)} {x : Subtype P} (hB : Below B W0 V) (hb : Below V.heap.size V w5) (hbx : bad x.1 = true)
    (q0 : Boxed w5 r 9 (.string ⟨#[]⟩)) (q1 : Boxed w5 (r + 1) 22 (.int .i64 0)) (hr : r ≤ B) (h0 : r ≤ V.heap.size) (_h1 : B ≤ V.heap.size) :
    KeepsFrom W0.heap.size V ((w5.setCell ⟨r, 0, none⟩ (.string ⟨#[]⟩)).setCell ⟨r + 1, 0, none⟩ (.int .i64 3)) ∧ DX r W0 .ret (pre ++ [x]) ((w5.setCell ⟨r, 0, none⟩ (.string ⟨#[]⟩)).setCell ⟨r + 1, 0, none⟩ (.int .i64 3)) := by
  refine ⟨(((keeps_below hb).trans (KeepsOthers.setCell _ _ _)).trans (KeepsOthers.setCell _ _ _)).from _, ⟨rfl, x, by simp, hbx⟩, boxed_other (q0.set _) (by omega), (boxed_other q1 (by omega)).set _, ?_⟩
  exact below_set (below_set ((hB.mono hr).trans (hb.mono h0)) (Nat.le_refl _) _) (by omega) _
end Go.Proofs.YtijgpelgdepbaaaDoor.Sx
