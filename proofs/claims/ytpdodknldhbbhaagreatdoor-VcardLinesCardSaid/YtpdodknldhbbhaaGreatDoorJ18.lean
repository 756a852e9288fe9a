/-
Texts joined in one file, each with its own conditions: What the walk of the program's Decode goes by. Conditions: those that each theorem states. · The program's Decode of a text in which a letter is wrong. Conditions: the text has at most 2^36 bytes. · Letters as bytes: the program's Decode answers what the plain function 'dec' says. Conditions: the text has at most 2^36 bytes.
-/
import Derived.Test.YtpdodknldhbbhaaGreatDoorJ14
import Derived.Test.YtpdodknldhbbhaaGreatDoorJ16
import Derived.Test.YtpdodknldhbbhaaGreatDoorJ17
import Derived.Test.YtpdodknldhbbhaaGreatDoorJ15
namespace Go.Proofs.YtpdodknldhbbhaaGreatDoor.Sx
set_option maxRecDepth 100000
open Go.RowKit Go.Shelf
attribute [local go_sem] Oper.semAt_some

theorem ofNat_num (n : Nat) (h : n < 256) : ((UInt8.ofNat n).toNat : Int) = (n : Int) := by
  rw [UInt8.toNat_ofNat_of_lt' h]
theorem three_of (s : ByteArray) (hs : s.size ≤ 4) (hL : ∀ c ∈ s.data.toList, isL c = true) (w : World) :
    Calls Tryz.prog 179 #[.string s] w fun e w' => ∃ p q r : UInt8, Hid (tri s.data.toList = [p, q, r]) ∧ e = .returned (.agg #[.int .u8 (p.toNat : Int), .int .u8 (q.toNat : Int), .int .u8 (r.toNat : Int)]) ∧ Below w.heap.size w w' := by
  refine (saidBy_any s hs hL w).mono fun e w' ⟨he, hb⟩ => ⟨_, _, _, Lib.hid rfl, ?_, hb⟩
  have n0 := gn_lt s.data.toList 0
  have n1 := gn_lt s.data.toList 1
  have n2 := gn_lt s.data.toList 2
  have n3 := gn_lt s.data.toList 3
  rw [he, ofNat_num _ (by omega), ofNat_num _ (by omega), ofNat_num _ (by omega)]; rfl

theorem res_boxes {w w1 : World} (b1 : Below ((w.alloc (.cells #[.string ⟨#[]⟩] 9)).alloc (.cells #[.int .i64 0] 26)).heap.size ((w.alloc (.cells #[.string ⟨#[]⟩] 9)).alloc (.cells #[.int .i64 0] 26)) w1) :
    Boxed w1 w.heap.size 9 (.string ⟨#[]⟩) ∧ Boxed w1 (w.heap.size + 1) 26 (.int .i64 0) ∧ Below w.heap.size w w1 := by
  have h0 := (Boxed.new w 9 (.string ⟨#[]⟩)).alloc (.cells #[.int .i64 0] 26)
  have h1 := Boxed.new (w.alloc (.cells #[.string ⟨#[]⟩] 9)) 26 (.int .i64 0)
  rw [World.size_alloc] at h1
  exact ⟨(b1.block _ h0.lt).trans h0, (b1.block _ h1.lt).trans h1, (((Below.refl _ w).alloc (Nat.le_refl _) _).alloc (by simp) _).trans (b1.mono (by simp; omega))⟩

theorem results_cell2 {fn : Func} {p q : Tmp} {tp tq : TypeId} (h : fn.results = #[.cell p tp, .cell q tq]) (tmps : Array Value) (P : Program) (w : World) :
    (results fn tmps).run P w =
      ((asAddr (tmps.getD p undef)).run P w).andThen fun a w₁ => ((loadVar tp a).run P w₁).andThen fun v w₂ => ((asAddr (tmps.getD q undef)).run P w₂).andThen fun b w₃ => ((loadVar tq b).run P w₃).andThen fun u w₄ => .ok (.tuple #[v, u]) w₄ := by
  simp only [results, h]
  simp [Sem.run_bind, Result.andThen]
theorem results_dec {tmps : Array Value} {W : World} {a b : Nat} {x : ByteArray} {y : Int} (h2 : tmps.getD 2 undef = .pointer (some ⟨a, 0, none⟩)) (h3 : tmps.getD 3 undef = .pointer (some ⟨b, 0, none⟩)) (hx : Boxed W a 9 (.string x)) (hy : Boxed W b 26 (.int .i64 y)) :
    (results Tryz.f157 tmps).run Tryz.prog W = .ok (.tuple #[.string x, .int .i64 y]) W := by
  have cx := hx.cell
  have cy := hy.cell
  rw [results_cell2 Tryz.results157, h2, h3]
  simp [cx, cy, go_sem, Result.andThen]
theorem boxed_other {W : World} {B D : Nat} {t : TypeId} {v x : Value} (h : Boxed W B t v) (hne : B ≠ D) : Boxed (W.setCell ⟨D, 0, none⟩ x) B t v :=
  h.kept (grownBy_setCell' W D x) (by simpa using hne)
theorem below_set {B : Nat} {a w : World} (h : Below B a w) {D : Nat} (hD : B ≤ D) (v : Value) : Below B a (w.setCell ⟨D, 0, none⟩ v) := h.setCell (p := ⟨D, 0, none⟩) hD v
theorem below_put {B : Nat} {a w : World} (h : Below B a w) {D : Nat} {o : Obj} (hD : B ≤ D) (hk : w.heap[D]? = some o) (o' : Obj) : Below B a (w.putObj D o') :=
  h.grown (grownBy_putObj' w D o') (by have := (Array.getElem?_eq_some_iff.1 hk).1; omega) (fun k e => by cases e; exact hD)
theorem boxed_put {W : World} {B D : Nat} {t : TypeId} {v : Value} {o : Obj} (h : Boxed W B t v) (hk : W.heap[D]? = some o) (ho : o.isCells = false) (o' : Obj) : Boxed (W.putObj D o') B t v := by
  have hne : B ≠ D := by rintro rfl; unfold Boxed at h; rw [hk] at h; cases h; simp [Obj.isCells] at ho
  exact (World.putObj_heap_other hne).trans h


theorem three_1 (p : UInt8) (w : World) : Calls Tryz.prog 112 #[.string ⟨#[p]⟩] w fun e w' => e = .returned (.agg #[.int .u8 (p.toNat : Int), .int .u8 0, .int .u8 0]) ∧ Below w.heap.size w w' := threeOf_any [p] (by simp) w
theorem three_2 (p q : UInt8) (w : World) : Calls Tryz.prog 112 #[.string ⟨#[p, q]⟩] w fun e w' => e = .returned (.agg #[.int .u8 (p.toNat : Int), .int .u8 (q.toNat : Int), .int .u8 0]) ∧ Below w.heap.size w w' := threeOf_any [p, q] (by simp) w
theorem three_3 (p q r : UInt8) (w : World) : Calls Tryz.prog 112 #[.string ⟨#[p, q, r]⟩] w fun e w' => e = .returned (.agg #[.int .u8 (p.toNat : Int), .int .u8 (q.toNat : Int), .int .u8 (r.toNat : Int)]) ∧ Below w.heap.size w w' := threeOf_any [p, q, r] (by simp) w
/-- The first bytes of an array of three as a text. -/
theorem conv3 (w : World) (g : Nat) (p q r : UInt8) (l : List UInt8) (hl : [p, q, r].take l.length = l) (hg : w.heap[g]? = some (.cells #[.int .u8 (p.toNat : Int), .int .u8 (q.toNat : Int), .int .u8 (r.toNat : Int)] 138 (0, 0))) :
    (convert 60 9 (.slice (some ⟨g, 0, none⟩) l.length 3)).run Tryz.prog w = .ok (.string ⟨l.toArray⟩) w := by
  refine run_convert_bytes_back w _ _ 5 _ 3 l Tryz.underlying60 Tryz.underlying5 Tryz.underlying9 ?_
  refine Lib.bytes_of_row hg ?_
  show ([p, q, r].map fun b => Value.int .u8 (b.toNat : Int)).take l.length = Bytes.cells l
  rw [← List.map_take, hl]; rfl
theorem cells3 {w : World} {g : Nat} {p q r : UInt8} (hg : w.heap[g]? = some (.cells #[.int .u8 (p.toNat : Int), .int .u8 (q.toNat : Int), .int .u8 (r.toNat : Int)] 138 (0, 0))) : w.cell? ⟨g, 0, none⟩ = some (.int .u8 (p.toNat : Int)) ∧ w.cell? ⟨g, 1, none⟩ = some (.int .u8 (q.toNat : Int)) ∧ w.cell? ⟨g, 2, none⟩ = some (.int .u8 (r.toNat : Int)) :=
  ⟨by rw [cell_of_row w g 0 _ _ _ hg]; rfl, by rw [cell_of_row w g 1 _ _ _ hg]; rfl, by rw [cell_of_row w g 2 _ _ _ hg]; rfl⟩
theorem grown_box {W w1 : World} {n₀ B : Nat} {t e : TypeId} {size : Nat} {v v' : Value} {k m : Nat} {xs ys : List Value}
    (hv : Boxed W B t v) (hte : t ≠ e) (hrow : W.ownsRow n₀ e size v k xs) (hn₀ : n₀ ≤ W.heap.size) (hB : n₀ ≤ B)
    (hown' : w1.ownsRow n₀ e size v' m ys) (hgrow : W.grownBy w1 v.ownBlock) :
    Boxed w1 B t v ∧ Boxed (w1.setCell ⟨B, 0, none⟩ v') B t v' ∧ (w1.setCell ⟨B, 0, none⟩ v').ownsRow n₀ e size v' m ys ∧ KeepsOthers W (w1.setCell ⟨B, 0, none⟩ v') ∧ Below n₀ W (w1.setCell ⟨B, 0, none⟩ v') ∧
      ∀ D u x, u ≠ e → D ≠ B → Boxed W D u x → Boxed (w1.setCell ⟨B, 0, none⟩ v') D u x := by
  have hv1 : Boxed w1 B t v := hv.kept hgrow (hv.not_row hte hrow)
  refine ⟨hv1, hv1.set v', hown'.kept (grownBy_setCell' w1 B v') (.inr (hv1.not_row hte hown').symm), ?_, ?_, fun D u x hu hD h => (h.kept hgrow (h.not_row hu hrow)).kept (grownBy_setCell' w1 B v') (by simpa using hD)⟩
  · refine (KeepsOthers.of_grownBy hgrow fun j o ej hj => ?_).trans (KeepsOthers.setCell _ _ _)
    rcases hrow.2 with ⟨rfl, _⟩ | ⟨g, cap, cur, rfl, _, hgb, _⟩
    · simp [Value.ownBlock] at ej
    · obtain rfl : g = j := by simpa [Value.ownBlock] using ej
      rw [hgb] at hj; cases hj; rfl
  · refine ((Below.refl n₀ W).grown hgrow hn₀ fun j ej => ?_).setCell (p := ⟨B, 0, none⟩) hB v'
    rcases hrow.2 with ⟨rfl, _⟩ | ⟨g, cap, cur, rfl, hb, _, _⟩
    · simp [Value.ownBlock] at ej
    · obtain rfl : g = j := by simpa [Value.ownBlock] using ej
      exact hb
theorem app3 {w6 : World} {base Bo g : Nat} {v : Value} {l : List UInt8} (p q r : UInt8) (xs : List UInt8) (hx : [p, q, r].take xs.length = xs) (hx0 : 0 < xs.length) (hx3 : xs.length ≤ 3) (hg : w6.heap[g]? = some (.cells #[.int .u8 (p.toNat : Int), .int .u8 (q.toNat : Int), .int .u8 (r.toNat : Int)] 138 (0, 0))) (hv : Boxed w6 Bo 60 v) (hrow : Bytes.Has w6 base v l) (hbase : base ≤ w6.heap.size) (hBo : base ≤ Bo) (hl : l.length ≤ 274877906944) :
    ∃ g' cap w7, (Builtin.append_ #[60, 60] 60 #[v, .slice (some ⟨g, 0, none⟩) xs.length 3]).run Tryz.prog w6.drew = .ok (.slice (some ⟨g', 0, none⟩) (l.length + xs.length) cap) w7 ∧ w7.cell? ⟨Bo, 0, none⟩ = some v ∧ w7.frozen? ⟨Bo, 0, none⟩ = false ∧
      Hid (Boxed (w7.setCell ⟨Bo, 0, none⟩ (.slice (some ⟨g', 0, none⟩) (l.length + xs.length) cap)) Bo 60 (.slice (some ⟨g', 0, none⟩) (l.length + xs.length) cap) ∧ Bytes.Has (w7.setCell ⟨Bo, 0, none⟩ (.slice (some ⟨g', 0, none⟩) (l.length + xs.length) cap)) base (.slice (some ⟨g', 0, none⟩) (l.length + xs.length) cap) (l ++ xs) ∧
        KeepsOthers w6 (w7.setCell ⟨Bo, 0, none⟩ (.slice (some ⟨g', 0, none⟩) (l.length + xs.length) cap)) ∧ Below base w6 (w7.setCell ⟨Bo, 0, none⟩ (.slice (some ⟨g', 0, none⟩) (l.length + xs.length) cap)) ∧
        ∀ D t x, t ≠ 5 → D ≠ Bo → Boxed w6 D t x → Boxed (w7.setCell ⟨Bo, 0, none⟩ (.slice (some ⟨g', 0, none⟩) (l.length + xs.length) cap)) D t x) := by
  obtain ⟨i0, hi, hz0, hz1, hz2⟩ := info_parts Bytes.infoByte
  obtain ⟨g', cap, w7, hrun, hown, hgrow, _, _⟩ := run_append_lies (P := Tryz.prog) (w := w6.drew) 60 60 base 5 i0 (.int .u8 0) 1 1 Tryz.underlying60 hi hz0 hz1 hz2 rfl (by decide) v l.length (Bytes.cells l) (Bytes.Has.drew hrow)
    ⟨g, 0, none⟩ xs.length 3 (Bytes.cells xs) (by rw [Bytes.cells_length, Nat.mul_one]) (by
      have e : Bytes.cells xs = ([p, q, r].map fun b => Value.int .u8 (b.toNat : Int)).take xs.length := by rw [← List.map_take, hx]; rfl
      rw [e]
      exact Lib.cells_of_row (w := w6.drew) hg _) (fun u hu => by simp [Bytes.cells] at hu; obtain ⟨b, _, rfl⟩ := hu; rfl) hx0 (by unfold maxLen; omega) (by omega) hbase _ rfl
  have hgrow' : w6.grownBy w7 v.ownBlock := by obtain ⟨a1, a2, a3, a4, a5⟩ := hgrow; exact ⟨a1, a2, a3, a4, a5⟩
  obtain ⟨h1, h2, h3, h4, h5, h6⟩ := grown_box hv (by decide) hrow hbase hBo hown hgrow'
  exact ⟨g', cap, w7, hrun, h1.cell, h1.frozen, Lib.hid ⟨h2, Bytes.Has.laid (r := xs) rfl h3, h4, h5, h6⟩⟩

/-- What a round finds: the bytes that have come. -/
def DI (B : Nat) (s : ByteArray) (W0 : World) {P : List UInt8 → Prop} (pre : List (Subtype P)) (V : World) : Prop :=
  (∃ v, Boxed V B 60 v ∧ V.ownsRow B 5 1 v (letters pre good).length (Bytes.cells (letters pre good)) ∧ True) ∧ Two V (B + 1) s 4 ∧ (∀ y ∈ pre, bad y.1 = false) ∧ Below B W0 V
/-- What is there where a round has returned. -/
def DX (r : Nat) (W0 : World) {P : List UInt8 → Prop} (c : Code) (l : List (Subtype P)) (V : World) : Prop :=
  (c = .ret ∧ ∃ y ∈ l, bad y.1 = true) ∧ Boxed V r 9 (.string ⟨#[]⟩) ∧ Boxed V (r + 1) 26 (.int .i64 3) ∧ Below r W0 V
theorem DI.own {B n : Nat} {s : ByteArray} {W0 : World} {P : List UInt8 → Prop} (h0 : B ≤ W0.heap.size) (hn : B ≤ n) : OwnFrom n (fun (pre : List (Subtype P)) V => DI B s W0 pre V) := by
  intro pre V V' row ⟨h1, h2, h3, h4⟩ hg hr
  have hr' : ∀ k, row = some k → ∃ o : Obj, V.heap[k]? = some o ∧ o.isCells = false := fun k e => (hr k e).2
  exact ⟨holdsRow_own B B 60 5 1 (fun pre : List (Subtype P) => (letters pre good).length) (fun pre => Bytes.cells (letters pre good)) (fun _ _ => True) pre V V' row h1 hg hr',
    ⟨boxed_own (B + 1) 9 (fun _ : Unit => .string s) () V V' row h2.1 hg hr', boxed_own (B + 1 + 1) 3 (fun _ : Unit => .int .i64 4) () V V' row h2.2 hg hr'⟩, h3,
    h4.grown hg (Nat.le_trans h0 h4.size) (fun k e => Nat.le_trans hn (hr k e).1)⟩
theorem DX.own {r n : Nat} {W0 : World} {P : List UInt8 → Prop} (h0 : r ≤ W0.heap.size) (hn : r ≤ n) (c : Code) : OwnFrom n (fun (l : List (Subtype P)) V => DX r W0 c l V) := by
  intro pre V V' row ⟨h1, h2, h3, h4⟩ hg hr
  have hr' : ∀ k, row = some k → ∃ o : Obj, V.heap[k]? = some o ∧ o.isCells = false := fun k e => (hr k e).2
  exact ⟨h1, boxed_own r 9 (fun _ : Unit => .string ⟨#[]⟩) () V V' row h2 hg hr', boxed_own (r + 1) 26 (fun _ : Unit => .int .i64 3) () V V' row h3 hg hr',
    h4.grown hg (Nat.le_trans h0 h4.size) (fun k e => Nat.le_trans hn (hr k e).1)⟩
theorem int_beq (a b : Nat) : ((a : Int) == (b : Int)) = (a == b) := by
  rw [Bool.eq_iff_iff, beq_iff_eq, beq_iff_eq]; omega
theorem int_beq0 (a : Nat) : ((a : Int) == 0) = (a == 0) := by
  rw [Bool.eq_iff_iff, beq_iff_eq, beq_iff_eq]; omega
theorem good_length (x : List UInt8) : (good x).length ≤ 3 := by
  unfold good tri; rw [List.length_take]; exact Nat.min_le_right _ _
theorem goods_length {P : List UInt8 → Prop} (pre : List (Subtype P)) : (letters pre good).length ≤ 3 * pre.length := by
  unfold letters
  induction pre with
  | nil => simp
  | cons a r ih => rw [List.map_cons, List.flatten_cons, List.length_append, List.length_cons]; have := good_length a.1; omega
theorem ended3 {P : List UInt8 → Prop} {V W0 w2 w' : World} {B : Nat} {s : ByteArray} {pre : List (Subtype P)} {x : Subtype P} {l : List UInt8} {v' : Value} (hB : Below B W0 V) (hT : Two V (B + 1) s 4) (hbad : ∀ y ∈ pre, bad y.1 = false) (hb : Below V.heap.size V w2)
    (hq : Hid (letters (pre ++ [x]) good = l)) (hbx : bad x.1 = false)
    (hA : Hid (Boxed w' B 60 v' ∧ Bytes.Has w' B v' l ∧ KeepsOthers w2 w' ∧ Below B w2 w' ∧ ∀ D t x, t ≠ 5 → D ≠ B → Boxed w2 D t x → Boxed w' D t x)) (hz : B ≤ V.heap.size) :
    KeepsFrom W0.heap.size V w' ∧ KeepsTwo (B + 1) s 4 V w' ∧ DI B s W0 (pre ++ [x]) w' := by
  obtain ⟨h1, h2, h3, h4, h5⟩ := hA.out
  have hk : KeepsTwo (B + 1) s 4 V w' := fun h => ⟨h5 _ _ _ (by decide) (by omega) ((hb.block _ h.1.lt).trans h.1), h5 _ _ _ (by decide) (by omega) ((hb.block _ h.2.lt).trans h.2)⟩
  refine ⟨((keeps_below hb).trans h3).from _, hk, ⟨_, h1, ?_, trivial⟩, hk hT, fun y hy => ?_, hB.trans ((hb.mono hz).trans h4)⟩
  · rw [hq.out]; exact h2
  · rcases List.mem_append.1 hy with h | h
    · exact hbad y h
    · rw [List.mem_singleton.1 h]; exact hbx
theorem stopped3 {P : List UInt8 → Prop} {V W0 w5 : World} {B r : Nat} {pre : List (Subtype P)} {x : Subtype P} (hB : Below B W0 V) (hb : Below V.heap.size V w5) (hbx : bad x.1 = true)
    (q0 : Boxed w5 r 9 (.string ⟨#[]⟩)) (q1 : Boxed w5 (r + 1) 26 (.int .i64 0)) (hr : r ≤ B) (h0 : r ≤ V.heap.size) (_h1 : B ≤ V.heap.size) :
    KeepsFrom W0.heap.size V ((w5.setCell ⟨r, 0, none⟩ (.string ⟨#[]⟩)).setCell ⟨r + 1, 0, none⟩ (.int .i64 3)) ∧ DX r W0 .ret (pre ++ [x]) ((w5.setCell ⟨r, 0, none⟩ (.string ⟨#[]⟩)).setCell ⟨r + 1, 0, none⟩ (.int .i64 3)) := by
  refine ⟨(((keeps_below hb).trans (KeepsOthers.setCell _ _ _)).trans (KeepsOthers.setCell _ _ _)).from _, ⟨rfl, x, by simp, hbx⟩, boxed_other (q0.set _) (by omega), (boxed_other q1 (by omega)).set _, ?_⟩
  exact below_set (below_set ((hB.mono hr).trans (hb.mono h0)) (Nat.le_refl _) _) (by omega) _
end Go.Proofs.YtpdodknldhbbhaaGreatDoor.Sx

namespace Go.Proofs.YtpdodknldhbbhaaGreatDoor.Sx
set_option maxRecDepth 100000
open Go.RowKit Go.Shelf
attribute [local go_sem] Oper.semAt_some

set_option maxHeartbeats 2000000 in
theorem decode_err (s : ByteArray) (hs : s.size ≤ 68719476736) (w : World) {t : List UInt8} {f : Nat} (ht : strip s.data.toList = t) (hf : flt 0 false t = f) (htl : t.length ≤ 68719476736) (h0 : ¬ f = 0) :
    CallsIn Fence.wide 5 Tryz.prog 157 #[.string s] w fun e W' => e = .returned (.tuple #[.string ⟨(dec s.data.toList).1.toArray⟩, .int .i64 ((dec s.data.toList).2 : Int)]) ∧ Below w.heap.size w W' := by
  have CW := Lib.hid (fun W => without_any s W hs)
  have CF := Lib.hid (fun W => fault_any ⟨t.toArray⟩ (by rw [ulen rfl]; exact htl) W)
  rw [ht] at CW
  rw [udata, hf] at CF
  have hd : dec s.data.toList = ([], f) := by unfold dec; rw [ht, hf, if_neg h0]
  rw [hd]
  have hb : ((f : Int) != 0) = true := by simp; omega
  clear hd h0 hf ht
  refine callsIn_of_wp_marks Tryz.func157 rfl trivial ?_ rfl
  simp only [Tryz.ntmps157, List.size_toArray, List.length_cons, List.length_nil, Nat.reduceAdd, Nat.reduceSub, Array.replicate_succ, Array.replicate_zero, List.push_toArray, List.append_toArray, List.nil_append, List.cons_append]
  gi_wp2_with (first | (refine ⟨trivial, ?_⟩; gi_at_call 176; refine (callsIn_wide.2 (CW.out _)).mono ?_; rintro e w1 ⟨rfl, b1⟩; obtain ⟨r0, r1, b0⟩ := res_boxes b1; have c0 := r0.cell; have f0 := r0.frozen; have c1 := r1.cell; have f1 := r1.frozen) | (refine ⟨trivial, ?_⟩; gi_at_call 177; refine (callsIn_wide.2 (CF.out _)).mono ?_; rintro e w' ⟨rfl, rfl⟩))
  exact ⟨_, results_dec rfl rfl (boxed_other (r0.set _) (by omega)) ((boxed_other r1 (by omega)).set _), rfl, below_set (below_set b0 (Nat.le_refl _) _) (by omega) _⟩
end Go.Proofs.YtpdodknldhbbhaaGreatDoor.Sx

namespace Go.Proofs.YtpdodknldhbbhaaGreatDoor.Sx
set_option maxRecDepth 100000
open Go.RowKit Go.Shelf
attribute [local go_sem] Oper.semAt_some

set_option maxHeartbeats 2000000 in
theorem decode_in (s : ByteArray) (hs : s.size ≤ 68719476736) (w : World) :
    CallsIn Fence.wide 5 Tryz.prog 157 #[.string s] w fun e W' => e = .returned (.tuple #[.string ⟨(dec s.data.toList).1.toArray⟩, .int .i64 ((dec s.data.toList).2 : Int)]) ∧ Below w.heap.size w W' := by
  obtain ⟨t, ht⟩ : ∃ t, strip s.data.toList = t := ⟨_, rfl⟩
  obtain ⟨f, hf⟩ : ∃ f, flt 0 false t = f := ⟨_, rfl⟩
  have htl : t.length ≤ 68719476736 := by rw [← ht]; have := strip_length s.data.toList; rw [list_size] at this; omega
  have CW := Lib.hid (fun W => without_any s W hs)
  have CF := Lib.hid (fun W => fault_any ⟨t.toArray⟩ (by rw [ulen rfl]; exact htl) W)
  rw [ht] at CW
  rw [udata, hf] at CF
  by_cases h0 : f = 0
  case neg => exact decode_err s hs w ht hf htl h0
  have HD := Lib.hid (show dec s.data.toList = if (cut 4 t).any bad then ([], 3) else (((cut 4 t).map good).flatten, 0) by unfold dec; rw [ht, hf, if_pos h0])
  have HOK := Lib.hid (pieces_ok t (by rw [hf]; exact h0))
  subst h0
  clear hf ht
  have hsz := ulen (u := t) rfl
  have hdt := udata t
  generalize (⟨t.toArray⟩ : ByteArray) = T at *
  have HSZ := Lib.hid hsz
  have HDT := Lib.hid hdt
  clear hsz hdt
  refine callsIn_of_wp_marks Tryz.func157 rfl trivial ?_ rfl
  simp only [Tryz.ntmps157, List.size_toArray, List.length_cons, List.length_nil, Nat.reduceAdd, Nat.reduceSub, Array.replicate_succ, Array.replicate_zero, List.push_toArray, List.append_toArray, List.nil_append, List.cons_append]
  gi_wp2_with (first | (refine ⟨trivial, ?_⟩; gi_at_call 176; refine (callsIn_wide.2 (CW.out _)).mono ?_; rintro e w1 ⟨rfl, b1⟩; obtain ⟨r0, r1, b0⟩ := res_boxes b1; have c0 := r0.cell; have f0 := r0.frozen; have c1 := r1.cell; have f1 := r1.frozen) | (refine ⟨trivial, ?_⟩; gi_at_call 177; refine (callsIn_wide.2 (CF.out _)).mono ?_; rintro e w' ⟨rfl, rfl⟩) | (refine ⟨trivial, ?_⟩; gi_at_call 110; refine (callsIn_wide.2 (lines_any T 4 _)).mono ?_; rintro e w' ⟨rfl, rfl⟩))
  have bO := Boxed.new w1 60 (.slice none 0 0)
  have hT := lines_two T 4 (w1.alloc (.cells #[.slice none 0 0] 60))
  simp only [World.size_alloc] at hT
  have bO0 := (bO.alloc (.cells #[.string T] 9)).alloc (.cells #[.int .i64 4] 3)
  have hB0 : Below w1.heap.size w1 (((w1.alloc (.cells #[.slice none 0 0] 60)).alloc (.cells #[.string T] 9)).alloc (.cells #[.int .i64 4] 3)) := (((Below.refl _ w1).alloc (Nat.le_refl _) _).alloc (by simp) _).alloc (by simp; omega) _
  have hsz : (((w1.alloc (.cells #[.slice none 0 0] 60)).alloc (.cells #[.string T] 9)).alloc (.cells #[.int .i64 4] 3)).heap.size = w1.heap.size + 1 + 1 + 1 := by simp
  clear bO
  generalize hW0 : (((w1.alloc (.cells #[.slice none 0 0] 60)).alloc (.cells #[.string T] 9)).alloc (.cells #[.int .i64 4] 3)) = W0 at *
  clear hW0
  have HZ := Lib.hid (show W0.heap.size = w1.heap.size + 3 by omega)
  clear hsz
  have hH1 : w.heap.size + 1 < w1.heap.size := r1.lt
  have hcl := cut_length (k := 4) (by decide) t
  have hw4 : wid 4 = 4 := by decide
  have hstops := lines_stops_mem (5 - 1) (by omega) (w1.heap.size + 1) T 4 (by rw [HSZ.out]; omega) (KeepsTwo (w1.heap.size + 1) T 4) (fun W W' h => h) W0 hT
  rw [hw4, HDT.out] at hstops
  have HCL := Lib.hid hcl
  have R0 := Lib.hid ((hB0.block w.heap.size r0.lt).trans r0 : Boxed W0 w.heap.size 9 (.string ⟨#[]⟩))
  have R1 := Lib.hid ((hB0.block (w.heap.size + 1) r1.lt).trans r1 : Boxed W0 (w.heap.size + 1) 26 (.int .i64 0))
  clear hcl hw4 r0 r1 c0 c1 f0 f1
  refine wpIn_rangeFunc_ownG rfl (by omega) (gf := 149) (lb := #[.pointer (some ⟨w1.heap.size + 1, 0, none⟩), .pointer (some ⟨w1.heap.size + 1 + 1, 0, none⟩)]) rfl trivial (enters_of Tryz.func149 (by kernel_rfl) rfl)
    hstops KeepsTwo.t (fun W l o o' _ hl hc _ => KeepsTwo.b W l o o' hl hc) (Below.refl _ _) (fun _ => rfl)
    (fun pre V => DI w1.heap.size T W0 pre V) (fun c l V => DX w.heap.size W0 c l V) (DI.own (by rw [HZ.out]; omega) (by rw [HZ.out]; omega)) (DX.own (by rw [HZ.out]; omega) (by rw [HZ.out]; omega))
    ⟨⟨_, bO0, World.ownsRow_nil _ _ _ _, trivial⟩, hT, (fun _ h => by cases h), Below.refl _ _⟩
    (fun x => { tmps := #[.string s, undef, .pointer (some ⟨w.heap.size, 0, none⟩), .pointer (some ⟨w.heap.size + 1, 0, none⟩), .string T, .int .i64 0, .pointer (some ⟨w1.heap.size, 0, none⟩), .string ⟨x.1.toArray⟩, undef, undef, undef, .string s, .string T, .string T, .int .i64 0, .int .i64 0, .bool false, undef, .string T, .func (.func 149) #[] #[.pointer (some ⟨w1.heap.size + 1, 0, none⟩), .pointer (some ⟨w1.heap.size + 1 + 1, 0, none⟩)], .string ⟨x.1.toArray⟩, undef, undef, undef, undef, undef, undef, undef, undef, undef, undef, undef, undef, undef, undef, undef, undef, undef, undef, undef], defers := [] }) ?assign ?body ?done ?stop
  case assign =>
    intro l x V K hK
    gi_wp2
    exact hK
  case stop =>
    rintro D c l V hD hSp ⟨⟨rfl, y, hy, hb⟩, q0, q1, hB⟩ hK
    have HE := Lib.hid (show dec s.data.toList = ([], 3) by rw [HD.out, if_pos]; rw [List.any_eq_true]; exact ⟨y.1, hSp.subset (List.mem_map.2 ⟨y, hy, rfl⟩), hb⟩)
    have h3 := HZ.out
    clear hb hSp
    gi_wp2
    refine ⟨by simp, .inl ⟨_, _, rfl, run_takeDeferred hK, ?_⟩⟩
    exact ⟨_, results_dec rfl rfl (boxed_put q0 hK rfl _) (boxed_put q1 hK rfl _), by rw [HE.out]; rfl, below_put (b0.trans ((hB0.mono (by omega)).trans hB)) (by omega) hK _⟩
  case done =>
    rintro D ys V hD hys ⟨⟨v, hv, hrow, _⟩, hT2, hbad, hB⟩ hK
    have hc := hv.cell
    have tV := Bytes.Has.text (w := V) hrow
    have h3 := HZ.out
    have q0 : Boxed V w.heap.size 9 (.string ⟨#[]⟩) := (hB.block _ (by omega)).trans R0.out
    have q1 : Boxed V (w.heap.size + 1) 26 (.int .i64 0) := (hB.block _ (by omega)).trans R1.out
    have HE := Lib.hid (show dec s.data.toList = (letters ys good, 0) by
      rw [HD.out, if_neg]
      · have h := congrArg (fun l => (l.map good).flatten) hys
        simp only [List.map_map] at h
        rw [← h]; rfl
      · rw [← hys]; intro hh; rw [List.any_eq_true] at hh
        obtain ⟨z, hz, hzb⟩ := hh
        obtain ⟨y, hy, rfl⟩ := List.mem_map.1 hz
        rw [hbad y hy] at hzb; cases hzb)
    have c0 := q0.cell
    have f0 := q0.frozen
    have c1 := q1.cell
    have f1 := q1.frozen
    have Q0 := Lib.hid q0
    have Q1 := Lib.hid q1
    clear hrow hys hbad h3
    gi_wp2
    have h3 := HZ.out
    have hDV : D < V.heap.size := (Array.getElem?_eq_some_iff.1 hK).1
    have hK' : ∀ x y : Value, ((V.setCell ⟨w.heap.size, 0, none⟩ x).setCell ⟨w.heap.size + 1, 0, none⟩ y).heap[D]? = some (.deferred (some [])) := fun x y => ((KeepsOthers.setCell _ _ _).trans (KeepsOthers.setCell _ _ _)).same D _ hK rfl
    refine ⟨by simp, .inl ⟨_, _, rfl, run_takeDeferred (hK' _ _), ?_⟩⟩
    exact ⟨_, results_dec rfl rfl (boxed_put (boxed_other (Q0.out.set _) (by omega)) (hK' _ _) rfl _) (boxed_put ((boxed_other Q1.out (by omega)).set _) (hK' _ _) rfl _), by rw [HE.out]; rfl, below_put (below_set (below_set (b0.trans ((hB0.mono (by omega)).trans (hB.mono (by omega)))) (Nat.le_refl _) _) (by omega) _) (by omega) (hK' _ _) _⟩
  case body =>
    rintro l pre ⟨x, hx⟩ V ⟨⟨v, hv, hrow, _⟩, hT2, hbad, hB⟩ hlt
    obtain ⟨hLs, hlen⟩ := said_ok (HOK.out x hx)
    obtain ⟨sa, sc, rfl⟩ := Bytes.Has.shape hrow
    have hc := hv.cell
    have hz := hB.size
    have hsx : x.length ≤ 4 := by obtain ⟨a, b, c, d, rfl, _⟩ := HOK.out x hx; simp
    have CT := Lib.hid (fun W => trim_any ⟨x.toArray⟩ W (by rw [ulen rfl]; omega))
    rw [udata] at CT
    obtain ⟨y, hy⟩ : ∃ y, said x = y := ⟨_, rfl⟩
    rw [hy] at hLs hlen CT
    have C3 := Lib.hid (fun W => three_of ⟨y.toArray⟩ (by rw [ulen rfl]; omega) (by rw [udata]; exact hLs) W)
    rw [udata] at C3
    have hn := ulen (u := y) rfl
    have hgn := fun p q r (h : tri y = [p, q, r]) => good_n (x := x) (p := p) (q := q) (r := r) (by rw [hy]; exact h)
    rw [hy] at hgn
    have HG := Lib.hid hgn
    have HLL := Lib.hid (show (letters pre good).length ≤ 274877906944 by
      have h1 : (letters pre good).length ≤ 3 * pre.length := goods_length pre
      have h2 := HCL.out
      omega)
    clear hLs hgn hsx hy
    have hmx : Tryz.prog.follows .mixedOrders = true := by kernel_rfl
    rcases hlen with h1 | h1 | h1
    · rw [h1] at hn
      have H1 := Lib.hid h1
      clear h1
      dsimp only
      gi_wp2_with (first
        | (refine ⟨trivial, ?_⟩; gi_at_call 178; refine (CallsIn.inRound l (callsIn_wide.2 (CT.out _))).mono ?_; rintro e w2 ⟨rfl, b2⟩)
        | (refine ⟨trivial, ?_⟩; gi_at_call 179; refine (CallsIn.inRound l (callsIn_wide.2 (C3.out _))).mono ?_; rintro e w3 ⟨p, q, r, hq, rfl, b3⟩))
      obtain ⟨hgd, hbd⟩ := (HG.out p q r hq.out).1 H1.out
      have hqx := Lib.hid (show letters (pre ++ [⟨x, hx⟩]) good = letters pre good ++ [p] by unfold letters; rw [List.map_append, List.flatten_append]; show _ ++ (good x ++ []) = _; rw [List.append_nil, hgd])
      have hg4 := heap_alloc_new w3 (.cells #[.int .u8 (p.toNat : Int), .int .u8 (q.toNat : Int), .int .u8 (r.toNat : Int)] 138 (0, 0))
      have b4 : Below V.heap.size V (w3.alloc (.cells #[.int .u8 (p.toNat : Int), .int .u8 (q.toNat : Int), .int .u8 (r.toNat : Int)] 138 (0, 0))) := ((b2.trans (b3.mono b2.size))).alloc (by have := b2.size; have := b3.size; omega) _
      have hgl : w3.heap.size < (w3.alloc (.cells #[.int .u8 (p.toNat : Int), .int .u8 (q.toNat : Int), .int .u8 (r.toNat : Int)] 138 (0, 0))).heap.size := by simp
      generalize w3.alloc (.cells #[.int .u8 (p.toNat : Int), .int .u8 (q.toNat : Int), .int .u8 (r.toNat : Int)] 138 (0, 0)) = W4 at *
      generalize w3.heap.size = g at *
      clear hgd b2 b3 hc
      obtain ⟨d0, d1, d2⟩ := cells3 hg4
      have hcv : (convert 60 9 (.slice (some ⟨g, 0, none⟩) 1 3)).run Tryz.prog W4.drew = .ok (.string ⟨#[p]⟩) W4.drew := conv3 W4.drew g p q r [p] rfl hg4
      obtain ⟨bb, hbb⟩ : ∃ b, bad x = b := ⟨_, rfl⟩
      rw [hbb] at hbd
      have hne := fun W => neq3 p.toNat q.toNat r.toNat p.toNat 0 0 W
      rw [show (((p.toNat : Int) == (p.toNat : Int)) && (((q.toNat : Int) == (0 : Int)) && ((r.toNat : Int) == (0 : Int)))) = (!bb) by rw [hbd, Bool.not_not] <;> simp only [int_beq, int_beq0]] at hne
      simp only [Bool.not_not] at hne
      clear hbd
      refine Code.wpIn_mono (Q := fun e a' w' => e = .normal ∧ a' = { tmps := #[.string s, undef, .pointer (some ⟨w.heap.size, 0, none⟩), .pointer (some ⟨w.heap.size + 1, 0, none⟩), .string T, .int .i64 0, .pointer (some ⟨w1.heap.size, 0, none⟩), .string ⟨x.toArray⟩, .string ⟨y.toArray⟩, .pointer (some ⟨g, 0, none⟩), .int .i64 1, .string s, .string T, .string T, .int .i64 0, .int .i64 0, .bool false, undef, .string T, .func (.func 149) #[] #[.pointer (some ⟨w1.heap.size + 1, 0, none⟩), .pointer (some ⟨w1.heap.size + 1 + 1, 0, none⟩)], .string ⟨x.toArray⟩, .string ⟨x.toArray⟩, .string ⟨y.toArray⟩, .string ⟨y.toArray⟩, .agg #[.int .u8 (p.toNat : Int), .int .u8 (q.toNat : Int), .int .u8 (r.toNat : Int)], .string ⟨y.toArray⟩, .int .i64 2, .int .i64 1, .agg #[.int .u8 (p.toNat : Int), .int .u8 (q.toNat : Int), .int .u8 (r.toNat : Int)], .int .i64 1, .slice (some ⟨g, 0, none⟩) 1 3, .string ⟨#[p]⟩, .agg #[.int .u8 (p.toNat : Int), .int .u8 0, .int .u8 0], .bool bb, undef, undef, undef, undef, undef, undef], defers := [] } ∧ Below W4.heap.size W4 w') ?_ ?_
      case refine_2 =>
        gi_region_with_o (refine ⟨trivial, ?_⟩; gi_at_call 112; refine (CallsIn.inRound l (callsIn_wide.2 (three_1 p _))).mono ?_; rintro e w5 ⟨rfl, b5⟩; obtain ⟨e0, e1, e2⟩ := cells3 ((b5.block g hgl).trans hg4))
        all_goals exact ⟨rfl, rfl, (Below.refl _ W4).drew.trans ‹_›⟩
      rintro e a' w5 ⟨rfl, rfl, b5⟩
      have b6 := b4.trans (b5.mono b4.size)
      have hg5 := (b5.block g hgl).trans hg4
      clear d0 d1 d2 hcv hne hg4
      have hv5 : Boxed w5 w1.heap.size 60 _ := (b6.block w1.heap.size hv.lt).trans hv
      have hc5 := hv5.cell
      cases bb
      · obtain ⟨g', cap, w7, hrun, hc7, hf7, hA⟩ := app3 p q r [p] rfl (by simp) (by simp) hg5 hv5 (Bytes.row_below hrow b6) (by have := HZ.out; have := b6.size; omega) (Nat.le_refl _) HLL.out
        change (Builtin.append_ #[60, 60] 60 #[_, .slice (some ⟨g, 0, none⟩) 1 3]).run Tryz.prog w5.drew = .ok (.slice (some ⟨g', 0, none⟩) ((letters pre good).length + 1) cap) w7 at hrun
        dsimp only [List.length_cons, List.length_nil, Nat.zero_add, Nat.reduceAdd] at hA
        gi_wp2_with fail
        refine wpIn_region_any hmx ?_
        change wpAnyIn _ _ _ _ _ _ _ _ _ (World.drew _)
        refine wpAnyIn_ready (rs := [0, 1]) (by kernel_rfl) (by simp) ?_
        refine AllReadyIn.cons rfl (fun K hK => ?_) (AllReadyIn.cons rfl (fun K hK => ?_) AllReadyIn.nil)
        · go_simp
          refine hK _ _ ?_
          clear hK K
          refine wpAnyIn_ready (rs := [1]) (by kernel_rfl) (by simp) ?_
          refine AllReadyIn.cons rfl (fun K hK => ?_) AllReadyIn.nil
          go_simp
          refine hK _ _ ?_
          clear hK K
          refine wpAnyIn_ready (rs := [2]) (by kernel_rfl) (by simp) ?_
          refine AllReadyIn.cons rfl (fun K hK => ?_) AllReadyIn.nil
          go_simp
          refine hK _ _ ?_
          clear hK K
          refine wpAnyIn_ready (rs := [3]) (by kernel_rfl) (by simp) ?_
          refine AllReadyIn.cons rfl (fun K hK => ?_) AllReadyIn.nil
          refine stepIn_append rfl _ _ _ rfl rfl rfl hrun (hK _ _ ?_)
          clear hK K
          refine wpAnyIn_ready (rs := [4]) (by kernel_rfl) (by simp) ?_
          refine AllReadyIn.cons rfl (fun K hK => ?_) AllReadyIn.nil
          go_simp
          refine hK _ _ ?_
          clear hK K
          refine wpAnyIn_done (by kernel_rfl) ?_ _
          clear hrun hc5 hc7 hf7
          gi_wp2_with fail
          exact ended3 hB hT2 hbad b6 hqx hbb hA (by have := HZ.out; omega)
        · go_simp
          refine hK _ _ ?_
          clear hK K
          refine wpAnyIn_ready (rs := [0, 2]) (by kernel_rfl) (by simp) ?_
          refine AllReadyIn.cons rfl (fun K hK => ?_) (AllReadyIn.cons rfl (fun K hK => ?_) AllReadyIn.nil)
          · go_simp
            refine hK _ _ ?_
            clear hK K
            refine wpAnyIn_ready (rs := [2]) (by kernel_rfl) (by simp) ?_
            refine AllReadyIn.cons rfl (fun K hK => ?_) AllReadyIn.nil
            go_simp
            refine hK _ _ ?_
            clear hK K
            refine wpAnyIn_ready (rs := [3]) (by kernel_rfl) (by simp) ?_
            refine AllReadyIn.cons rfl (fun K hK => ?_) AllReadyIn.nil
            refine stepIn_append rfl _ _ _ rfl rfl rfl hrun (hK _ _ ?_)
            clear hK K
            refine wpAnyIn_ready (rs := [4]) (by kernel_rfl) (by simp) ?_
            refine AllReadyIn.cons rfl (fun K hK => ?_) AllReadyIn.nil
            go_simp
            refine hK _ _ ?_
            clear hK K
            refine wpAnyIn_done (by kernel_rfl) ?_ _
            clear hrun hc5 hc7 hf7
            gi_wp2_with fail
            exact ended3 hB hT2 hbad b6 hqx hbb hA (by have := HZ.out; omega)
          · go_simp
            refine hK _ _ ?_
            clear hK K
            refine wpAnyIn_ready (rs := [0]) (by kernel_rfl) (by simp) ?_
            refine AllReadyIn.cons rfl (fun K hK => ?_) AllReadyIn.nil
            go_simp
            refine hK _ _ ?_
            clear hK K
            refine wpAnyIn_ready (rs := [3]) (by kernel_rfl) (by simp) ?_
            refine AllReadyIn.cons rfl (fun K hK => ?_) AllReadyIn.nil
            refine stepIn_append rfl _ _ _ rfl rfl rfl hrun (hK _ _ ?_)
            clear hK K
            refine wpAnyIn_ready (rs := [4]) (by kernel_rfl) (by simp) ?_
            refine AllReadyIn.cons rfl (fun K hK => ?_) AllReadyIn.nil
            go_simp
            refine hK _ _ ?_
            clear hK K
            refine wpAnyIn_done (by kernel_rfl) ?_ _
            clear hrun hc5 hc7 hf7
            gi_wp2_with fail
            exact ended3 hB hT2 hbad b6 hqx hbb hA (by have := HZ.out; omega)
      · have q0 : Boxed w5 w.heap.size 9 (.string ⟨#[]⟩) := (b6.block _ (by have := HZ.out; omega)).trans ((hB.block _ (by have := HZ.out; omega)).trans R0.out)
        have q1 : Boxed w5 (w.heap.size + 1) 26 (.int .i64 0) := (b6.block _ (by have := HZ.out; omega)).trans ((hB.block _ (by have := HZ.out; omega)).trans R1.out)
        have c0 := q0.cell
        have f0 := q0.frozen
        have c1 := q1.cell
        have f1 := q1.frozen
        clear hc5
        have Q0 := Lib.hid q0
        have Q1 := Lib.hid q1
        clear q0 q1
        gi_wp2_with fail
        exact stopped3 hB b6 hbb Q0.out Q1.out (by omega) (by have := HZ.out; omega) (by have := HZ.out; omega)
    · rw [h1] at hn
      have H1 := Lib.hid h1
      clear h1
      dsimp only
      gi_wp2_with (first
        | (refine ⟨trivial, ?_⟩; gi_at_call 178; refine (CallsIn.inRound l (callsIn_wide.2 (CT.out _))).mono ?_; rintro e w2 ⟨rfl, b2⟩)
        | (refine ⟨trivial, ?_⟩; gi_at_call 179; refine (CallsIn.inRound l (callsIn_wide.2 (C3.out _))).mono ?_; rintro e w3 ⟨p, q, r, hq, rfl, b3⟩))
      obtain ⟨hgd, hbd⟩ := (HG.out p q r hq.out).2.1 H1.out
      have hqx := Lib.hid (show letters (pre ++ [⟨x, hx⟩]) good = letters pre good ++ [p, q] by unfold letters; rw [List.map_append, List.flatten_append]; show _ ++ (good x ++ []) = _; rw [List.append_nil, hgd])
      have hg4 := heap_alloc_new w3 (.cells #[.int .u8 (p.toNat : Int), .int .u8 (q.toNat : Int), .int .u8 (r.toNat : Int)] 138 (0, 0))
      have b4 : Below V.heap.size V (w3.alloc (.cells #[.int .u8 (p.toNat : Int), .int .u8 (q.toNat : Int), .int .u8 (r.toNat : Int)] 138 (0, 0))) := ((b2.trans (b3.mono b2.size))).alloc (by have := b2.size; have := b3.size; omega) _
      have hgl : w3.heap.size < (w3.alloc (.cells #[.int .u8 (p.toNat : Int), .int .u8 (q.toNat : Int), .int .u8 (r.toNat : Int)] 138 (0, 0))).heap.size := by simp
      generalize w3.alloc (.cells #[.int .u8 (p.toNat : Int), .int .u8 (q.toNat : Int), .int .u8 (r.toNat : Int)] 138 (0, 0)) = W4 at *
      generalize w3.heap.size = g at *
      clear hgd b2 b3 hc
      obtain ⟨d0, d1, d2⟩ := cells3 hg4
      have hcv : (convert 60 9 (.slice (some ⟨g, 0, none⟩) 2 3)).run Tryz.prog W4.drew = .ok (.string ⟨#[p, q]⟩) W4.drew := conv3 W4.drew g p q r [p, q] rfl hg4
      obtain ⟨bb, hbb⟩ : ∃ b, bad x = b := ⟨_, rfl⟩
      rw [hbb] at hbd
      have hne := fun W => neq3 p.toNat q.toNat r.toNat p.toNat q.toNat 0 W
      rw [show (((p.toNat : Int) == (p.toNat : Int)) && (((q.toNat : Int) == (q.toNat : Int)) && ((r.toNat : Int) == (0 : Int)))) = (!bb) by rw [hbd, Bool.not_not] <;> simp only [int_beq, int_beq0]] at hne
      simp only [Bool.not_not] at hne
      clear hbd
      refine Code.wpIn_mono (Q := fun e a' w' => e = .normal ∧ a' = { tmps := #[.string s, undef, .pointer (some ⟨w.heap.size, 0, none⟩), .pointer (some ⟨w.heap.size + 1, 0, none⟩), .string T, .int .i64 0, .pointer (some ⟨w1.heap.size, 0, none⟩), .string ⟨x.toArray⟩, .string ⟨y.toArray⟩, .pointer (some ⟨g, 0, none⟩), .int .i64 2, .string s, .string T, .string T, .int .i64 0, .int .i64 0, .bool false, undef, .string T, .func (.func 149) #[] #[.pointer (some ⟨w1.heap.size + 1, 0, none⟩), .pointer (some ⟨w1.heap.size + 1 + 1, 0, none⟩)], .string ⟨x.toArray⟩, .string ⟨x.toArray⟩, .string ⟨y.toArray⟩, .string ⟨y.toArray⟩, .agg #[.int .u8 (p.toNat : Int), .int .u8 (q.toNat : Int), .int .u8 (r.toNat : Int)], .string ⟨y.toArray⟩, .int .i64 3, .int .i64 2, .agg #[.int .u8 (p.toNat : Int), .int .u8 (q.toNat : Int), .int .u8 (r.toNat : Int)], .int .i64 2, .slice (some ⟨g, 0, none⟩) 2 3, .string ⟨#[p, q]⟩, .agg #[.int .u8 (p.toNat : Int), .int .u8 (q.toNat : Int), .int .u8 0], .bool bb, undef, undef, undef, undef, undef, undef], defers := [] } ∧ Below W4.heap.size W4 w') ?_ ?_
      case refine_2 =>
        gi_region_with_o (refine ⟨trivial, ?_⟩; gi_at_call 112; refine (CallsIn.inRound l (callsIn_wide.2 (three_2 p q _))).mono ?_; rintro e w5 ⟨rfl, b5⟩; obtain ⟨e0, e1, e2⟩ := cells3 ((b5.block g hgl).trans hg4))
        all_goals exact ⟨rfl, rfl, (Below.refl _ W4).drew.trans ‹_›⟩
      rintro e a' w5 ⟨rfl, rfl, b5⟩
      have b6 := b4.trans (b5.mono b4.size)
      have hg5 := (b5.block g hgl).trans hg4
      clear d0 d1 d2 hcv hne hg4
      have hv5 : Boxed w5 w1.heap.size 60 _ := (b6.block w1.heap.size hv.lt).trans hv
      have hc5 := hv5.cell
      cases bb
      · obtain ⟨g', cap, w7, hrun, hc7, hf7, hA⟩ := app3 p q r [p, q] rfl (by simp) (by simp) hg5 hv5 (Bytes.row_below hrow b6) (by have := HZ.out; have := b6.size; omega) (Nat.le_refl _) HLL.out
        change (Builtin.append_ #[60, 60] 60 #[_, .slice (some ⟨g, 0, none⟩) 2 3]).run Tryz.prog w5.drew = .ok (.slice (some ⟨g', 0, none⟩) ((letters pre good).length + 2) cap) w7 at hrun
        dsimp only [List.length_cons, List.length_nil, Nat.zero_add, Nat.reduceAdd] at hA
        gi_wp2_with fail
        refine wpIn_region_any hmx ?_
        change wpAnyIn _ _ _ _ _ _ _ _ _ (World.drew _)
        refine wpAnyIn_ready (rs := [0, 1]) (by kernel_rfl) (by simp) ?_
        refine AllReadyIn.cons rfl (fun K hK => ?_) (AllReadyIn.cons rfl (fun K hK => ?_) AllReadyIn.nil)
        · go_simp
          refine hK _ _ ?_
          clear hK K
          refine wpAnyIn_ready (rs := [1]) (by kernel_rfl) (by simp) ?_
          refine AllReadyIn.cons rfl (fun K hK => ?_) AllReadyIn.nil
          go_simp
          refine hK _ _ ?_
          clear hK K
          refine wpAnyIn_ready (rs := [2]) (by kernel_rfl) (by simp) ?_
          refine AllReadyIn.cons rfl (fun K hK => ?_) AllReadyIn.nil
          go_simp
          refine hK _ _ ?_
          clear hK K
          refine wpAnyIn_ready (rs := [3]) (by kernel_rfl) (by simp) ?_
          refine AllReadyIn.cons rfl (fun K hK => ?_) AllReadyIn.nil
          refine stepIn_append rfl _ _ _ rfl rfl rfl hrun (hK _ _ ?_)
          clear hK K
          refine wpAnyIn_ready (rs := [4]) (by kernel_rfl) (by simp) ?_
          refine AllReadyIn.cons rfl (fun K hK => ?_) AllReadyIn.nil
          go_simp
          refine hK _ _ ?_
          clear hK K
          refine wpAnyIn_done (by kernel_rfl) ?_ _
          clear hrun hc5 hc7 hf7
          gi_wp2_with fail
          exact ended3 hB hT2 hbad b6 hqx hbb hA (by have := HZ.out; omega)
        · go_simp
          refine hK _ _ ?_
          clear hK K
          refine wpAnyIn_ready (rs := [0, 2]) (by kernel_rfl) (by simp) ?_
          refine AllReadyIn.cons rfl (fun K hK => ?_) (AllReadyIn.cons rfl (fun K hK => ?_) AllReadyIn.nil)
          · go_simp
            refine hK _ _ ?_
            clear hK K
            refine wpAnyIn_ready (rs := [2]) (by kernel_rfl) (by simp) ?_
            refine AllReadyIn.cons rfl (fun K hK => ?_) AllReadyIn.nil
            go_simp
            refine hK _ _ ?_
            clear hK K
            refine wpAnyIn_ready (rs := [3]) (by kernel_rfl) (by simp) ?_
            refine AllReadyIn.cons rfl (fun K hK => ?_) AllReadyIn.nil
            refine stepIn_append rfl _ _ _ rfl rfl rfl hrun (hK _ _ ?_)
            clear hK K
            refine wpAnyIn_ready (rs := [4]) (by kernel_rfl) (by simp) ?_
            refine AllReadyIn.cons rfl (fun K hK => ?_) AllReadyIn.nil
            go_simp
            refine hK _ _ ?_
            clear hK K
            refine wpAnyIn_done (by kernel_rfl) ?_ _
            clear hrun hc5 hc7 hf7
            gi_wp2_with fail
            exact ended3 hB hT2 hbad b6 hqx hbb hA (by have := HZ.out; omega)
          · go_simp
            refine hK _ _ ?_
            clear hK K
            refine wpAnyIn_ready (rs := [0]) (by kernel_rfl) (by simp) ?_
            refine AllReadyIn.cons rfl (fun K hK => ?_) AllReadyIn.nil
            go_simp
            refine hK _ _ ?_
            clear hK K
            refine wpAnyIn_ready (rs := [3]) (by kernel_rfl) (by simp) ?_
            refine AllReadyIn.cons rfl (fun K hK => ?_) AllReadyIn.nil
            refine stepIn_append rfl _ _ _ rfl rfl rfl hrun (hK _ _ ?_)
            clear hK K
            refine wpAnyIn_ready (rs := [4]) (by kernel_rfl) (by simp) ?_
            refine AllReadyIn.cons rfl (fun K hK => ?_) AllReadyIn.nil
            go_simp
            refine hK _ _ ?_
            clear hK K
            refine wpAnyIn_done (by kernel_rfl) ?_ _
            clear hrun hc5 hc7 hf7
            gi_wp2_with fail
            exact ended3 hB hT2 hbad b6 hqx hbb hA (by have := HZ.out; omega)
      · have q0 : Boxed w5 w.heap.size 9 (.string ⟨#[]⟩) := (b6.block _ (by have := HZ.out; omega)).trans ((hB.block _ (by have := HZ.out; omega)).trans R0.out)
        have q1 : Boxed w5 (w.heap.size + 1) 26 (.int .i64 0) := (b6.block _ (by have := HZ.out; omega)).trans ((hB.block _ (by have := HZ.out; omega)).trans R1.out)
        have c0 := q0.cell
        have f0 := q0.frozen
        have c1 := q1.cell
        have f1 := q1.frozen
        clear hc5
        have Q0 := Lib.hid q0
        have Q1 := Lib.hid q1
        clear q0 q1
        gi_wp2_with fail
        exact stopped3 hB b6 hbb Q0.out Q1.out (by omega) (by have := HZ.out; omega) (by have := HZ.out; omega)
    · rw [h1] at hn
      have H1 := Lib.hid h1
      clear h1
      dsimp only
      gi_wp2_with (first
        | (refine ⟨trivial, ?_⟩; gi_at_call 178; refine (CallsIn.inRound l (callsIn_wide.2 (CT.out _))).mono ?_; rintro e w2 ⟨rfl, b2⟩)
        | (refine ⟨trivial, ?_⟩; gi_at_call 179; refine (CallsIn.inRound l (callsIn_wide.2 (C3.out _))).mono ?_; rintro e w3 ⟨p, q, r, hq, rfl, b3⟩))
      obtain ⟨hgd, hbd⟩ := (HG.out p q r hq.out).2.2 H1.out
      have hqx := Lib.hid (show letters (pre ++ [⟨x, hx⟩]) good = letters pre good ++ [p, q, r] by unfold letters; rw [List.map_append, List.flatten_append]; show _ ++ (good x ++ []) = _; rw [List.append_nil, hgd])
      have hg4 := heap_alloc_new w3 (.cells #[.int .u8 (p.toNat : Int), .int .u8 (q.toNat : Int), .int .u8 (r.toNat : Int)] 138 (0, 0))
      have b4 : Below V.heap.size V (w3.alloc (.cells #[.int .u8 (p.toNat : Int), .int .u8 (q.toNat : Int), .int .u8 (r.toNat : Int)] 138 (0, 0))) := ((b2.trans (b3.mono b2.size))).alloc (by have := b2.size; have := b3.size; omega) _
      have hgl : w3.heap.size < (w3.alloc (.cells #[.int .u8 (p.toNat : Int), .int .u8 (q.toNat : Int), .int .u8 (r.toNat : Int)] 138 (0, 0))).heap.size := by simp
      generalize w3.alloc (.cells #[.int .u8 (p.toNat : Int), .int .u8 (q.toNat : Int), .int .u8 (r.toNat : Int)] 138 (0, 0)) = W4 at *
      generalize w3.heap.size = g at *
      clear hgd b2 b3 hc
      obtain ⟨d0, d1, d2⟩ := cells3 hg4
      have hcv : (convert 60 9 (.slice (some ⟨g, 0, none⟩) 3 3)).run Tryz.prog W4.drew = .ok (.string ⟨#[p, q, r]⟩) W4.drew := conv3 W4.drew g p q r [p, q, r] rfl hg4
      obtain ⟨bb, hbb⟩ : ∃ b, bad x = b := ⟨_, rfl⟩
      have hne := fun W => neq3 p.toNat q.toNat r.toNat p.toNat q.toNat r.toNat W
      rw [hbd] at hbb
      subst hbb
      simp only [beq_self_eq_true, Bool.and_self, Bool.not_true] at hne
      refine Code.wpIn_mono (Q := fun e a' w' => e = .normal ∧ a' = { tmps := #[.string s, undef, .pointer (some ⟨w.heap.size, 0, none⟩), .pointer (some ⟨w.heap.size + 1, 0, none⟩), .string T, .int .i64 0, .pointer (some ⟨w1.heap.size, 0, none⟩), .string ⟨x.toArray⟩, .string ⟨y.toArray⟩, .pointer (some ⟨g, 0, none⟩), .int .i64 3, .string s, .string T, .string T, .int .i64 0, .int .i64 0, .bool false, undef, .string T, .func (.func 149) #[] #[.pointer (some ⟨w1.heap.size + 1, 0, none⟩), .pointer (some ⟨w1.heap.size + 1 + 1, 0, none⟩)], .string ⟨x.toArray⟩, .string ⟨x.toArray⟩, .string ⟨y.toArray⟩, .string ⟨y.toArray⟩, .agg #[.int .u8 (p.toNat : Int), .int .u8 (q.toNat : Int), .int .u8 (r.toNat : Int)], .string ⟨y.toArray⟩, .int .i64 4, .int .i64 3, .agg #[.int .u8 (p.toNat : Int), .int .u8 (q.toNat : Int), .int .u8 (r.toNat : Int)], .int .i64 3, .slice (some ⟨g, 0, none⟩) 3 3, .string ⟨#[p, q, r]⟩, .agg #[.int .u8 (p.toNat : Int), .int .u8 (q.toNat : Int), .int .u8 (r.toNat : Int)], .bool false, undef, undef, undef, undef, undef, undef], defers := [] } ∧ Below W4.heap.size W4 w') ?_ ?_
      case refine_2 =>
        gi_region_with_o (refine ⟨trivial, ?_⟩; gi_at_call 112; refine (CallsIn.inRound l (callsIn_wide.2 (three_3 p q r _))).mono ?_; rintro e w5 ⟨rfl, b5⟩; obtain ⟨e0, e1, e2⟩ := cells3 ((b5.block g hgl).trans hg4))
        all_goals exact ⟨rfl, rfl, (Below.refl _ W4).drew.trans ‹_›⟩
      rintro e a' w5 ⟨rfl, rfl, b5⟩
      have b6 := b4.trans (b5.mono b4.size)
      have hg5 := (b5.block g hgl).trans hg4
      clear d0 d1 d2 hcv hne hg4
      have hv5 : Boxed w5 w1.heap.size 60 _ := (b6.block w1.heap.size hv.lt).trans hv
      have hc5 := hv5.cell
      obtain ⟨g', cap, w7, hrun, hc7, hf7, hA⟩ := app3 p q r [p, q, r] rfl (by simp) (by simp) hg5 hv5 (Bytes.row_below hrow b6) (by have := HZ.out; have := b6.size; omega) (Nat.le_refl _) HLL.out
      change (Builtin.append_ #[60, 60] 60 #[_, .slice (some ⟨g, 0, none⟩) 3 3]).run Tryz.prog w5.drew = .ok (.slice (some ⟨g', 0, none⟩) ((letters pre good).length + 3) cap) w7 at hrun
      dsimp only [List.length_cons, List.length_nil, Nat.zero_add, Nat.reduceAdd] at hA
      gi_wp2_with fail
      refine wpIn_region_any hmx ?_
      change wpAnyIn _ _ _ _ _ _ _ _ _ (World.drew _)
      refine wpAnyIn_ready (rs := [0, 1]) (by kernel_rfl) (by simp) ?_
      refine AllReadyIn.cons rfl (fun K hK => ?_) (AllReadyIn.cons rfl (fun K hK => ?_) AllReadyIn.nil)
      · go_simp
        refine hK _ _ ?_
        clear hK K
        refine wpAnyIn_ready (rs := [1]) (by kernel_rfl) (by simp) ?_
        refine AllReadyIn.cons rfl (fun K hK => ?_) AllReadyIn.nil
        go_simp
        refine hK _ _ ?_
        clear hK K
        refine wpAnyIn_ready (rs := [2]) (by kernel_rfl) (by simp) ?_
        refine AllReadyIn.cons rfl (fun K hK => ?_) AllReadyIn.nil
        go_simp
        refine hK _ _ ?_
        clear hK K
        refine wpAnyIn_ready (rs := [3]) (by kernel_rfl) (by simp) ?_
        refine AllReadyIn.cons rfl (fun K hK => ?_) AllReadyIn.nil
        refine stepIn_append rfl _ _ _ rfl rfl rfl hrun (hK _ _ ?_)
        clear hK K
        refine wpAnyIn_ready (rs := [4]) (by kernel_rfl) (by simp) ?_
        refine AllReadyIn.cons rfl (fun K hK => ?_) AllReadyIn.nil
        go_simp
        refine hK _ _ ?_
        clear hK K
        refine wpAnyIn_done (by kernel_rfl) ?_ _
        clear hrun hc5 hc7 hf7
        gi_wp2_with fail
        exact ended3 hB hT2 hbad b6 hqx hbd hA (by have := HZ.out; omega)
      · go_simp
        refine hK _ _ ?_
        clear hK K
        refine wpAnyIn_ready (rs := [0, 2]) (by kernel_rfl) (by simp) ?_
        refine AllReadyIn.cons rfl (fun K hK => ?_) (AllReadyIn.cons rfl (fun K hK => ?_) AllReadyIn.nil)
        · go_simp
          refine hK _ _ ?_
          clear hK K
          refine wpAnyIn_ready (rs := [2]) (by kernel_rfl) (by simp) ?_
          refine AllReadyIn.cons rfl (fun K hK => ?_) AllReadyIn.nil
          go_simp
          refine hK _ _ ?_
          clear hK K
          refine wpAnyIn_ready (rs := [3]) (by kernel_rfl) (by simp) ?_
          refine AllReadyIn.cons rfl (fun K hK => ?_) AllReadyIn.nil
          refine stepIn_append rfl _ _ _ rfl rfl rfl hrun (hK _ _ ?_)
          clear hK K
          refine wpAnyIn_ready (rs := [4]) (by kernel_rfl) (by simp) ?_
          refine AllReadyIn.cons rfl (fun K hK => ?_) AllReadyIn.nil
          go_simp
          refine hK _ _ ?_
          clear hK K
          refine wpAnyIn_done (by kernel_rfl) ?_ _
          clear hrun hc5 hc7 hf7
          gi_wp2_with fail
          exact ended3 hB hT2 hbad b6 hqx hbd hA (by have := HZ.out; omega)
        · go_simp
          refine hK _ _ ?_
          clear hK K
          refine wpAnyIn_ready (rs := [0]) (by kernel_rfl) (by simp) ?_
          refine AllReadyIn.cons rfl (fun K hK => ?_) AllReadyIn.nil
          go_simp
          refine hK _ _ ?_
          clear hK K
          refine wpAnyIn_ready (rs := [3]) (by kernel_rfl) (by simp) ?_
          refine AllReadyIn.cons rfl (fun K hK => ?_) AllReadyIn.nil
          refine stepIn_append rfl _ _ _ rfl rfl rfl hrun (hK _ _ ?_)
          clear hK K
          refine wpAnyIn_ready (rs := [4]) (by kernel_rfl) (by simp) ?_
          refine AllReadyIn.cons rfl (fun K hK => ?_) AllReadyIn.nil
          go_simp
          refine hK _ _ ?_
          clear hK K
          refine wpAnyIn_done (by kernel_rfl) ?_ _
          clear hrun hc5 hc7 hf7
          gi_wp2_with fail
          exact ended3 hB hT2 hbad b6 hqx hbd hA (by have := HZ.out; omega)
theorem decode_any (s : ByteArray) (hs : s.size ≤ 68719476736) (w : World) :
    Calls Tryz.prog 157 #[.string s] w fun e W' => e = .returned (.tuple #[.string ⟨(dec s.data.toList).1.toArray⟩, .int .i64 ((dec s.data.toList).2 : Int)]) ∧ Below w.heap.size w W' :=
  callsIn_wide.1 (decode_in s hs w)
end Go.Proofs.YtpdodknldhbbhaaGreatDoor.Sx
