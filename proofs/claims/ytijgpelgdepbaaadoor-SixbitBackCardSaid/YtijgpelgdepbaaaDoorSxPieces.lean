/-
What an iterator of pieces tells, up to so many: a row of the call's own. Conditions: the text has at most 10000 bytes, and at most 10000 pieces are wanted.
-/
import Derived.Test.YtijgpelgdepbaaaDoorSxLines
import Derived.Test.YtijgpelgdepbaaaDoorBytes
import Derived.Test.YtijgpelgdepbaaaDoorLaws
import Derived.Maps.AppendAt
namespace Go.Proofs.YtijgpelgdepbaaaDoor.Sx
open Go.RowKit Go.Shelf
attribute [local go_sem] Oper.semAt_some

def scells (l : List (List UInt8)) : List Value := l.map fun x => Value.string ⟨x.toArray⟩
theorem scells_length (l : List (List UInt8)) : (scells l).length = l.length := by simp [scells]
theorem scells_snoc (l : List (List UInt8)) (x : List UInt8) : scells (l ++ [x]) = scells l ++ [.string ⟨x.toArray⟩] := by simp [scells]
/-- The slice v holds the pieces l, in a row of the call's own (blocks from base on). -/
def Strs (w : World) (base : Nat) (v : Value) (l : List (List UInt8)) : Prop := w.ownsRow base 9 1 v l.length (scells l)
theorem infoStr : (Tryd.prog.info? 9).map (fun i => (i.zero, i.size, i.bytes)) = some (some (.string .empty), 1, 16) := by kernel_rfl

theorem ownsRow_low {w : World} {b b' n sz : Nat} {e : TypeId} {v : Value} {xs : List Value} (hb : b' ≤ b) (h : w.ownsRow b e sz v n xs) : w.ownsRow b' e sz v n xs := by
  obtain ⟨h0, h⟩ := h
  refine ⟨h0, ?_⟩
  rcases h with h | ⟨g, cap, cur, h1, h2, h3⟩
  · exact .inl h
  · exact .inr ⟨g, cap, cur, h1, by omega, h3⟩
theorem strs_shape {w : World} {base n : Nat} {v : Value} {xs : List Value} (h : w.ownsRow base 9 1 v n xs) : ∃ a cap, v = .slice a n cap := by
  obtain ⟨_, ⟨rfl, rfl⟩ | ⟨g, cap, cur, rfl, _⟩⟩ := h
  · exact ⟨none, 0, rfl⟩
  · exact ⟨_, cap, rfl⟩
theorem below_put_p {B : Nat} {a w : World} (h : Below B a w) {D : Nat} {o : Obj} (hD : B ≤ D) (hk : w.heap[D]? = some o) (o' : Obj) : Below B a (w.putObj D o') :=
  h.grown (grownBy_putObj' w D o') (by have := (Array.getElem?_eq_some_iff.1 hk).1; omega) (fun k e => by cases e; exact hD)
theorem prefix_take {α : Type} {l t : List α} {k : Nat} (h : l <+: t) (hl : l.dropLast.length = k) : l.dropLast = t.take k := by
  obtain ⟨r, rfl⟩ := h
  rw [← hl, List.take_append_of_le_length (by rw [List.length_dropLast]; omega), List.dropLast_eq_take, List.length_take]
  congr 1; omega
/-- The pieces' row, and the call's true. -/
def Told (w : World) (base : Nat) (l : List (List UInt8)) (e : Ending) (W' : World) : Prop := ∃ v, e = .returned (.tuple #[v, .bool true]) ∧ Strs W' base v l ∧ Below base w W'

set_option maxRecDepth 100000 in
set_option maxHeartbeats 2000000 in
theorem pieces_in (s : ByteArray) (n : Int) (m : Nat) (hs : s.size ≤ 10000) (hm : m ≤ 10000) (w : World) :
    CallsIn Fence.wide 5 Tryd.prog 8 #[.string s, .int .i64 n, .int .i64 (m : Int)] w (Told w w.heap.size ((cut (wid n) s.data.toList).take m)) := by
  obtain ⟨i0, hi, hz0, hz1, hz2⟩ := info_parts infoStr
  have hnf := fun (W : World) (B : Nat) => Laws.run_eql_func_nil W 33 _ _ _ (.func 19) #[] #[.pointer (some ⟨B, 0, none⟩), .pointer (some ⟨B + 1, 0, none⟩)] Tryd.underlying33
  refine callsIn_of_wp_marks Tryd.func8 rfl trivial ?_ rfl
  simp only [Tryd.ntmps8, List.size_toArray, List.length_cons, List.length_nil, Nat.reduceAdd, Nat.reduceSub, Array.replicate_succ, Array.replicate_zero, List.push_toArray, List.append_toArray, List.nil_append, List.cons_append]
  gi_wp2_with (refine ⟨trivial, ?_⟩; gi_at_call 11; refine (callsIn_wide.2 (lines_any s n _)).mono ?_; rintro e w' ⟨rfl, rfl⟩)
  have bM := Boxed.new w 3 (.int .i64 (m : Int))
  have hTwo := lines_two s n (w.alloc (.cells #[.int .i64 (m : Int)] 3))
  have bL := Boxed.new (((w.alloc (.cells #[.int .i64 (m : Int)] 3)).alloc (.cells #[.string s] 9)).alloc (.cells #[.int .i64 n] 3)) 27 (.slice none 0 0)
  have hB0 : Below w.heap.size w ((((w.alloc (.cells #[.int .i64 (m : Int)] 3)).alloc (.cells #[.string s] 9)).alloc (.cells #[.int .i64 n] 3)).alloc (.cells #[.slice none 0 0] 27)) := ((((Below.refl _ w).alloc (Nat.le_refl _) _).alloc (by simp) _).alloc (by simp; omega) _).alloc (by simp; omega) _
  simp only [World.size_alloc] at hTwo bL
  have hT0 := hTwo.alloc (.cells #[.slice none 0 0] 27)
  have bM0 := ((bM.alloc (.cells #[.string s] 9)).alloc (.cells #[.int .i64 n] 3)).alloc (.cells #[.slice none 0 0] 27)
  have hz0' : ((((w.alloc (.cells #[.int .i64 (m : Int)] 3)).alloc (.cells #[.string s] 9)).alloc (.cells #[.int .i64 n] 3)).alloc (.cells #[.slice none 0 0] 27)).heap.size = w.heap.size + 1 + 1 + 1 + 1 := by simp
  clear bM hTwo
  generalize hW0 : ((((w.alloc (.cells #[.int .i64 (m : Int)] 3)).alloc (.cells #[.string s] 9)).alloc (.cells #[.int .i64 n] 3)).alloc (.cells #[.slice none 0 0] 27)) = W0 at *
  clear hW0
  have hsz : W0.heap.size = w.heap.size + 4 := by omega
  have HZ := Lib.hid hsz
  clear hz0' hsz
  have hk := wid_pos n
  have hcl := cut_length hk s.data.toList
  rw [list_size] at hcl
  refine wpIn_rangeFunc_ownG rfl (by omega) (gf := 19) (lb := #[.pointer (some ⟨w.heap.size + 1, 0, none⟩), .pointer (some ⟨w.heap.size + 1 + 1, 0, none⟩)]) rfl trivial (enters_of Tryd.func19 (by kernel_rfl) rfl)
    (lines_stops (5 - 1) (by omega) (w.heap.size + 1) s n (by omega) (Below (w.heap.size + 3)) (fun W W' hb ht => ht.below hb (by omega)) W0 hT0) belowK_t (belowK_b (by rw [HZ.out]; omega)) (Below.refl _ _) (fun _ => rfl)
    (fun pre V => ((∃ v, Boxed V (w.heap.size + 3) 27 v ∧ V.ownsRow (w.heap.size + 3) 9 1 v pre.length (scells pre) ∧ True) ∧ pre.length ≤ m) ∧ Below (w.heap.size + 3) W0 V)
    (fun c l V => (c = .exit 0 ∧ l.dropLast.length = m) ∧ (∃ v, Boxed V (w.heap.size + 3) 27 v ∧ V.ownsRow (w.heap.size + 3) 9 1 v l.dropLast.length (scells l.dropLast) ∧ True) ∧ Below (w.heap.size + 3) W0 V)
    (OwnFrom.and (OwnFrom.and (Own.from (holdsRow_own (w.heap.size + 3) (w.heap.size + 3) 27 9 1 (fun pre => List.length pre) (fun pre => scells pre) (fun _ _ => True)) _) (ownFrom_pure _ (fun pre => List.length pre ≤ m))) (ownFrom_below (by rw [HZ.out]; omega) (by rw [HZ.out]; omega)))
    (fun c => OwnFrom.and (ownFrom_pure _ (fun l => c = .exit 0 ∧ (List.dropLast l).length = m)) (OwnFrom.and (Own.from (holdsRow_own (w.heap.size + 3) (w.heap.size + 3) 27 9 1 (fun l => (List.dropLast l).length) (fun l => scells (List.dropLast l)) (fun _ _ => True)) _) (ownFrom_below (by rw [HZ.out]; omega) (by rw [HZ.out]; omega))))
    ⟨⟨⟨_, bL, World.ownsRow_nil _ _ _ _, trivial⟩, Nat.zero_le _⟩, Below.refl _ _⟩
    (fun x => { tmps := #[.string s, .int .i64 n, .int .i64 (m : Int), undef, undef, .pointer (some ⟨w.heap.size, 0, none⟩), .slice none 0 0, .bool false, .func (.func 19) #[] #[.pointer (some ⟨w.heap.size + 1, 0, none⟩), .pointer (some ⟨w.heap.size + 1 + 1, 0, none⟩)], .pointer (some ⟨w.heap.size + 1 + 1 + 1, 0, none⟩), .string ⟨x.toArray⟩, .string s, .int .i64 n, .func (.func 19) #[] #[.pointer (some ⟨w.heap.size + 1, 0, none⟩), .pointer (some ⟨w.heap.size + 1 + 1, 0, none⟩)], .func (.func 19) #[] #[.pointer (some ⟨w.heap.size + 1, 0, none⟩), .pointer (some ⟨w.heap.size + 1 + 1, 0, none⟩)], .bool false, .func (.func 19) #[] #[.pointer (some ⟨w.heap.size + 1, 0, none⟩), .pointer (some ⟨w.heap.size + 1 + 1, 0, none⟩)], .string ⟨x.toArray⟩, undef, undef, undef, undef, undef, undef, undef, undef, undef], defers := [] }) ?assign ?body ?done ?stop
  case assign =>
    intro l x V K hK
    gi_wp2
    exact hK
  case body =>
    rintro l pre x V ⟨⟨⟨v, hv, hrow, _⟩, hpl⟩, hB⟩ hlt
    obtain ⟨sa, sc, rfl⟩ := strs_shape hrow
    have hc := hv.cell
    have bMV : Boxed V w.heap.size 3 (.int .i64 (m : Int)) := (hB.block w.heap.size (by omega)).trans bM0
    have hcM := bMV.cell
    have hz := hB.size
    have h3 : w.heap.size + 3 ≤ V.heap.size := by have := HZ.out; omega
    by_cases hb : pre.length = m
    · have hbb : ((pre.length : Int) == (m : Int)) = true := by simp; omega
      gi_wp2_with fail
      exact ⟨KeepsFrom.refl _ _, ⟨rfl, by rw [List.dropLast_concat]; exact hb⟩, ⟨_, hv, by rw [List.dropLast_concat]; exact hrow, trivial⟩, hB⟩
    · have hbb : ((pre.length : Int) == (m : Int)) = false := by simp; omega
      gi_wp2_with (gi_at_builtin; refine wpListIn_append_own _ rfl _ _ 27 rfl (w.heap.size + 3) 9 i0 (.string .empty) 1 16 Tryd.underlying27 hi hz0 hz1 hz2 rfl (by decide) _ _ _ rfl (hrow.alloc _) ⟨V.heap.size, 0, none⟩ 1 1 [.string ⟨x.toArray⟩] rfl rfl (cell_one_new _ _ _) (by simp [Value.oneCell']) (by unfold maxLen; omega) (by omega) (by simp; omega) ?_; intro v' w2 hown' hgrow _; obtain ⟨g', cap', rfl⟩ := ownsRow_succ hown'; obtain ⟨hv1, hv2, hr2, hk2, hb2⟩ := hv.appended (by decide) hrow h3 (Nat.le_refl _) hown' hgrow; have hc1 := hv1.cell; have hf1 := hv1.frozen)
      exact ⟨hk2.from _, hb2, ⟨⟨_, hv2, by rw [scells_snoc, List.length_append]; exact hr2, trivial⟩, by rw [List.length_append]; simp; omega⟩, hB.trans hb2⟩
  case stop =>
    rintro D c l V hD hSp ⟨⟨rfl, hll⟩, ⟨v, hv, hrow, _⟩, hB⟩ hK
    have hDl : D < V.heap.size := (Array.getElem?_eq_some_iff.1 hK).1
    have hc := hv.cell
    have hR : l.dropLast = (cut (wid n) s.data.toList).take m := prefix_take hSp hll
    rw [hR] at hrow
    have HR := Lib.hid hrow
    have h3 := HZ.out
    clear hR hrow
    gi_wp2
    refine ⟨by simp, .inl ⟨_, _, rfl, run_takeDeferred hK, ?_⟩⟩
    exact ⟨_, results_tmp2 rfl _ _ _, _, rfl, ownsRow_low (by omega) (ownsRow_putObj HR.out _ hK rfl), below_put_p (hB0.trans (hB.mono (by omega))) (by omega) hK _⟩
  case done =>
    rintro D ys V hD rfl ⟨⟨⟨v, hv, hrow, _⟩, hpl⟩, hB⟩ hK
    have hDl : D < V.heap.size := (Array.getElem?_eq_some_iff.1 hK).1
    have hc := hv.cell
    rw [← List.take_of_length_le hpl] at hrow
    have HR := Lib.hid hrow
    have h3 := HZ.out
    clear hrow
    gi_wp2
    refine ⟨by simp, .inl ⟨_, _, rfl, run_takeDeferred hK, ?_⟩⟩
    exact ⟨_, results_tmp2 rfl _ _ _, _, rfl, ownsRow_low (by omega) (ownsRow_putObj HR.out _ hK rfl), below_put_p (hB0.trans (hB.mono (by omega))) (by omega) hK _⟩
theorem pieces_any (s : ByteArray) (n : Int) (m : Nat) (hs : s.size ≤ 10000) (hm : m ≤ 10000) (w : World) :
    Calls Tryd.prog 8 #[.string s, .int .i64 n, .int .i64 (m : Int)] w (Told w w.heap.size ((cut (wid n) s.data.toList).take m)) :=
  callsIn_wide.1 (pieces_in s n m hs hm w)
end Go.Proofs.YtijgpelgdepbaaaDoor.Sx
