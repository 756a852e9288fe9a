/-
All elements within an element, as the document gathers them: a row of the call's own. Conditions: the element lies below the caller's blocks; at most 5000 of them are asked for.
-/
import Derived.Test.YtpgjalikgmagiaaDoorTrOpen
import Derived.Test.YtpgjalikgmagiaaDoorApp
import Derived.Laws.AppendOwn
import Derived.BigQuiet
import Derived.Deep.QuietTactic
import Derived.RegionTactic
namespace Go.Proofs.YtpgjalikgmagiaaDoor.Tr
set_option maxRecDepth 100000
open Go.RowKit

/-- An element with its kids' list, as it lies in memory. -/
abbrev Iv := El × Value
/-- Where a list's elements have their own lists. -/
def kvs (w : World) (v : Value) (n : Nat) : List Value := (List.range n).map fun j => match v with
  | .slice (some ⟨b, o, _⟩) _ _ => (w.cell? ⟨b, o + j * 5 + 4, none⟩).getD undef
  | _ => undef
def kidsV (w : World) (x : Iv) : List Iv := x.1.kids.zip (kvs w x.2 x.1.kids.length)
theorem kidsV_length (w : World) (x : Iv) : (kidsV w x).length = x.1.kids.length := by
  unfold kidsV kvs; rw [List.length_zip, List.length_map, List.length_range, Nat.min_self]
theorem kidsV_map (w : World) (x : Iv) : (kidsV w x).map (·.1) = x.1.kids := by
  unfold kidsV; rw [List.map_fst_zip (by unfold kvs; rw [List.length_map, List.length_range]; exact Nat.le_refl _)]
/-- It lies in memory, below a block. -/
def Ok (w : World) (B : Nat) (x : Iv) : Prop := ∃ k, EAt w B k x.1 x.2 ∧ FitsE k x.1
theorem Ok.len {w : World} {B : Nat} {x : Iv} (h : Ok w B x) : ∃ a c, x.2 = .slice a x.1.kids.length c := by obtain ⟨k, h, _⟩ := h; exact h.len
/-- One of its kids. -/
theorem Ok.kid {w : World} {B : Nat} {x : Iv} (h : Ok w B x) {j : Nat} (hj : j < x.1.kids.length) :
    ∃ b o c kv, x.2 = .slice (some ⟨b, o, none⟩) x.1.kids.length c ∧ b < B ∧ w.cell? ⟨b, o + j * 5, none⟩ = some (.int .i64 x.1.kids[j].page) ∧ w.cell? ⟨b, o + j * 5 + 1, none⟩ = some (.string x.1.kids[j].name) ∧ w.cell? ⟨b, o + j * 5 + 2, none⟩ = some (.string x.1.kids[j].text) ∧ w.cell? ⟨b, o + j * 5 + 3, none⟩ = some (.bool x.1.kids[j].bare) ∧ w.cell? ⟨b, o + j * 5 + 4, none⟩ = some kv ∧
      (kidsV w x)[j]? = some (x.1.kids[j], kv) ∧ Ok w B (x.1.kids[j], kv) := by
  obtain ⟨k, h, hf⟩ := h
  obtain ⟨k, rfl⟩ : ∃ k', k = k' + 1 := by cases k with | zero => exact h.elim | succ k => exact ⟨k, rfl⟩
  have h' : KsAt w B (EAt w B k) x.1.kids x.2 := h
  obtain ⟨a, c, hv⟩ := h'.len
  rw [hv] at h'
  obtain ⟨b, o, kv, rfl, hb, c0, c1, c2, c3, c4, hk⟩ := h'.at_ hj
  refine ⟨b, o, c, kv, hv, hb, c0, c1, c2, c3, c4, ?_, k, hk, hf.2.2.2 _ (List.getElem_mem hj)⟩
  unfold kidsV
  rw [hv, List.getElem?_eq_getElem (by unfold kvs; simpa using hj), List.getElem_zip]
  simp [kvs, c4]
theorem Ok.kids {w : World} {B : Nat} {x : Iv} (h : Ok w B x) : ∀ c ∈ kidsV w x, Ok w B c := by
  intro c hc
  obtain ⟨j, hj, rfl⟩ := List.getElem_of_mem hc
  obtain ⟨b, o, cp, kv, _, _, _, _, _, _, _, e, hk⟩ := h.kid (j := j) (by rw [kidsV_length] at hj; exact hj)
  rw [List.getElem?_eq_getElem hj] at e
  rw [Option.some.inj e]; exact hk
theorem Ok.fits {w : World} {B : Nat} {x : Iv} (h : Ok w B x) : x.1.text.size ≤ maxLen ∧ x.1.name.size ≤ maxLen ∧ x.1.kids.length ≤ maxLen := by
  obtain ⟨k, h, hf⟩ := h
  cases k with
  | zero => exact h.elim
  | succ k => exact ⟨hf.1, hf.2.1, hf.2.2.1⟩
theorem Ok.stays {w w' : World} {B : Nat} {x : Iv} (h : Ok w B x) (hb : Below B w w') : Ok w' B x := by
  obtain ⟨k, h, hf⟩ := h; exact ⟨k, h.below hb, hf⟩
theorem Ok.up {w : World} {B B' : Nat} {x : Iv} (h : Ok w B x) (hb : B ≤ B') : Ok w B' x := by
  obtain ⟨k, h, hf⟩ := h; exact ⟨k, h.up hb, hf⟩
theorem kidsV_same {w w' : World} {B : Nat} {x : Iv} (h : Ok w B x) (hb : Below B w w') : kidsV w' x = kidsV w x := by
  refine List.ext_getElem? fun j => ?_
  by_cases hj : j < x.1.kids.length
  · obtain ⟨b, o, c, kv, e1, hbB, _, _, _, _, c4, e, _⟩ := h.kid hj
    obtain ⟨b', o', c', kv', e1', _, _, _, _, _, c4', e', _⟩ := (h.stays hb).kid hj
    rw [e1] at e1'
    cases e1'
    rw [hb.cell (p := ⟨b, o + j * 5 + 4, none⟩) hbB, c4] at c4'
    cases c4'
    rw [e, e']
  · rw [List.getElem?_eq_none (by rw [kidsV_length]; omega), List.getElem?_eq_none (by rw [kidsV_length]; omega)]
/-- All within it, with their lists. -/
def preV (w : World) : Nat → Nat → Iv → List (Nat × Iv) := preG (kidsV w)
theorem preV_same {w w' : World} {B : Nat} (hb : Below B w w') : ∀ (k d : Nat) {x : Iv}, Ok w B x → preV w' k d x = preV w k d x
  | 0, _, _, _ => rfl
  | k + 1, d, x, h => by
    show (d, x) :: _ = (d, x) :: _
    rw [kidsV_same h hb]
    congr 2
    exact List.map_congr_left fun c hc => preV_same hb k (d + 1) (h.kids c hc)
theorem preV_map (w : World) (k d : Nat) (x : Iv) : (preV w k d x).map (fun y => (y.1, y.2.1)) = pre k d x.1 := preG_map (·.1) (fun e => (kidsV_map w e).symm) k d x
theorem preV_length (w : World) (k d : Nat) (x : Iv) : (preV w k d x).length = (pre k d x.1).length := by rw [← preV_map w, List.length_map]
theorem preV_ok {w : World} {B : Nat} (k d : Nat) {x : Iv} (h : Ok w B x) : ∀ y ∈ preV w k d x, Ok w B y.2 := preG_all (fun _ h => h.kids) k d x h
theorem preV_fst {w : World} {k d : Nat} {x : Iv} : ∀ y ∈ preV w k d x, d ≤ y.1 ∧ y.1 < d + k := fun y hy => by
  have h := pre_le k d x.1 (y.1, y.2.1) (by rw [← preV_map w]; exact List.mem_map.2 ⟨y, hy, rfl⟩)
  exact h

/-! ### The row -/
def paircells : List (Nat × Iv) → List Value
  | [] => []
  | p :: r => .int .i64 (p.1 : Int) :: .int .i64 p.2.1.page :: .string p.2.1.name :: .string p.2.1.text :: .bool p.2.1.bare :: p.2.2 :: paircells r
theorem paircells_append : ∀ l r : List (Nat × Iv), paircells (l ++ r) = paircells l ++ paircells r
  | [], _ => rfl
  | p :: l, r => by rw [List.cons_append, paircells, paircells_append l r]; rfl
theorem paircells_at : ∀ (l : List (Nat × Iv)) (i : Nat) (h : i < l.length), (paircells l)[i * 6]? = some (.int .i64 (l[i].1 : Int)) ∧ (paircells l)[i * 6 + 1]? = some (.int .i64 l[i].2.1.page) ∧ (paircells l)[i * 6 + 2]? = some (.string l[i].2.1.name) ∧ (paircells l)[i * 6 + 3]? = some (.string l[i].2.1.text) ∧ (paircells l)[i * 6 + 4]? = some (.bool l[i].2.1.bare) ∧ (paircells l)[i * 6 + 5]? = some l[i].2.2
  | p :: r, 0, _ => ⟨rfl, rfl, rfl, rfl, rfl, rfl⟩
  | p :: r, i + 1, h => by
    have ih := paircells_at r i (by simpa using h)
    have e : ∀ k, (i + 1) * 6 + k = (i * 6 + k) + 1 + 1 + 1 + 1 + 1 + 1 := fun k => by omega
    have e0 := e 0
    simp only [Nat.add_zero] at e0
    rw [e 1, e 2, e 3, e 4, e 5, e0, paircells]
    simpa using ih
/-- The slice v holds these, in a row of the call's own (blocks from base on). -/
def Pairs (w : World) (base : Nat) (v : Value) (l : List (Nat × Iv)) : Prop := w.ownsRow base 39 6 v l.length (paircells l)
theorem infoPair : (Tryd.prog.info? 39).map (fun i => (i.zero, i.size, i.bytes)) = some (some (.agg #[.int .i64 0, .int .i64 0, .string .empty, .string .empty, .bool false, .slice none 0 0]), 6, 80) := by kernel_rfl
theorem Pairs.snoc {w : World} {base : Nat} {v : Value} {l : List (Nat × Iv)} {d : Nat} {x : Iv} (h : w.ownsRow base 39 6 v (l.length + 1) (paircells l ++ [.int .i64 (d : Int), .int .i64 x.1.page, .string x.1.name, .string x.1.text, .bool x.1.bare, x.2])) : Pairs w base v (l ++ [(d, x)]) := by
  unfold Pairs; rw [paircells_append, List.length_append]; exact h
theorem Pairs.shape {w : World} {base : Nat} {v : Value} {l : List (Nat × Iv)} (h : Pairs w base v l) : ∃ a c, v = .slice a l.length c := by
  obtain ⟨_, ⟨rfl, h0⟩ | ⟨g, cap, cur, rfl, _⟩⟩ := h
  · exact ⟨none, 0, by rw [h0]⟩
  · exact ⟨_, cap, rfl⟩
/-- One of them. -/
theorem Pairs.at_ {w : World} {base : Nat} {v : Value} {l : List (Nat × Iv)} (h : Pairs w base v l) {i : Nat} (hi : i < l.length) :
    ∃ g c, v = .slice (some ⟨g, 0, none⟩) l.length c ∧ (base ≤ g ∧ g < w.heap.size) ∧ w.cell? ⟨g, i * 6, none⟩ = some (.int .i64 (l[i].1 : Int)) ∧ w.cell? ⟨g, i * 6 + 1, none⟩ = some (.int .i64 l[i].2.1.page) ∧ w.cell? ⟨g, i * 6 + 2, none⟩ = some (.string l[i].2.1.name) ∧ w.cell? ⟨g, i * 6 + 3, none⟩ = some (.string l[i].2.1.text) ∧ w.cell? ⟨g, i * 6 + 4, none⟩ = some (.bool l[i].2.1.bare) ∧ w.cell? ⟨g, i * 6 + 5, none⟩ = some l[i].2.2 := by
  obtain ⟨hl, ⟨rfl, h0⟩ | ⟨g, cap, cur, rfl, hb, hg, _, _, _, ht⟩⟩ := h
  · omega
  · obtain ⟨p0, p1, p2, p3, p4, p5⟩ := paircells_at l i hi
    rw [← ht] at p0 p1 p2 p3 p4 p5
    have q0 := Lib.cells_of_row hg _ _ _ p0
    have q1 := Lib.cells_of_row hg _ _ _ p1
    have q2 := Lib.cells_of_row hg _ _ _ p2
    have q3 := Lib.cells_of_row hg _ _ _ p3
    have q4 := Lib.cells_of_row hg _ _ _ p4
    have q5 := Lib.cells_of_row hg _ _ _ p5
    rw [Lib.addr_add, Nat.zero_add] at q0 q1 q2 q3 q4 q5
    exact ⟨g, cap, rfl, ⟨hb, (Array.getElem?_eq_some_iff.1 hg).1⟩, q0, q1, q2, q3, q4, q5⟩
theorem Pairs.low {w : World} {b b' : Nat} {v : Value} {l : List (Nat × Iv)} (hb : b' ≤ b) (h : Pairs w b v l) : Pairs w b' v l := by
  obtain ⟨h0, h⟩ := h
  refine ⟨h0, ?_⟩
  rcases h with h | ⟨g, cap, cur, h1, h2, h3⟩
  · exact .inl h
  · exact .inr ⟨g, cap, cur, h1, by omega, h3⟩
theorem Pairs.keep {w w' : World} {base : Nat} {v : Value} {l : List (Nat × Iv)} (h : Pairs w base v l) (hb : Below w.heap.size w w') : Pairs w' base v l := by
  refine h.kept (row := none) ⟨hb.os, hb.tape, hb.output, hb.size, fun k hk _ => hb.block k hk⟩ ?_
  cases e : v.ownBlock with
  | none => exact .inl rfl
  | some k => exact .inr (by simp)
theorem Pairs.nil (w : World) (base : Nat) : Pairs w base (.slice none 0 0) [] := World.ownsRow_nil _ _ _ _
end Go.Proofs.YtpgjalikgmagiaaDoor.Tr
