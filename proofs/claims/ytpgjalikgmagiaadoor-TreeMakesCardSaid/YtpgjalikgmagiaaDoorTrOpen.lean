/-
An element that came in, with its kids to any depth. Conditions: none but the row's own.
-/
import Derived.Test.YtpgjalikgmagiaaDoorTrTree
import Derived.ProofKit
import Derived.OpenShut
import Derived.ChangeOld
import Derived.Deep.SlicePairs
import Derived.Carry
namespace Go.Proofs.YtpgjalikgmagiaaDoor.Tr
set_option maxRecDepth 100000
open Go.ChangeShapes Go.WideShapes Go.ChangeAt Go.RowKit Go.Deep

theorem laidOut : laidOutB Tryd.prog = true := by kernel_rfl
theorem cellsElem : Tryd.prog.cellsOf 24 = 5 := by kernel_rfl
theorem cellsStr : Tryd.prog.cellsOf 9 = 1 := by kernel_rfl
theorem cellsInt : Tryd.prog.cellsOf 3 = 1 := by kernel_rfl
theorem cellsBool : Tryd.prog.cellsOf 4 = 1 := by kernel_rfl
theorem cellsKids : Tryd.prog.cellsOf 22 = 1 := by kernel_rfl

/-- No text and no list of it is longer than any. -/
def FitsE : Nat → El → Prop
  | 0, _ => True
  | k + 1, e => e.text.size ≤ maxLen ∧ e.name.size ≤ maxLen ∧ e.kids.length ≤ maxLen ∧ ∀ c ∈ e.kids, FitsE k c

section
variable {H : Type} {enc : TypeId × Value → H} {W : World}
/-- A list of elements that came in. -/
theorem open_kids {fuel k : Nat} (IH : ∀ n, n < fuel → ∀ {v0 v1 v2 v3 v4 : Value} {x : DataW H × List MemPlace}, DataW.trod enc Tryd.prog W 0 (fun _ => true) true n 24 [v0, v1, v2, v3, v4] = some x → n + 1 = fuel →
      ∃ e, v0 = .int .i64 e.page ∧ v1 = .string e.name ∧ v2 = .string e.text ∧ v3 = .bool e.bare ∧ EAt W W.heap.size k e v4 ∧ FitsE k e)
    {u : Value} {x : DataW H × List MemPlace} (h : DataW.trod enc Tryd.prog W 0 (fun _ => true) true fuel 22 [u] = some x) :
    ∃ l : List El, KsAt W W.heap.size (EAt W W.heap.size k) l u ∧ l.length ≤ maxLen ∧ ∀ e ∈ l, FitsE k e := by
  rcases DataW.trod_slice Tryd.underlying22 h with ⟨hc, _⟩ | ⟨a, len, cap, elems, rest, n, hn, hc, hx, _, hl, hm, hlen, hel, _⟩
  · simp only [List.cons.injEq, and_true] at hc
    exact ⟨[], ⟨none, 0, hc, fun h => absurd rfl h, fun _ _ e => by cases e⟩, Nat.zero_le _, fun e he => (by cases he)⟩
  simp only [List.cons.injEq, and_true] at hc
  subst hc
  rcases Nat.eq_zero_or_pos len with h0 | hpos
  · subst h0
    exact ⟨[], ⟨some a, cap, rfl, fun h => absurd rfl h, fun _ _ _ i hi => absurd hi (Nat.not_lt_zero i)⟩, Nat.zero_le _, fun e he => (by cases he)⟩
  have hcell : ∀ i, i < len → ∃ q : El × Value, W.cell? (a.add (i * 5)) = some (.int .i64 q.1.page) ∧ W.cell? (a.add (i * 5 + 1)) = some (.string q.1.name) ∧ W.cell? (a.add (i * 5 + 2)) = some (.string q.1.text) ∧ W.cell? (a.add (i * 5 + 3)) = some (.bool q.1.bare) ∧ W.cell? (a.add (i * 5 + 4)) = some q.2 ∧ EAt W W.heap.size k q.1 q.2 ∧ FitsE k q.1 := by
    intro i hi
    have h2 := hel i (by omega)
    rw [List.getElem?_eq_getElem (by omega)] at h2
    obtain ⟨cs, hc, h4⟩ := Option.bind_eq_some_iff.1 h2
    rw [cellsElem] at hc
    obtain ⟨_, hcl, hat⟩ := World.cells?_some hc
    match cs, hcl with
    | [v0, v1, v2, v3, v4], _ =>
      have e0 := hat 0 (by omega)
      have e1 := hat 1 (by omega)
      have e2 := hat 2 (by omega)
      have e3 := hat 3 (by omega)
      have e4 := hat 4 (by omega)
      rw [add_add] at e0 e1 e2 e3 e4
      obtain ⟨e, rfl, rfl, rfl, rfl, hE⟩ := IH n (by omega) h4 (by omega)
      exact ⟨(e, v4), e0, e1, e2, e3, e4, hE⟩
  haveI : Inhabited (El × Value) := ⟨(.mk 0 ⟨#[]⟩ ⟨#[]⟩ false [], undef)⟩
  obtain ⟨q, hq⟩ := choose_lt hcell
  obtain ⟨sb, so, spot⟩ := a
  have hspot : spot = none := by simpa [Addr.add] using World.cell?_spot (hq 0 hpos).1
  subst hspot
  have hlt : sb < W.heap.size := by have := World.block_lt_of_cell? W _ (hq 0 hpos).1; rwa [WideShapes.add_plain] at this
  have hTl : ((List.range len).map fun i => (q i).1).length = len := by simp
  have hq' : ∀ j, j < len → _ := fun j hj => by have := hq j hj; simp only [WideShapes.add_plain, ← Nat.add_assoc] at this; exact this
  refine ⟨(List.range len).map fun i => (q i).1, ⟨some ⟨sb, so, none⟩, cap, by rw [hTl], fun _ => ⟨sb, so, rfl, hlt⟩, fun b o e j hj => ?_⟩, by rw [hTl]; omega, fun e he => ?_⟩
  · cases e
    have hj' : j < len := by rw [← hTl]; exact hj
    obtain ⟨c0, c1, c2, c3, c4, h5, _⟩ := hq' j hj'
    refine ⟨(q j).2, ?_⟩
    simp only [List.getElem_map, List.getElem_range]
    exact ⟨c0, c1, c2, c3, c4, h5⟩
  · obtain ⟨i, hi, rfl⟩ := List.mem_map.1 he
    exact (hq' i (List.mem_range.1 hi)).2.2.2.2.2.2

set_option maxHeartbeats 1000000 in
/-- An element that came in, to any depth. -/
theorem open_elem : ∀ (fuel : Nat) {v0 v1 v2 v3 v4 : Value} {x : DataW H × List MemPlace}, DataW.trod enc Tryd.prog W 0 (fun _ => true) true fuel 24 [v0, v1, v2, v3, v4] = some x →
    ∃ e, v0 = .int .i64 e.page ∧ v1 = .string e.name ∧ v2 = .string e.text ∧ v3 = .bool e.bare ∧ EAt W W.heap.size (fuel / 2 + 1) e v4 ∧ FitsE (fuel / 2 + 1) e := by
  intro fuel
  induction fuel using Nat.strongRecOn with
  | _ fuel ih =>
    intro v0 v1 v2 v3 v4 x h
    obtain ⟨xs, n2, hf2, hyx, _, hxl, hf⟩ := DataW.trod_struct Tryd.underlying24 h
    have h0 := hf 0 _ rfl
    change DataW.trod enc Tryd.prog W 0 (fun _ => true) true n2 3 (List.take (Tryd.prog.cellsOf 3) [v0, v1, v2, v3, v4]) = xs[0]? at h0
    rw [cellsInt, List.getElem?_eq_getElem (by rw [hxl]; decide)] at h0
    have h1 := hf 1 _ rfl
    change DataW.trod enc Tryd.prog W 0 (fun _ => true) true n2 9 (List.take (Tryd.prog.cellsOf 9) [v1, v2, v3, v4]) = xs[1]? at h1
    rw [cellsStr, List.getElem?_eq_getElem (by rw [hxl]; decide)] at h1
    have h2 := hf 2 _ rfl
    change DataW.trod enc Tryd.prog W 0 (fun _ => true) true n2 9 (List.take (Tryd.prog.cellsOf 9) [v2, v3, v4]) = xs[2]? at h2
    rw [cellsStr, List.getElem?_eq_getElem (by rw [hxl]; decide)] at h2
    have h3 := hf 3 _ rfl
    change DataW.trod enc Tryd.prog W 0 (fun _ => true) true n2 4 (List.take (Tryd.prog.cellsOf 4) [v3, v4]) = xs[3]? at h3
    rw [cellsBool, List.getElem?_eq_getElem (by rw [hxl]; decide)] at h3
    have h4 := hf 4 _ rfl
    change DataW.trod enc Tryd.prog W 0 (fun _ => true) true n2 22 (List.take (Tryd.prog.cellsOf 22) [v4]) = xs[4]? at h4
    rw [cellsKids, List.getElem?_eq_getElem (by rw [hxl]; decide)] at h4
    obtain ⟨p0, q0, -, _⟩ := DataW.trod_int Tryd.underlying3 h0
    obtain ⟨s1, q1, -, hs1⟩ := DataW.trod_string Tryd.underlying9 h1
    obtain ⟨s2, q2, -, hs2⟩ := DataW.trod_string Tryd.underlying9 h2
    obtain ⟨b3, q3, -⟩ := DataW.trod_bool Tryd.underlying4 h3
    simp only [List.take_succ_cons, List.take_zero, List.cons.injEq, and_true] at q0 q1 q2 q3
    subst q0 q1 q2 q3
    obtain ⟨l, hl1, hl2, hl3⟩ := open_kids (k := fuel / 2) (fun n hn {v0 v1 v2 v3 v4} {x} hh hnn => by
      obtain ⟨e, he⟩ := ih n (by omega) hh
      have : n / 2 + 1 = fuel / 2 := by omega
      rw [this] at he
      exact ⟨e, he⟩) h4
    exact ⟨.mk p0 s1 s2 b3 l, rfl, rfl, rfl, rfl, hl1, hs2, hs1, hl2, hl3⟩
/-- The argument. -/
theorem open_arg {base : Nat} {u : Value} {d : DataW H} {p : List MemPlace} (hval : Value.okWide Tryd.prog W .any base 24 u) (h : DataW.Trod enc Tryd.prog W 0 (fun _ => true) true 24 u d p) :
    ∃ (k : Nat) (e : El) (kv : Value), u = .agg #[.int .i64 e.page, .string e.name, .string e.text, .bool e.bare, kv] ∧ EAt W W.heap.size k e kv ∧ FitsE k e := by
  obtain ⟨cs, rfl, hsz⟩ := okWide_struct Tryd.underlying24 hval
  rw [cellsElem] at hsz
  obtain ⟨l⟩ := cs
  obtain ⟨fuel, t0⟩ := h
  match l, hsz with
  | [v0, v1, v2, v3, v4], _ =>
    obtain ⟨e, rfl, rfl, rfl, rfl, hE⟩ := open_elem fuel t0
    exact ⟨_, e, v4, rfl, hE⟩
end
end Go.Proofs.YtpgjalikgmagiaaDoor.Tr
