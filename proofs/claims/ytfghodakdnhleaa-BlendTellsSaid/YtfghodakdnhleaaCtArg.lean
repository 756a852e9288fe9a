/-
A contact that came in: its fields may be read. Conditions: none but the row's own.
-/
import Derived.Test.YtfghodakdnhleaaCtFs
import Derived.ProofKit
import Derived.OpenShut
import Derived.ChangeOld
import Derived.Deep.SlicePairs
import Derived.Carry
namespace Go.Proofs.Ytfghodakdnhleaa.Ct
set_option maxRecDepth 100000
open Go.ChangeShapes Go.WideShapes Go.ChangeAt Go.RowKit Go.Deep

theorem laidOut : laidOutB Try.prog = true := by kernel_rfl
theorem cellsField : Try.prog.cellsOf 33 = 3 := by kernel_rfl
theorem cellsContact : Try.prog.cellsOf 24 = 1 := by kernel_rfl
theorem cellsFs : Try.prog.cellsOf 22 = 1 := by kernel_rfl
theorem cellsStr : Try.prog.cellsOf 9 = 1 := by kernel_rfl

section
variable {H : Type} {enc : TypeId × Value → H} {W : World}
theorem open_fs {fuel : Nat} {u : Value} {x : DataW H × List MemPlace} (h : DataW.trod enc Try.prog W 0 (fun _ => true) true fuel 22 [u] = some x) : ∃ l, Fs W W.heap.size u l ∧ l.length ≤ maxLen := by
  rcases DataW.trod_slice Try.underlying22 h with ⟨hc, _⟩ | ⟨a, len, cap, elems, rest, n, hn, hc, hx, _, hl, hm, hlen, hel, _⟩
  · simp only [List.cons.injEq, and_true] at hc
    exact ⟨[], .inl ⟨rfl, .inl hc⟩, Nat.zero_le _⟩
  · simp only [List.cons.injEq, and_true] at hc
    subst hc
    rcases Nat.eq_zero_or_pos len with rfl | hpos
    · exact ⟨[], .inl ⟨rfl, .inr ⟨a, _, rfl⟩⟩, Nat.zero_le _⟩
    have each0 : ∀ i, i < len → ∃ q : Fd, W.cell? (a.add (i * 3)) = some (.string q.1) ∧ W.cell? (a.add (i * 3 + 1)) = some (.string q.2.1) ∧ W.cell? (a.add (i * 3 + 2)) = some (.string q.2.2) := by
      intro i hi
      have h2 := hel i (by omega)
      rw [List.getElem?_eq_getElem (by omega)] at h2
      obtain ⟨cs, h3, h4⟩ := Option.bind_eq_some_iff.1 h2
      rw [cellsField] at h3
      obtain ⟨_, hcl, hat⟩ := World.cells?_some h3
      obtain ⟨qs, n2, hf2, hyx, _, hzl, hf⟩ := DataW.trod_struct Try.underlying33 h4
      match cs, hcl with
      | [v0, v1, v2], _ =>
        have e0 := hat 0 (by omega)
        have e1 := hat 1 (by omega)
        have e2 := hat 2 (by omega)
        rw [add_add] at e0 e1 e2
        have h0 := hf 0 _ rfl
        change DataW.trod enc Try.prog W 0 (fun _ => true) true n2 9 (List.take (Try.prog.cellsOf 9) [v0, v1, v2]) = qs[0]? at h0
        rw [cellsStr, List.getElem?_eq_getElem (by rw [hzl]; decide)] at h0
        have h1 := hf 1 _ rfl
        change DataW.trod enc Try.prog W 0 (fun _ => true) true n2 9 (List.take (Try.prog.cellsOf 9) [v1, v2]) = qs[1]? at h1
        rw [cellsStr, List.getElem?_eq_getElem (by rw [hzl]; decide)] at h1
        have h2' := hf 2 _ rfl
        change DataW.trod enc Try.prog W 0 (fun _ => true) true n2 9 (List.take (Try.prog.cellsOf 9) [v2]) = qs[2]? at h2'
        rw [cellsStr, List.getElem?_eq_getElem (by rw [hzl]; decide)] at h2'
        obtain ⟨s0, q0, -, _⟩ := DataW.trod_string Try.underlying9 h0
        obtain ⟨s1, q1, -, _⟩ := DataW.trod_string Try.underlying9 h1
        obtain ⟨s2, q2, -, _⟩ := DataW.trod_string Try.underlying9 h2'
        simp only [List.take_succ_cons, List.take_zero, List.cons.injEq, and_true] at q0 q1 q2
        subst q0 q1 q2
        exact ⟨(s0, s1, s2), e0, e1, e2⟩
    obtain ⟨sb, so, spot⟩ := a
    have hspot : spot = none := by
      obtain ⟨q, h0, _⟩ := each0 0 hpos
      simpa [Addr.add] using World.cell?_spot h0
    subst hspot
    have each : ∀ i, i < len → ∃ q : Fd, W.cell? ⟨sb, so + i * 3, none⟩ = some (.string q.1) ∧ W.cell? ⟨sb, so + i * 3 + 1, none⟩ = some (.string q.2.1) ∧ W.cell? ⟨sb, so + i * 3 + 2, none⟩ = some (.string q.2.2) := by
      intro i hi
      obtain ⟨q, h0, h1, h2⟩ := each0 i hi
      rw [add_plain] at h0 h1 h2
      exact ⟨q, h0, by rw [Nat.add_assoc]; exact h1, by rw [Nat.add_assoc]; exact h2⟩
    obtain ⟨q, hq⟩ := choose_lt each
    have hlt : sb < W.heap.size := World.block_lt_of_cell? W _ (hq 0 hpos).1
    refine ⟨(List.range len).map q, .inr ⟨sb, so, _, by rw [List.length_map, List.length_range], hlt, fun i hi => ?_⟩, by rw [List.length_map, List.length_range]; omega⟩
    have hi' : i < len := by rw [List.length_map, List.length_range] at hi; exact hi
    simp only [List.getElem_map, List.getElem_range]
    exact hq i hi'
/-- A contact that came in. -/
theorem open_contact {base : Nat} {u : Value} {d : DataW H} {p : List MemPlace} (hval : Value.okWide Try.prog W .any base 24 u) (h : DataW.Trod enc Try.prog W 0 (fun _ => true) true 24 u d p) :
    ∃ (v : Value) (l : List Fd), u = .agg #[v] ∧ Fs W W.heap.size v l ∧ l.length ≤ maxLen := by
  obtain ⟨cs, rfl, hsz⟩ := okWide_struct Try.underlying24 hval
  rw [cellsContact] at hsz
  obtain ⟨l⟩ := cs
  obtain ⟨fuel, t0⟩ := h
  obtain ⟨xs, k, rfl, hx, hlen, hxl, hf⟩ := DataW.trod_struct Try.underlying24 t0
  match l, hsz with
  | [v0], _ =>
    have h0 := hf 0 _ rfl
    change DataW.trod enc Try.prog W 0 (fun _ => true) true k 22 (List.take (Try.prog.cellsOf 22) [v0]) = xs[0]? at h0
    rw [cellsFs, List.getElem?_eq_getElem (by rw [hxl]; decide)] at h0
    obtain ⟨fl, h1, h2⟩ := open_fs h0
    exact ⟨v0, fl, rfl, h1, h2⟩
end
end Go.Proofs.Ytfghodakdnhleaa.Ct
