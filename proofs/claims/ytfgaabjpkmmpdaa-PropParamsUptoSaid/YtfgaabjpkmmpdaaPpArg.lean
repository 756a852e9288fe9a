/-
A property that came in: its texts, its parameters behind their slice, its list of cards as a slice. Conditions: none but the row's own.
-/
import Derived.Test.YtfgaabjpkmmpdaaPpParam
import Derived.Test.YtfgaabjpkmmpdaaPpChk
import Derived.ProofKit
import Derived.OpenShut
import Derived.ChangeOld
import Derived.Deep.SlicePairs
import Derived.Carry
namespace Go.Proofs.Ytfgaabjpkmmpdaa.Pp
open Go.ChangeShapes Go.WideShapes Go.ChangeAt Go.RowKit Go.Deep

theorem laidOut : laidOutB Try.prog = true := by kernel_rfl
theorem cellsProp : Try.prog.cellsOf 25 = 5 := by kernel_rfl
theorem cellsParam : Try.prog.cellsOf 39 = 2 := by kernel_rfl
theorem cellsStr : Try.prog.cellsOf 9 = 1 := by kernel_rfl
theorem cellsPs : Try.prog.cellsOf 22 = 1 := by kernel_rfl
theorem cellsCs : Try.prog.cellsOf 23 = 1 := by kernel_rfl

section
variable {H : Type} {enc : TypeId × Value → H} {W : World}
/-- Parameters that came in. -/
theorem open_ps {fuel : Nat} {u : Value} {x : DataW H × List MemPlace} (h : DataW.trod enc Try.prog W 0 (fun _ => true) true fuel 22 [u] = some x) : ∃ ps, Ps W W.heap.size u ps ∧ ps.length ≤ maxLen := by
  rcases open_slice_pairs Try.underlying22 Try.underlying39 cellsParam rfl rfl cellsStr cellsStr h with ⟨hc, hx⟩ | ⟨a, len, cap, m, k, V0, V1, D0, D1, P0, P1, hc, _, hl, hm, hmm, hx, hall⟩
  · simp only [List.cons.injEq, and_true] at hc
    exact ⟨[], .inl ⟨rfl, .inl hc⟩, Nat.zero_le _⟩
  · simp only [List.cons.injEq, and_true] at hc
    subst hc
    simp only [if_true] at hmm
    subst hmm
    rcases Nat.eq_zero_or_pos len with rfl | hpos
    · exact ⟨[], .inl ⟨rfl, .inr ⟨a, _, rfl⟩⟩, Nat.zero_le _⟩
    obtain ⟨sb, so, spot⟩ := a
    have hspot : spot = none := by simpa [Addr.add] using World.cell?_spot (hall 0 (by omega)).1
    subst hspot
    have each : ∀ i, i < len → ∃ q : ByteArray × ByteArray, W.cell? ⟨sb, so + i * 2, none⟩ = some (.string q.1) ∧ W.cell? ⟨sb, so + i * 2 + 1, none⟩ = some (.string q.2) := by
      intro i hi
      obtain ⟨g0, g1, h2, h3⟩ := hall i (by omega)
      obtain ⟨A, hA, _, _⟩ := DataW.trod_string Try.underlying9 h2
      obtain ⟨B, hB, _, _⟩ := DataW.trod_string Try.underlying9 h3
      simp only [List.cons.injEq, and_true] at hA hB
      rw [add_plain, hA] at g0
      rw [add_plain, hB] at g1
      exact ⟨(A, B), g0, g1⟩
    obtain ⟨q, hq⟩ := choose_lt each
    have hlt : sb < W.heap.size := World.block_lt_of_cell? W _ (hq 0 hpos).1
    refine ⟨(List.range len).map q, .inr ⟨sb, so, _, by rw [List.length_map, List.length_range], hlt, fun i hi => ?_⟩, by rw [List.length_map, List.length_range]; omega⟩
    have hi' : i < len := by rw [List.length_map, List.length_range] at hi; exact hi
    simp only [List.getElem_map, List.getElem_range]
    exact hq i hi'

/-- A property that came in. -/
theorem open_prop {base : Nat} {u : Value} {d : DataW H} {p : List MemPlace} (hval : Value.okWide Try.prog W .any base 25 u) (h : DataW.Trod enc Try.prog W 0 (fun _ => true) true 25 u d p) :
    ∃ (g n v : ByteArray) (pv : Value) (aa : Option Addr) (m ac : Nat) (ps : List (ByteArray × ByteArray)), u = prV g n pv v (.slice aa m ac) ∧ Ps W W.heap.size pv ps ∧ ps.length ≤ maxLen ∧ g.size ≤ maxLen ∧ n.size ≤ maxLen ∧ v.size ≤ maxLen := by
  obtain ⟨cs, rfl, hsz⟩ := okWide_struct Try.underlying25 hval
  rw [cellsProp] at hsz
  obtain ⟨l⟩ := cs
  obtain ⟨fuel, t0⟩ := h
  obtain ⟨xs, k, rfl, hx, hlen, hxl, hf⟩ := DataW.trod_struct Try.underlying25 t0
  match l, hsz with
  | [v0, v1, v2, v3, v4], _ =>
    have h0 := hf 0 _ rfl
    change DataW.trod enc Try.prog W 0 (fun _ => true) true k 9 (List.take (Try.prog.cellsOf 9) [v0, v1, v2, v3, v4]) = xs[0]? at h0
    rw [cellsStr, List.getElem?_eq_getElem (by rw [hxl]; decide)] at h0
    have h1 := hf 1 _ rfl
    change DataW.trod enc Try.prog W 0 (fun _ => true) true k 9 (List.take (Try.prog.cellsOf 9) [v1, v2, v3, v4]) = xs[1]? at h1
    rw [cellsStr, List.getElem?_eq_getElem (by rw [hxl]; decide)] at h1
    have h2 := hf 2 _ rfl
    change DataW.trod enc Try.prog W 0 (fun _ => true) true k 22 (List.take (Try.prog.cellsOf 22) [v2, v3, v4]) = xs[2]? at h2
    rw [cellsPs, List.getElem?_eq_getElem (by rw [hxl]; decide)] at h2
    have h3 := hf 3 _ rfl
    change DataW.trod enc Try.prog W 0 (fun _ => true) true k 9 (List.take (Try.prog.cellsOf 9) [v3, v4]) = xs[3]? at h3
    rw [cellsStr, List.getElem?_eq_getElem (by rw [hxl]; decide)] at h3
    have h4 := hf 4 _ rfl
    change DataW.trod enc Try.prog W 0 (fun _ => true) true k 23 (List.take (Try.prog.cellsOf 23) [v4]) = xs[4]? at h4
    rw [cellsCs, List.getElem?_eq_getElem (by rw [hxl]; decide)] at h4
    obtain ⟨s0, e0, -, l0⟩ := DataW.trod_string Try.underlying9 h0
    obtain ⟨s1, e1, -, l1⟩ := DataW.trod_string Try.underlying9 h1
    obtain ⟨s3, e3, -, l3⟩ := DataW.trod_string Try.underlying9 h3
    obtain ⟨ps, hps, hpl⟩ := open_ps h2
    have h4' : ∃ aa m ac, v4 = .slice aa m ac := by
      rcases open_slice Try.underlying23 h4 with ⟨hc, _⟩ | ⟨a, len, cap, _, _, _, _, hc, _⟩
      · simp only [List.take_succ_cons, List.take_zero, List.cons.injEq, and_true] at hc
        exact ⟨_, _, _, hc⟩
      · simp only [List.take_succ_cons, List.take_zero, List.cons.injEq, and_true] at hc
        exact ⟨_, _, _, hc⟩
    obtain ⟨aa, m, ac, rfl⟩ := h4'
    simp only [List.take_succ_cons, List.take_zero, List.cons.injEq, and_true] at e0 e1 e3
    subst e0 e1 e3
    exact ⟨s0, s1, s3, v2, aa, m, ac, ps, rfl, hps, hpl, l0, l1, l3⟩
end
end Go.Proofs.Ytfgaabjpkmmpdaa.Pp
