/-
For every text and every list of reads the law MbintReads returns true and leaves its arguments as they were. Conditions: none but the row's own.
-/
import Derived.Test.YtpapakkcomegnaaRows
import Derived.Test.YtpapakkcomegnaaMbReadsLaw
import Derived.Test.YtpapakkcomegnaaMbReadsNone
import Derived.WalkKit
import Derived.ProofKit
import Derived.OpenShut
import Derived.ShutString
import Derived.ChangeOld
import Derived.Below
import Derived.Carry
import Derived.Deep.SlicePairs
namespace Go.Proofs.Ytpapakkcomegnaa.mbintReads
open Go.ChangeShapes Go.WideShapes Go.ChangeAt Go.RowKit Go.Deep
open Go.ChangeMaps (open_string shut_string)
set_option linter.unusedVariables false

theorem own : ownKnob Try.prog.godebug = none := by kernel_rfl
theorem laidOut : laidOutB Try.prog = true := by kernel_rfl
theorem cellsOp : Try.prog.cellsOf 33 = 2 := by kernel_rfl
theorem cellsInt : Try.prog.cellsOf 3 = 1 := by kernel_rfl

/-- A list of reads that came in: without elements, or its elements' cells. -/
theorem open_ops {H : Type} {enc : TypeId × Value → H} {W : World} {base : Nat} {v : Value} {d : DataW H} {p : List MemPlace} (hval : Value.okWide Try.prog W .any base 25 v) (h : DataW.Trod enc Try.prog W 0 (fun _ => true) true 25 v d p) :
    (∃ a cap, v = .slice a 0 cap) ∨ ∃ (b o len cap : Nat) (K N : Nat → Int), v = .slice (some ⟨b, o, none⟩) len cap ∧ b < W.heap.size ∧ len ≤ maxLen ∧ MbLaw.Ops W b o len K N ∧ ∀ i, i < len → -9223372036854775808 ≤ N i ∧ N i ≤ 9223372036854775807 := by
  obtain ⟨a0, l0, c0, rfl⟩ := okWide_slice Try.underlying25 hval
  obtain ⟨fuel, t0⟩ := h
  rcases open_slice_pairs Try.underlying25 Try.underlying33 cellsOp rfl rfl cellsInt cellsInt t0 with ⟨hc, hx⟩ | ⟨a, len, cap, m, k, V0, V1, D0, D1, P0, P1, hc, _, hl, hm, hmm, hx, hall⟩
  · left
    simp only [Value.cells, List.cons.injEq, and_true, Value.slice.injEq] at hc
    obtain ⟨rfl, rfl, rfl⟩ := hc
    exact ⟨_, _, rfl⟩
  · simp only [Value.cells, List.cons.injEq, and_true, Value.slice.injEq] at hc
    obtain ⟨rfl, rfl, rfl⟩ := hc
    rcases Nat.eq_zero_or_pos l0 with rfl | hpos
    · exact .inl ⟨_, _, rfl⟩
    right
    simp only [if_true] at hmm
    subst hmm
    obtain ⟨sb, so, spot⟩ := a
    have hspot : spot = none := by simpa [Addr.add] using World.cell?_spot (hall 0 (by omega)).1
    subst hspot
    have each : ∀ i, i < l0 → ∃ q : Int × Int, W.cell? ⟨sb, so + i * 2, none⟩ = some (.int .i64 q.1) ∧ W.cell? ⟨sb, so + i * 2 + 1, none⟩ = some (.int .i64 q.2) ∧ -9223372036854775808 ≤ q.2 ∧ q.2 ≤ 9223372036854775807 := by
      intro i hi
      obtain ⟨g0, g1, h2, h3⟩ := hall i (by omega)
      obtain ⟨A, hA, hA2, hA3⟩ := DataW.trod_int Try.underlying3 h2
      obtain ⟨B, hB, hB2, hB3⟩ := DataW.trod_int Try.underlying3 h3
      simp only [List.cons.injEq, and_true] at hA hB
      rw [add_plain, hA] at g0
      rw [add_plain, hB] at g1
      have bd := bounds_i64 hB3
      exact ⟨(A, B), g0, g1, bd.1, bd.2⟩
    obtain ⟨q, hq⟩ := choose_lt each
    have hlt : sb < W.heap.size := World.block_lt_of_cell? W _ (hq 0 hpos).1
    exact ⟨sb, so, l0, _, fun i => (q i).1, fun i => (q i).2, rfl, hlt, by omega, fun i hi => ⟨(hq i hi).1, (hq i hi).2.1⟩, fun i hi => (hq i hi).2.2⟩

theorem contract (H : Type) (enc : TypeId × Value → H) (W : World) (base : Nat) (args : Array Value) (ds gs : List (DataW H)) (before : List MemPlace)
    (hval : ∀ (j : Nat) t v, Try.f4.params[j]? = some t → args[j]? = some v → Value.okWide Try.prog W .any base t v)
    (hW : DataW.Whole enc Try.prog Try.f4.params.toList Rows.mbintReadsSpec.vars false W args.toList ds gs before) :
    Calls Try.prog 4 args W fun e W' => ∃ v, e = .returned v ∧ Rows.mbintReadsSpec.post enc Try.prog Try.f4 false true false false W args v W' := by
  have hW' := hW
  obtain ⟨p, q, hA0, hV, rfl, hfz, hnd⟩ := hW
  have hA : DataW.TrodAll enc Try.prog W 0 (fun _ => true) true Try.f4.params.toList args.toList ds p := hA0
  rw [Try.params4] at hA hval
  obtain ⟨v0, vs0, d0, ds0, p0, q0, hargs, rfl, rfl, h0, r0⟩ := trodAll_cons hA
  obtain ⟨v1, vs1, d1, ds1, p1, q1, rfl, rfl, rfl, h1, r1⟩ := trodAll_cons r0
  obtain ⟨rfl, rfl, rfl⟩ := trodAll_nil r1
  obtain rfl : args = #[v0, v1] := by cases args; simp_all
  obtain ⟨rfl, rfl⟩ := trodVars_none hV
  obtain ⟨a0, rfl, rfl, rfl, w0⟩ := open_string Try.underlying9 (hval 0 9 v0 rfl rfl) h0
  have hlt : ∀ x ∈ p1, x.block < W.heap.size := fun x hx => by simpa using hW'.lt x (by simp [hx])
  have ho := open_ops (hval 1 25 v1 rfl rfl) h1
  clear hA0
  simp only [List.append_nil] at hW'
  have hmain : Calls Try.prog 4 #[.string a0, v1] W fun e w' => e = .returned (.bool true) ∧ Below W.heap.size W w' := by
    rcases ho with ⟨a, cap, rfl⟩ | ⟨b, o, len, cap, K, N, rfl, hb, hl, hO, hN⟩
    · exact MbLaw.reads_none a0 a cap W w0
    · exact MbLaw.reads a0 b o len cap K N W w0 hl hb hO hN
  refine hmain.mono fun e W' ⟨he, bel⟩ => ?_
  subst he
  exact ⟨_, rfl, _, _, _, [], _, [], hW', trodAll_mk1 (shut_bool Try.underlying4 _), (trodAll_cons_mk (shut_string Try.underlying9 w0) (trodAll_cons_mk (Below.trod laidOut (by kernel_rfl) (of_decide_eq_true (by kernel_rfl)) h1 bel hlt) trodAll_mk0)), rfl, bel.frame _, fun h => by cases h⟩

set_option maxRecDepth 100000 in
theorem lifted (os : Os) (started : os.Started) (H : Type) (enc : TypeId × Value → H) :
    ReturnsInHanded {} Try.checked os 4 .any (Rows.mbintReadsSpec.pre6 enc Try.prog Try.f4 Rows.mbintReadsRow.domain false) (Rows.mbintReadsSpec.post enc Try.prog Try.f4 false true false false) := by
  refine returnsInHanded_of_change (C := Try.checked) own started (by kernel_rfl) Try.func4
    (ChangeSpec.witness6 (enc := enc) (C := Try.checked) false ⟨#[], #[.string .empty, .slice none 0 0], []⟩ 8 (by kernel_rfl) (by kernel_rfl) (by kernel_rfl) (by kernel_rfl)) ?_
  intro W base args ds gs before hval hW hcnd _
  exact contract H enc W base args ds gs before hval hW

theorem proved : Rows.MbintReadsSaid :=
  OpenClaim.holds_of_wide 4 Try.f4 rfl rfl rfl rfl rfl rfl rfl ⟨rfl, rfl, rfl, rfl, rfl⟩ rfl rfl rfl rfl rfl (by kernel_rfl) Try.func4 (by kernel_rfl)
    (of_decide_eq_true (by kernel_rfl)) (by unfold Func.isWrapper; first | (rw [if_pos (by decide +kernel)]; kernel_rfl) | (rw [if_neg (by decide +kernel)]; exact ⟨rfl, rfl⟩))
    (fun os started H enc _ => lifted os started H enc)
#print axioms proved
end Go.Proofs.Ytpapakkcomegnaa.mbintReads
