/-
A list of texts that came in: it may be read, and its texts and its length are within the row's own reach. No conditions of its own.
-/
import Derived.Test.YtbaigaenglhebaaStrs
import Derived.ProofKit
import Derived.Deep.Strs
import Derived.SizedLaws
import Derived.Carry
namespace Go.Proofs.Ytbaigaenglhebaa.Strs
open Go.ChangeShapes Go.WideShapes Go.ChangeAt Go.RowKit Go.Deep

theorem laidOut : laidOutB Try.prog = true := by kernel_rfl
theorem cellsStr : Try.prog.cellsOf 9 = 1 := by kernel_rfl
theorem weights_all {H : Type} {P : Program} {e : TypeId} {b : List UInt8} : ∀ (l : List (DataW H)), DataW.lit (.string b) ∈ l → b.length ∈ DataW.weightsAll P e l
  | [], h => by cases h
  | d :: r, h => by
    unfold DataW.weightsAll
    rcases List.mem_cons.1 h with rfl | h
    · exact List.mem_append.2 (.inl (by simp [DataW.weights]))
    · exact List.mem_append.2 (.inr (weights_all r h))
theorem sized_text {H : Type} {P : Program} {ts : List TypeId} {ds : List (DataW H)} (h : (DataW.weightsEach P ts ds).all (· ≤ reachBytes) = true) {j : Nat} {t e : TypeId} {elems spare : List (DataW H)} (ht : ts[j]? = some t) (hd : ds[j]? = some (.slice elems spare)) (hu : P.underlying t = some (.slice e))
    {b : List UInt8} (hb : DataW.lit (.string b) ∈ elems) : b.length ≤ reachBytes := by
  have := List.all_eq_true.1 h _ (DataW.weights_mem_each ht hd b.length (by simp only [DataW.weights, hu]; exact List.mem_cons_of_mem _ (List.mem_append.2 (.inl (weights_all elems hb)))))
  simpa using this

theorem open_texts {H : Type} {enc : TypeId × Value → H} {W : World} {base j : Nat} {v : Value} {d : DataW H} {p : List MemPlace} {ts : List TypeId} {ds : List (DataW H)} (hval : Value.okWide Try.prog W .any base 33 v) (h : DataW.Trod enc Try.prog W 0 (fun _ => true) true 33 v d p)
    (hz : (DataW.weightsEach Try.prog ts ds).all (· ≤ reachBytes) = true) (ht : ts[j]? = some 33) (hd : ds[j]? = some d) :
    ∃ l : List (List UInt8), Reads W v l ∧ (∀ x ∈ l, x.length ≤ 140737488355328) ∧ l.length ≤ 8796093022208 ∧ (v = .slice none 0 0 ∨ ∃ ad n c, v = .slice (some ad) n c) := by
  obtain ⟨a0, l0, c0, rfl⟩ := okWide_slice Try.underlying33 hval
  obtain ⟨fuel, t0⟩ := h
  rcases open_strs Try.underlying33 Try.underlying9 cellsStr t0 with ⟨hc, hx⟩ | ⟨a, len, cap, m, Sx, hc, _, hl, hm, hmm, hx, hall⟩
  · simp only [Value.cells, List.cons.injEq, and_true, Value.slice.injEq] at hc
    obtain ⟨rfl, rfl, rfl⟩ := hc
    exact ⟨[], ⟨_, _, rfl, Nat.le_refl _, 0, 0, fun h => absurd rfl h, fun i hi => absurd hi (by simp)⟩, (fun x hx => absurd hx (by simp)), (by simp), .inl rfl⟩
  · simp only [Value.cells, List.cons.injEq, and_true, Value.slice.injEq] at hc
    obtain ⟨rfl, rfl, rfl⟩ := hc
    simp only [if_true] at hmm
    subst hmm
    obtain ⟨sb, so, spot⟩ := a
    simp only [Prod.mk.injEq] at hx
    obtain ⟨rfl, _⟩ := hx
    have hlen := sized_slice hz ht hd Try.underlying33
    rw [show Try.prog.bytesOf 9 = 16 by kernel_rfl] at hlen
    simp only [List.length_map, List.length_range] at hlen
    have hr : reachBytes < 2 ^ 47 := reachBytes_lt
    refine ⟨(List.range l0).map fun i => (Sx i).data.toList, ⟨_, _, by rw [List.length_map, List.length_range], by rw [List.length_map, List.length_range]; exact hl, sb, so, fun hne => ?_, fun i hi => ?_⟩, fun x hx => ?_, by rw [List.length_map, List.length_range]; omega, .inr ⟨_, _, _, rfl⟩⟩
    · have hpos : 0 < l0 := by rcases Nat.eq_zero_or_pos l0 with rfl | h; exact absurd rfl hne; exact h
      have h0 := (hall 0 (by omega)).1
      have hspot : spot = none := by simpa [Addr.add] using World.cell?_spot h0
      subst hspot
      exact ⟨rfl, World.block_lt_of_cell? W _ h0⟩
    · rw [List.length_map, List.length_range] at hi
      have h0 := (hall i (by omega)).1
      have hspot : spot = none := by simpa [Addr.add] using World.cell?_spot (hall 0 (by omega)).1
      subst hspot
      rw [add_plain] at h0
      rw [h0, List.getElem_map, List.getElem_range, str_mk]
    · obtain ⟨i, hi, rfl⟩ := List.mem_map.1 hx
      have := sized_text hz ht hd Try.underlying33 (b := (Sx i).data.toList) (List.mem_map.2 ⟨i, hi, rfl⟩)
      omega
end Go.Proofs.Ytbaigaenglhebaa.Strs
