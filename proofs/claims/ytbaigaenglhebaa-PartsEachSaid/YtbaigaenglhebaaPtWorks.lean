/-
'works' of the laws of layer 9 answers true. No conditions.
-/
import Derived.Test.YtbaigaenglhebaaPtSplit
import Derived.Test.YtbaigaenglhebaaPtJoin
namespace Go.Proofs.Ytbaigaenglhebaa.Pt
open Go.RowKit Strs Sq

theorem works_split : splitL [97, 92, 59, 98, 59, 99] = ([[97, 59, 98], [99]], 0, 0) := by decide +kernel
theorem works_bad : splitL [97, 92] = ([], 1, 3) := by decide +kernel
theorem works_join : jn [[97, 59, 98], [99]] = [97, 92, 59, 98, 59, 99] := by decide +kernel
theorem strs_at {w : World} {base : Nat} {v : Value} {l : List (List UInt8)} (h : Strs w base v l) : ∃ a cap, v = .slice a l.length cap ∧ ∀ i (hi : i < l.length), ∃ g, a = some ⟨g, 0, none⟩ ∧ g < w.heap.size ∧ w.cell? ⟨g, i, none⟩ = some (.string ⟨l[i].toArray⟩) := by
  obtain ⟨hl, ⟨rfl, h0⟩ | ⟨g, cap, cur, rfl, _, hg, _, _, _, ht⟩⟩ := h
  · exact ⟨none, 0, by rw [h0], fun i hi => by omega⟩
  · refine ⟨_, cap, rfl, fun i hi => ⟨g, rfl, (Array.getElem?_eq_some_iff.1 hg).1, ?_⟩⟩
    have hn : (scells l)[i]? = some (.string ⟨l[i].toArray⟩) := by simp [scells, hi]
    rw [← ht] at hn
    have h2 := Lib.cells_of_row hg _ i _ hn
    rwa [Lib.addr_add, Nat.zero_add] at h2

set_option maxRecDepth 100000 in
set_option maxHeartbeats 2000000 in
theorem works_any (w : World) : Calls Try.prog 22 #[] w fun e w' => e = .returned (.bool true) ∧ Below w.heap.size w w' := by
  have C1 := Lib.hid (fun W => split_any { data := #[97, 92, 59, 98, 59, 99] } (by decide) W)
  rw [show ({ data := #[97, 92, 59, 98, 59, 99] } : ByteArray).data.toList = [97, 92, 59, 98, 59, 99] from rfl, works_split] at C1
  have C2 := Lib.hid (fun W => split_any { data := #[97, 92] } (by decide) W)
  rw [show ({ data := #[97, 92] } : ByteArray).data.toList = [97, 92] from rfl, works_bad] at C2
  have CJ := Lib.hid (fun v W h => join_any v [[97, 59, 98], [99]] (by decide) (by decide) W h)
  rw [works_join] at CJ
  go_enter Try.func22, Try.ntmps22
  go_wp2_with fail
  refine (C1.out _).mono ?_
  rintro e w1 ⟨v1, rfl, hS1, b1⟩
  go_wp2_with fail
  refine (C2.out _).mono ?_
  rintro e w2 ⟨v2, rfl, hS2, b2⟩
  have hR1 := hS1.keep b2
  have B2 := b1.trans (b2.mono b1.size)
  have hrd := hR1.reads
  obtain ⟨a, c, rfl, hat⟩ := strs_at hR1
  obtain ⟨g, rfl, hg, hd0⟩ := hat 0 (by decide)
  obtain ⟨g', he, _, hd1⟩ := hat 1 (by decide)
  cases he
  have hc0 : w2.cell? ⟨g, 0, none⟩ = some (.string { data := #[97, 59, 98] }) := hd0
  have hc1 : w2.cell? ⟨g, 1, none⟩ = some (.string { data := #[99] }) := hd1
  clear hat hd0 hd1
  go_wp2_with fail
  refine (CJ.out _ _ hrd).mono ?_
  rintro e w3 ⟨rfl, b3⟩
  go_wp2_with fail
  go_ret
  exact ⟨rfl, B2.trans (b3.mono B2.size)⟩
end Go.Proofs.Ytbaigaenglhebaa.Pt
