/-
The law's own anchors (works): true, whatever lies in memory. No conditions.
-/
import Derived.Test.YtccgpemcdbcjeaaDoorPpPEq
import Derived.Test.YtccgpemcdbcjeaaDoorPpWorks
import Derived.Test.YtccgpemcdbcjeaaDoorPpSame
namespace Go.Proofs.YtccgpemcdbcjeaaDoor.Pp
open Go.RowKit

theorem prs_1 : prs line1 = ⟨⟨#[72, 79, 77, 69]⟩, ⟨#[84, 69, 76]⟩, [(⟨#[84, 89, 80, 69]⟩, ⟨#[119, 111, 114, 107]⟩), (⟨#[]⟩, ⟨#[86, 79, 73, 67, 69]⟩)], ⟨#[49, 50]⟩, 0, 0⟩ := by rw [prs_eq]; exact parse_1
theorem prs_2 : prs line2 = errP 2 3 := by rw [prs_eq]; exact parse_2
set_option maxRecDepth 100000 in
set_option maxHeartbeats 4000000 in
theorem works_any (w : World) : Calls Tryd.prog 8 #[] w fun e w' => e = .returned (.bool true) ∧ Below w.heap.size w w' := by
  have C1 := Lib.hid (fun W => pParse_any line1 W (by decide))
  have C2 := Lib.hid (fun W => pParse_any line2 W (by decide))
  rw [prs_1] at C1
  rw [prs_2] at C2
  unfold line1 at C1
  unfold line2 at C2
  unfold Told prV at C1
  unfold Told errP prV at C2
  simp only at C1 C2
  have HE := Lib.hid (fun W => eqlP ⟨#[84, 89, 80, 69]⟩ ⟨#[119, 111, 114, 107]⟩ ⟨#[84, 89, 80, 69]⟩ ⟨#[119, 111, 114, 107]⟩ W)
  go_enter Tryd.func8, Tryd.ntmps8
  go_wp2_with fail
  refine (C1.out _).mono ?_
  rintro e w1 ⟨pv, rfl, hown, b1⟩
  have hps := hown.ps
  obtain ⟨b, o, cap, rfl, hbl, p0, p1⟩ := hps.at_ (i := 0) (by decide)
  obtain ⟨b', o', cap', hx, _, p2, p3⟩ := hps.at_ (i := 1) (by decide)
  simp only [Value.slice.injEq, Option.some.injEq, Addr.mk.injEq, and_true, true_and] at hx
  obtain ⟨⟨rfl, rfl⟩, rfl⟩ := hx
  simp only [List.getElem_cons_zero, List.getElem_cons_succ, Nat.zero_mul, Nat.one_mul, Nat.add_zero] at p0 p1 p2 p3
  simp only [List.length_cons, List.length_nil, Nat.zero_add, Nat.reduceAdd]
  have HA : PrAt (w1.alloc (.cells #[.string ⟨#[72, 79, 77, 69]⟩, .string ⟨#[84, 69, 76]⟩, .slice (some ⟨b, o, none⟩) 2 cap, .string ⟨#[49, 50]⟩, .slice none 0 0] 25)) w1.heap.size ⟨#[72, 79, 77, 69]⟩ ⟨#[84, 69, 76]⟩ (.slice (some ⟨b, o, none⟩) 2 cap) ⟨#[49, 50]⟩ (.slice none 0 0) := heap_alloc_new w1 _
  have bA : Below w1.heap.size w1 (w1.alloc (.cells #[.string ⟨#[72, 79, 77, 69]⟩, .string ⟨#[84, 69, 76]⟩, .slice (some ⟨b, o, none⟩) 2 cap, .string ⟨#[49, 50]⟩, .slice none 0 0] 25)) := (Below.refl _ _).alloc (Nat.le_refl _) _
  go_wp2_with fail
  refine (C2.out _).mono ?_
  rintro e w2 ⟨pv2, rfl, hown2, b2⟩
  obtain ⟨a2, c2, rfl⟩ := shapeP hown2
  have bB : Below w2.heap.size w2 (w2.alloc (.cells #[.string ⟨#[]⟩, .string ⟨#[]⟩, .slice a2 0 c2, .string ⟨#[]⟩, .slice none 0 0] 25)) := (Below.refl _ _).alloc (Nat.le_refl _) _
  have HA2 := (HA.below b2).below bB
  have B12 : Below w1.heap.size w1 _ := (bA.trans (b2.mono bA.size)).trans (bB.mono (Nat.le_trans bA.size b2.size))
  have k0 := HA2.c0
  have k1 := HA2.c1
  have k2 := HA2.c2
  have k3 := HA2.c3
  have n0 := (B12.cell (p := ⟨b, o, none⟩) hbl).trans p0
  have n1 := (B12.cell (p := ⟨b, o + 1, none⟩) hbl).trans p1
  have n2 := (B12.cell (p := ⟨b, o + 2, none⟩) hbl).trans p2
  have n3 := (B12.cell (p := ⟨b, o + 2 + 1, none⟩) hbl).trans p3
  have BB := b1.trans (B12.mono b1.size)
  clear HA HA2 bA bB b2 B12 hown2 b1 hown hps p0 p1 p2 p3
  simp only [List.length_nil]
  have he := HE.out
  go_wp2_with fail
  go_ret
  exact ⟨rfl, BB⟩
end Go.Proofs.YtccgpemcdbcjeaaDoor.Pp
