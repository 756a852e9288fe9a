/-
The program's Compare answers the plain order of fields. Conditions: none.
-/
import Derived.Test.YtjgfbicllgalkaaCtCmp
namespace Go.Proofs.Ytjgfbicllgalkaa.Ct
set_option maxRecDepth 100000
open Go.RowKit

set_option maxHeartbeats 2000000 in
theorem pcmp_any (x y : Fd) (w : World) : Calls Try.prog 5 #[fdV x, fdV y] w fun e w' => e = .returned (.int .i64 (cmpF x y)) ∧ Below w.heap.size w w' := by
  obtain ⟨x0, x1, x2⟩ := x
  obtain ⟨y0, y1, y2⟩ := y
  have hb := two_boxes w (.cells #[.string x0, .string x1, .string x2] 28) (.cells #[.string y0, .string y1, .string y2] 28)
  have hX : ((w.alloc (.cells #[.string x0, .string x1, .string x2] 28)).alloc (.cells #[.string y0, .string y1, .string y2] 28)).heap[w.heap.size]? = some (.cells #[.string x0, .string x1, .string x2] 28 (0, 0)) :=
    (((Below.refl (w.heap.size + 1) (w.alloc (.cells #[.string x0, .string x1, .string x2] 28))).alloc (by simp) _).block _ (by omega)).trans (heap_alloc_new w _)
  have hY := heap_alloc_new (w.alloc (.cells #[.string x0, .string x1, .string x2] 28)) (.cells #[.string y0, .string y1, .string y2] 28)
  rw [World.size_alloc] at hY
  have a0 := cell_of_row _ w.heap.size 0 _ _ _ hX
  have a1 := cell_of_row _ w.heap.size 1 _ _ _ hX
  have a2 := cell_of_row _ w.heap.size 2 _ _ _ hX
  have b0 := cell_of_row _ (w.heap.size + 1) 0 _ _ _ hY
  have b1 := cell_of_row _ (w.heap.size + 1) 1 _ _ _ hY
  have b2 := cell_of_row _ (w.heap.size + 1) 2 _ _ _ hY
  have HB := Lib.hid hb
  have CC : Hid (∀ a b W, Calls Try.prog 13 #[.string a, .string b] W fun e w' => e = .returned (.int .i64 (cmpS a b)) ∧ w' = W) := Lib.hid (fun a b W => Try.strings_Compare a b W)
  have CO := Lib.hid (fun B a b c W h0 h1 h2 => or_any B a b c W h0 h1 h2)
  have HE : Hid (cmpF (x0, x1, x2) (y0, y1, y2) = or3 (cmpS x0 y0) (cmpS x1 y1) (cmpS x2 y2)) := Lib.hid rfl
  unfold fdV
  simp only
  have C3 := Lib.hid (fun W h => CO.out (w.heap.size + 1 + 1) (cmpS x0 y0) (cmpS x1 y1) (cmpS x2 y2) W (And.left h) (And.left (And.right h)) (And.right (And.right h)))
  have h3 := three_new ((w.alloc (.cells #[.string x0, .string x1, .string x2] 28)).alloc (.cells #[.string y0, .string y1, .string y2] 28)) (cmpS x0 y0) (cmpS x1 y1) (cmpS x2 y2) (w.heap.size + 1 + 1) (by rw [World.size_alloc, World.size_alloc])
  have HB3 := Lib.hid (hb.trans (h3.2.mono hb.size))
  have hk : ∀ (a : Addr) (u : Value), a.block < w.heap.size + 2 → ((w.alloc (.cells #[.string x0, .string x1, .string x2] 28)).alloc (.cells #[.string y0, .string y1, .string y2] 28)).cell? a = some u → (((w.alloc (.cells #[.string x0, .string x1, .string x2] 28)).alloc (.cells #[.string y0, .string y1, .string y2] 28)).alloc (.cells #[.int .i64 (cmpS x0 y0), .int .i64 (cmpS x1 y1), .int .i64 (cmpS x2 y2)] 3)).drew.cell? a = some u := fun a u ha h => (h3.2.cell (p := a) (by rw [World.size_alloc, World.size_alloc]; omega)).trans h
  have C4 := Lib.hid ((C3.out _ h3.1).mono (R' := fun e W => e = .returned (.int .i64 (or3 (cmpS x0 y0) (cmpS x1 y1) (cmpS x2 y2))) ∧ Below w.heap.size w W ∧ (W.cell? ⟨w.heap.size, 0, none⟩ = some (.string x0) ∧ W.cell? ⟨w.heap.size, 1, none⟩ = some (.string x1) ∧ W.cell? ⟨w.heap.size, 2, none⟩ = some (.string x2) ∧ W.cell? ⟨w.heap.size + 1, 0, none⟩ = some (.string y0) ∧ W.cell? ⟨w.heap.size + 1, 1, none⟩ = some (.string y1) ∧ W.cell? ⟨w.heap.size + 1, 2, none⟩ = some (.string y2))) (fun _ _ h => ⟨h.1, h.2 ▸ HB3.out, by rw [← h.2]; exact ⟨hk _ _ (by show w.heap.size < _; omega) a0, hk _ _ (by show w.heap.size < _; omega) a1, hk _ _ (by show w.heap.size < _; omega) a2, hk _ _ (by show w.heap.size + 1 < _; omega) b0, hk _ _ (by show w.heap.size + 1 < _; omega) b1, hk _ _ (by show w.heap.size + 1 < _; omega) b2⟩⟩))
  have hs0 : ((w.alloc (.cells #[.string x0, .string x1, .string x2] 28)).alloc (.cells #[.string y0, .string y1, .string y2] 28)).cell? ⟨w.heap.size, 0, none⟩ = some (.string x0) ∧ ((w.alloc (.cells #[.string x0, .string x1, .string x2] 28)).alloc (.cells #[.string y0, .string y1, .string y2] 28)).cell? ⟨w.heap.size, 1, none⟩ = some (.string x1) ∧ ((w.alloc (.cells #[.string x0, .string x1, .string x2] 28)).alloc (.cells #[.string y0, .string y1, .string y2] 28)).cell? ⟨w.heap.size, 2, none⟩ = some (.string x2) ∧ ((w.alloc (.cells #[.string x0, .string x1, .string x2] 28)).alloc (.cells #[.string y0, .string y1, .string y2] 28)).cell? ⟨w.heap.size + 1, 0, none⟩ = some (.string y0) ∧ ((w.alloc (.cells #[.string x0, .string x1, .string x2] 28)).alloc (.cells #[.string y0, .string y1, .string y2] 28)).cell? ⟨w.heap.size + 1, 1, none⟩ = some (.string y1) ∧ ((w.alloc (.cells #[.string x0, .string x1, .string x2] 28)).alloc (.cells #[.string y0, .string y1, .string y2] 28)).cell? ⟨w.heap.size + 1, 2, none⟩ = some (.string y2) := ⟨a0, a1, a2, b0, b1, b2⟩
  have HS0 := Lib.hid hs0
  have hs1 : ((w.alloc (.cells #[.string x0, .string x1, .string x2] 28)).alloc (.cells #[.string y0, .string y1, .string y2] 28)).drew.cell? ⟨w.heap.size, 0, none⟩ = some (.string x0) ∧ ((w.alloc (.cells #[.string x0, .string x1, .string x2] 28)).alloc (.cells #[.string y0, .string y1, .string y2] 28)).drew.cell? ⟨w.heap.size, 1, none⟩ = some (.string x1) ∧ ((w.alloc (.cells #[.string x0, .string x1, .string x2] 28)).alloc (.cells #[.string y0, .string y1, .string y2] 28)).drew.cell? ⟨w.heap.size, 2, none⟩ = some (.string x2) ∧ ((w.alloc (.cells #[.string x0, .string x1, .string x2] 28)).alloc (.cells #[.string y0, .string y1, .string y2] 28)).drew.cell? ⟨w.heap.size + 1, 0, none⟩ = some (.string y0) ∧ ((w.alloc (.cells #[.string x0, .string x1, .string x2] 28)).alloc (.cells #[.string y0, .string y1, .string y2] 28)).drew.cell? ⟨w.heap.size + 1, 1, none⟩ = some (.string y1) ∧ ((w.alloc (.cells #[.string x0, .string x1, .string x2] 28)).alloc (.cells #[.string y0, .string y1, .string y2] 28)).drew.cell? ⟨w.heap.size + 1, 2, none⟩ = some (.string y2) := ⟨a0, a1, a2, b0, b1, b2⟩
  have HS1 := Lib.hid hs1
  clear hb hX hY h3 C3 CO HB3 hs0 hs1 hk
  obtain ⟨R, hR⟩ : ∃ R, cmpF (x0, x1, x2) (y0, y1, y2) = R := ⟨_, rfl⟩
  rw [hR]
  have HR := Lib.hid (HE.out.symm.trans hR)
  clear HE hR
  go_enter Try.func5, Try.ntmps5
  go_wp2_with fail
  go_region_held3 (fun W => W.cell? ⟨w.heap.size, 0, none⟩ = some (.string x0) ∧ W.cell? ⟨w.heap.size, 1, none⟩ = some (.string x1) ∧ W.cell? ⟨w.heap.size, 2, none⟩ = some (.string x2) ∧ W.cell? ⟨w.heap.size + 1, 0, none⟩ = some (.string y0) ∧ W.cell? ⟨w.heap.size + 1, 1, none⟩ = some (.string y1) ∧ W.cell? ⟨w.heap.size + 1, 2, none⟩ = some (.string y2)) (first | with_reducible exact hs4 | with_reducible exact HS1.out | with_reducible exact HS0.out | go_keep) (first
    | (go_at_call 13; (with_reducible refine (CC.out _ _ _).mono ?_); rintro e w' ⟨rfl, rfl⟩)
    | (go_at_call 12; (with_reducible refine C4.out.mono ?_); rintro e w' ⟨rfl, hB, hs4⟩))
  go_wp2_with fail
  go_ret
  exact ⟨by have h := HR.out; subst h; rfl, by assumption⟩
end Go.Proofs.Ytjgfbicllgalkaa.Ct
