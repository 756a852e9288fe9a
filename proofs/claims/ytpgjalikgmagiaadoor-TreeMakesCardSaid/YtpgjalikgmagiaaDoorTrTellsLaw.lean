/-
The law TreeTells holds at any element. Conditions: the element lies below the caller's blocks; the two tables of UTF-8 hold what the rows list.
-/
import Derived.Test.YtpgjalikgmagiaaDoorTrCheck
import Derived.Deep.RegionHeld3
namespace Go.Proofs.YtpgjalikgmagiaaDoor.Tr
set_option maxRecDepth 100000
open Go.RowKit Sq

/-- What is wrong with an element that is not too much. -/
def chkS (e : El) : Int := if (pre 13 1 e).any (fun y => decide (12 < y.1)) = true then 9 else if 2000 < weight e then 4 else flaws flaw (pre 13 1 e)
theorem any_map (l : List (Nat × Iv)) : (bareL l).any (fun y => decide (12 < y.1)) = l.any (fun y => decide (12 < y.1)) := by
  unfold bareL; rw [List.any_map]; rfl
theorem text_small {w : World} {k d : Nat} {x : Iv} (hs : Small x.1) : ∀ y ∈ preV w k d x, y.2.1.text.size ≤ 68719476736 := fun y hy => by
  have := (hs.t k d (y.1, y.2.1) (by rw [← preV_map w]; exact List.mem_map.2 ⟨y, hy, rfl⟩)).1
  simp only at this
  omega
theorem pCheck_any (x : Iv) (w : World) (hx : Ok w w.heap.size x) (hs : Small x.1) (T : Cs.Tabs w) :
    Calls Tryd.prog 6 #[elV x] w fun e w' => e = .returned (.int .i64 (chkS x.1)) ∧ Below w.heap.size w w' := by
  have hon : ∀ w1, Below w.heap.size w w1 → Ok w1 w1.heap.size x := fun w1 h => (hx.stays h).up h.size
  have h := pCheck_walk x w hx T ((preV w 13 1 x).any fun y => decide (12 < y.1)) (weight x.1) (preV w 12 1 x) (text_small hs)
    (fun w1 h => by
      have hp := preV_same h 13 1 hx
      have := deep_any x w1 (hon w1 h) (by rw [preV_length]; exact hs.n 13 1)
      rw [hp] at this
      exact this)
    (fun w1 h => pWeight_any x w1 (hon w1 h) hs) (by unfold weight; omega) rfl
  refine h.mono ?_
  rintro e w' ⟨rfl, hb⟩
  refine ⟨?_, hb⟩
  unfold chkS
  rw [← any_map, show bareL (preV w 13 1 x) = pre 13 1 x.1 from preV_map w 13 1 x]
  by_cases hd : (pre 13 1 x.1).any (fun y => decide (12 < y.1)) = true
  · rw [if_pos hd, if_pos hd]
  · rw [if_neg hd, if_neg hd, show bareL (preV w 12 1 x) = pre 12 1 x.1 from preV_map w 12 1 x]
    have hH : Ht 12 x.1 := ht_pre 12 0 1 x.1 fun y hy => by
      rw [Bool.not_eq_true, List.any_eq_false] at hd
      have := hd y hy
      simp at this
      omega
    rw [show pre 13 1 x.1 = pre (12 + 1) 1 x.1 from rfl, pre_ht 12 1 1 x.1 hH]
theorem refCheck_any (x : Iv) (w : World) (hx : Ok w w.heap.size x) (hs : Small x.1) :
    Calls Tryd.prog 7 #[elV x] w fun e w' => e = .returned (.int .i64 (chkS x.1)) ∧ Below w.heap.size w w' := by
  have hon : ∀ w1, Below w.heap.size w w1 → Ok w1 w1.heap.size x := fun w1 h => (hx.stays h).up h.size
  have hbw : Below w.heap.size w (w.alloc (.cells #[.int .i64 x.1.page, .string x.1.name, .string x.1.text, .bool x.1.bare, x.2] 24)) := (Below.refl _ _).alloc (Nat.le_refl _) _
  have hz : (w.alloc (.cells #[.int .i64 x.1.page, .string x.1.name, .string x.1.text, .bool x.1.bare, x.2] 24)).heap.size = w.heap.size + 1 := World.size_alloc _ _
  have C := refAll_any 5000 13 (Nat.le_refl _) (by decide) x _ (hon _ hbw)
  have hW := fun w1 h => refWeight_any x w1 (hon w1 h)
  have hok := preV_ok 13 1 (hon _ hbw)
  have hm := preV_map (w.alloc (.cells #[.int .i64 x.1.page, .string x.1.name, .string x.1.text, .bool x.1.bare, x.2] 24)) 13 1 x
  have hlen : (preV (w.alloc (.cells #[.int .i64 x.1.page, .string x.1.name, .string x.1.text, .bool x.1.bare, x.2] 24)) 13 1 x).length < 3000 := by rw [preV_length]; exact hs.n 13 1
  have ht := text_small (w := (w.alloc (.cells #[.int .i64 x.1.page, .string x.1.name, .string x.1.text, .bool x.1.bare, x.2] 24))) (k := 13) (d := 1) hs
  have hf : ∀ y ∈ preV (w.alloc (.cells #[.int .i64 x.1.page, .string x.1.name, .string x.1.text, .bool x.1.bare, x.2] 24)) 13 1 x, y.1 ≤ 61 := fun y hy => by have := preV_fst y hy; omega
  rw [hz] at C
  generalize preV (w.alloc (.cells #[.int .i64 x.1.page, .string x.1.name, .string x.1.text, .bool x.1.bare, x.2] 24)) 13 1 x = l at C hok hm hlen ht hf
  rw [List.take_of_length_le (by omega)] at C
  obtain ⟨a, c, hkv⟩ := hx.len
  unfold elV at C hW ⊢
  rw [hkv] at C hW ⊢
  have := refCheck_walk x.1.page x.1.name x.1.text x.1.bare a x.1.kids.length c w l (weight x.1) (by omega) (fun y hy => ⟨hf y hy, ht y hy, (hok y hy).fits.2.2, (hok y hy).len⟩) (by unfold weight; omega) C hW
  refine this.mono ?_
  rintro e w' ⟨rfl, hb⟩
  refine ⟨?_, hb⟩
  unfold chkS
  rw [← any_map, show bareL l = pre 13 1 x.1 from hm]

/-- The law under way. -/
structure Kt (w W : World) (x : Iv) : Prop where
  b : Below w.heap.size w W
  e : ElAt W w.heap.size x.1 x.2
  o : Ok W W.heap.size x
  t : Cs.Tabs W
section
variable {w W W' : World} {x : Iv}
theorem Kt.below (h : Kt w W x) (hb : Below W.heap.size W W') : Kt w W' x := ⟨h.b.trans (hb.mono h.b.size), (hb.block _ h.e.lt).trans h.e, (h.o.stays hb).up hb.size, h.t.below hb (Nat.le_refl _)⟩
theorem Kt.drew (h : Kt w W x) : Kt w W.drew x := h.below ((Below.refl _ _).drew)
theorem Kt.cells (h : Kt w W x) : W.cell? ⟨w.heap.size, 0, none⟩ = some (.int .i64 x.1.page) ∧ W.cell? ⟨w.heap.size, 1, none⟩ = some (.string x.1.name) ∧ W.cell? ⟨w.heap.size, 2, none⟩ = some (.string x.1.text) ∧ W.cell? ⟨w.heap.size, 3, none⟩ = some (.bool x.1.bare) ∧ W.cell? ⟨w.heap.size, 4, none⟩ = some x.2 := ⟨h.e.c0, h.e.c1, h.e.c2, h.e.c3, h.e.c4⟩
end
theorem kt_new (x : Iv) (w : World) (hx : Ok w w.heap.size x) (T : Cs.Tabs w) : Kt w (w.alloc (.cells #[.int .i64 x.1.page, .string x.1.name, .string x.1.text, .bool x.1.bare, x.2] 24)) x := by
  have hbw : Below w.heap.size w (w.alloc (.cells #[.int .i64 x.1.page, .string x.1.name, .string x.1.text, .bool x.1.bare, x.2] 24)) := (Below.refl _ _).alloc (Nat.le_refl _) _
  exact ⟨hbw, heap_alloc_new w _, (hx.stays hbw).up hbw.size, T.below hbw (Nat.le_refl _)⟩

set_option maxHeartbeats 4000000 in
theorem tells_law (x : Iv) (w : World) (hx : Ok w w.heap.size x) (T : Cs.Tabs w) :
    Calls Tryd.prog 3 #[elV x] w fun e w' => e = .returned (.bool true) ∧ Below w.heap.size w w' := by
  have K0 := kt_new x w hx T
  have CG : Hid (∀ W, Kt w W x → Calls Tryd.prog 5 #[elV x] W fun e w' => e = .returned (.bool (great x.1)) ∧ Below W.heap.size W w') := Lib.hid (fun W h => great_any x W h.o)
  have C1 : Hid (great x.1 = false → ∀ W, Kt w W x → Calls Tryd.prog 6 #[elV x] W fun e w' => e = .returned (.int .i64 (chkS x.1)) ∧ Below W.heap.size W w') := Lib.hid (fun hg W h => pCheck_any x W h.o (small_of hg) h.t)
  have C2 : Hid (great x.1 = false → ∀ W, Kt w W x → Calls Tryd.prog 7 #[elV x] W fun e w' => e = .returned (.int .i64 (chkS x.1)) ∧ Below W.heap.size W w') := Lib.hid (fun hg W h => refCheck_any x W h.o (small_of hg))
  have C3 : Hid (great x.1 = false → ∀ W, Kt w W x → Calls Tryd.prog 8 #[elV x] W fun e w' => e = .returned (.int .i64 (weight x.1 : Int)) ∧ Below W.heap.size W w') := Lib.hid (fun hg W h => pWeight_any x W h.o (small_of hg))
  have C4 : Hid (great x.1 = false → ∀ W, Kt w W x → Calls Tryd.prog 9 #[elV x] W fun e w' => e = .returned (.int .i64 (weight x.1 : Int)) ∧ Below W.heap.size W w') := Lib.hid (fun _ W h => refWeight_any x W h.o)
  generalize great x.1 = G at CG C1 C2 C3 C4
  generalize chkS x.1 = q at C1 C2
  generalize weight x.1 = n at C3 C4
  obtain ⟨⟨p, nm, t, b, ks⟩, kv⟩ := x
  obtain ⟨a, c, hkv⟩ := hx.len
  simp only [El.kids] at hkv
  subst hkv
  unfold elV at CG C1 C2 C3 C4 ⊢
  simp only [El.page, El.name, El.text, El.bare] at CG C1 C2 C3 C4 K0 ⊢
  have K0d := K0.drew
  obtain ⟨c0, c1, c2, c3, c4⟩ := K0.cells
  have hqq : (q == q) = true := by simp
  have hnn : ((n : Int) == (n : Int)) = true := by simp
  simp only [El.page, El.name, El.text, El.bare] at c0 c1 c2 c3 c4
  clear hx T
  cases G with
  | true =>
    clear C1 C2 C3 C4
    have hud : undef = (.tuple #[]) := rfl
    go_enter Tryd.func3, Tryd.ntmps3
    go_wp2_with fail
    first | (go_region_with (go_at_call 5; (with_reducible refine (CG.out _ (by first | exact K0d | exact K0)).mono ?_); rintro e w1 ⟨rfl, b1⟩; have k1 := K0d.below b1)) | fail "A"
    all_goals go_wp2_with fail
    all_goals (go_ret; exact ⟨rfl, Kt.b (w := w) (x := (.mk p nm t b ks, .slice a ks.length c)) (by assumption)⟩)
  | false =>
    replace C1 := Lib.hid (C1.out rfl)
    replace C2 := Lib.hid (C2.out rfl)
    replace C3 := Lib.hid (C3.out rfl)
    replace C4 := Lib.hid (C4.out rfl)
    go_enter Tryd.func3, Tryd.ntmps3
    go_wp2_with fail
    go_region_held3 (fun W => W.cell? ⟨w.heap.size, 0, none⟩ = some (.int .i64 p) ∧ W.cell? ⟨w.heap.size, 1, none⟩ = some (.string nm) ∧ W.cell? ⟨w.heap.size, 2, none⟩ = some (.string t) ∧ W.cell? ⟨w.heap.size, 3, none⟩ = some (.bool b) ∧ W.cell? ⟨w.heap.size, 4, none⟩ = some (.slice a ks.length c)) (exact Kt.cells (w := w) (x := (.mk p nm t b ks, .slice a ks.length c)) (by assumption)) (first
      | (go_at_call 5; (with_reducible refine (CG.out _ (by assumption)).mono ?_); rintro e w1 ⟨rfl, b1⟩; have k1 := Kt.below (w := w) (x := (.mk p nm t b ks, .slice a ks.length c)) (by assumption) b1)
      | (go_at_call 6; (with_reducible refine (C1.out _ (by assumption)).mono ?_); rintro e w2 ⟨rfl, b2⟩; have k2 := Kt.below (w := w) (x := (.mk p nm t b ks, .slice a ks.length c)) (by assumption) b2)
      | (go_at_call 7; (with_reducible refine (C2.out _ (by assumption)).mono ?_); rintro e w3 ⟨rfl, b3⟩; have k3 := Kt.below (w := w) (x := (.mk p nm t b ks, .slice a ks.length c)) (by assumption) b3)
      | (go_at_call 8; (with_reducible refine (C3.out _ (by assumption)).mono ?_); rintro e w4 ⟨rfl, b4⟩; have k4 := Kt.below (w := w) (x := (.mk p nm t b ks, .slice a ks.length c)) (by assumption) b4)
      | (go_at_call 9; (with_reducible refine (C4.out _ (by assumption)).mono ?_); rintro e w5 ⟨rfl, b5⟩; have k5 := Kt.below (w := w) (x := (.mk p nm t b ks, .slice a ks.length c)) (by assumption) b5))
    all_goals go_wp2_with fail
    all_goals (go_ret; exact ⟨rfl, Kt.b (w := w) (x := (.mk p nm t b ks, .slice a ks.length c)) (by assumption)⟩)
end Go.Proofs.YtpgjalikgmagiaaDoor.Tr
