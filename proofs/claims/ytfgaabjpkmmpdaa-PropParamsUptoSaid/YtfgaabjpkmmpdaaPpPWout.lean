/-
prop.Without: the property without its parameters of a name, and as many cards in its list. Conditions: at most 100 parameters; what comes in lies below the caller's blocks.
-/
import Derived.Test.YtfgaabjpkmmpdaaPpPCopy
import Derived.Test.YtfgaabjpkmmpdaaPpPDel2
namespace Go.Proofs.Ytfgaabjpkmmpdaa.Pp
open Go.RowKit

theorem ps_far {w : World} {B : Nat} {v : Value} {ps : List (ByteArray × ByteArray)} (h : Ps w B v ps) {a : Addr} (hd : ∀ k, v.ownBlock = some k → k ≠ a.block) (u : Value) : Ps (w.setCell a u) B v ps := by
  rcases h with h | ⟨b', o, cap, rfl, h2, h3⟩
  · exact .inl h
  · refine .inr ⟨b', o, cap, rfl, h2, fun j hj => ?_⟩
    have E : ∀ o', (w.setCell a u).cell? ⟨b', o', none⟩ = w.cell? ⟨b', o', none⟩ := fun o' => World.cell?_of_block (a := ⟨b', o', none⟩) (Below.heap_setCell w a u b' (hd b' rfl))
    exact ⟨(E _).trans (h3 j hj).1, (E _).trans (h3 j hj).2⟩

/-- Without under way: the name's box, the result, the copy's box, the copy's parameters. -/
structure Wo (w W : World) (Z : Nat) (nm g n : ByteArray) (pv : Value) (v : ByteArray) (av : Value) : Prop where
  m : W.cell? ⟨w.heap.size + 1, 0, none⟩ = some (.string nm)
  r : PrAt W (w.heap.size + 2) ⟨#[]⟩ ⟨#[]⟩ (.slice none 0 0) ⟨#[]⟩ (.slice none 0 0)
  t : PrAt W Z g n pv v av
  z : w.heap.size + 3 ≤ Z
  b : Below w.heap.size w W

set_option maxRecDepth 100000 in
set_option maxHeartbeats 4000000 in
theorem pWithout_any (k : Nat) (g n v nm : ByteArray) (pv : Value) (aa : Option Addr) (m ac : Nat) (ps : List (ByteArray × ByteArray)) (w : World) (hps : Ps w w.heap.size pv ps) (hl : ps.length ≤ 100) (hag : AgT w w.heap.size k (.slice aa m ac)) :
    Calls Try.prog 16 #[prV g n pv v (.slice aa m ac), .string nm] w fun e w' => ∃ pv' a' c', e = .returned (prV g n pv' v (.slice a' m c')) ∧ Ps w' w'.heap.size pv' (wout ps nm) ∧ Below w.heap.size w w' := by
  obtain ⟨pa, pc, rfl⟩ := hps.shape
  unfold prV
  have hb1 : Below w.heap.size w (w.alloc (.cells #[.string g, .string n, .slice pa ps.length pc, .string v, .slice aa m ac] 25)) := (Below.refl _ _).alloc (Nat.le_refl _) _
  have z1 : (w.alloc (.cells #[.string g, .string n, .slice pa ps.length pc, .string v, .slice aa m ac] 25)).heap.size = w.heap.size + 1 := World.size_alloc _ _
  obtain ⟨w1, hw1⟩ : ∃ x, w.alloc (.cells #[.string g, .string n, .slice pa ps.length pc, .string v, .slice aa m ac] 25) = x := ⟨_, rfl⟩
  have hp1 : PrAt w1 w.heap.size g n (.slice pa ps.length pc) v (.slice aa m ac) := by rw [← hw1]; exact heap_alloc_new w _
  rw [hw1] at hb1 z1
  have hb2 : Below w1.heap.size w1 (w1.alloc (.cells #[.string nm] 9)) := (Below.refl _ _).alloc (Nat.le_refl _) _
  have z2 : (w1.alloc (.cells #[.string nm] 9)).heap.size = w.heap.size + 2 := by rw [World.size_alloc, z1]
  obtain ⟨w2, hw2⟩ : ∃ x, w1.alloc (.cells #[.string nm] 9) = x := ⟨_, rfl⟩
  have hm2 : w2.heap[w.heap.size + 1]? = some (.cells #[.string nm] 9 (0, 0)) := by rw [← hw2, ← z1]; exact heap_alloc_new w1 _
  rw [hw2] at hb2 z2
  have hb3 : Below w2.heap.size w2 (w2.alloc (.cells #[.string ⟨#[]⟩, .string ⟨#[]⟩, .slice none 0 0, .string ⟨#[]⟩, .slice none 0 0] 25)) := (Below.refl _ _).alloc (Nat.le_refl _) _
  have z3 : (w2.alloc (.cells #[.string ⟨#[]⟩, .string ⟨#[]⟩, .slice none 0 0, .string ⟨#[]⟩, .slice none 0 0] 25)).heap.size = w.heap.size + 3 := by rw [World.size_alloc, z2]
  obtain ⟨w3, hw3⟩ : ∃ x, w2.alloc (.cells #[.string ⟨#[]⟩, .string ⟨#[]⟩, .slice none 0 0, .string ⟨#[]⟩, .slice none 0 0] 25) = x := ⟨_, rfl⟩
  have hr3 : PrAt w3 (w.heap.size + 2) ⟨#[]⟩ ⟨#[]⟩ (.slice none 0 0) ⟨#[]⟩ (.slice none 0 0) := by rw [← hw3, ← z2]; exact heap_alloc_new w2 _
  rw [hw3] at hb3 z3
  have hp3 := (hp1.below hb2).below hb3
  have hm3 := (hb3.block (w.heap.size + 1) (by omega)).trans hm2
  have hbb : Below w.heap.size w w3 := (hb1.trans (hb2.mono (by omega))).trans (hb3.mono (by omega))
  have hps3 := (hps.below hbb).up hbb.size
  have hag3 := (hag.below hbb).up hbb.size
  have hlm : ps.length ≤ maxLen := by unfold maxLen; omega
  have CO := Lib.hid (copied_any k g n v _ aa m ac ps w3 hps3 (by omega) hag3)
  have CD := Lib.hid (fun v W h hb => delFunc_any v ps nm (w.heap.size + 1) (w.heap.size + 3) W h hl hb (by omega))
  unfold prV at CO
  have HALL := Lib.hid (And.intro hr3 (And.intro z3 (And.intro hbb hm3)))
  have k0 := hp3.c0
  have k1 := hp3.c1
  have k2 := hp3.c2
  have k3 := hp3.c3
  have k4 := hp3.c4
  clear hps hps3 hag hag3 hl hlm hb1 hb2 hb3 hp1 hp3 hm2 hm3 hr3 hbb z1 z2 z3
  subst hw1 hw2 hw3
  go_enter Try.func16, Try.ntmps16
  go_wp2_with fail
  refine CO.out.mono ?_
  rintro e w4 ⟨pv1, a', c', rfl, hown, b4⟩
  obtain ⟨qa, qc, rfl⟩ := shapeP hown
  obtain ⟨hr3, z3, hbb, hm3⟩ := HALL.out
  have hr4 := hr3.below b4
  have hm4 := (b4.block (w.heap.size + 1) (by rw [z3]; omega)).trans hm3
  have hz4 : w.heap.size + 3 ≤ w4.heap.size := by have := b4.size; rw [z3] at this; exact this
  have hB4 := hbb.trans (b4.mono (by rw [z3]; omega))
  rw [z3] at hown
  have bt : Below w4.heap.size w4 (w4.alloc (.cells #[.string g, .string n, .slice qa ps.length qc, .string v, .slice a' m c'] 25)) := (Below.refl _ _).alloc (Nat.le_refl _) _
  have ht5 : PrAt (w4.alloc (.cells #[.string g, .string n, .slice qa ps.length qc, .string v, .slice a' m c'] 25)) w4.heap.size g n (.slice qa ps.length qc) v (.slice a' m c') := heap_alloc_new w4 _
  have hW5 : Wo w (w4.alloc (.cells #[.string g, .string n, .slice qa ps.length qc, .string v, .slice a' m c'] 25)) w4.heap.size nm g n (.slice qa ps.length qc) v (.slice a' m c') := ⟨cell_of_cur ((bt.block (w.heap.size + 1) (by omega)).trans hm4) rfl, hr4.below bt, ht5, hz4, hB4.trans (bt.mono hB4.size)⟩
  have hown5 := own_below hown bt
  have hlow := own_blk hown
  have c2 := ht5.c2
  have CX := Lib.hid (CD.out _ _ hown5 hW5.m)
  have HW5 := Lib.hid hW5
  have HLOW := Lib.hid hlow
  have hZ5 : w4.heap.size < (w4.alloc (.cells #[.string g, .string n, .slice qa ps.length qc, .string v, .slice a' m c'] 25)).heap.size := by rw [World.size_alloc]; omega
  have HZ5 := Lib.hid hZ5
  clear k0 k1 k2 k3 k4 CO CD HALL hr3 z3 hbb hm3 b4 hr4 hm4 hB4 hown ht5 hW5 hown5 hlow hZ5 bt hz4
  go_wp2_with fail
  refine CX.out.mono ?_
  rintro e w5 ⟨v', rfl, hP, hob, hgr⟩
  obtain ⟨xa, xc, rfl⟩ := hP.shape
  have hblk : ∀ k, (Value.slice qa ps.length qc).ownBlock = some k → w.heap.size + 3 ≤ k ∧ k < w4.heap.size := HLOW.out
  have hW5 := HW5.out
  have hZ5 := HZ5.out
  have hr5 : PrAt w5 (w.heap.size + 2) ⟨#[]⟩ ⟨#[]⟩ (.slice none 0 0) ⟨#[]⟩ (.slice none 0 0) := (hgr.block _ hW5.r.lt (fun e => by have := hblk _ e.symm; omega)).trans hW5.r
  have ht5 : PrAt w5 w4.heap.size g n (.slice qa ps.length qc) v (.slice a' m c') := (hgr.block _ hW5.t.lt (fun e => by have := hblk _ e.symm; omega)).trans hW5.t
  have hB5 : Below w.heap.size w w5 := hW5.b.grown hgr hW5.b.size (fun k e => by have := hblk k e; omega)
  have hfar : ∀ k, (Value.slice xa (wout ps nm).length xc).ownBlock = some k → w.heap.size + 3 ≤ k ∧ k < w4.heap.size := fun k e => hblk k (hob ▸ e)
  have ht6 := At.set2 ht5 (.slice xa (wout ps nm).length xc)
  have hr6 := At.other hr5 (a := ⟨w4.heap.size, 2, none⟩) (by have := hW5.z; show w.heap.size + 2 ≠ w4.heap.size; omega) (.slice xa (wout ps nm).length xc)
  have hP6 := ps_far hP (a := ⟨w4.heap.size, 2, none⟩) (fun k e => by have := hfar k e; show k ≠ w4.heap.size; omega) (.slice xa (wout ps nm).length xc)
  have hB6 := hB5.setCell (p := ⟨w4.heap.size, 2, none⟩) (by have := hW5.z; show w.heap.size ≤ w4.heap.size; omega) (.slice xa (wout ps nm).length xc)
  have f2 := At.f ht5 2
  have d2 := ht5.c2
  have c0 := ht6.c0
  have c1 := ht6.c1
  have c2 := ht6.c2
  have c3 := ht6.c3
  have c4 := ht6.c4
  have r0 := hr6.c0
  have r1 := hr6.c1
  have r2 := hr6.c2
  have r3 := hr6.c3
  have r4 := hr6.c4
  have g0 := At.f hr6 0
  have g1 := At.f hr6 1
  have g2 := At.f hr6 2
  have g3 := At.f hr6 3
  have g4 := At.f hr6 4
  have HA := Lib.hid (And.intro hP6 (And.intro hB6 hfar))
  clear CX HW5 HLOW HZ5 hP hob hgr hblk hW5 hZ5 hr5 ht5 hB5 hfar ht6 hr6 hP6 hB6
  generalize (wout ps nm).length = N at *
  go_wp2_with fail
  obtain ⟨hP6, hB6, hfar⟩ := HA.out
  have hne : ∀ (i : Nat) k, (Value.slice xa N xc).ownBlock = some k → k ≠ (⟨w.heap.size + 2, i, none⟩ : Addr).block := fun i k e => by have := hfar k e; show k ≠ w.heap.size + 2; omega
  have hQ := ps_far (ps_far (ps_far (ps_far (ps_far hP6 (a := ⟨w.heap.size + 2, 0, none⟩) (hne 0) (.string g)) (a := ⟨w.heap.size + 2, 1, none⟩) (hne 1) (.string n)) (a := ⟨w.heap.size + 2, 2, none⟩) (hne 2) (.slice xa N xc)) (a := ⟨w.heap.size + 2, 3, none⟩) (hne 3) (.string v)) (a := ⟨w.heap.size + 2, 4, none⟩) (hne 4) (.slice a' m c')
  exact bodyPost_ret (v := .agg #[.string g, .string n, .slice xa N xc, .string v, .slice a' m c']) (by simp [results, Try.results16, go_sem, r0, r1, r2, r3, r4]) rfl ⟨_, _, _, rfl, hQ.up (by simp only [World.size_setCell]; exact Nat.le_refl _), ((((hB6.setCell (p := ⟨w.heap.size + 2, 0, none⟩) (Nat.le_add_right _ _) _).setCell (p := ⟨w.heap.size + 2, 1, none⟩) (Nat.le_add_right _ _) _).setCell (p := ⟨w.heap.size + 2, 2, none⟩) (Nat.le_add_right _ _) _).setCell (p := ⟨w.heap.size + 2, 3, none⟩) (Nat.le_add_right _ _) _).setCell (p := ⟨w.heap.size + 2, 4, none⟩) (Nat.le_add_right _ _) _⟩
end Go.Proofs.Ytfgaabjpkmmpdaa.Pp
