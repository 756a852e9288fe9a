/-
The law's copy of a property: its parameters lie in a row of the call's own. Conditions: at most 2^30 parameters, below the caller's blocks.
-/
import Derived.Test.YtfgaabjpkmmpdaaPpOwn
import Derived.Deep.AppendLies
namespace Go.Proofs.Ytfgaabjpkmmpdaa.Pp
open Go.RowKit

/-- Parameters that came in: none, or cells behind an address. -/
theorem Ps.src {w : World} {B : Nat} {v : Value} {ps : List (ByteArray × ByteArray)} (h : Ps w B v ps) :
    (v = .slice none 0 0 ∧ ps = []) ∨ ∃ ad pc, v = .slice (some ad) ps.length pc ∧ ∀ j u, (pcells ps)[j]? = some u → w.cell? (ad.add j) = some u := by
  rcases h with ⟨rfl, rfl | ⟨ad, cap, rfl⟩⟩ | ⟨b, o, cap, rfl, h2, h3⟩
  · exact .inl ⟨rfl, rfl⟩
  · exact .inr ⟨ad, cap, rfl, fun j u hu => by simp [pcells] at hu⟩
  · refine .inr ⟨_, cap, rfl, fun j u hu => ?_⟩
    obtain ⟨i, hi, ⟨rfl, rfl⟩ | ⟨rfl, rfl⟩⟩ := pcells_get hu
    · rw [Lib.addr_add]; exact (h3 i hi).1
    · rw [Lib.addr_add, ← Nat.add_assoc]; exact (h3 i hi).2

theorem alloc_cell {W : World} {a : Addr} {v : Value} (o : Obj) (h : W.cell? a = some v) : (W.alloc o).cell? a = some v := by
  have hb := World.block_lt_of_cell? W _ h
  exact (((Below.refl _ W).alloc (Nat.le_refl _) o).cell hb).trans h
theorem own_low {w : World} {b b' : Nat} {v : Value} {ps : List (ByteArray × ByteArray)} (hb : b' ≤ b) (h : Own w b v ps) : Own w b' v ps := by
  obtain ⟨h0, h⟩ := h
  refine ⟨h0, ?_⟩
  rcases h with h | ⟨g, cap, cur, h1, h2, h3⟩
  · exact .inl h
  · exact .inr ⟨g, cap, cur, h1, by omega, h3⟩
theorem Own.set {w : World} {base : Nat} {v : Value} {ps : List (ByteArray × ByteArray)} (h : Own w base v ps) {a : Addr} (ha : a.block < base) (u : Value) : Own (w.setCell a u) base v ps := ownsRow_setCell_below h ha u
theorem shapeP {w : World} {base n : Nat} {v : Value} {xs : List Value} (h : w.ownsRow base 39 2 v n xs) : ∃ a cap, v = .slice a n cap := by
  obtain ⟨_, ⟨rfl, rfl⟩ | ⟨g, cap, cur, rfl, _⟩⟩ := h
  · exact ⟨none, 0, rfl⟩
  · exact ⟨_, cap, rfl⟩

set_option maxHeartbeats 1000000 in
theorem own_any (g n : ByteArray) (pv : Value) (v : ByteArray) (aa : Option Addr) (m ac : Nat) (ps : List (ByteArray × ByteArray)) (w : World) (hps : Ps w w.heap.size pv ps) (hl : ps.length ≤ 1073741824) :
    Calls Try.prog 7 #[prV g n pv v (.slice aa m ac)] w fun e w' => ∃ pv', e = .returned (prV g n pv' v (.slice aa m ac)) ∧ Own w' w.heap.size pv' ps ∧ Below w.heap.size w w' := by
  unfold prV
  obtain ⟨i0, hi, hz0, hz1, hz2⟩ := info_parts infoP
  have hm1 : 0 + ps.length ≤ maxLen := by unfold maxLen; omega
  have hm2 : (0 + ps.length) * 32 ≤ 140737488355328 := by omega
  rcases hps.src with ⟨rfl, rfl⟩ | ⟨ad, pc, rfl, hsrc⟩
  · have z1 : (w.alloc (.cells #[.string g, .string n, .slice none 0 0, .string v, .slice aa m ac] 25)).heap.size = w.heap.size + 1 := by rw [World.size_alloc]
    have z2 : ((w.alloc (.cells #[.string g, .string n, .slice none 0 0, .string v, .slice aa m ac] 25)).alloc (.cells #[.string { data := #[] }, .string { data := #[] }, .slice none 0 0, .string { data := #[] }, .slice none 0 0] 25)).heap.size = w.heap.size + 1 + 1 := by rw [World.size_alloc, z1]
    have hA : PrAt (w.alloc (.cells #[.string g, .string n, .slice none 0 0, .string v, .slice aa m ac] 25)) w.heap.size g n (.slice none 0 0) v (.slice aa m ac) := heap_alloc_new w _
    have hR : ((w.alloc (.cells #[.string g, .string n, .slice none 0 0, .string v, .slice aa m ac] 25)).alloc (.cells #[.string { data := #[] }, .string { data := #[] }, .slice none 0 0, .string { data := #[] }, .slice none 0 0] 25)).heap[w.heap.size + 1]? = some (.cells #[.string { data := #[] }, .string { data := #[] }, .slice none 0 0, .string { data := #[] }, .slice none 0 0] 25 (0, 0)) := by rw [← z1]; exact heap_alloc_new _ _
    have b1 : Below w.heap.size w (w.alloc (.cells #[.string g, .string n, .slice none 0 0, .string v, .slice aa m ac] 25)) := (Below.refl _ _).alloc (Nat.le_refl _) _
    have b2 : Below (w.heap.size + 1) (w.alloc (.cells #[.string g, .string n, .slice none 0 0, .string v, .slice aa m ac] 25)) ((w.alloc (.cells #[.string g, .string n, .slice none 0 0, .string v, .slice aa m ac] 25)).alloc (.cells #[.string { data := #[] }, .string { data := #[] }, .slice none 0 0, .string { data := #[] }, .slice none 0 0] 25)) := (Below.refl _ _).alloc (Nat.le_of_eq z1.symm) _
    have b3 : Below (w.heap.size + 1 + 1) ((w.alloc (.cells #[.string g, .string n, .slice none 0 0, .string v, .slice aa m ac] 25)).alloc (.cells #[.string { data := #[] }, .string { data := #[] }, .slice none 0 0, .string { data := #[] }, .slice none 0 0] 25)) (((w.alloc (.cells #[.string g, .string n, .slice none 0 0, .string v, .slice aa m ac] 25)).alloc (.cells #[.string { data := #[] }, .string { data := #[] }, .slice none 0 0, .string { data := #[] }, .slice none 0 0] 25)).alloc (.cells #[] 39)) := (Below.refl _ _).alloc (Nat.le_of_eq z2.symm) _
    have hown0 : (((w.alloc (.cells #[.string g, .string n, .slice none 0 0, .string v, .slice aa m ac] 25)).alloc (.cells #[.string { data := #[] }, .string { data := #[] }, .slice none 0 0, .string { data := #[] }, .slice none 0 0] 25)).alloc (.cells #[] 39)).ownsRow (w.heap.size + 1 + 1) 39 2 (.slice (some ⟨w.heap.size + 1 + 1, 0, none⟩) 0 0) 0 [] := by
      have h := World.ownsRow_made (e := 39) (size := 2) ((w.alloc (.cells #[.string g, .string n, .slice none 0 0, .string v, .slice aa m ac] 25)).alloc (.cells #[.string { data := #[] }, .string { data := #[] }, .slice none 0 0, .string { data := #[] }, .slice none 0 0] 25)) #[] 0 (base := w.heap.size + 1 + 1) (Nat.le_of_eq z2.symm) (by decide) rfl
      rw [z2] at h; exact h
    have hA3 := (hA.below (b2.mono (Nat.le_of_eq z1))).below (b3.mono (Nat.le_of_eq z2))
    have hR3 := (b3.block (w.heap.size + 1) (by omega)).trans hR
    have c0 := hA3.c0
    have c1' := hA3.c1
    have c2 := hA3.c2
    have c3 := hA3.c3
    have c4 := hA3.c4
    have f2 : (((w.alloc (.cells #[.string g, .string n, .slice none 0 0, .string v, .slice aa m ac] 25)).alloc (.cells #[.string { data := #[] }, .string { data := #[] }, .slice none 0 0, .string { data := #[] }, .slice none 0 0] 25)).alloc (.cells #[] 39)).frozen? ⟨w.heap.size, 2, none⟩ = false := frozen_of_row _ _ _ _ _ hA3
    have r0 : (((w.alloc (.cells #[.string g, .string n, .slice none 0 0, .string v, .slice aa m ac] 25)).alloc (.cells #[.string { data := #[] }, .string { data := #[] }, .slice none 0 0, .string { data := #[] }, .slice none 0 0] 25)).alloc (.cells #[] 39)).cell? ⟨w.heap.size + 1, 0, none⟩ = some (.string { data := #[] }) := cell_of_row _ _ _ _ _ _ hR3
    have s0 : (((w.alloc (.cells #[.string g, .string n, .slice none 0 0, .string v, .slice aa m ac] 25)).alloc (.cells #[.string { data := #[] }, .string { data := #[] }, .slice none 0 0, .string { data := #[] }, .slice none 0 0] 25)).alloc (.cells #[] 39)).frozen? ⟨w.heap.size + 1, 0, none⟩ = false := frozen_of_row _ _ _ _ _ hR3
    have r1 : (((w.alloc (.cells #[.string g, .string n, .slice none 0 0, .string v, .slice aa m ac] 25)).alloc (.cells #[.string { data := #[] }, .string { data := #[] }, .slice none 0 0, .string { data := #[] }, .slice none 0 0] 25)).alloc (.cells #[] 39)).cell? ⟨w.heap.size + 1, 1, none⟩ = some (.string { data := #[] }) := cell_of_row _ _ _ _ _ _ hR3
    have s1 : (((w.alloc (.cells #[.string g, .string n, .slice none 0 0, .string v, .slice aa m ac] 25)).alloc (.cells #[.string { data := #[] }, .string { data := #[] }, .slice none 0 0, .string { data := #[] }, .slice none 0 0] 25)).alloc (.cells #[] 39)).frozen? ⟨w.heap.size + 1, 1, none⟩ = false := frozen_of_row _ _ _ _ _ hR3
    have r2 : (((w.alloc (.cells #[.string g, .string n, .slice none 0 0, .string v, .slice aa m ac] 25)).alloc (.cells #[.string { data := #[] }, .string { data := #[] }, .slice none 0 0, .string { data := #[] }, .slice none 0 0] 25)).alloc (.cells #[] 39)).cell? ⟨w.heap.size + 1, 2, none⟩ = some (.slice none 0 0) := cell_of_row _ _ _ _ _ _ hR3
    have s2 : (((w.alloc (.cells #[.string g, .string n, .slice none 0 0, .string v, .slice aa m ac] 25)).alloc (.cells #[.string { data := #[] }, .string { data := #[] }, .slice none 0 0, .string { data := #[] }, .slice none 0 0] 25)).alloc (.cells #[] 39)).frozen? ⟨w.heap.size + 1, 2, none⟩ = false := frozen_of_row _ _ _ _ _ hR3
    have r3 : (((w.alloc (.cells #[.string g, .string n, .slice none 0 0, .string v, .slice aa m ac] 25)).alloc (.cells #[.string { data := #[] }, .string { data := #[] }, .slice none 0 0, .string { data := #[] }, .slice none 0 0] 25)).alloc (.cells #[] 39)).cell? ⟨w.heap.size + 1, 3, none⟩ = some (.string { data := #[] }) := cell_of_row _ _ _ _ _ _ hR3
    have s3 : (((w.alloc (.cells #[.string g, .string n, .slice none 0 0, .string v, .slice aa m ac] 25)).alloc (.cells #[.string { data := #[] }, .string { data := #[] }, .slice none 0 0, .string { data := #[] }, .slice none 0 0] 25)).alloc (.cells #[] 39)).frozen? ⟨w.heap.size + 1, 3, none⟩ = false := frozen_of_row _ _ _ _ _ hR3
    have r4 : (((w.alloc (.cells #[.string g, .string n, .slice none 0 0, .string v, .slice aa m ac] 25)).alloc (.cells #[.string { data := #[] }, .string { data := #[] }, .slice none 0 0, .string { data := #[] }, .slice none 0 0] 25)).alloc (.cells #[] 39)).cell? ⟨w.heap.size + 1, 4, none⟩ = some (.slice none 0 0) := cell_of_row _ _ _ _ _ _ hR3
    have s4 : (((w.alloc (.cells #[.string g, .string n, .slice none 0 0, .string v, .slice aa m ac] 25)).alloc (.cells #[.string { data := #[] }, .string { data := #[] }, .slice none 0 0, .string { data := #[] }, .slice none 0 0] 25)).alloc (.cells #[] 39)).frozen? ⟨w.heap.size + 1, 4, none⟩ = false := frozen_of_row _ _ _ _ _ hR3
    have bb : Below w.heap.size w (((w.alloc (.cells #[.string g, .string n, .slice none 0 0, .string v, .slice aa m ac] 25)).alloc (.cells #[.string { data := #[] }, .string { data := #[] }, .slice none 0 0, .string { data := #[] }, .slice none 0 0] 25)).alloc (.cells #[] 39)) := ((b1.trans (b2.mono (by omega))).trans (b3.mono (by omega)))
    clear b1 b2 b3 hA hR hA3 hR3 z1 z2
    go_enter Try.func7, Try.ntmps7
    go_wp2_with (at_builtin; refine wpList_append_own_none rfl _ _ 22 rfl (w.heap.size + 1 + 1) 39 i0 2 Try.underlying22 hi _ 0 [] rfl hown0 rfl ?_)
    have z1 : (w.alloc (.cells #[.string g, .string n, .slice (some ⟨w.heap.size + 1 + 1, 0, none⟩) 0 0, .string v, .slice aa m ac] 25)).heap.size = w.heap.size + 1 := by rw [World.size_alloc]
    have z2 : ((w.alloc (.cells #[.string g, .string n, .slice (some ⟨w.heap.size + 1 + 1, 0, none⟩) 0 0, .string v, .slice aa m ac] 25)).alloc (.cells #[.string g, .string n, .slice (some ⟨w.heap.size + 1 + 1, 0, none⟩) 0 0, .string v, .slice aa m ac] 25)).heap.size = w.heap.size + 1 + 1 := by rw [World.size_alloc, z1]
    have b1 : Below w.heap.size w (w.alloc (.cells #[.string g, .string n, .slice (some ⟨w.heap.size + 1 + 1, 0, none⟩) 0 0, .string v, .slice aa m ac] 25)) := (Below.refl _ _).alloc (Nat.le_refl _) _
    have b2 : Below (w.heap.size + 1) (w.alloc (.cells #[.string g, .string n, .slice (some ⟨w.heap.size + 1 + 1, 0, none⟩) 0 0, .string v, .slice aa m ac] 25)) ((w.alloc (.cells #[.string g, .string n, .slice (some ⟨w.heap.size + 1 + 1, 0, none⟩) 0 0, .string v, .slice aa m ac] 25)).alloc (.cells #[.string g, .string n, .slice (some ⟨w.heap.size + 1 + 1, 0, none⟩) 0 0, .string v, .slice aa m ac] 25)) := (Below.refl _ _).alloc (Nat.le_of_eq z1.symm) _
    have b3 : Below (w.heap.size + 1 + 1) ((w.alloc (.cells #[.string g, .string n, .slice (some ⟨w.heap.size + 1 + 1, 0, none⟩) 0 0, .string v, .slice aa m ac] 25)).alloc (.cells #[.string g, .string n, .slice (some ⟨w.heap.size + 1 + 1, 0, none⟩) 0 0, .string v, .slice aa m ac] 25)) (((w.alloc (.cells #[.string g, .string n, .slice (some ⟨w.heap.size + 1 + 1, 0, none⟩) 0 0, .string v, .slice aa m ac] 25)).alloc (.cells #[.string g, .string n, .slice (some ⟨w.heap.size + 1 + 1, 0, none⟩) 0 0, .string v, .slice aa m ac] 25)).alloc (.cells #[] 39)) := (Below.refl _ _).alloc (Nat.le_of_eq z2.symm) _
    have hR : ((w.alloc (.cells #[.string g, .string n, .slice (some ⟨w.heap.size + 1 + 1, 0, none⟩) 0 0, .string v, .slice aa m ac] 25)).alloc (.cells #[.string g, .string n, .slice (some ⟨w.heap.size + 1 + 1, 0, none⟩) 0 0, .string v, .slice aa m ac] 25)).heap[w.heap.size + 1]? = some (.cells #[.string g, .string n, .slice (some ⟨w.heap.size + 1 + 1, 0, none⟩) 0 0, .string v, .slice aa m ac] 25 (0, 0)) := by
      have h := heap_alloc_new (w.alloc (.cells #[.string g, .string n, .slice (some ⟨w.heap.size + 1 + 1, 0, none⟩) 0 0, .string v, .slice aa m ac] 25)) (.cells #[.string g, .string n, .slice (some ⟨w.heap.size + 1 + 1, 0, none⟩) 0 0, .string v, .slice aa m ac] 25)
      rw [z1] at h; exact h
    have hR3 := (b3.block (w.heap.size + 1) (by omega)).trans hR
    have q0 := cell_of_row _ _ 0 _ _ _ hR3
    have q1 := cell_of_row _ _ 1 _ _ _ hR3
    have q2 := cell_of_row _ _ 2 _ _ _ hR3
    have q3 := cell_of_row _ _ 3 _ _ _ hR3
    have q4 := cell_of_row _ _ 4 _ _ _ hR3
    have hownX : (((w.alloc (.cells #[.string g, .string n, .slice (some ⟨w.heap.size + 1 + 1, 0, none⟩) 0 0, .string v, .slice aa m ac] 25)).alloc (.cells #[.string g, .string n, .slice (some ⟨w.heap.size + 1 + 1, 0, none⟩) 0 0, .string v, .slice aa m ac] 25)).alloc (.cells #[] 39)).ownsRow (w.heap.size + 1 + 1) 39 2 (.slice (some ⟨w.heap.size + 1 + 1, 0, none⟩) 0 0) 0 [] := by
      have h := World.ownsRow_made (e := 39) (size := 2) ((w.alloc (.cells #[.string g, .string n, .slice (some ⟨w.heap.size + 1 + 1, 0, none⟩) 0 0, .string v, .slice aa m ac] 25)).alloc (.cells #[.string g, .string n, .slice (some ⟨w.heap.size + 1 + 1, 0, none⟩) 0 0, .string v, .slice aa m ac] 25)) #[] 0 (base := w.heap.size + 1 + 1) (Nat.le_of_eq z2.symm) (by decide) rfl
      rw [z2] at h; exact h
    have bX : Below w.heap.size w (((w.alloc (.cells #[.string g, .string n, .slice (some ⟨w.heap.size + 1 + 1, 0, none⟩) 0 0, .string v, .slice aa m ac] 25)).alloc (.cells #[.string g, .string n, .slice (some ⟨w.heap.size + 1 + 1, 0, none⟩) 0 0, .string v, .slice aa m ac] 25)).alloc (.cells #[] 39)) := ((b1.trans (b2.mono (by omega))).trans (b3.mono (by omega)))
    clear b1 b2 b3 hR hR3 z1 z2 hown0 bb c0 c1' c2 c3 c4 f2 r0 r1 r2 r3 r4 s0 s1 s2 s3 s4
    generalize (((w.alloc (.cells #[.string g, .string n, .slice (some ⟨w.heap.size + 1 + 1, 0, none⟩) 0 0, .string v, .slice aa m ac] 25)).alloc (.cells #[.string g, .string n, .slice (some ⟨w.heap.size + 1 + 1, 0, none⟩) 0 0, .string v, .slice aa m ac] 25)).alloc (.cells #[] 39)) = w1 at *
    exact bodyPost_ret (v := .agg #[.string g, .string n, .slice (some ⟨w.heap.size + 1 + 1, 0, none⟩) 0 0, .string v, .slice aa m ac]) (by simp [results, Try.results7, go_sem, q0, q1, q2, q3, q4]) rfl ⟨_, rfl, own_low (ps := []) (b := w.heap.size + 1 + 1) (by omega) hownX, bX⟩
  · have hone := pcells_one (l := ps)
    have hpl := pcells_length ps
    have z1 : (w.alloc (.cells #[.string g, .string n, .slice (some ad) ps.length pc, .string v, .slice aa m ac] 25)).heap.size = w.heap.size + 1 := by rw [World.size_alloc]
    have z2 : ((w.alloc (.cells #[.string g, .string n, .slice (some ad) ps.length pc, .string v, .slice aa m ac] 25)).alloc (.cells #[.string { data := #[] }, .string { data := #[] }, .slice none 0 0, .string { data := #[] }, .slice none 0 0] 25)).heap.size = w.heap.size + 1 + 1 := by rw [World.size_alloc, z1]
    have hA : PrAt (w.alloc (.cells #[.string g, .string n, .slice (some ad) ps.length pc, .string v, .slice aa m ac] 25)) w.heap.size g n (.slice (some ad) ps.length pc) v (.slice aa m ac) := heap_alloc_new w _
    have hR : ((w.alloc (.cells #[.string g, .string n, .slice (some ad) ps.length pc, .string v, .slice aa m ac] 25)).alloc (.cells #[.string { data := #[] }, .string { data := #[] }, .slice none 0 0, .string { data := #[] }, .slice none 0 0] 25)).heap[w.heap.size + 1]? = some (.cells #[.string { data := #[] }, .string { data := #[] }, .slice none 0 0, .string { data := #[] }, .slice none 0 0] 25 (0, 0)) := by rw [← z1]; exact heap_alloc_new _ _
    have b1 : Below w.heap.size w (w.alloc (.cells #[.string g, .string n, .slice (some ad) ps.length pc, .string v, .slice aa m ac] 25)) := (Below.refl _ _).alloc (Nat.le_refl _) _
    have b2 : Below (w.heap.size + 1) (w.alloc (.cells #[.string g, .string n, .slice (some ad) ps.length pc, .string v, .slice aa m ac] 25)) ((w.alloc (.cells #[.string g, .string n, .slice (some ad) ps.length pc, .string v, .slice aa m ac] 25)).alloc (.cells #[.string { data := #[] }, .string { data := #[] }, .slice none 0 0, .string { data := #[] }, .slice none 0 0] 25)) := (Below.refl _ _).alloc (Nat.le_of_eq z1.symm) _
    have b3 : Below (w.heap.size + 1 + 1) ((w.alloc (.cells #[.string g, .string n, .slice (some ad) ps.length pc, .string v, .slice aa m ac] 25)).alloc (.cells #[.string { data := #[] }, .string { data := #[] }, .slice none 0 0, .string { data := #[] }, .slice none 0 0] 25)) (((w.alloc (.cells #[.string g, .string n, .slice (some ad) ps.length pc, .string v, .slice aa m ac] 25)).alloc (.cells #[.string { data := #[] }, .string { data := #[] }, .slice none 0 0, .string { data := #[] }, .slice none 0 0] 25)).alloc (.cells #[] 39)) := (Below.refl _ _).alloc (Nat.le_of_eq z2.symm) _
    have hown0 : (((w.alloc (.cells #[.string g, .string n, .slice (some ad) ps.length pc, .string v, .slice aa m ac] 25)).alloc (.cells #[.string { data := #[] }, .string { data := #[] }, .slice none 0 0, .string { data := #[] }, .slice none 0 0] 25)).alloc (.cells #[] 39)).ownsRow (w.heap.size + 1 + 1) 39 2 (.slice (some ⟨w.heap.size + 1 + 1, 0, none⟩) 0 0) 0 [] := by
      have h := World.ownsRow_made (e := 39) (size := 2) ((w.alloc (.cells #[.string g, .string n, .slice (some ad) ps.length pc, .string v, .slice aa m ac] 25)).alloc (.cells #[.string { data := #[] }, .string { data := #[] }, .slice none 0 0, .string { data := #[] }, .slice none 0 0] 25)) #[] 0 (base := w.heap.size + 1 + 1) (Nat.le_of_eq z2.symm) (by decide) rfl
      rw [z2] at h; exact h
    have hsrc3 : ∀ j u, (pcells ps)[j]? = some u → (((w.alloc (.cells #[.string g, .string n, .slice (some ad) ps.length pc, .string v, .slice aa m ac] 25)).alloc (.cells #[.string { data := #[] }, .string { data := #[] }, .slice none 0 0, .string { data := #[] }, .slice none 0 0] 25)).alloc (.cells #[] 39)).cell? (ad.add j) = some u := fun j u hu => by
      have := hsrc j u hu
      exact alloc_cell _ (alloc_cell _ (alloc_cell _ this))
    have hbase : w.heap.size + 1 + 1 ≤ (((w.alloc (.cells #[.string g, .string n, .slice (some ad) ps.length pc, .string v, .slice aa m ac] 25)).alloc (.cells #[.string { data := #[] }, .string { data := #[] }, .slice none 0 0, .string { data := #[] }, .slice none 0 0] 25)).alloc (.cells #[] 39)).heap.size := by rw [World.size_alloc, z2]; omega
    have hA2 := hA.below (b2.mono (Nat.le_of_eq z1))
    have hA3 := hA2.below (b3.mono (Nat.le_of_eq z2))
    have hR3 := (b3.block (w.heap.size + 1) (by omega)).trans hR
    have BG0 : ∀ w1, World.grownBy (((w.alloc (.cells #[.string g, .string n, .slice (some ad) ps.length pc, .string v, .slice aa m ac] 25)).alloc (.cells #[.string { data := #[] }, .string { data := #[] }, .slice none 0 0, .string { data := #[] }, .slice none 0 0] 25)).alloc (.cells #[] 39)) w1 (some (w.heap.size + 1 + 1)) → Below (w.heap.size + 1 + 1) (((w.alloc (.cells #[.string g, .string n, .slice (some ad) ps.length pc, .string v, .slice aa m ac] 25)).alloc (.cells #[.string { data := #[] }, .string { data := #[] }, .slice none 0 0, .string { data := #[] }, .slice none 0 0] 25)).alloc (.cells #[] 39)) w1 := fun w1 h => (Below.refl _ _).grown h hbase (fun k e => by cases e; exact Nat.le_refl _)
    have hA5 : ∀ w1, Below (w.heap.size + 1 + 1) (((w.alloc (.cells #[.string g, .string n, .slice (some ad) ps.length pc, .string v, .slice aa m ac] 25)).alloc (.cells #[.string { data := #[] }, .string { data := #[] }, .slice none 0 0, .string { data := #[] }, .slice none 0 0] 25)).alloc (.cells #[] 39)) w1 → PrAt w1 w.heap.size g n (.slice (some ad) ps.length pc) v (.slice aa m ac) := fun w1 h => (h.block w.heap.size (by omega)).trans hA3
    have hR5 : ∀ w1, Below (w.heap.size + 1 + 1) (((w.alloc (.cells #[.string g, .string n, .slice (some ad) ps.length pc, .string v, .slice aa m ac] 25)).alloc (.cells #[.string { data := #[] }, .string { data := #[] }, .slice none 0 0, .string { data := #[] }, .slice none 0 0] 25)).alloc (.cells #[] 39)) w1 → w1.heap[w.heap.size + 1]? = some (.cells #[.string { data := #[] }, .string { data := #[] }, .slice none 0 0, .string { data := #[] }, .slice none 0 0] 25 (0, 0)) := fun w1 h => (h.block (w.heap.size + 1) (by omega)).trans hR3
    go_enter Try.func7, Try.ntmps7
    go_wp2_with (at_builtin; refine wpList_append_own _ rfl _ _ 22 rfl (w.heap.size + 1 + 1) 39 i0 (.agg #[.string .empty, .string .empty]) 2 32 Try.underlying22 hi hz0 hz1 hz2 rfl (by decide) _ 0 [] rfl hown0 ad ps.length _ (pcells ps) rfl hpl hsrc3 hone hm1 hm2 hbase ?_; intro v1 w1 hown1 hgrow1 _; have BG := BG0 _ hgrow1; have hA4 := hA5 _ BG; have hR4 := hR5 _ BG; obtain ⟨a1, c1, rfl⟩ := shapeP hown1; have c0 := hA4.c0; have c1' := hA4.c1; have c2 := hA4.c2; have c3 := hA4.c3; have c4 := hA4.c4; have f2 : w1.frozen? ⟨w.heap.size, 2, none⟩ = false := frozen_of_row _ _ _ _ _ hA4; have r0 : w1.cell? ⟨w.heap.size + 1, 0, none⟩ = some (.string { data := #[] }) := cell_of_row _ _ _ _ _ _ hR4; have s0 : w1.frozen? ⟨w.heap.size + 1, 0, none⟩ = false := frozen_of_row _ _ _ _ _ hR4; have r1 : w1.cell? ⟨w.heap.size + 1, 1, none⟩ = some (.string { data := #[] }) := cell_of_row _ _ _ _ _ _ hR4; have s1 : w1.frozen? ⟨w.heap.size + 1, 1, none⟩ = false := frozen_of_row _ _ _ _ _ hR4; have r2 : w1.cell? ⟨w.heap.size + 1, 2, none⟩ = some (.slice none 0 0) := cell_of_row _ _ _ _ _ _ hR4; have s2 : w1.frozen? ⟨w.heap.size + 1, 2, none⟩ = false := frozen_of_row _ _ _ _ _ hR4; have r3 : w1.cell? ⟨w.heap.size + 1, 3, none⟩ = some (.string { data := #[] }) := cell_of_row _ _ _ _ _ _ hR4; have s3 : w1.frozen? ⟨w.heap.size + 1, 3, none⟩ = false := frozen_of_row _ _ _ _ _ hR4; have r4 : w1.cell? ⟨w.heap.size + 1, 4, none⟩ = some (.slice none 0 0) := cell_of_row _ _ _ _ _ _ hR4; have s4 : w1.frozen? ⟨w.heap.size + 1, 4, none⟩ = false := frozen_of_row _ _ _ _ _ hR4)
    have bb : Below w.heap.size w w1 := (((b1.trans (b2.mono (by omega))).trans (b3.mono (by omega))).trans (BG.mono (by omega)))
    rw [Nat.zero_add, List.nil_append] at hown1
    refine bodyPost_ret (v := .agg #[.string g, .string n, .slice a1 ps.length c1, .string v, .slice aa m ac]) (by simp [results, Try.results7, go_sem, r0, r1, r2, r3, r4]) rfl ⟨_, rfl, own_low (b := w.heap.size + 1 + 1) (by omega) ((((((Own.set hown1 (by simp; omega) _).set (by simp) _).set (by simp) _).set (by simp) _).set (by simp) _).set (by simp) _), (((((bb.setCell (by simp) _).setCell (by simp) _).setCell (by simp) _).setCell (by simp) _).setCell (by simp) _).setCell (by simp) _⟩
theorem Own.nil (w : World) (base : Nat) : Own w base (.slice none 0 0) [] := World.ownsRow_nil _ _ _ _
theorem Own.snoc {w : World} {base : Nat} {v : Value} {l : List (ByteArray × ByteArray)} {p : ByteArray × ByteArray} (h : w.ownsRow base 39 2 v (l.length + 1) (pcells l ++ [.string p.1, .string p.2])) : Own w base v (l ++ [p]) := by
  unfold Own; rw [pcells_append, List.length_append]; exact h
end Go.Proofs.Ytfgaabjpkmmpdaa.Pp
