/-
A property without a parameter, as the document says it: what is left lies in a row of the call's own. Conditions: at most 2^30 parameters, below the caller's blocks.
-/
import Derived.Test.YtfgaabjpkmmpdaaPpOwn2
import Derived.Deep.AppendLies
namespace Go.Proofs.Ytfgaabjpkmmpdaa.Pp
open Go.RowKit

/-- Parameters but those of a name. -/
def wout (ps : List (ByteArray × ByteArray)) (s : ByteArray) : List (ByteArray × ByteArray) := ps.filter fun p => !(p.1.toList == s.toList)
theorem wout_yes {l : List (ByteArray × ByteArray)} {s : ByteArray} {k : Nat} (h : k < l.length) (he : (l[k].1.toList == s.toList) = true) : wout (l.drop k) s = wout (l.drop (k + 1)) s := by
  rw [List.drop_eq_getElem_cons h, wout, List.filter_cons_of_neg (by rw [he]; simp)]; rfl
theorem wout_no {l : List (ByteArray × ByteArray)} {s : ByteArray} {k : Nat} (h : k < l.length) (he : (l[k].1.toList == s.toList) = false) : wout (l.drop k) s = l[k] :: wout (l.drop (k + 1)) s := by
  rw [List.drop_eq_getElem_cons h, wout, List.filter_cons_of_pos (by rw [he]; rfl)]; rfl
set_option maxHeartbeats 1600000 in
theorem rWithout_any (g n : ByteArray) (pv : Value) (v : ByteArray) (aa : Option Addr) (m ac : Nat) (s : ByteArray) (ps : List (ByteArray × ByteArray)) (w : World) (hps : Ps w w.heap.size pv ps) (hl : ps.length ≤ 1073741824) :
    Calls Try.prog 17 #[prV g n pv v (.slice aa m ac), .string s] w fun e w' => ∃ pv', e = .returned (prV g n pv' v (.slice aa m ac)) ∧ Own w' w.heap.size pv' (wout ps s) ∧ Below w.heap.size w w' := by
  obtain ⟨pa, pc, rfl⟩ := hps.shape
  unfold prV
  obtain ⟨r, hr⟩ : ∃ r, wout ps s = r := ⟨_, rfl⟩
  rw [hr]
  obtain ⟨i0, hi, hz0, hz1, hz2⟩ := info_parts infoP
  have z1 : (w.alloc (.cells #[.string g, .string n, .slice pa ps.length pc, .string v, .slice aa m ac] 25)).heap.size = w.heap.size + 1 := by rw [World.size_alloc]
  have z2 : ((w.alloc (.cells #[.string g, .string n, .slice pa ps.length pc, .string v, .slice aa m ac] 25)).alloc (.cells #[.string { data := #[] }, .string { data := #[] }, .slice none 0 0, .string { data := #[] }, .slice none 0 0] 25)).heap.size = w.heap.size + 1 + 1 := by rw [World.size_alloc, z1]
  have hA : PrAt (w.alloc (.cells #[.string g, .string n, .slice pa ps.length pc, .string v, .slice aa m ac] 25)) w.heap.size g n (.slice pa ps.length pc) v (.slice aa m ac) := heap_alloc_new w _
  have hR : ((w.alloc (.cells #[.string g, .string n, .slice pa ps.length pc, .string v, .slice aa m ac] 25)).alloc (.cells #[.string { data := #[] }, .string { data := #[] }, .slice none 0 0, .string { data := #[] }, .slice none 0 0] 25)).heap[w.heap.size + 1]? = some (.cells #[.string { data := #[] }, .string { data := #[] }, .slice none 0 0, .string { data := #[] }, .slice none 0 0] 25 (0, 0)) := by rw [← z1]; exact heap_alloc_new _ _
  have b1 : Below w.heap.size w (w.alloc (.cells #[.string g, .string n, .slice pa ps.length pc, .string v, .slice aa m ac] 25)) := (Below.refl _ _).alloc (Nat.le_refl _) _
  have b2 : Below (w.heap.size + 1) (w.alloc (.cells #[.string g, .string n, .slice pa ps.length pc, .string v, .slice aa m ac] 25)) ((w.alloc (.cells #[.string g, .string n, .slice pa ps.length pc, .string v, .slice aa m ac] 25)).alloc (.cells #[.string { data := #[] }, .string { data := #[] }, .slice none 0 0, .string { data := #[] }, .slice none 0 0] 25)) := (Below.refl _ _).alloc (Nat.le_of_eq z1.symm) _
  have hA2 := hA.below (b2.mono (Nat.le_of_eq z1))
  have bb := b1.trans (b2.mono (by omega))
  have hsz : w.heap.size + 1 + 1 ≤ ((w.alloc (.cells #[.string g, .string n, .slice pa ps.length pc, .string v, .slice aa m ac] 25)).alloc (.cells #[.string { data := #[] }, .string { data := #[] }, .slice none 0 0, .string { data := #[] }, .slice none 0 0] 25)).heap.size := Nat.le_of_eq z2.symm
  clear hA b1 b2 z1 z2
  go_enter Try.func17, Try.ntmps17
  go_wp2_with fail
  go_loopw [5, 6] (fun lv iv wr => ∃ (k : Nat) (l : List (ByteArray × ByteArray)), k ≤ ps.length ∧ iv = .int .i64 (k : Int) ∧ Own wr (w.heap.size + 1 + 1) lv l ∧ l.length ≤ k ∧ PrAt wr w.heap.size g n (.slice pa ps.length pc) v (.slice aa m ac) ∧ wr.heap[w.heap.size + 1]? = some (.cells #[.string { data := #[] }, .string { data := #[] }, .slice none 0 0, .string { data := #[] }, .slice none 0 0] 25 (0, 0)) ∧ w.heap.size + 1 + 1 ≤ wr.heap.size ∧ Below w.heap.size w wr ∧ Hid (l ++ wout (ps.drop k) s = r)) (fun _ iv _ => ps.length - (intOf iv).toNat)
  case atStart => exact ⟨0, [], Nat.zero_le _, rfl, Own.nil _ _, Nat.le_refl _, hA2, hR, hsz, bb, Lib.hid (by rw [List.drop_zero]; exact hr)⟩
  case round =>
    obtain ⟨k, l, hk, rfl, hown, hlk, hcell, hres, hsize, hbel, HK⟩ := hrel
    clear hr hA2 hR bb hsz
    have k2 := hcell.c2
    by_cases hlt : k < ps.length
    · obtain ⟨b, o, cap, hv1, hbB, hc0, hc1⟩ := (hps.below hbel).at_ hlt
      simp only [Value.slice.injEq, true_and] at hv1
      obtain ⟨rfl, rfl⟩ := hv1
      have HN := Lib.hid (wout_no (s := s) hlt)
      have HY := Lib.hid (wout_yes (s := s) hlt)
      generalize ps[k] = x at hc0 hc1 HN HY
      obtain ⟨n', v'⟩ := x
      simp only at HN HY hc0 hc1
      cases he : (n'.toList == s.toList)
      · have HK' := Lib.hid (show (l ++ [(n', v')]) ++ wout (ps.drop (k + 1)) s = r by rw [← HK.out, HN.out he, List.append_assoc]; rfl)
        have hm1 : l.length + 1 ≤ maxLen := by unfold maxLen; omega
        have hm2 : (l.length + 1) * 32 ≤ 140737488355328 := by omega
        have hone : ∀ u ∈ [Value.string n', Value.string v'], u.oneCell' = true := by simp [Value.oneCell']
        have hnew := heap_alloc_new wr (.cells #[.string n', .string v'] 39)
        have hns : ∀ j u, [Value.string n', Value.string v'][j]? = some u → (wr.alloc (.cells #[.string n', .string v'] 39)).cell? (Addr.add ⟨wr.heap.size, 0, none⟩ j) = some u := World.news_of_block (cs := #[.string n', .string v']) (t := 39) (fr := (0, 0)) hnew
        have hown1 := World.ownsRow.alloc hown (.cells #[.string n', .string v'] 39)
        have hsz1 : w.heap.size + 1 + 1 ≤ (wr.alloc (.cells #[.string n', .string v'] 39)).heap.size := by rw [World.size_alloc]; omega
        go_wp2_with (at_builtin; refine wpList_append_own _ rfl _ _ 22 rfl (w.heap.size + 1 + 1) 39 i0 (.agg #[.string .empty, .string .empty]) 2 32 Try.underlying22 hi hz0 hz1 hz2 rfl (by decide) _ _ _ rfl hown1 ⟨wr.heap.size, 0, none⟩ 1 1 [.string n', .string v'] rfl rfl hns hone hm1 hm2 hsz1 ?_; intro v1 w1 hown2 hgrow _)
        have BG : Below (w.heap.size + 1 + 1) wr w1 := ((Below.refl _ wr).alloc hsize _).grown hgrow hsz1 (fun k e => (World.ownsRow.lt hown1 k e).1)
        go_roundw
        case rel => exact ⟨k + 1, l ++ [(n', v')], by omega, by go_num, Own.snoc hown2, by rw [List.length_append]; simp; omega, (BG.block w.heap.size (by omega)).trans hcell, (BG.block (w.heap.size + 1) (by omega)).trans hres, by have := BG.size; omega, hbel.trans (BG.mono (by omega)), HK'⟩
        case measure => simp [intOf]; omega
      · have HK' := Lib.hid (show l ++ wout (ps.drop (k + 1)) s = r by rw [← HK.out, HY.out he])
        go_wp2_with fail
        go_roundw
        case rel => exact ⟨k + 1, l, by omega, by go_num, hown, by omega, hcell, hres, hsize, hbel, HK'⟩
        case measure => simp [intOf]; omega
    · obtain rfl : k = ps.length := by omega
      have HE : Hid (l = r) := Lib.hid (by rw [← HK.out, List.drop_length]; simp [wout])
      have c0 := hcell.c0
      have c1' := hcell.c1
      have c3 := hcell.c3
      have c4 := hcell.c4
      have f2 : wr.frozen? ⟨w.heap.size, 2, none⟩ = false := frozen_of_row _ _ _ _ _ hcell
      have r0 : wr.cell? ⟨w.heap.size + 1, 0, none⟩ = some (.string { data := #[] }) := cell_of_row _ _ _ _ _ _ hres
      have s0 : wr.frozen? ⟨w.heap.size + 1, 0, none⟩ = false := frozen_of_row _ _ _ _ _ hres
      have r1 : wr.cell? ⟨w.heap.size + 1, 1, none⟩ = some (.string { data := #[] }) := cell_of_row _ _ _ _ _ _ hres
      have s1 : wr.frozen? ⟨w.heap.size + 1, 1, none⟩ = false := frozen_of_row _ _ _ _ _ hres
      have r2 : wr.cell? ⟨w.heap.size + 1, 2, none⟩ = some (.slice none 0 0) := cell_of_row _ _ _ _ _ _ hres
      have s2 : wr.frozen? ⟨w.heap.size + 1, 2, none⟩ = false := frozen_of_row _ _ _ _ _ hres
      have r3 : wr.cell? ⟨w.heap.size + 1, 3, none⟩ = some (.string { data := #[] }) := cell_of_row _ _ _ _ _ _ hres
      have s3 : wr.frozen? ⟨w.heap.size + 1, 3, none⟩ = false := frozen_of_row _ _ _ _ _ hres
      have r4 : wr.cell? ⟨w.heap.size + 1, 4, none⟩ = some (.slice none 0 0) := cell_of_row _ _ _ _ _ _ hres
      have s4 : wr.frozen? ⟨w.heap.size + 1, 4, none⟩ = false := frozen_of_row _ _ _ _ _ hres
      obtain ⟨a1, c1, rfl⟩ := shapeP hown
      go_wp2_with fail
      refine bodyPost_ret (v := .agg #[.string g, .string n, .slice a1 l.length c1, .string v, .slice aa m ac]) (by simp [results, Try.results17, go_sem, r0, r1, r2, r3, r4]) rfl ⟨_, rfl, by rw [← HE.out]; exact own_low (b := w.heap.size + 1 + 1) (by omega) ((((((Own.set hown (by simp; omega) _).set (by simp) _).set (by simp) _).set (by simp) _).set (by simp) _).set (by simp) _), (((((hbel.setCell (by simp) _).setCell (by simp) _).setCell (by simp) _).setCell (by simp) _).setCell (by simp) _).setCell (by simp) _⟩
end Go.Proofs.Ytfgaabjpkmmpdaa.Pp
