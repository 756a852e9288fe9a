/-
Whether two contacts are the same: the program's answer and the document's. Conditions: the fields lie below the caller's blocks, at most 2^40 of them.
-/
import Derived.Test.YtfghodakdnhleaaCtFs
namespace Go.Proofs.Ytfghodakdnhleaa.Ct
set_option maxRecDepth 100000
open Go.RowKit

theorem drewN_below {b : Nat} (w : World) (q : Nat) : Below b w (w.drewN q) := ⟨rfl, rfl, rfl, Nat.le_refl _, fun _ _ => rfl⟩
theorem eqL_len : ∀ {l k : List Fd}, eqL l k = true → l.length = k.length
  | [], [], _ => rfl
  | [], _ :: _, h => by cases h
  | _ :: _, [], h => by cases h
  | x :: l, y :: k, h => by
    rw [eqL, Bool.and_eq_true] at h
    simp [eqL_len h.2]
theorem eqL_yes {l m : List Fd} {k : Nat} (h : k < l.length) (h' : k < m.length) (he : l[k] = m[k]) : eqL (l.drop k) (m.drop k) = eqL (l.drop (k + 1)) (m.drop (k + 1)) := by
  rw [List.drop_eq_getElem_cons h, List.drop_eq_getElem_cons h', eqL, decide_eq_true he, Bool.true_and]
theorem eqL_no {l m : List Fd} {k : Nat} (h : k < l.length) (h' : k < m.length) (he : ¬ l[k] = m[k]) : eqL (l.drop k) (m.drop k) = false := by
  rw [List.drop_eq_getElem_cons h, List.drop_eq_getElem_cons h', eqL, decide_eq_false he, Bool.false_and]
theorem eqL_refl : ∀ (l : List Fd), eqL l l = true
  | [] => rfl
  | x :: l => by rw [eqL, decide_eq_true rfl, eqL_refl l]; rfl

set_option maxHeartbeats 2000000 in
theorem rsame_any (v v' : Value) (l m : List Fd) (w : World) (hl : Fs w w.heap.size v l) (hm : Fs w w.heap.size v' m) (hn : l.length ≤ 1099511627776) (_hn' : m.length ≤ 1099511627776) :
    Calls Try.prog 9 #[.agg #[v], .agg #[v']] w fun e w' => e = .returned (.bool (eqL l m)) ∧ Below w.heap.size w w' := by
  obtain ⟨a, c, rfl⟩ := hl.shape
  obtain ⟨a', c', rfl⟩ := hm.shape
  have hb := two_boxes w (.cells #[.slice a l.length c] 24) (.cells #[.slice a' m.length c'] 24)
  have hX : ((w.alloc (.cells #[.slice a l.length c] 24)).alloc (.cells #[.slice a' m.length c'] 24)).heap[w.heap.size]? = some (.cells #[.slice a l.length c] 24 (0, 0)) :=
    (((Below.refl (w.heap.size + 1) (w.alloc (.cells #[.slice a l.length c] 24))).alloc (by simp) _).block _ (by omega)).trans (heap_alloc_new w _)
  have hY := heap_alloc_new (w.alloc (.cells #[.slice a l.length c] 24)) (.cells #[.slice a' m.length c'] 24)
  rw [World.size_alloc] at hY
  have z0 := cell_of_row _ w.heap.size 0 _ _ _ hX
  have z1 := cell_of_row _ (w.heap.size + 1) 0 _ _ _ hY
  have hsz : w.heap.size + 1 < ((w.alloc (.cells #[.slice a l.length c] 24)).alloc (.cells #[.slice a' m.length c'] 24)).heap.size := (Array.getElem?_eq_some_iff.1 hY).1
  obtain ⟨r, hr⟩ : ∃ r, eqL l m = r := ⟨_, rfl⟩
  rw [hr]
  have HS := Lib.hid hsz
  clear hX hY hsz
  by_cases hlen : l.length = m.length
  rotate_left
  · have hz : ((l.length : Int) == (m.length : Int)) = false := by rw [beq_eq_false_iff_ne]; omega
    obtain rfl : false = r := by
      cases r with
      | false => rfl
      | true => exact absurd (eqL_len hr) hlen
    have HB := Lib.hid hb
    clear hr hb
    go_enter Try.func9, Try.ntmps9
    go_wp2_with fail
    go_ret
    exact ⟨rfl, HB.out⟩
  have hz : ((l.length : Int) == (m.length : Int)) = true := by rw [beq_iff_eq]; omega
  have HR := Lib.hid hr
  have HL := Lib.hid hlen
  have HB := Lib.hid hb
  clear hr hlen hb
  go_enter Try.func9, Try.ntmps9
  go_wp2_with fail
  go_loopw [5] (fun iv wr => ∃ k : Nat, k ≤ l.length ∧ iv = .int .i64 k ∧ Below w.heap.size w wr ∧ wr.cell? ⟨w.heap.size, 0, none⟩ = some (.slice a l.length c) ∧ wr.cell? ⟨w.heap.size + 1, 0, none⟩ = some (.slice a' m.length c') ∧ Hid (w.heap.size + 1 < wr.heap.size) ∧ Hid (eqL (l.drop k) (m.drop k) = r)) (fun iv _ => l.length - (intOf iv).toNat)
  case atStart => exact ⟨0, Nat.zero_le _, rfl, HB.out, z0, z1, HS, HR⟩
  case round =>
    clear z0 z1
    obtain ⟨k, hk, rfl, hbel, z0, z1, hzz, HK⟩ := hrel
    clear HR hz HB HS
    by_cases hlt : k < l.length
    · have hlt' : k < m.length := by have := HL.out; omega
      have hlz : (k : Int) < (l.length : Int) := by omega
      have hlz' : (k : Int) < (m.length : Int) := by omega
      obtain ⟨b, o, cap, hv1, hbB, c0, c1, c2⟩ := (hl.below hbel).at_ hlt
      obtain ⟨b', o', cap', hv1', hbB', d0, d1, d2⟩ := (hm.below hbel).at_ hlt'
      simp only [Value.slice.injEq, true_and] at hv1 hv1'
      obtain ⟨rfl, rfl⟩ := hv1
      obtain ⟨rfl, rfl⟩ := hv1'
      have HN := Lib.hid (eqL_no hlt hlt')
      have HY := Lib.hid (eqL_yes hlt hlt')
      have HBL := Lib.hid hbel
      have HH := Lib.hid hk
      generalize l[k] = x at c0 c1 c2 HN HY
      generalize m[k] = y at d0 d1 d2 HN HY
      obtain ⟨x0, x1, x2⟩ := x
      obtain ⟨y0, y1, y2⟩ := y
      simp only at HN HY c0 c1 c2 d0 d1 d2
      clear hbel hk hbB hbB'
      by_cases he : (x0, x1, x2) = (y0, y1, y2)
      · have HK' := Lib.hid ((HY.out he).symm.trans HK.out)
        simp only [Prod.mk.injEq] at he
        obtain ⟨rfl, rfl, rfl⟩ := he
        clear HN HY
        go_wp2_with fail
        go_quiet (fail)
        go_wp2_with fail
        go_roundw
        case rel => exact ⟨k + 1, by omega, by go_num, HBL.out.trans (drewN_below _ _), z0, z1, hzz, HK'⟩
        case measure => simp [intOf]; omega
      · obtain rfl : false = r := by rw [← HK.out]; exact (HN.out he).symm
        simp only [Prod.mk.injEq, not_and] at he
        clear HN HY
        by_cases e0 : x0 = y0
        · subst e0
          by_cases e1 : x1 = y1
          · subst e1
            have e2 : ¬ x2 = y2 := he rfl rfl
            have q2 : (x2.toList == y2.toList) = false := by rw [eq_toList]; exact decide_eq_false e2
            clear he e2
            go_wp2_with fail
            go_quiet (fail)
            go_wp2_with fail
            go_ret
            exact ⟨rfl, HBL.out.trans (drewN_below _ _)⟩
          · have q1 : (x1.toList == y1.toList) = false := by rw [eq_toList]; exact decide_eq_false e1
            clear he e1
            go_wp2_with fail
            go_quiet (fail)
            go_wp2_with fail
            go_ret
            exact ⟨rfl, HBL.out.trans (drewN_below _ _)⟩
        · have q0 : (x0.toList == y0.toList) = false := by rw [eq_toList]; exact decide_eq_false e0
          clear he e0
          go_wp2_with fail
          go_quiet (fail)
          go_wp2_with fail
          go_ret
          exact ⟨rfl, HBL.out.trans (drewN_below _ _)⟩
    · obtain rfl : k = l.length := by omega
      obtain rfl : true = r := by rw [← HK.out, List.drop_length, HL.out, List.drop_length]; rfl
      have hlz : ¬ (l.length : Int) < (l.length : Int) := by omega
      go_wp2_with fail
      go_ret
      exact ⟨rfl, hbel⟩
end Go.Proofs.Ytfghodakdnhleaa.Ct
