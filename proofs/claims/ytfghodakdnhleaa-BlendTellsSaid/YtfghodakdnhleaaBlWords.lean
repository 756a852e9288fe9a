/-
Single names, and the fields of a name: the program's answers and the document's. Conditions: the fields lie below the caller's blocks, at most 1000 of them.
-/
import Derived.Test.YtfghodakdnhleaaCtOwn
import Derived.Test.YtfghodakdnhleaaBlMath
import Derived.Deep.AppendLies
namespace Go.Proofs.Ytfghodakdnhleaa.Ct
set_option maxRecDepth 100000
set_option linter.unusedSimpArgs false
open Go.RowKit

set_option maxHeartbeats 1000000 in
theorem psingle_any (s : ByteArray) (w : World) : Calls Try.prog 7 #[.string s] w fun e w' => e = .returned (.bool (sgl s)) ∧ w = w' := by
  unfold sgl
  go_enter Try.func7, Try.ntmps7
  go_wp2_with fail
  all_goals (go_ret; first | (exfalso; simp_all; done) | exact ⟨by (simp only [Bool.false_or, Bool.true_or, Bool.or_true, Bool.or_false, *]; rfl), rfl⟩)

set_option maxHeartbeats 1000000 in
theorem rsingle_any (s : ByteArray) (w : World) : Calls Try.prog 8 #[.string s] w fun e w' => e = .returned (.bool (sgl s)) ∧ w = w' := by
  unfold sgl
  go_enter Try.func8, Try.ntmps8
  go_wp2_with fail
  all_goals (go_ret; first | (exfalso; simp_all; done) | exact ⟨by (simp only [Bool.false_or, Bool.true_or, Bool.or_true, Bool.or_false, *]; rfl), rfl⟩)

theorem fcells_append : ∀ l r : List Fd, fcells (l ++ r) = fcells l ++ fcells r
  | [], _ => rfl
  | p :: l, r => by rw [List.cons_append, fcells, fcells_append l r]; rfl
/-- The slice v holds the fields l, in a row of the call's own (blocks from base on). -/
def OwnF (w : World) (base : Nat) (v : Value) (l : List Fd) : Prop := w.ownsRow base 33 3 v l.length (fcells l)
theorem OwnF.fs {w : World} {base : Nat} {v : Value} {l : List Fd} (h : OwnF w base v l) : Fs w w.heap.size v l := fs_of_row h
theorem OwnF.nil (w : World) (base : Nat) : OwnF w base (.slice none 0 0) [] := World.ownsRow_nil _ _ _ _
theorem OwnF.snoc {w : World} {base : Nat} {v : Value} {l : List Fd} {p : Fd} (h : w.ownsRow base 33 3 v (l.length + 1) (fcells l ++ [.string p.1, .string p.2.1, .string p.2.2])) : OwnF w base v (l ++ [p]) := by
  unfold OwnF; rw [fcells_append, List.length_append]; exact h
theorem OwnF.low {w : World} {b b' : Nat} {v : Value} {l : List Fd} (hb : b' ≤ b) (h : OwnF w b v l) : OwnF w b' v l := by
  obtain ⟨h0, h⟩ := h
  refine ⟨h0, ?_⟩
  rcases h with h | ⟨g, cap, cur, h1, h2, h3⟩
  · exact .inl h
  · exact .inr ⟨g, cap, cur, h1, by omega, h3⟩
/-- A field's box. -/
theorem fbox_new (W : World) (x0 x1 x2 : ByteArray) : ((W.alloc (.cells #[.string x0, .string x1, .string x2] 33)).cell? ⟨W.heap.size, 0, none⟩ = some (.string x0) ∧ (W.alloc (.cells #[.string x0, .string x1, .string x2] 33)).cell? ⟨W.heap.size, 1, none⟩ = some (.string x1) ∧ (W.alloc (.cells #[.string x0, .string x1, .string x2] 33)).cell? ⟨W.heap.size, 2, none⟩ = some (.string x2)) ∧ Below W.heap.size W (W.alloc (.cells #[.string x0, .string x1, .string x2] 33)) := by
  have hX := heap_alloc_new W (.cells #[.string x0, .string x1, .string x2] 33)
  exact ⟨⟨cell_of_row _ _ 0 _ _ _ hX, cell_of_row _ _ 1 _ _ _ hX, cell_of_row _ _ 2 _ _ _ hX⟩, (Below.refl _ _).alloc (Nat.le_refl _) _⟩

set_option maxHeartbeats 2000000 in
theorem pnamed_any (v : Value) (l : List Fd) (s : ByteArray) (w : World) (hl : Fs w w.heap.size v l) (hn : l.length ≤ 1000) :
    Calls Try.prog 5 #[.agg #[v], .string s] w fun e w' => ∃ v', e = .returned v' ∧ OwnF w' w.heap.size v' (namF l s) ∧ Below w.heap.size w w' := by
  obtain ⟨a, c, rfl⟩ := hl.shape
  obtain ⟨r, hr⟩ : ∃ r, namF l s = r := ⟨_, rfl⟩
  rw [hr]
  obtain ⟨i0, hi, hz0, hz1, hz2⟩ := info_parts infoF
  obtain ⟨hb0, HB⟩ := box_new w (.slice a l.length c)
  have hsz : w.heap.size + 1 ≤ (w.alloc (.cells #[.slice a l.length c] 24)).heap.size := Nat.le_of_eq (World.size_alloc _ _).symm
  go_enter Try.func5, Try.ntmps5
  go_wp2_with fail
  go_loopw [5, 11] (fun lv iv wr => ∃ (k : Nat) (g : List Fd), k ≤ l.length ∧ iv = .int .i64 (k : Int) ∧ OwnF wr (w.heap.size + 1) lv g ∧ g.length ≤ k ∧ w.heap.size + 1 ≤ wr.heap.size ∧ Below w.heap.size w wr ∧ Hid (g ++ namF (l.drop k) s = r)) (fun _ iv _ => l.length - (intOf iv).toNat)
  case atStart => exact ⟨0, [], Nat.zero_le _, rfl, OwnF.nil _ _, Nat.le_refl _, hsz, HB, Lib.hid (by rw [List.drop_zero]; exact hr)⟩
  case round =>
    obtain ⟨k, g, hk, rfl, hown, hgk, hsize, hbel, HK⟩ := hrel
    clear hr hb0 HB hsz
    by_cases hlt : k < l.length
    · have hlz : (k : Int) < (l.length : Int) := by omega
      obtain ⟨b, o, cap, hv1, hbB, c0, c1, c2⟩ := (hl.below hbel).at_ hlt
      simp only [Value.slice.injEq, true_and] at hv1
      obtain ⟨rfl, rfl⟩ := hv1
      have HN := Lib.hid (namF_no (s := s) hlt)
      have HY := Lib.hid (namF_yes (s := s) hlt)
      generalize l[k] = x at c0 c1 c2 HN HY
      obtain ⟨n', l', t'⟩ := x
      simp only at HN HY c0 c1 c2
      obtain ⟨⟨x0, x1, x2⟩, hba⟩ := fbox_new wr n' l' t'
      have hownB := World.ownsRow.alloc hown (.cells #[.string n', .string l', .string t'] 33)
      have hszB : (wr.alloc (.cells #[.string n', .string l', .string t'] 33)).heap.size = wr.heap.size + 1 := World.size_alloc _ _
      cases he : (n'.toList == s.toList)
      · have HK' := Lib.hid (show g ++ namF (l.drop (k + 1)) s = r by rw [← HK.out, HN.out he])
        have HBA := Lib.hid (hbel.trans (hba.mono hbel.size))
        clear hba
        go_wp2_with fail
        go_roundw
        case rel => exact ⟨k + 1, g, by omega, by go_num, hownB, by omega, by omega, HBA.out, HK'⟩
        case measure => simp [intOf]; omega
      · have HK' := Lib.hid (show (g ++ [(n', l', t')]) ++ namF (l.drop (k + 1)) s = r by rw [← HK.out, HY.out he, List.append_assoc]; rfl)
        have hm1 : g.length + 1 ≤ maxLen := by unfold maxLen; omega
        have hm2 : (g.length + 1) * 48 ≤ 140737488355328 := by omega
        have hone : ∀ u ∈ [Value.string n', Value.string l', Value.string t'], u.oneCell' = true := by simp [Value.oneCell']
        have hnew := heap_alloc_new (wr.alloc (.cells #[.string n', .string l', .string t'] 33)) (.cells #[.string n', .string l', .string t'] 33)
        rw [hszB] at hnew
        have hns : ∀ j u, [Value.string n', Value.string l', Value.string t'][j]? = some u → ((wr.alloc (.cells #[.string n', .string l', .string t'] 33)).alloc (.cells #[.string n', .string l', .string t'] 33)).cell? (Addr.add ⟨wr.heap.size + 1, 0, none⟩ j) = some u := World.news_of_block (cs := #[.string n', .string l', .string t']) (t := 33) (fr := (0, 0)) hnew
        have hown1 := World.ownsRow.alloc hownB (.cells #[.string n', .string l', .string t'] 33)
        have hsz1 : w.heap.size + 1 ≤ ((wr.alloc (.cells #[.string n', .string l', .string t'] 33)).alloc (.cells #[.string n', .string l', .string t'] 33)).heap.size := by rw [World.size_alloc, hszB]; omega
        clear hnew
        go_wp2_with (at_builtin; refine wpList_append_own _ rfl _ _ 22 rfl (w.heap.size + 1) 33 i0 (.agg #[.string .empty, .string .empty, .string .empty]) 3 48 Try.underlying22 hi hz0 hz1 hz2 rfl (by decide) _ _ _ rfl hown1 ⟨wr.heap.size + 1, 0, none⟩ 1 1 [.string n', .string l', .string t'] rfl rfl hns hone hm1 hm2 hsz1 ?_; intro v1 w1 hown2 hgrow _)
        have BG : Below (w.heap.size + 1) wr w1 := (((Below.refl _ wr).alloc hsize _).alloc (by omega) _).grown hgrow hsz1 (fun k e => (World.ownsRow.lt hown1 k e).1)
        go_roundw
        case rel => exact ⟨k + 1, g ++ [(n', l', t')], by omega, by go_num, OwnF.snoc hown2, by rw [List.length_append]; simp; omega, by have := BG.size; omega, hbel.trans (BG.mono (by omega)), HK'⟩
        case measure => simp [intOf]; omega
    · obtain rfl : k = l.length := by omega
      have hlz : ¬ (l.length : Int) < (l.length : Int) := by omega
      have HE : Hid (g = r) := Lib.hid (by rw [← HK.out, List.drop_length]; simp [namF])
      obtain ⟨a1, c1, rfl⟩ := shapeF hown
      go_wp2_with fail
      go_ret
      exact ⟨_, rfl, by rw [← HE.out]; exact OwnF.low (by omega) hown, hbel⟩

set_option maxHeartbeats 2000000 in
theorem rnamed_any (v : Value) (l : List Fd) (s : ByteArray) (w : World) (hl : Fs w w.heap.size v l) (hn : l.length ≤ 1000) :
    Calls Try.prog 10 #[.agg #[v], .string s] w fun e w' => ∃ v', e = .returned v' ∧ OwnF w' w.heap.size v' (namF l s) ∧ Below w.heap.size w w' := by
  obtain ⟨a, c, rfl⟩ := hl.shape
  obtain ⟨r, hr⟩ : ∃ r, namF l s = r := ⟨_, rfl⟩
  rw [hr]
  obtain ⟨i0, hi, hz0, hz1, hz2⟩ := info_parts infoF
  obtain ⟨hb0, HB⟩ := box_new w (.slice a l.length c)
  have hsz : w.heap.size + 1 ≤ (w.alloc (.cells #[.slice a l.length c] 24)).heap.size := Nat.le_of_eq (World.size_alloc _ _).symm
  go_enter Try.func10, Try.ntmps10
  go_wp2_with fail
  go_loopw [5, 6] (fun lv iv wr => ∃ (k : Nat) (g : List Fd), k ≤ l.length ∧ iv = .int .i64 (k : Int) ∧ OwnF wr (w.heap.size + 1) lv g ∧ g.length ≤ k ∧ wr.cell? ⟨w.heap.size, 0, none⟩ = some (.slice a l.length c) ∧ w.heap.size + 1 ≤ wr.heap.size ∧ Below w.heap.size w wr ∧ Hid (g ++ namF (l.drop k) s = r)) (fun _ iv _ => l.length - (intOf iv).toNat)
  case atStart => exact ⟨0, [], Nat.zero_le _, rfl, OwnF.nil _ _, Nat.le_refl _, hb0, hsz, HB, Lib.hid (by rw [List.drop_zero]; exact hr)⟩
  case round =>
    obtain ⟨k, g, hk, rfl, hown, hgk, hcell, hsize, hbel, HK⟩ := hrel
    clear hr hb0 HB hsz
    by_cases hlt : k < l.length
    · have hlz : (k : Int) < (l.length : Int) := by omega
      obtain ⟨b, o, cap, hv1, hbB, c0, c1, c2⟩ := (hl.below hbel).at_ hlt
      simp only [Value.slice.injEq, true_and] at hv1
      obtain ⟨rfl, rfl⟩ := hv1
      have HN := Lib.hid (namF_no (s := s) hlt)
      have HY := Lib.hid (namF_yes (s := s) hlt)
      generalize l[k] = x at c0 c1 c2 HN HY
      obtain ⟨n', l', t'⟩ := x
      simp only at HN HY c0 c1 c2
      cases he : (n'.toList == s.toList)
      · have HK' := Lib.hid (show g ++ namF (l.drop (k + 1)) s = r by rw [← HK.out, HN.out he])
        go_wp2_with fail
        go_roundw
        case rel => exact ⟨k + 1, g, by omega, by go_num, hown, by omega, hcell, by omega, hbel, HK'⟩
        case measure => simp [intOf]; omega
      · have HK' := Lib.hid (show (g ++ [(n', l', t')]) ++ namF (l.drop (k + 1)) s = r by rw [← HK.out, HY.out he, List.append_assoc]; rfl)
        have hm1 : g.length + 1 ≤ maxLen := by unfold maxLen; omega
        have hm2 : (g.length + 1) * 48 ≤ 140737488355328 := by omega
        have hone : ∀ u ∈ [Value.string n', Value.string l', Value.string t'], u.oneCell' = true := by simp [Value.oneCell']
        have hnew := heap_alloc_new wr (.cells #[.string n', .string l', .string t'] 33)
        have hns : ∀ j u, [Value.string n', Value.string l', Value.string t'][j]? = some u → (wr.alloc (.cells #[.string n', .string l', .string t'] 33)).cell? (Addr.add ⟨wr.heap.size, 0, none⟩ j) = some u := World.news_of_block (cs := #[.string n', .string l', .string t']) (t := 33) (fr := (0, 0)) hnew
        have hown1 := World.ownsRow.alloc hown (.cells #[.string n', .string l', .string t'] 33)
        have hsz1 : w.heap.size + 1 ≤ (wr.alloc (.cells #[.string n', .string l', .string t'] 33)).heap.size := by rw [World.size_alloc]; omega
        clear hnew
        go_wp2_with (at_builtin; refine wpList_append_own _ rfl _ _ 22 rfl (w.heap.size + 1) 33 i0 (.agg #[.string .empty, .string .empty, .string .empty]) 3 48 Try.underlying22 hi hz0 hz1 hz2 rfl (by decide) _ _ _ rfl hown1 ⟨wr.heap.size, 0, none⟩ 1 1 [.string n', .string l', .string t'] rfl rfl hns hone hm1 hm2 hsz1 ?_; intro v1 w1 hown2 hgrow _)
        have BG : Below (w.heap.size + 1) wr w1 := ((Below.refl _ wr).alloc hsize _).grown hgrow hsz1 (fun k e => (World.ownsRow.lt hown1 k e).1)
        go_roundw
        case rel => exact ⟨k + 1, g ++ [(n', l', t')], by omega, by go_num, OwnF.snoc hown2, by rw [List.length_append]; simp; omega, (BG.cell (p := ⟨w.heap.size, 0, none⟩) (by show w.heap.size < _; omega)).trans hcell, by have := BG.size; omega, hbel.trans (BG.mono (by omega)), HK'⟩
        case measure => simp [intOf]; omega
    · obtain rfl : k = l.length := by omega
      have hlz : ¬ (l.length : Int) < (l.length : Int) := by omega
      have HE : Hid (g = r) := Lib.hid (by rw [← HK.out, List.drop_length]; simp [namF])
      obtain ⟨a1, c1, rfl⟩ := shapeF hown
      go_wp2_with fail
      go_ret
      exact ⟨_, rfl, by rw [← HE.out]; exact OwnF.low (by omega) hown, hbel⟩
end Go.Proofs.Ytfghodakdnhleaa.Ct
