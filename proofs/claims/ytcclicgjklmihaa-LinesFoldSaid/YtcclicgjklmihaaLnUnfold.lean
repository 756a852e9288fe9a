/-
Unfold, the program's and the document's own, answers lines, each with those that go on with it. Conditions: the lines have at most 2^40 bytes in all, and there are at most 2^40 of them.
-/
import Derived.Test.YtcclicgjklmihaaLnUnf2
import Derived.Test.YtcclicgjklmihaaLnRefNum
namespace Go.Proofs.Ytcclicgjklmihaa.Ln
open Go.RowKit Strs Sq
attribute [local go_sem] Oper.semAt_some

theorem refUnfold_any (v : Value) (l : List (List UInt8)) (h1 : l.length ≤ 1099511627776) (h2 : bytes l ≤ 1099511627776) (w : World) (h : Reads w v l) :
    Calls Try.prog 15 #[v] w (Texts w (unfold l)) := by
  have C := Lib.hid (refNum_any v l h1 h2 w h)
  obtain ⟨a, cap, rfl⟩ := h.shape
  go_enter Try.func15, Try.ntmps15
  go_wp2_with (go_at_call 17; refine C.out.mono ?_; rintro e w' ⟨v1, v2, rfl, hI, hS, hb⟩)
  go_ret
  exact ⟨_, rfl, hS, hb⟩

set_option maxRecDepth 100000 in
set_option maxHeartbeats 2000000 in
theorem progUnfold_any (v : Value) (l : List (List UInt8)) (h1 : l.length ≤ 1099511627776) (h2 : bytes l ≤ 1099511627776) (w : World) (h : Reads w v l) :
    Calls Try.prog 14 #[v] w (Texts w (unfold l)) := by
  obtain ⟨i0, hi, hz0, hz1, hz2⟩ := info_parts infoStr
  have hr := Lib.hid h
  obtain ⟨a, cap, rfl⟩ := h.shape
  clear h
  refine (callsIn_wide (n := 5)).1 ?_
  refine callsIn_of_wp_marks Try.func14 rfl trivial ?_ rfl
  simp only [Try.ntmps14, List.size_toArray, List.length_cons, List.length_nil, Nat.reduceAdd, Nat.reduceSub, Array.replicate_succ, Array.replicate_zero, List.push_toArray, List.append_toArray, List.nil_append, List.cons_append]
  gi_wp2_with (first
    | (refine ⟨trivial, ?_⟩; gi_at_call 23; refine (callsIn_wide.2 (all_any a l.length cap _)).mono ?_; rintro e w' ⟨rfl, rfl⟩)
    | (refine ⟨trivial, ?_⟩; gi_at_call 22; refine (callsIn_wide.2 (unfolded_any _ _ _ _ _ rfl)).mono ?_; rintro e w' ⟨rfl, rfl⟩))
  have b3 := Boxed.new w 22 (.slice none 0 0)
  have ba := Boxed.new (w.alloc (.cells #[.slice none 0 0] 22)) 22 (.slice a l.length cap)
  have bu := Boxed.new ((w.alloc (.cells #[.slice none 0 0] 22)).alloc (.cells #[.slice a l.length cap] 22)) 39 (.func (.func 32) #[] #[.pointer (some ⟨w.heap.size + 1, 0, none⟩)])
  simp only [World.size_alloc] at ba bu
  have b3' := (b3.alloc (.cells #[.slice a l.length cap] 22)).alloc (.cells #[.func (.func 32) #[] #[.pointer (some ⟨w.heap.size + 1, 0, none⟩)]] 39)
  have ba' := ba.alloc (.cells #[.func (.func 32) #[] #[.pointer (some ⟨w.heap.size + 1, 0, none⟩)]] 39)
  have hV : Below w.heap.size w (((w.alloc (.cells #[.slice none 0 0] 22)).alloc (.cells #[.slice a l.length cap] 22)).alloc (.cells #[.func (.func 32) #[] #[.pointer (some ⟨w.heap.size + 1, 0, none⟩)]] 39)) := (((Below.refl _ w).alloc (Nat.le_refl _) _).alloc (by simp) _).alloc (by simp; omega) _
  have hz : (((w.alloc (.cells #[.slice none 0 0] 22)).alloc (.cells #[.slice a l.length cap] 22)).alloc (.cells #[.func (.func 32) #[] #[.pointer (some ⟨w.heap.size + 1, 0, none⟩)]] 39)).heap.size = w.heap.size + 3 := by simp
  clear b3 ba
  generalize (((w.alloc (.cells #[.slice none 0 0] 22)).alloc (.cells #[.slice a l.length cap] 22)).alloc (.cells #[.func (.func 32) #[] #[.pointer (some ⟨w.heap.size + 1, 0, none⟩)]] 39)) = V0 at *
  have hall := all_sq (.slice a l.length cap) l (by unfold maxLen; omega) (w.heap.size + 1) V0 ba' (hr.out.keep (Nat.le_refl _) hV)
  have hAR := allR_lt (B := w.heap.size + 1) (n := V0.heap.size) hr.out (by omega) (by omega)
  have hAR2 : ∀ k, AllR (w.heap.size + 1) (.slice a l.length cap) l k → k = w.heap.size + 1 ∨ k < w.heap.size := by
    intro k hk
    rcases hk with rfl | ⟨hne, hk⟩
    · exact .inl rfl
    · exact .inr (allR_lt (B := 0) (n := w.heap.size) hr.out (by obtain ⟨a', cap', e, _, b, o, hx, _⟩ := hr.out; cases e; exact Nat.lt_of_le_of_lt (Nat.zero_le _) (hx hne).2) (Nat.le_refl _) k (.inr ⟨hne, hk⟩))
  have hsq := unfolded_sq hall eg_all hAR (w.heap.size + 2) bu (by rw [num_length]; exact h1) (by rw [num_snd]; exact h2)
  obtain ⟨R, hR⟩ : ∃ R, AllR (w.heap.size + 1) (.slice a l.length cap) l = R := ⟨_, rfl⟩
  rw [hR] at hsq hAR hAR2
  have HM := Lib.hid (show (unf none (num 0 l)).map (·.2) = unfold l from unfold_any 0 l)
  have hn : (unf none (num 0 l)).length ≤ 1099511627776 := by have := unf_length none (num 0 l); rw [num_length] at this; simp at this; omega
  generalize unf none (num 0 l) = all at hsq HM hn
  have HN := Lib.hid hn
  have HAR2 := Lib.hid hAR2
  have HAR := Lib.hid hAR
  clear hn hall hR hr h1 h2 ba' bu hAR2 hAR
  refine range_sq1 (gf := 29) (lb := #[.pointer (some ⟨w.heap.size + 2, 0, none⟩)]) rfl eg_unfolded hsq (Stays.refl _ _) (fun k hk => by rcases hk with rfl | hk; omega; exact HAR.out k hk) (fun _ => rfl)
    (fun pre O V => (∃ v, Boxed V w.heap.size 22 v ∧ V.ownsRow (w.heap.size + 3) 9 1 v pre.length (scells (pre.map (·.2))) ∧ (∀ g, v.ownBlock = some g → ¬ O g) ∧ True) ∧ Below w.heap.size w V) (fun _ _ _ _ => False)
    (Foot.and (Foot.row (H := V0.heap.size) (β := List (Nat × List UInt8)) (w.heap.size + 3) w.heap.size 22 9 1 (fun pre => List.length pre) (fun pre => scells (List.map (·.2) pre)) (fun _ _ => True) (by omega)) (Foot.below (by omega) (Nat.le_refl _))) (fun _ _ _ _ _ _ h _ _ _ => h)
    ⟨⟨_, b3', World.ownsRow_nil _ _ _ _, fun g e => by simp [Value.ownBlock] at e, trivial⟩, hV⟩ ?round ?done ?stop
  case round =>
    rintro l' pre ⟨n, x⟩ O W1 hO hp
    unfold encL
    gi_wp2
    refine ⟨trivial, ?_⟩
    rintro V ⟨⟨v, hv, hrow, hvO, _⟩, hB⟩ hRW hOl hrec hOW
    obtain ⟨sa, sc, rfl⟩ := Strs.shape hrow
    have hpl := hp.length_le
    have hA : pre.length + 1 ≤ maxLen := by have := HN.out; unfold maxLen; simp at hpl; omega
    have hA2 : (pre.length + 1) * 16 ≤ 140737488355328 := by have := HN.out; simp at hpl; omega
    have hA3 : w.heap.size + 3 ≤ (V.alloc (.cells #[.string ⟨x.toArray⟩] 9)).heap.size := by have := hRW.size; simp; omega
    have hc := hv.cell
    clear hpl
    gi_wp2_with (gi_at_builtin; refine App.walk_append _ rfl _ _ 22 rfl (w.heap.size + 3) 9 i0 (.string .empty) 1 16 Try.underlying22 hi hz0 hz1 hz2 rfl (by decide) _ pre.length _ rfl (hrow.alloc _) ⟨V.heap.size, 0, none⟩ 1 1 [.string ⟨x.toArray⟩] rfl rfl (cell_one_new _ _ _) (by simp [Value.oneCell']) hA hA2 hA3 (by decide) ?_; intro v' w1 hown' hgrow hwhere; obtain ⟨g', cap', rfl⟩ := ownsRow_succ hown'; obtain ⟨hv1, hv2, hr2, hfresh, hSt⟩ := App.collect hv (by decide) hrow hown' hgrow hwhere; have hc4 := hv1.cell; have hf4 := hv1.frozen)
    have hzV := hRW.size
    have hle := own_lt hrow
    have hrr := App.collect_round (R := fun k => k = w.heap.size + 2 ∨ R k) (n₀ := w.heap.size) hSt hfresh (fun k hk => by have := hOW k hk; omega) hvO (fun k hk => by
      have hk' : k < w.heap.size + 3 ∧ k ≠ w.heap.size := by
        rcases hk with rfl | hk
        · omega
        · rcases HAR2.out k hk with h | h <;> omega
      exact ⟨by omega, hk'.2, fun e => by have := hle _ e.symm; omega⟩) (Nat.le_refl _) hB.size (fun g e => by have := hle g e; omega) hB
    exact ⟨hrr.1, ⟨_, hv2, by rw [List.map_append, List.length_append]; exact Strs.snoc_row hr2, hrr.2.1, trivial⟩, hrr.2.2⟩
  case stop => intro D c pre O V _ _ _ _ _ h; exact h.elim
  case done =>
    rintro D O V hD hOD hO hRW ⟨⟨v, hv, hrow, hvO, _⟩, hB⟩ hK
    obtain ⟨sa, sc, rfl⟩ := Strs.shape hrow
    have hc := hv.cell
    have hR : Strs V w.heap.size (.slice sa all.length sc) (unfold l) := by unfold Strs; rw [← HM.out, List.length_map]; exact ownsRow_low (by omega) hrow
    have HR := Lib.hid hR
    clear hR hrow
    gi_wp2_with fail
    refine ⟨by simp, .inl ⟨_, _, rfl, run_takeDeferred hK, ?_⟩⟩
    exact ⟨_, results_tmp rfl _ _ _, _, rfl, HR.out.put _ hK rfl, below_put_p hB (by omega) hK _⟩
end Go.Proofs.Ytcclicgjklmihaa.Ln
