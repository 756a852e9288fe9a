/-
Split answers a text's lines. Conditions: the text has at most 2^40 bytes.
-/
import Derived.Test.YtcclicgjklmihaaLnNum
import Derived.Test.YtcclicgjklmihaaApp
namespace Go.Proofs.Ytcclicgjklmihaa.Ln
open Go.RowKit Strs Sq
attribute [local go_sem] Oper.semAt_some

/-- The answer is a row of texts of the call's own. -/
def Texts (w : World) (l : List (List UInt8)) (e : Ending) (W' : World) : Prop := ∃ v, e = .returned v ∧ Strs W' w.heap.size v l ∧ Below w.heap.size w W'

set_option maxRecDepth 100000 in
set_option maxHeartbeats 2000000 in
theorem split_any (s : ByteArray) (hs : s.size ≤ 1099511627776) (w : World) :
    Calls Try.prog 8 #[.string s] w (Texts w (split s.data.toList)) := by
  obtain ⟨i0, hi, hz0, hz1, hz2⟩ := info_parts infoStr
  refine (callsIn_wide (n := 5)).1 ?_
  refine callsIn_of_wp_marks Try.func8 rfl trivial ?_ rfl
  simp only [Try.ntmps8, List.size_toArray, List.length_cons, List.length_nil, Nat.reduceAdd, Nat.reduceSub, Array.replicate_succ, Array.replicate_zero, List.push_toArray, List.append_toArray, List.nil_append, List.cons_append]
  gi_wp2_with (refine ⟨trivial, ?_⟩; gi_at_call 19; refine (callsIn_wide.2 (numbered_any s _)).mono ?_; rintro e w' ⟨rfl, rfl⟩)
  have b3 := Boxed.new w 22 (.slice none 0 0)
  have bs := Boxed.new (w.alloc (.cells #[.slice none 0 0] 22)) 9 (.string s)
  rw [World.size_alloc] at bs
  have hV : Below w.heap.size w ((w.alloc (.cells #[.slice none 0 0] 22)).alloc (.cells #[.string s] 9)) := ((Below.refl _ w).alloc (Nat.le_refl _) _).alloc (by simp) _
  have b3' := b3.alloc (.cells #[.string s] 9)
  have hz : ((w.alloc (.cells #[.slice none 0 0] 22)).alloc (.cells #[.string s] 9)).heap.size = w.heap.size + 2 := by simp
  clear b3
  generalize ((w.alloc (.cells #[.slice none 0 0] 22)).alloc (.cells #[.string s] 9)) = V0 at *
  obtain ⟨all, hall⟩ : ∃ all, num 1 (split s.data.toList) = all := ⟨_, rfl⟩
  have hsq := numbered_sq s hs (w.heap.size + 1) V0 bs
  rw [hall] at hsq
  have hn : all.length ≤ 1099511627776 := by rw [← hall, num_length]; have := split_length s.data.toList; rw [list_size] at this; omega
  have hm : all.map (·.2) = split s.data.toList := by rw [← hall, num_snd]
  have HN := Lib.hid hn
  have HM := Lib.hid hm
  clear hn hm hall
  refine range_sq1 (gf := 25) (lb := #[.pointer (some ⟨w.heap.size + 1, 0, none⟩)]) rfl eg_numbered hsq (Stays.refl _ _) (fun k hk => by omega) (fun _ => rfl)
    (fun pre O V => (∃ v, Boxed V w.heap.size 22 v ∧ V.ownsRow (w.heap.size + 2) 9 1 v pre.length (scells (pre.map (·.2))) ∧ (∀ g, v.ownBlock = some g → ¬ O g) ∧ True) ∧ Below w.heap.size w V) (fun _ _ _ _ => False)
    (Foot.and (Foot.row (H := V0.heap.size) (β := List (Nat × List UInt8)) (w.heap.size + 2) w.heap.size 22 9 1 (fun pre => List.length pre) (fun pre => scells (List.map (·.2) pre)) (fun _ _ => True) (by omega)) (Foot.below (by omega) (Nat.le_refl _))) (fun _ _ _ _ _ _ h _ _ _ => h)
    ⟨⟨_, b3', World.ownsRow_nil _ _ _ _, fun g e => by simp [Value.ownBlock] at e, trivial⟩, hV⟩ ?round ?done ?stop
  case round =>
    rintro l pre ⟨n, x⟩ O W1 hO hp
    unfold encL
    gi_wp2
    refine ⟨trivial, ?_⟩
    rintro V ⟨⟨v, hv, hrow, hvO, _⟩, hB⟩ hRW hOl hrec hOW
    obtain ⟨sa, sc, rfl⟩ := Strs.shape hrow
    have hpl := hp.length_le
    have hA : pre.length + 1 ≤ maxLen := by have := HN.out; unfold maxLen; simp at hpl; omega
    have hA2 : (pre.length + 1) * 16 ≤ 140737488355328 := by have := HN.out; simp at hpl; omega
    have hA3 : w.heap.size + 2 ≤ (V.alloc (.cells #[.string ⟨x.toArray⟩] 9)).heap.size := by have := hRW.size; simp; omega
    have hc := hv.cell
    clear hpl
    gi_wp2_with (gi_at_builtin; refine App.walk_append _ rfl _ _ 22 rfl (w.heap.size + 2) 9 i0 (.string .empty) 1 16 Try.underlying22 hi hz0 hz1 hz2 rfl (by decide) _ pre.length _ rfl (hrow.alloc _) ⟨V.heap.size, 0, none⟩ 1 1 [.string ⟨x.toArray⟩] rfl rfl (cell_one_new _ _ _) (by simp [Value.oneCell']) hA hA2 hA3 (by decide) ?_; intro v' w1 hown' hgrow hwhere; obtain ⟨g', cap', rfl⟩ := ownsRow_succ hown'; obtain ⟨hv1, hv2, hr2, hfresh, hSt⟩ := App.collect hv (by decide) hrow hown' hgrow hwhere; have hc4 := hv1.cell; have hf4 := hv1.frozen)
    have hzV := hRW.size
    have hle := own_lt hrow
    have hr := App.collect_round (R := fun k => k = w.heap.size + 1) (n₀ := w.heap.size) hSt hfresh (fun k hk => by have := hOW k hk; omega) hvO (fun k hk => by subst hk; exact ⟨by omega, by omega, fun e => by have := hle _ e.symm; omega⟩) (Nat.le_refl _) hB.size (fun g e => by have := hle g e; omega) hB
    exact ⟨hr.1, ⟨_, hv2, by rw [List.map_append, List.length_append]; exact Strs.snoc_row hr2, hr.2.1, trivial⟩, hr.2.2⟩
  case stop => intro D c pre O V _ _ _ _ _ h; exact h.elim
  case done =>
    rintro D O V hD hOD hO hRW ⟨⟨v, hv, hrow, hvO, _⟩, hB⟩ hK
    obtain ⟨sa, sc, rfl⟩ := Strs.shape hrow
    have hc := hv.cell
    have hR : Strs V w.heap.size (.slice sa all.length sc) (split s.data.toList) := by unfold Strs; rw [← HM.out, List.length_map]; exact ownsRow_low (by omega) hrow
    have HR := Lib.hid hR
    clear hR hrow
    gi_wp2_with fail
    refine ⟨by simp, .inl ⟨_, _, rfl, run_takeDeferred hK, ?_⟩⟩
    exact ⟨_, results_tmp rfl _ _ _, _, rfl, HR.out.put _ hK rfl, below_put_p hB (by omega) hK _⟩
end Go.Proofs.Ytcclicgjklmihaa.Ln
