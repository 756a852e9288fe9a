/-
For every text, every width and every list of texts the law LinesFold returns true and changes nothing that was there. Conditions: the list has at most maxLen texts, each of at most 2^47 bytes.
-/
import Derived.Test.YtcclicgjklmihaaLnRefFold
import Derived.Test.YtcclicgjklmihaaLnUnfold
import Derived.Test.YtcclicgjklmihaaLnSame
import Derived.Laws.AppendOwnNone
namespace Go.Proofs.Ytcclicgjklmihaa.Ln
open Go.RowKit Strs

theorem fold_length (k : Nat) : ∀ (l : List UInt8), (fold k l).length ≤ l.length + 1 := by
  intro l
  induction h : l.length using Nat.strongRecOn generalizing l with
  | _ n ih =>
    subst h
    by_cases hp : place k l = 0
    · rw [fold_end hp]; simp
    · rw [fold_more hp, List.length_cons]
      have hlt := place_lt hp
      have := ih (l.drop (place k l)).length (by rw [List.length_drop]; omega) _ rfl
      rw [List.length_drop] at this
      omega
theorem unfold_length (l : List (List UInt8)) : (unfold l).length ≤ l.length := by
  unfold unfold; rw [List.length_map]; have := unf_length none (num 1 l); rw [num_length] at this; simpa using this

set_option maxRecDepth 100000 in
set_option maxHeartbeats 2000000 in
theorem fold_law (s : ByteArray) (n : Int) (v : Value) (l : List (List UInt8)) (hb : ∀ x ∈ l, x.length ≤ 140737488355328) (hf : v = .slice none 0 0 ∨ ∃ ad n c, v = .slice (some ad) n c) (w : World) (h : Reads w v l) :
    Calls Try.prog 4 #[.string s, .int .i64 n, v] w fun e W' => e = .returned (.bool true) ∧ Below w.heap.size w W' := by
  obtain ⟨a, cap, rfl⟩ := h.shape
  by_cases hs : 2000 < s.size
  · have hs' : (2000 : Int) < (s.size : Int) := by omega
    go_enter Try.func4, Try.ntmps4
    go_wp2_with fail
    go_ret
    exact ⟨rfl, Below.refl _ _⟩
  · have CG := Lib.hid (great_any _ l hb w h)
    have hs' : ¬ (2000 : Int) < (s.size : Int) := by omega
    cases hg : gr 0 0 l
    · obtain ⟨g1, g2⟩ := gr_small l 0 0 (by omega) (by omega) hg
      rw [hg] at CG
      have H := Lib.hid h
      have CF := Lib.hid (fun W => fold_any s n (by omega) W)
      have CRF := Lib.hid (fun W => refFold_any s n (by omega) W)
      have hfl : (fold (wid n) s.data.toList).length ≤ 2001 := by have := fold_length (wid n) s.data.toList; rw [list_size] at this; omega
      have hul : (unfold l).length ≤ 201 := by have := unfold_length l; omega
      have CM1 := Lib.hid (fun v v' W h h' => same_any v v' (fold (wid n) s.data.toList) (by unfold maxLen; omega) W h h')
      have CM2 := Lib.hid (fun v v' W h h' => same_any v v' (unfold l) (by unfold maxLen; omega) W h h')
      have CM3 := Lib.hid (fun v v' W h h' => same_any v v' l (by unfold maxLen; omega) W h h')
      have CU := Lib.hid (fun v W h => progUnfold_any v l (by omega) (by omega) W h)
      have CRU := Lib.hid (fun W h => refUnfold_any (.slice a l.length cap) l (by omega) (by omega) W h)
      generalize fold (wid n) s.data.toList = q at CF CRF CM1
      generalize unfold l = q2 at CU CRU CM2
      obtain ⟨i0, hi, hz0, hz1, hz2⟩ := info_parts infoStr
      have hown0 : (w.alloc (.cells #[] 9)).ownsRow w.heap.size 9 1 (.slice (some ⟨w.heap.size, 0, none⟩) 0 0) 0 [] := World.ownsRow_made w #[] 0 (Nat.le_refl _) (by decide) rfl
      have hb0 : Below w.heap.size w (w.alloc (.cells #[] 9)) := (Below.refl _ w).alloc (Nat.le_refl _) _
      have hR0 := h.keep (Nat.le_refl _) hb0
      have hm1 : 0 + l.length ≤ maxLen := by unfold maxLen; omega
      have hm2 : (0 + l.length) * 16 ≤ 140737488355328 := by omega
      rcases hf with hf | ⟨ad, n', c', hf⟩
      · simp only [Value.slice.injEq] at hf
        obtain ⟨rfl, hl0, rfl⟩ := hf
        have hl := List.eq_nil_of_length_eq_zero hl0
        rw [hl0] at CG CRU
        have H2 : Hid (Reads w (.slice none 0 0) l) := by rw [hl0] at H; exact H
        rw [hl0]
        clear H hR0 hfl hul hg g1 g2 hl0 h
        go_enter Try.func4, Try.ntmps4
        go_wp2_with (first | (go_at_call 6; refine CG.out.mono ?_; rintro e w' ⟨rfl, rfl⟩) | (at_builtin; refine wpList_append_own_none rfl _ _ 22 rfl w.heap.size 9 i0 1 Try.underlying22 hi _ 0 [] rfl hown0 rfl ?_))
        subst hl
        have hS1 : Strs (w.alloc (.cells #[] 9)) w.heap.size (.slice (some ⟨w.heap.size, 0, none⟩) 0 0) [] := hown0
        have B1 := hb0
        have H := H2
        refine (CF.out _).mono ?_
        rintro e w2 ⟨v2, rfl, hS2, b2⟩
        have B2 := B1.trans (b2.mono B1.size)
        go_wp2_with fail
        refine (CRF.out _).mono ?_
        rintro e w3 ⟨v3, rfl, hS3, b3⟩
        have B3 := B2.trans (b3.mono B2.size)
        go_wp2_with fail
        refine (CM1.out _ _ _ (hS2.reads.keep (Nat.le_refl _) b3) hS3.reads).mono ?_
        rintro e w4 ⟨rfl, b4⟩
        have B4 := B3.trans (b4.mono B3.size)
        have hR4 : Reads w4 (.slice (some ⟨w.heap.size, 0, none⟩) 0 0) [] := ((hS1.reads.keep (Nat.le_refl _) b2).keep (Nat.le_refl _) b3).keep (Nat.le_refl _) b4
        go_wp2_with fail
        refine (CU.out _ _ hR4).mono ?_
        rintro e w5 ⟨v5, rfl, hS5, b5⟩
        have B5 := B4.trans (b5.mono B4.size)
        go_wp2_with fail
        refine (CRU.out _ (H.out.keep (Nat.le_refl _) B5)).mono ?_
        rintro e w6 ⟨v6, rfl, hS6, b6⟩
        have B6 := B5.trans (b6.mono B5.size)
        go_wp2_with fail
        refine (CM2.out _ _ _ (hS5.reads.keep (Nat.le_refl _) b6) hS6.reads).mono ?_
        rintro e w7 ⟨rfl, b7⟩
        have B7 := B6.trans (b7.mono B6.size)
        go_wp2_with fail
        refine (CM3.out _ _ _ (((hR4.keep (Nat.le_refl _) b5).keep (Nat.le_refl _) b6).keep (Nat.le_refl _) b7) (H.out.keep (Nat.le_refl _) B7)).mono ?_
        rintro e w8 ⟨rfl, b8⟩
        have B8 := B7.trans (b8.mono B7.size)
        go_wp2_with fail
        go_ret
        exact ⟨rfl, B8⟩
      · simp only [Value.slice.injEq] at hf
        obtain ⟨rfl, rfl, rfl⟩ := hf
        have hnews : ∀ j u, (scells l)[j]? = some u → (w.alloc (.cells #[] 9)).cell? (ad.add j) = some u := fun j u hu => by
          have hj : j < l.length := by rw [← scells_length]; exact (List.getElem?_eq_some_iff.1 hu).1
          obtain ⟨_, b, o, he, _, hc⟩ := hR0.at_ j hj
          cases he
          rw [Lib.addr_add, hc]
          simp [scells, hj] at hu
          rw [← hu]
        have hone : ∀ u ∈ scells l, u.oneCell' = true := fun u hu => by
          obtain ⟨x, _, rfl⟩ := List.mem_map.1 hu
          simp [Value.oneCell']
        have hsl := scells_length l
        have HSL := Lib.hid (show (scells l).length = l.length * 1 by rw [hsl, Nat.mul_one])
        clear hR0 hfl hul hg g1 g2 hsl h
        go_enter Try.func4, Try.ntmps4
        go_wp2_with (first | (go_at_call 6; refine CG.out.mono ?_; rintro e w' ⟨rfl, rfl⟩) | (at_builtin; refine wpList_append_own _ rfl _ _ 22 rfl w.heap.size 9 i0 (.string .empty) 1 16 Try.underlying22 hi hz0 hz1 hz2 rfl (by decide) _ 0 [] rfl hown0 ad l.length _ (scells l) rfl HSL.out hnews hone hm1 hm2 (by simp) ?_; intro v1 w1 hown1 hgrow1 _; have hS1 : Strs w1 w.heap.size v1 l := by (unfold Strs; rw [Nat.zero_add, List.nil_append] at hown1; exact hown1)))
        have B1 : Below w.heap.size w w1 := hb0.grown hgrow1 (by simp) (fun k e => (World.ownsRow.lt hown0 k e).1)
        refine (CF.out _).mono ?_
        rintro e w2 ⟨v2, rfl, hS2, b2⟩
        have B2 := B1.trans (b2.mono B1.size)
        go_wp2_with fail
        refine (CRF.out _).mono ?_
        rintro e w3 ⟨v3, rfl, hS3, b3⟩
        have B3 := B2.trans (b3.mono B2.size)
        go_wp2_with fail
        refine (CM1.out _ _ _ (hS2.reads.keep (Nat.le_refl _) b3) hS3.reads).mono ?_
        rintro e w4 ⟨rfl, b4⟩
        have B4 := B3.trans (b4.mono B3.size)
        have hR4 : Reads w4 v1 l := ((hS1.reads.keep (Nat.le_refl _) b2).keep (Nat.le_refl _) b3).keep (Nat.le_refl _) b4
        obtain ⟨a1, c1, rfl⟩ := hR4.shape
        go_wp2_with fail
        refine (CU.out _ _ hR4).mono ?_
        rintro e w5 ⟨v5, rfl, hS5, b5⟩
        have B5 := B4.trans (b5.mono B4.size)
        go_wp2_with fail
        refine (CRU.out _ (H.out.keep (Nat.le_refl _) B5)).mono ?_
        rintro e w6 ⟨v6, rfl, hS6, b6⟩
        have B6 := B5.trans (b6.mono B5.size)
        go_wp2_with fail
        refine (CM2.out _ _ _ (hS5.reads.keep (Nat.le_refl _) b6) hS6.reads).mono ?_
        rintro e w7 ⟨rfl, b7⟩
        have B7 := B6.trans (b7.mono B6.size)
        go_wp2_with fail
        refine (CM3.out _ _ _ (((hR4.keep (Nat.le_refl _) b5).keep (Nat.le_refl _) b6).keep (Nat.le_refl _) b7) (H.out.keep (Nat.le_refl _) B7)).mono ?_
        rintro e w8 ⟨rfl, b8⟩
        have B8 := B7.trans (b8.mono B7.size)
        go_wp2_with fail
        go_ret
        exact ⟨rfl, B8⟩
    · rw [hg] at CG
      go_enter Try.func4, Try.ntmps4
      go_wp2_with (go_at_call 6; refine CG.out.mono ?_; rintro e w' ⟨rfl, rfl⟩)
      go_ret
      exact ⟨rfl, Below.refl _ _⟩
end Go.Proofs.Ytcclicgjklmihaa.Ln
