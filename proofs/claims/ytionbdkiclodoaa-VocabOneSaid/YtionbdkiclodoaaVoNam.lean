/-
A token's name, as the program ranges for it. No conditions: any page, any token.
-/
import Derived.Test.YtionbdkiclodoaaVoTok
namespace Go.Proofs.Ytionbdkiclodoaa.Vo
set_option maxRecDepth 100000
open Go.RowKit Strs Sq
attribute [local go_sem] Oper.semAt_some

set_option maxHeartbeats 2000000 in
theorem name_in (p : Int) (t : Nat) (w : World) :
    CallsIn Fence.wide 5 Try.prog 8 #[.int .i64 p, .int .u8 (t : Int)] w fun e W' => e = .returned (.string ⟨(nam p t).toArray⟩) ∧ Below w.heap.size w W' := by
  have CE := Lib.hid (fun W => each_any p W)
  have HN := Lib.hid (fun (h : ∀ x ∈ toks p, x.1 ≠ t) => nam_none h)
  have HT := Lib.hid (fun (x : Nat × List UInt8) (h : x ∈ toks p) => nam_of p h)
  obtain ⟨R, hR⟩ : ∃ R, nam p t = R := ⟨_, rfl⟩
  rw [hR] at HN ⊢
  refine callsIn_of_wp_marks Try.func8 rfl trivial ?_ rfl
  simp only [Try.ntmps8, List.size_toArray, List.length_cons, List.length_nil, Nat.reduceAdd, Nat.reduceSub, Array.replicate_succ, Array.replicate_zero, List.push_toArray, List.append_toArray, List.nil_append, List.cons_append]
  gi_wp2_with (refine ⟨trivial, ?_⟩; gi_at_call 14; refine (callsIn_wide.2 (CE.out _)).mono ?_; rintro e w' ⟨rfl, rfl⟩)
  have b1 := ((Boxed.new w 5 (.int .u8 (t : Int))).alloc (.cells #[.string { data := #[] }] 9)).alloc (.cells #[.int .i64 p] 3)
  have b2 := (Boxed.new (w.alloc (.cells #[.int .u8 (t : Int)] 5)) 9 (.string { data := #[] })).alloc (.cells #[.int .i64 p] 3)
  have b3 := Boxed.new ((w.alloc (.cells #[.int .u8 (t : Int)] 5)).alloc (.cells #[.string { data := #[] }] 9)) 3 (.int .i64 p)
  simp only [World.size_alloc] at b2 b3
  have hV : Below w.heap.size w (((w.alloc (.cells #[.int .u8 (t : Int)] 5)).alloc (.cells #[.string { data := #[] }] 9)).alloc (.cells #[.int .i64 p] 3)) := (((Below.refl _ w).alloc (Nat.le_refl _) _).alloc (by simp) _).alloc (by simp; omega) _
  have hz : (((w.alloc (.cells #[.int .u8 (t : Int)] 5)).alloc (.cells #[.string { data := #[] }] 9)).alloc (.cells #[.int .i64 p] 3)).heap.size = w.heap.size + 3 := by simp
  generalize (((w.alloc (.cells #[.int .u8 (t : Int)] 5)).alloc (.cells #[.string { data := #[] }] 9)).alloc (.cells #[.int .i64 p] 3)) = V0 at *
  have hseq := each_sq p (w.heap.size + 1 + 1) V0 b3
  obtain ⟨L, hL⟩ : ∃ L, toks p = L := ⟨_, rfl⟩
  rw [hL] at hseq HN HT
  have HR := Lib.hid hR
  clear hR hL CE
  have HW := Lib.hid hV
  clear hV
  obtain ⟨H, hH⟩ : ∃ H, w.heap.size = H := ⟨_, rfl⟩
  rw [hH] at b1 b2 b3 hz hseq ⊢
  refine range_sq1 (gf := 16) (lb := #[.pointer (some ⟨H + 1 + 1, 0, none⟩)]) rfl eg_each hseq (Stays.refl _ _) (fun k hk => by omega) (fun _ => rfl)
    (fun pre _ V => ((∀ x ∈ pre, x.1 ≠ t) ∧ Boxed V (H + 1) 9 (.string { data := #[] })) ∧ Below (H + 1) V0 V)
    (fun c _ _ V => (c = .ret ∧ Boxed V (H + 1) 9 (.string ⟨R.toArray⟩)) ∧ Below (H + 1) V0 V)
    (Foot.and (Foot.and (Foot.pure (fun (pre : List (Nat × List UInt8)) => ∀ x ∈ pre, x.1 ≠ t)) (Foot.boxed (H := V0.heap.size) (H + 1) 9 (fun _ => .string { data := #[] }) (by omega))) (Foot.below (by omega) (by omega)))
    (fun c => Foot.and (Foot.and (Foot.pure (fun _ => c = .ret)) (Foot.boxed (H := V0.heap.size) (H + 1) 9 (fun _ => .string ⟨R.toArray⟩) (by omega))) (Foot.below (by omega) (by omega)))
    ⟨⟨fun x hx => by simp at hx, b2⟩, Below.refl _ _⟩ ?round ?done ?stop
  case round =>
    rintro l pre ⟨k, x⟩ O W1 hO hp
    unfold encT
    gi_wp2
    refine ⟨trivial, ?_⟩
    rintro V ⟨⟨hpm, hb2⟩, hB⟩ hRW hOl hrec hOW
    have bn : Boxed V H 5 (.int .u8 (t : Int)) := (hB.block _ (by omega)).trans b1
    have hcn := bn.cell
    have hc2 := hb2.cell
    have hf2 := hb2.frozen
    by_cases he : k = t
    · have hkR : x = R := by have h2 : nam p k = x := HT.out (k, x) (mem_pfx hp); rw [← h2, ← HR.out, ← he]
      subst hkR
      have heq : ((k : Int) == (t : Int)) = true := by simp; omega
      generalize (⟨x.toArray⟩ : ByteArray) = X at *
      clear he
      gi_wp2_with fail
      exact ⟨(Stays.refl _ _).setCell (H + 1) _ (fun h => by rcases h with h | h; have := hO _ h; omega; omega), ⟨rfl, hb2.set _⟩, hB.setCell (p := ⟨H + 1, 0, none⟩) (Nat.le_refl _) _⟩
    · have heq : ((k : Int) == (t : Int)) = false := by simp; omega
      have hpm' : ∀ y ∈ pre ++ [(k, x)], y.1 ≠ t := fun y hy => by
        rcases List.mem_append.1 hy with h | h
        · exact hpm y h
        · rw [List.mem_singleton.1 h]; exact he
      have HPM := Lib.hid hpm'
      clear he hpm hpm'
      gi_wp2_with fail
      exact ⟨Stays.refl _ _, ⟨HPM.out, hb2⟩, hB⟩
  case stop =>
    rintro D c pre O V hD hOD hO hRW hpre ⟨⟨rfl, hb2⟩, hB⟩ hK
    have hc2 := hb2.cell
    have hDl : D < V.heap.size := (Array.getElem?_eq_some_iff.1 hK).1
    gi_wp2_with fail
    have hne : D ≠ H + 1 := by omega
    have hc5 := (hb2.kept (grownBy_putObj' _ D (.deferred Option.none)) (by rintro ⟨⟩; exact hne rfl)).cell
    refine ⟨by simp, .inl ⟨_, _, rfl, run_takeDeferred hK, ?_⟩⟩
    refine ⟨.string ⟨R.toArray⟩, ?_, rfl, below_put_p (HW.out.trans (hB.mono (by omega))) (by omega) hK _⟩
    simp [results, Try.f8, go_sem, hc5]
  case done =>
    rintro D O V hD hOD hO hRW ⟨⟨hpm, hb2⟩, hB⟩ hK
    have hR0 : R = [] := HN.out hpm
    have hc2 := hb2.cell
    have hf2 := hb2.frozen
    have hDl : D < V.heap.size := (Array.getElem?_eq_some_iff.1 hK).1
    gi_wp2_with fail
    have hne : D ≠ H + 1 := by omega
    have hK' := (KeepsOthers.setCell V ⟨H + 1, 0, none⟩ (.string { data := #[] })).same D _ hK rfl
    have hc5 := ((hb2.set (.string { data := #[] })).kept (grownBy_putObj' _ D (.deferred Option.none)) (by rintro ⟨⟩; exact hne rfl)).cell
    refine ⟨by simp, .inl ⟨_, _, rfl, run_takeDeferred hK', ?_⟩⟩
    refine ⟨.string { data := #[] }, ?_, by rw [hR0], below_put_p ((HW.out.trans (hB.mono (by omega))).setCell (p := ⟨H + 1, 0, none⟩) (by show w.heap.size ≤ H + 1; omega) _) (by omega) hK' _⟩
    simp [results, Try.f8, go_sem, hc5]
theorem name_any (p : Int) (t : Nat) (w : World) :
    Calls Try.prog 8 #[.int .i64 p, .int .u8 (t : Int)] w fun e W' => e = .returned (.string ⟨(nam p t).toArray⟩) ∧ Below w.heap.size w W' := callsIn_wide.1 (name_in p t w)
end Go.Proofs.Ytionbdkiclodoaa.Vo
