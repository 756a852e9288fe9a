/-
A name's token and a token's name, as the program ranges for them. No conditions: any page, any name, any token.
-/
import Derived.Test.YtionbdkiclodoaaVoEach
namespace Go.Proofs.Ytionbdkiclodoaa.Vo
set_option maxRecDepth 100000
open Go.RowKit Strs Sq
attribute [local go_sem] Oper.semAt_some

theorem str_eq {x n : ByteArray} (h : x.data.toList = n.data.toList) : (x.toList == n.toList) = true := by rw [ByteArray.toList_eq, ByteArray.toList_eq, h]; simp
theorem str_ne {x n : ByteArray} (h : ¬ x.data.toList = n.data.toList) : (x.toList == n.toList) = false := by rw [ByteArray.toList_eq, ByteArray.toList_eq]; simpa using h
theorem mem_pfx {L pre : List (Nat × List UInt8)} {x : Nat × List UInt8} (h : pre ++ [x] <+: L) : x ∈ L := h.subset (by simp)

set_option maxHeartbeats 2000000 in
theorem token_in (p : Int) (n : ByteArray) (w : World) :
    CallsIn Fence.wide 5 Try.prog 6 #[.int .i64 p, .string n] w fun e W' => e = .returned (.int .u8 (tok p n.data.toList : Int)) ∧ Below w.heap.size w W' := by
  have CE := Lib.hid (fun W => each_any p W)
  have HN := Lib.hid (fun (h : ∀ x ∈ toks p, x.2 ≠ n.data.toList) => tok_none h)
  have HT := Lib.hid (fun (x : Nat × List UInt8) (h : x ∈ toks p) => tok_of p h)
  obtain ⟨R, hR⟩ : ∃ R, tok p n.data.toList = R := ⟨_, rfl⟩
  rw [hR] at HN ⊢
  refine callsIn_of_wp_marks Try.func6 rfl trivial ?_ rfl
  simp only [Try.ntmps6, List.size_toArray, List.length_cons, List.length_nil, Nat.reduceAdd, Nat.reduceSub, Array.replicate_succ, Array.replicate_zero, List.push_toArray, List.append_toArray, List.nil_append, List.cons_append]
  gi_wp2_with (refine ⟨trivial, ?_⟩; gi_at_call 14; refine (callsIn_wide.2 (CE.out _)).mono ?_; rintro e w' ⟨rfl, rfl⟩)
  have b1 := ((Boxed.new w 9 (.string n)).alloc (.cells #[.int .u8 0] 5)).alloc (.cells #[.int .i64 p] 3)
  have b2 := (Boxed.new (w.alloc (.cells #[.string n] 9)) 5 (.int .u8 0)).alloc (.cells #[.int .i64 p] 3)
  have b3 := Boxed.new ((w.alloc (.cells #[.string n] 9)).alloc (.cells #[.int .u8 0] 5)) 3 (.int .i64 p)
  simp only [World.size_alloc] at b2 b3
  have hV : Below w.heap.size w (((w.alloc (.cells #[.string n] 9)).alloc (.cells #[.int .u8 0] 5)).alloc (.cells #[.int .i64 p] 3)) := (((Below.refl _ w).alloc (Nat.le_refl _) _).alloc (by simp) _).alloc (by simp; omega) _
  have hz : (((w.alloc (.cells #[.string n] 9)).alloc (.cells #[.int .u8 0] 5)).alloc (.cells #[.int .i64 p] 3)).heap.size = w.heap.size + 3 := by simp
  generalize (((w.alloc (.cells #[.string n] 9)).alloc (.cells #[.int .u8 0] 5)).alloc (.cells #[.int .i64 p] 3)) = V0 at *
  have hseq := each_sq p (w.heap.size + 1 + 1) V0 b3
  obtain ⟨L, hL⟩ : ∃ L, toks p = L := ⟨_, rfl⟩
  rw [hL] at hseq HN HT
  have HR := Lib.hid hR
  clear hR hL CE
  have HW := Lib.hid hV
  clear hV
  obtain ⟨H, hH⟩ : ∃ H, w.heap.size = H := ⟨_, rfl⟩
  rw [hH] at b1 b2 b3 hz hseq ⊢
  refine range_sq1 (gf := 16) (lb := #[.pointer (some ⟨H + 1 + 1, 0, none⟩)]) rfl eg_each hseq (Stays.refl _ _) (fun k hk => by omega) (fun _ => rfl)
    (fun pre _ V => ((∀ x ∈ pre, x.2 ≠ n.data.toList) ∧ Boxed V (H + 1) 5 (.int .u8 0)) ∧ Below (H + 1) V0 V)
    (fun c _ _ V => (c = .ret ∧ Boxed V (H + 1) 5 (.int .u8 (R : Int))) ∧ Below (H + 1) V0 V)
    (Foot.and (Foot.and (Foot.pure (fun (pre : List (Nat × List UInt8)) => ∀ x ∈ pre, x.2 ≠ n.data.toList)) (Foot.boxed (H := V0.heap.size) (H + 1) 5 (fun _ => .int .u8 0) (by omega))) (Foot.below (by omega) (by omega)))
    (fun c => Foot.and (Foot.and (Foot.pure (fun _ => c = .ret)) (Foot.boxed (H := V0.heap.size) (H + 1) 5 (fun _ => .int .u8 (R : Int)) (by omega))) (Foot.below (by omega) (by omega)))
    ⟨⟨fun x hx => by simp at hx, b2⟩, Below.refl _ _⟩ ?round ?done ?stop
  case round =>
    rintro l pre ⟨k, x⟩ O W1 hO hp
    unfold encT
    gi_wp2
    refine ⟨trivial, ?_⟩
    rintro V ⟨⟨hpm, hb2⟩, hB⟩ hRW hOl hrec hOW
    have hx : (⟨x.toArray⟩ : ByteArray).data.toList = x := mk_list x
    have bn : Boxed V H 9 (.string n) := (hB.block _ (by omega)).trans b1
    have hcn := bn.cell
    have hc2 := hb2.cell
    have hf2 := hb2.frozen
    by_cases he : x = n.data.toList
    · have hkR : k = R := by have h2 : tok p x = k := HT.out (k, x) (mem_pfx hp); rw [← h2, ← HR.out, ← he]
      subst hkR
      have heq := str_eq (hx.trans he)
      generalize (⟨x.toArray⟩ : ByteArray) = X at heq hx ⊢
      clear hx he
      gi_wp2_with fail
      exact ⟨(Stays.refl _ _).setCell (H + 1) _ (fun h => by rcases h with h | h; have := hO _ h; omega; omega), ⟨rfl, hb2.set _⟩, hB.setCell (p := ⟨H + 1, 0, none⟩) (Nat.le_refl _) _⟩
    · have heq := str_ne (fun e => he (hx.symm.trans e))
      have hpm' : ∀ y ∈ pre ++ [(k, x)], y.2 ≠ n.data.toList := fun y hy => by
        rcases List.mem_append.1 hy with h | h
        · exact hpm y h
        · rw [List.mem_singleton.1 h]; exact he
      have HPM := Lib.hid hpm'
      generalize (⟨x.toArray⟩ : ByteArray) = X at heq hx ⊢
      clear hx he hpm hpm'
      gi_wp2_with fail
      exact ⟨Stays.refl _ _, ⟨HPM.out, hb2⟩, hB⟩
  case stop =>
    rintro D c pre O V hD hOD hO hRW hpre ⟨⟨rfl, hb2⟩, hB⟩ hK
    have hc2 := hb2.cell
    have hDl : D < V.heap.size := (Array.getElem?_eq_some_iff.1 hK).1
    gi_wp2_with fail
    have hne : D ≠ H + 1 := by omega
    have hc5 := (hb2.kept (grownBy_putObj' _ D (.deferred Option.none)) (by rintro ⟨⟩; exact hne rfl)).cell
    refine ⟨by simp, .inl ⟨_, _, rfl, run_takeDeferred hK, ?_⟩⟩
    refine ⟨.int .u8 (R : Int), ?_, rfl, below_put_p (HW.out.trans (hB.mono (by omega))) (by omega) hK _⟩
    simp [results, Try.f6, go_sem, hc5]
  case done =>
    rintro D O V hD hOD hO hRW ⟨⟨hpm, hb2⟩, hB⟩ hK
    have hR0 : R = 0 := (HN.out hpm).symm ▸ rfl
    have hc2 := hb2.cell
    have hf2 := hb2.frozen
    have hDl : D < V.heap.size := (Array.getElem?_eq_some_iff.1 hK).1
    gi_wp2_with fail
    have hne : D ≠ H + 1 := by omega
    have hK' := (KeepsOthers.setCell V ⟨H + 1, 0, none⟩ (.int .u8 0)).same D _ hK rfl
    have hc5 := ((hb2.set (.int .u8 0)).kept (grownBy_putObj' _ D (.deferred Option.none)) (by rintro ⟨⟩; exact hne rfl)).cell
    refine ⟨by simp, .inl ⟨_, _, rfl, run_takeDeferred hK', ?_⟩⟩
    refine ⟨.int .u8 0, ?_, by rw [hR0]; rfl, below_put_p ((HW.out.trans (hB.mono (by omega))).setCell (p := ⟨H + 1, 0, none⟩) (by show w.heap.size ≤ H + 1; omega) _) (by omega) hK' _⟩
    simp [results, Try.f6, go_sem, hc5]
theorem token_any (p : Int) (n : ByteArray) (w : World) :
    Calls Try.prog 6 #[.int .i64 p, .string n] w fun e W' => e = .returned (.int .u8 (tok p n.data.toList : Int)) ∧ Below w.heap.size w W' := callsIn_wide.1 (token_in p n w)
end Go.Proofs.Ytionbdkiclodoaa.Vo
