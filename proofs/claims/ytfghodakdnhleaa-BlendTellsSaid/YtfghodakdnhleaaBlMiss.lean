/-
How many fields are in one of two alone, as the program counts them. Conditions: the fields lie below the caller's blocks, at most 1000 of them, of at most 2^20 bytes in a text.
-/
import Derived.Test.YtfghodakdnhleaaBlMap
namespace Go.Proofs.Ytfghodakdnhleaa.Ct
set_option maxRecDepth 100000
open Go.RowKit

/-- How often is a field among others? -/
def cntF (l : List Fd) (x : Fd) : Nat := (l.filter fun y => decide (y = x)).length
theorem cntF_take {l : List Fd} {k : Nat} (h : k < l.length) : (fun y => if y = l[k] then cntF (l.take k) l[k] + 1 else cntF (l.take k) y) = cntF (l.take (k + 1)) := by
  funext y
  rw [List.take_succ_eq_append_getElem h]
  unfold cntF
  rw [List.filter_append, List.length_append]
  by_cases e : y = l[k]
  · subst e; simp
  · rw [if_neg e, List.filter_cons, if_neg (by rw [decide_eq_true_eq]; exact fun h => e h.symm)]; simp
theorem cntF_le (l : List Fd) (x : Fd) : cntF l x ≤ l.length := List.length_filter_le _ _
theorem cntF_zero (l : List Fd) (x : Fd) : (((cntF l x : Nat) : Int) == 0) = !hasF l x := by
  cases h : hasF l x
  · have : cntF l x = 0 := by
      unfold cntF
      rw [List.length_eq_zero_iff, List.filter_eq_nil_iff]
      intro y hy e
      rw [decide_eq_true_eq] at e
      subst e
      rw [hasF_mem.2 hy] at h; cases h
    rw [this]; rfl
  · have hm := hasF_mem.1 h
    have : 0 < cntF l x := by
      unfold cntF
      exact List.length_pos_of_mem (List.mem_filter.2 ⟨hm, by simp⟩)
    rw [Bool.not_true, beq_eq_false_iff_ne]; omega

/-- What the count of fields holds between its steps: two boxes and the map. -/
structure Ms (w W : World) (v v' : Value) (k : Nat) (t : Fd → Nat) : Prop where
  z0 : W.cell? ⟨w.heap.size, 0, none⟩ = some v
  z1 : W.cell? ⟨w.heap.size + 1, 0, none⟩ = some v'
  b : Below w.heap.size w W
  m : Mp W (w.heap.size + 1 + 1) k t
section
variable {w W W' : World} {v v' : Value} {k : Nat} {t : Fd → Nat}
theorem Ms.s (h : Ms w W v v' k t) : w.heap.size + 1 + 1 < W.heap.size := h.m.lt
/-- New blocks come. -/
theorem Ms.below (h : Ms w W v v' k t) (hb : Below W.heap.size W W') : Ms w W' v v' k t :=
  ⟨(hb.cell (p := ⟨w.heap.size, 0, none⟩) (by have := h.s; show w.heap.size < _; omega)).trans h.z0, (hb.cell (p := ⟨w.heap.size + 1, 0, none⟩) (by have := h.s; show w.heap.size + 1 < _; omega)).trans h.z1, h.b.trans (hb.mono h.b.size), h.m.kept (row := none) ⟨hb.os, hb.tape, hb.output, hb.size, fun k hk _ => hb.block k hk⟩ (by simp)⟩
/-- The map alone turns. -/
theorem Ms.turn {k' : Nat} {t' : Fd → Nat} (h : Ms w W v v' k t) (hg : W.grownBy W' (some (w.heap.size + 1 + 1))) (hm : Mp W' (w.heap.size + 1 + 1) k' t') : Ms w W' v v' k' t' := by
  have hb : Below (w.heap.size + 1 + 1) W W' := ⟨hg.os, hg.tape, hg.output, hg.size, fun k hk => hg.block k (by have := h.s; omega) (fun e => by injection e with e; omega)⟩
  exact ⟨(hb.cell (p := ⟨w.heap.size, 0, none⟩) (by show w.heap.size < _; omega)).trans h.z0, (hb.cell (p := ⟨w.heap.size + 1, 0, none⟩) (by show w.heap.size + 1 < _; omega)).trans h.z1, h.b.trans (hb.mono (by omega)), hm⟩
end

set_option maxHeartbeats 4000000 in
theorem missing_any (v v' : Value) (l m : List Fd) (w : World) (hl : Fs w w.heap.size v l) (hm : Fs w w.heap.size v' m) (hn : l.length ≤ 1000) (hn' : m.length ≤ 1000) (hsl : ∀ x ∈ l, Sm x) (hsm : ∀ x ∈ m, Sm x) :
    Calls Try.prog 13 #[.agg #[v], .agg #[v']] w fun e w' => e = .returned (.int .i64 (missF l m : Int)) ∧ Below w.heap.size w w' := by
  obtain ⟨a, c, rfl⟩ := hl.shape
  obtain ⟨a', c', rfl⟩ := hm.shape
  obtain ⟨r, hr⟩ : ∃ r, missF l m = r := ⟨_, rfl⟩
  rw [hr]
  have HA := Lib.hid (show 0 + missF (l.drop 0) m = r by rw [List.drop_zero, Nat.zero_add]; exact hr)
  clear hr
  have L0 := lw_new w _ _ _ _ hl hm
  have hz : ((w.alloc (.cells #[.slice a l.length c] 24)).alloc (.cells #[.slice a' m.length c'] 24)).heap.size = w.heap.size + 1 + 1 := by rw [World.size_alloc, World.size_alloc]
  have hM0 := Mp.made ((w.alloc (.cells #[.slice a l.length c] 24)).alloc (.cells #[.slice a' m.length c'] 24))
  rw [hz] at hM0
  have b0 : Below ((w.alloc (.cells #[.slice a l.length c] 24)).alloc (.cells #[.slice a' m.length c'] 24)).heap.size ((w.alloc (.cells #[.slice a l.length c] 24)).alloc (.cells #[.slice a' m.length c'] 24)) (((w.alloc (.cells #[.slice a l.length c] 24)).alloc (.cells #[.slice a' m.length c'] 24)).alloc (.map #[] 0)) := (Below.refl _ _).alloc (Nat.le_refl _) _
  have L1 := L0.below b0
  have h0 : (fun _ => 0) = cntF (m.take 0) := by funext y; simp [cntF]
  rw [h0] at hM0
  have HM : Hid (Ms w (((w.alloc (.cells #[.slice a l.length c] 24)).alloc (.cells #[.slice a' m.length c'] 24)).alloc (.map #[] 0)) (.slice a l.length c) (.slice a' m.length c') 0 (cntF (m.take 0))) := Lib.hid ⟨L1.z0, L1.z1, L1.b, hM0⟩
  have z0 := L1.z0
  have z1 := L1.z1
  have hmm := @run_makeMap Try.prog
  have HT : Hid (∀ {k : Nat} (h : k < m.length), (fun y => if y = m[k] then cntF (m.take k) m[k] + 1 else cntF (m.take k) y) = cntF (m.take (k + 1))) := Lib.hid (fun h => cntF_take h)
  have HQ : Hid (∀ (k : Nat) x, cntF (m.take k) x ≤ 1000) := Lib.hid (fun k x => Nat.le_trans (cntF_le _ _) (by rw [List.length_take]; omega))
  have HSM := Lib.hid hsm
  have HSL := Lib.hid hsl
  have HL := Lib.hid (And.intro hl hm)
  clear L0 L1 hl hm b0 hM0 hz h0 hsl hsm
  go_enter Try.func13, Try.ntmps13
  go_wp2_with fail
  go_loopw [15] (fun iv wr => ∃ k : Nat, k ≤ m.length ∧ iv = .int .i64 (k : Int) ∧ Ms w wr (.slice a l.length c) (.slice a' m.length c') k (cntF (m.take k))) (fun iv _ => m.length - (intOf iv).toNat)
  case atStart => exact ⟨0, Nat.zero_le _, rfl, HM.out⟩
  case round =>
    clear HM z0 z1
    obtain ⟨k, hk, rfl, hms⟩ := hrel
    by_cases hlt : k < m.length
    · have hlz : (k : Int) < (m.length : Int) := by omega
      obtain ⟨b, o, cap, hv1, hbB, c0, c1, c2⟩ := (HL.out.2.below hms.b).at_ hlt
      simp only [Value.slice.injEq, true_and] at hv1
      obtain ⟨rfl, rfl⟩ := hv1
      have hT := HT.out hlt
      have hx := HSM.out m[k] (List.getElem_mem hlt)
      have hq := HQ.out k m[k]
      obtain ⟨⟨x0, x1, x2⟩, hba⟩ := fbox_new wr m[k].1 m[k].2.1 m[k].2.2
      have hmsB := (hms.below hba).below ((Below.refl _ _).drew)
      have hlook := hmsB.m.look hx
      obtain ⟨v0, st, w1, w2, hE, hS, g1, hM2, g2, hlook1⟩ := hmsB.m.count (by omega) hx (by omega)
      rw [hT] at hM2
      have HM2 := Lib.hid (hmsB.turn g2 hM2)
      generalize cntF (m.take k) m[k] = q at hlook hlook1 hE hS hq
      have hwr : IntKind.i64.wrap ((q : Int) + 1) = (q : Int) + 1 := IntWalk.i64_in _ (by omega)
      generalize m[k] = x at c0 c1 c2 x0 x1 x2 hlook hlook1 hE hS
      obtain ⟨n', l', t'⟩ := x
      simp only at c0 c1 c2 x0 x1 x2 hlook hlook1 hE hS
      have hms' := Lib.hid hms
      clear hT hx hM2 hms hmsB hba g1 g2 hbB HT HQ HSM HSL HL
      go_wp2_with fail
      go_region
      all_goals go_wp2_with fail
      all_goals go_roundw
      all_goals (first | exact ⟨k + 1, by omega, by go_num, HM2.out⟩ | (simp [intOf] <;> omega))
    · obtain rfl : k = m.length := by omega
      have hlz : ¬ (m.length : Int) < (m.length : Int) := by omega
      rw [List.take_length] at hms
      have z0 := hms.z0
      have z1 := hms.z1
      have HM := Lib.hid hms
      clear hms hk hlt HT HQ HSM
      go_wp2_with fail
      go_loopw [8, 29] (fun nv iv wr => ∃ k n : Nat, k ≤ l.length ∧ iv = .int .i64 (k : Int) ∧ nv = .int .i64 (n : Int) ∧ n ≤ k ∧ Ms w wr (.slice a l.length c) (.slice a' m.length c') m.length (cntF m) ∧ Hid (n + missF (l.drop k) m = r)) (fun _ iv _ => l.length - (intOf iv).toNat)
      case atStart => exact ⟨0, 0, Nat.zero_le _, rfl, rfl, Nat.le_refl _, HM.out, HA⟩
      case round =>
        clear HM HA z0 z1 hlz
        obtain ⟨k, n, hk, rfl, rfl, hnk, hms, HK⟩ := hrel
        by_cases hlt : k < l.length
        · have hlz : (k : Int) < (l.length : Int) := by omega
          obtain ⟨b, o, cap, hv1, hbB, c0, c1, c2⟩ := (HL.out.1.below hms.b).at_ hlt
          simp only [Value.slice.injEq, true_and] at hv1
          obtain ⟨rfl, rfl⟩ := hv1
          have hx := HSL.out l[k] (List.getElem_mem hlt)
          obtain ⟨⟨x0, x1, x2⟩, hba⟩ := fbox_new wr l[k].1 l[k].2.1 l[k].2.2
          have hmsB := hms.below hba
          have hlook := hmsB.m.look hx
          have hzero := cntF_zero m l[k]
          have HDk := Lib.hid (And.intro (missF_yes (m := m) hlt) (missF_no (m := m) hlt))
          generalize cntF m l[k] = q at hlook hzero
          have HMB := Lib.hid hmsB
          clear hms hmsB hba hbB hx HSL HL
          cases hh : hasF m l[k]
          · rw [hh] at hzero
            have HK' := Lib.hid (show n + 1 + missF (l.drop (k + 1)) m = r by rw [← HK.out, HDk.out.2 hh]; omega)
            generalize l[k] = x at c0 c1 c2 x0 x1 x2 hlook HMB
            obtain ⟨n', l', t'⟩ := x
            simp only at c0 c1 c2 x0 x1 x2 hlook HMB
            simp only [Bool.not_false] at hzero
            clear hh HDk HK
            go_wp2_with fail
            go_roundw
            case rel => exact ⟨k + 1, n + 1, by omega, by go_num, by go_num, by omega, HMB.out, HK'⟩
            case measure => simp [intOf]; omega
          · rw [hh] at hzero
            have HK' := Lib.hid (show n + missF (l.drop (k + 1)) m = r by rw [← HK.out, HDk.out.1 hh])
            generalize l[k] = x at c0 c1 c2 x0 x1 x2 hlook HMB
            obtain ⟨n', l', t'⟩ := x
            simp only at c0 c1 c2 x0 x1 x2 hlook HMB
            simp only [Bool.not_true] at hzero
            clear hh HDk HK
            go_wp2_with fail
            go_roundw
            case rel => exact ⟨k + 1, n, by omega, by go_num, rfl, by omega, HMB.out, HK'⟩
            case measure => simp [intOf]; omega
        · obtain rfl : k = l.length := by omega
          have hlz : ¬ (l.length : Int) < (l.length : Int) := by omega
          obtain rfl : n = r := by have h := HK.out; rw [List.drop_length, missF_nil] at h; omega
          have HMB := Lib.hid hms.b
          clear hms HK
          go_wp2_with fail
          go_ret
          exact ⟨rfl, HMB.out⟩
end Go.Proofs.Ytfghodakdnhleaa.Ct
