/-
The document's Same answers true of two elements that are the same. Conditions: both lie below the caller's blocks.
-/
import Derived.Test.YtpgjalikgmagiaaDoorTrRefTop
import Derived.Deep.RegionHeld3
namespace Go.Proofs.YtpgjalikgmagiaaDoor.Tr
set_option maxRecDepth 100000
open Go.RowKit Sq

set_option maxHeartbeats 4000000 in
theorem refSame_in : ∀ (d : Nat) (e : El) (u v : Value) (w : World), d ≤ 20 → Ok w w.heap.size (e, u) → Ok w w.heap.size (e, v) →
    Calls Tryd.prog 23 #[elV (e, u), elV (e, v), .int .i64 (d : Int)] w fun en w' => en = .returned (.bool true) ∧ Below w.heap.size w w' := by
  intro d
  induction d with
  | zero =>
    intro e u v w hd hu hv
    have HU := Lib.hid hu
    have HV := Lib.hid hv
    obtain ⟨a, c, hkv⟩ := hu.len
    obtain ⟨a', c', hkv'⟩ := hv.len
    have hf3 := hu.fits.2.2
    unfold maxLen at hf3
    simp only at hkv hkv' hf3
    subst hkv hkv'
    unfold elV
    simp only
    obtain ⟨V1, hV1⟩ : ∃ V1, w.alloc (.cells #[.int .i64 e.page, .string e.name, .string e.text, .bool e.bare, .slice a e.kids.length c] 24) = V1 := ⟨_, rfl⟩
    obtain ⟨V, hV⟩ : ∃ V, V1.alloc (.cells #[.int .i64 e.page, .string e.name, .string e.text, .bool e.bare, .slice a' e.kids.length c'] 24) = V := ⟨_, rfl⟩
    have z1 : V1.heap.size = w.heap.size + 1 := by rw [← hV1, World.size_alloc]
    have z2 : V.heap.size = w.heap.size + 2 := by rw [← hV, World.size_alloc, z1]
    have hb : Below w.heap.size w V := by rw [← hV, ← hV1]; exact ((Below.refl _ w).alloc (Nat.le_refl _) _).alloc (by simp) _
    have b1 : ElAt V w.heap.size e (.slice a e.kids.length c) := by
      have h : ElAt V1 w.heap.size e (.slice a e.kids.length c) := by rw [← hV1]; exact heap_alloc_new w _
      rw [← hV]
      exact (((Below.refl (w.heap.size + 1) V1).alloc (by omega) _).block _ (by omega)).trans h
    have b2 : ElAt V (w.heap.size + 1) e (.slice a' e.kids.length c') := by have h := heap_alloc_new V1 (.cells #[.int .i64 e.page, .string e.name, .string e.text, .bool e.bare, .slice a' e.kids.length c'] 24); rw [hV, z1] at h; exact h
    have p0 := b1.c0
    have p1 := b1.c1
    have p2 := b1.c2
    have p3 := b1.c3
    have p4 := b1.c4
    have r0 := b2.c0
    have r1 := b2.c1
    have r2 := b2.c2
    have r3 := b2.c3
    have r4 := b2.c4
    have HB := Lib.hid (And.intro hb (And.intro b1 (And.intro b2 z2)))
    clear hb b1 b2 z1 z2 hu hv
    subst hV hV1
    obtain ⟨D, hDe⟩ : ∃ D : Int, ((0 : Nat) : Int) = D := ⟨_, rfl⟩
    rw [hDe]
    have hdd : ¬ D > 1 := by omega
    clear hDe hd
    go_enter Tryd.func23, Tryd.ntmps23
    go_wp2_with fail
    go_loopw [7] (fun iv wr => ∃ (i : Nat), iv = .int .i64 (i : Int) ∧ i ≤ e.kids.length ∧ ElAt wr w.heap.size e (.slice a e.kids.length c) ∧ ElAt wr (w.heap.size + 1) e (.slice a' e.kids.length c') ∧ Below w.heap.size w wr) (fun iv _ => e.kids.length - (intOf iv).toNat)
    case atStart => exact ⟨0, rfl, Nat.zero_le _, HB.out.2.1, HB.out.2.2.1, HB.out.1⟩
    case round =>
      clear HB p0 p1 p2 p3 p4 r0 r1 r2 r3 r4
      obtain ⟨i, rfl, hi, b1, b2, hB⟩ := hrel
      have p4 := b1.c4
      have r4 := b2.c4
      by_cases hlt : i < e.kids.length
      · have hltz : (i : Int) < (e.kids.length : Int) := by omega
        have HB := Lib.hid hB
        clear b1 b2 hB
        go_wp2_with fail
        go_ret
        exact ⟨rfl, HB.out⟩
      · obtain rfl : i = e.kids.length := by omega
        have hltz : ¬ (e.kids.length : Int) < (e.kids.length : Int) := by omega
        have HB := Lib.hid hB
        clear b1 b2 hB
        go_wp2_with fail
        go_ret
        exact ⟨rfl, HB.out⟩
  | succ d ih =>
    intro e u v w hd hu hv
    have HU := Lib.hid hu
    have HV := Lib.hid hv
    obtain ⟨a, c, hkv⟩ := hu.len
    obtain ⟨a', c', hkv'⟩ := hv.len
    have hf3 := hu.fits.2.2
    unfold maxLen at hf3
    simp only at hkv hkv' hf3
    subst hkv hkv'
    unfold elV
    simp only
    obtain ⟨V1, hV1⟩ : ∃ V1, w.alloc (.cells #[.int .i64 e.page, .string e.name, .string e.text, .bool e.bare, .slice a e.kids.length c] 24) = V1 := ⟨_, rfl⟩
    obtain ⟨V, hV⟩ : ∃ V, V1.alloc (.cells #[.int .i64 e.page, .string e.name, .string e.text, .bool e.bare, .slice a' e.kids.length c'] 24) = V := ⟨_, rfl⟩
    have z1 : V1.heap.size = w.heap.size + 1 := by rw [← hV1, World.size_alloc]
    have z2 : V.heap.size = w.heap.size + 2 := by rw [← hV, World.size_alloc, z1]
    have hb : Below w.heap.size w V := by rw [← hV, ← hV1]; exact ((Below.refl _ w).alloc (Nat.le_refl _) _).alloc (by simp) _
    have b1 : ElAt V w.heap.size e (.slice a e.kids.length c) := by
      have h : ElAt V1 w.heap.size e (.slice a e.kids.length c) := by rw [← hV1]; exact heap_alloc_new w _
      rw [← hV]
      exact (((Below.refl (w.heap.size + 1) V1).alloc (by omega) _).block _ (by omega)).trans h
    have b2 : ElAt V (w.heap.size + 1) e (.slice a' e.kids.length c') := by have h := heap_alloc_new V1 (.cells #[.int .i64 e.page, .string e.name, .string e.text, .bool e.bare, .slice a' e.kids.length c'] 24); rw [hV, z1] at h; exact h
    have p0 := b1.c0
    have p1 := b1.c1
    have p2 := b1.c2
    have p3 := b1.c3
    have p4 := b1.c4
    have r0 := b2.c0
    have r1 := b2.c1
    have r2 := b2.c2
    have r3 := b2.c3
    have r4 := b2.c4
    have HB := Lib.hid (And.intro hb (And.intro b1 (And.intro b2 z2)))
    clear hb b1 b2 z1 z2 hu hv
    subst hV hV1
    obtain ⟨D, hDe⟩ : ∃ D : Int, ((d + 1 : Nat) : Int) = D := ⟨_, rfl⟩
    rw [hDe]
    have hdm : D - 1 = (d : Int) := by omega
    have hd20 : D ≤ 20 := by omega
    have hd1 : (1 : Int) ≤ D := by omega
    have hwd : IntKind.i64.wrap (d : Int) = (d : Int) := IntWalk.i64_in _ (by omega)
    have IH := Lib.hid ih
    clear hDe ih
    go_enter Tryd.func23, Tryd.ntmps23
    go_wp2_with fail
    go_loopw [7] (fun iv wr => ∃ (i : Nat), iv = .int .i64 (i : Int) ∧ i ≤ e.kids.length ∧ ElAt wr w.heap.size e (.slice a e.kids.length c) ∧ ElAt wr (w.heap.size + 1) e (.slice a' e.kids.length c') ∧ Below w.heap.size w wr) (fun iv _ => e.kids.length - (intOf iv).toNat)
    case atStart => exact ⟨0, rfl, Nat.zero_le _, HB.out.2.1, HB.out.2.2.1, HB.out.1⟩
    case round =>
      clear HB p0 p1 p2 p3 p4 r0 r1 r2 r3 r4
      obtain ⟨i, rfl, hi, b1, b2, hB⟩ := hrel
      have p4 := b1.c4
      have r4 := b2.c4
      by_cases hlt : i < e.kids.length
      · have hltz : (i : Int) < (e.kids.length : Int) := by omega
        by_cases hdd : D > 1
        · obtain ⟨bb, o, c2, kv, e1, hbB, c0, c1, c2', c3, c4, hk, hok⟩ := HU.out.kid hlt
          obtain ⟨bb', o', c2x, kv', e1', hbB', d0, d1, d2, d3, d4, hk', hok'⟩ := HV.out.kid hlt
          simp only at e1 e1'
          cases e1
          cases e1'
          obtain ⟨ka, kc, hk2⟩ := hok.len
          obtain ⟨ka', kc', hk2'⟩ := hok'.len
          simp only at hk2 hk2'
          subst hk2 hk2'
          simp only at c0 c1 c2' c3 d0 d1 d2 d3 hok hok'
          generalize e.kids[i] = kid at c0 c1 c2' c3 c4 d0 d1 d2 d3 d4 hok hok'
          have hl1 := b1.lt
          have hl2 := b2.lt
          have HS := Lib.hid (show ∀ W, Below wr.heap.size wr W → W.cell? ⟨w.heap.size, 4, none⟩ = some (.slice (some ⟨bb, o, none⟩) e.kids.length c) ∧ W.cell? ⟨w.heap.size + 1, 4, none⟩ = some (.slice (some ⟨bb', o', none⟩) e.kids.length c') ∧ W.cell? ⟨bb, o + i * 5, none⟩ = some (.int .i64 kid.page) ∧ W.cell? ⟨bb, o + i * 5 + 1, none⟩ = some (.string kid.name) ∧ W.cell? ⟨bb, o + i * 5 + 2, none⟩ = some (.string kid.text) ∧ W.cell? ⟨bb, o + i * 5 + 3, none⟩ = some (.bool kid.bare) ∧ W.cell? ⟨bb, o + i * 5 + 4, none⟩ = some (.slice ka kid.kids.length kc) ∧ W.cell? ⟨bb', o' + i * 5, none⟩ = some (.int .i64 kid.page) ∧ W.cell? ⟨bb', o' + i * 5 + 1, none⟩ = some (.string kid.name) ∧ W.cell? ⟨bb', o' + i * 5 + 2, none⟩ = some (.string kid.text) ∧ W.cell? ⟨bb', o' + i * 5 + 3, none⟩ = some (.bool kid.bare) ∧ W.cell? ⟨bb', o' + i * 5 + 4, none⟩ = some (.slice ka' kid.kids.length kc') from fun W h => ⟨(h.cell (p := ⟨w.heap.size, 4, none⟩) hl1).trans p4, (h.cell (p := ⟨w.heap.size + 1, 4, none⟩) hl2).trans r4,
            ((hB.trans (h.mono hB.size)).cell (p := ⟨bb, o + i * 5, none⟩) hbB).trans c0, ((hB.trans (h.mono hB.size)).cell (p := ⟨bb, o + i * 5 + 1, none⟩) hbB).trans c1, ((hB.trans (h.mono hB.size)).cell (p := ⟨bb, o + i * 5 + 2, none⟩) hbB).trans c2', ((hB.trans (h.mono hB.size)).cell (p := ⟨bb, o + i * 5 + 3, none⟩) hbB).trans c3, ((hB.trans (h.mono hB.size)).cell (p := ⟨bb, o + i * 5 + 4, none⟩) hbB).trans c4,
            ((hB.trans (h.mono hB.size)).cell (p := ⟨bb', o' + i * 5, none⟩) hbB').trans d0, ((hB.trans (h.mono hB.size)).cell (p := ⟨bb', o' + i * 5 + 1, none⟩) hbB').trans d1, ((hB.trans (h.mono hB.size)).cell (p := ⟨bb', o' + i * 5 + 2, none⟩) hbB').trans d2, ((hB.trans (h.mono hB.size)).cell (p := ⟨bb', o' + i * 5 + 3, none⟩) hbB').trans d3, ((hB.trans (h.mono hB.size)).cell (p := ⟨bb', o' + i * 5 + 4, none⟩) hbB').trans d4⟩)
          have CI := Lib.hid (fun (W : World) (h : Below wr.heap.size wr W) => IH.out kid (.slice ka kid.kids.length kc) (.slice ka' kid.kids.length kc') W (by omega) (((hok.stays hB).stays (h.mono hB.size)).up (Nat.le_trans hB.size h.size)) (((hok'.stays hB).stays (h.mono hB.size)).up (Nat.le_trans hB.size h.size)))
          unfold elV at CI
          simp only at CI
          have hbd : Below wr.heap.size wr wr.drew := (Below.refl _ _).drew
          have hbr : Below wr.heap.size wr wr := Below.refl _ _
          have HBX := Lib.hid (And.intro b1 (And.intro b2 hB))
          clear b1 b2 hB hok hok' hk hk' c0 c1 c2' c3 c4 d0 d1 d2 d3 d4
          go_wp2_with fail
          go_region_held3 (fun W => W.cell? ⟨w.heap.size, 4, none⟩ = some (.slice (some ⟨bb, o, none⟩) e.kids.length c) ∧ W.cell? ⟨w.heap.size + 1, 4, none⟩ = some (.slice (some ⟨bb', o', none⟩) e.kids.length c') ∧ W.cell? ⟨bb, o + i * 5, none⟩ = some (.int .i64 kid.page) ∧ W.cell? ⟨bb, o + i * 5 + 1, none⟩ = some (.string kid.name) ∧ W.cell? ⟨bb, o + i * 5 + 2, none⟩ = some (.string kid.text) ∧ W.cell? ⟨bb, o + i * 5 + 3, none⟩ = some (.bool kid.bare) ∧ W.cell? ⟨bb, o + i * 5 + 4, none⟩ = some (.slice ka kid.kids.length kc) ∧ W.cell? ⟨bb', o' + i * 5, none⟩ = some (.int .i64 kid.page) ∧ W.cell? ⟨bb', o' + i * 5 + 1, none⟩ = some (.string kid.name) ∧ W.cell? ⟨bb', o' + i * 5 + 2, none⟩ = some (.string kid.text) ∧ W.cell? ⟨bb', o' + i * 5 + 3, none⟩ = some (.bool kid.bare) ∧ W.cell? ⟨bb', o' + i * 5 + 4, none⟩ = some (.slice ka' kid.kids.length kc')) (first | exact HS.out _ hbd | exact HS.out _ hbr | exact HS.out _ hb9) (first | (go_at_call 23; (with_reducible refine (CI.out _ (by first | exact hbd | exact hbr)).mono ?_); rintro en w2 ⟨rfl, b9⟩; have hb9 : Below wr.heap.size wr w2 := Below.trans (by first | exact hbd | exact hbr) b9))
          all_goals go_wp2_with fail
          all_goals go_roundw
          all_goals (first | exact ⟨i + 1, by go_num, by omega, (hb9.block _ HBX.out.1.lt).trans HBX.out.1, (hb9.block _ HBX.out.2.1.lt).trans HBX.out.2.1, HBX.out.2.2.trans (hb9.mono HBX.out.2.2.size)⟩ | (simp [intOf] <;> omega))
        · have HB := Lib.hid hB
          clear b1 b2 hB
          go_wp2_with fail
          go_ret
          exact ⟨rfl, HB.out⟩
      · obtain rfl : i = e.kids.length := by omega
        have hltz : ¬ (e.kids.length : Int) < (e.kids.length : Int) := by omega
        have HB := Lib.hid hB
        clear b1 b2 hB
        go_wp2_with fail
        go_ret
        exact ⟨rfl, HB.out⟩

theorem refSame_any (e : El) (u v : Value) (w : World) (hu : Ok w w.heap.size (e, u)) (hv : Ok w w.heap.size (e, v)) :
    Calls Tryd.prog 12 #[elV (e, u), elV (e, v)] w fun en w' => en = .returned (.bool true) ∧ Below w.heap.size w w' := by
  have HU := Lib.hid hu
  have HV := Lib.hid hv
  obtain ⟨a, c, hkv⟩ := hu.len
  obtain ⟨a', c', hkv'⟩ := hv.len
  have hf3 := hu.fits.2.2
  unfold maxLen at hf3
  simp only at hkv hkv' hf3
  subst hkv hkv'
  unfold elV
  simp only
  obtain ⟨V1, hV1⟩ : ∃ V1, w.alloc (.cells #[.int .i64 e.page, .string e.name, .string e.text, .bool e.bare, .slice a e.kids.length c] 24) = V1 := ⟨_, rfl⟩
  obtain ⟨V, hV⟩ : ∃ V, V1.alloc (.cells #[.int .i64 e.page, .string e.name, .string e.text, .bool e.bare, .slice a' e.kids.length c'] 24) = V := ⟨_, rfl⟩
  have z1 : V1.heap.size = w.heap.size + 1 := by rw [← hV1, World.size_alloc]
  have z2 : V.heap.size = w.heap.size + 2 := by rw [← hV, World.size_alloc, z1]
  have hb : Below w.heap.size w V := by rw [← hV, ← hV1]; exact ((Below.refl _ w).alloc (Nat.le_refl _) _).alloc (by simp) _
  have b1 : ElAt V w.heap.size e (.slice a e.kids.length c) := by
    have h : ElAt V1 w.heap.size e (.slice a e.kids.length c) := by rw [← hV1]; exact heap_alloc_new w _
    rw [← hV]
    exact (((Below.refl (w.heap.size + 1) V1).alloc (by omega) _).block _ (by omega)).trans h
  have b2 : ElAt V (w.heap.size + 1) e (.slice a' e.kids.length c') := by have h := heap_alloc_new V1 (.cells #[.int .i64 e.page, .string e.name, .string e.text, .bool e.bare, .slice a' e.kids.length c'] 24); rw [hV, z1] at h; exact h
  have p0 := b1.c0
  have p1 := b1.c1
  have p2 := b1.c2
  have p3 := b1.c3
  have p4 := b1.c4
  have r0 := b2.c0
  have r1 := b2.c1
  have r2 := b2.c2
  have r3 := b2.c3
  have r4 := b2.c4
  have HB := Lib.hid (And.intro hb (And.intro b1 (And.intro b2 z2)))
  clear hb b1 b2 z1 z2 hu hv
  subst hV hV1
  have C := Lib.hid (refSame_in 20 e (.slice a e.kids.length c) (.slice a' e.kids.length c') _ (Nat.le_refl _) ((HU.out.stays HB.out.1).up HB.out.1.size) ((HV.out.stays HB.out.1).up HB.out.1.size))
  unfold elV at C
  simp only at C
  clear HU HV
  go_enter Tryd.func12, Tryd.ntmps12
  go_wp2_with (go_at_call 23; refine C.out.mono ?_; rintro en w2 ⟨rfl, b2⟩)
  go_ret
  exact ⟨rfl, HB.out.1.trans (b2.mono HB.out.1.size)⟩
end Go.Proofs.YtpgjalikgmagiaaDoor.Tr
