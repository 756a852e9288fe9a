/-
Is a field among others, and how many are in one of two alone, as the document says it. Conditions: the fields lie below the caller's blocks, at most 1000 of them.
-/
import Derived.Test.YtfghodakdnhleaaBlWords
import Derived.Test.YtfghodakdnhleaaCtLaw
import Derived.Laws.StructEq
namespace Go.Proofs.Ytfghodakdnhleaa.Ct
set_option maxRecDepth 100000
open Go.RowKit

theorem fieldsF : (Try.prog.fieldsOf 33).toList = [{ name := "Name", type := 9, offset := 0, embedded := false, tag := "", pkgPath := "", byteOffset := 0 }, { name := "Label", type := 9, offset := 1, embedded := false, tag := "", pkgPath := "", byteOffset := 16 }, { name := "Text", type := 9, offset := 2, embedded := false, tag := "", pkgPath := "", byteOffset := 32 }] := by kernel_rfl
theorem partF (xs : Array Value) (i : Nat) (s : ByteArray) (w : World) (h : xs[i]? = some (.string s)) : (part 9 xs i).run Try.prog w = .ok (.string s) w := by simp [part, go_sem, h]
theorem eqF_list (x y : Fd) : eqF x y = (x.1.toList == y.1.toList && (x.2.1.toList == y.2.1.toList && x.2.2.toList == y.2.2.toList)) := by
  obtain ⟨a, b, c⟩ := x
  obtain ⟨d, e, f⟩ := y
  rw [Bool.eq_iff_iff]
  simp [eqF, eq_toList]
/-- Fields held against one another as wholes. -/
theorem eqlF (x y : Fd) (w : World) : (binOp .eql 33 (.agg #[.string x.1, .string x.2.1, .string x.2.2]) (.agg #[.string y.1, .string y.2.1, .string y.2.2])).run Try.prog w = .ok (.bool (eqF x y)) w := by
  have h1 := fun a b w => run_equalIn_string (P := Try.prog) w 9998 9 a b Try.underlying9
  have a0 := fun w => partF #[.string x.1, .string x.2.1, .string x.2.2] 0 x.1 w rfl
  have a1 := fun w => partF #[.string x.1, .string x.2.1, .string x.2.2] 1 x.2.1 w rfl
  have a2 := fun w => partF #[.string x.1, .string x.2.1, .string x.2.2] 2 x.2.2 w rfl
  have b0 := fun w => partF #[.string y.1, .string y.2.1, .string y.2.2] 0 y.1 w rfl
  have b1 := fun w => partF #[.string y.1, .string y.2.1, .string y.2.2] 1 y.2.1 w rfl
  have b2 := fun w => partF #[.string y.1, .string y.2.1, .string y.2.2] 2 y.2.2 w rfl
  rw [eqF_list, run_eql_struct, show (10000 : Nat) = 9998 + 1 + 1 from rfl, run_equalIn_struct _ _ _ _ _ (by kernel_rfl) (by kernel_rfl), fieldsF]
  cases e1 : x.1.toList == y.1.toList <;> cases e2 : x.2.1.toList == y.2.1.toList <;> cases e3 : x.2.2.toList == y.2.2.toList <;> simp [Op.eqFields, a0, a1, a2, b0, b1, b2, h1, e1, e2, e3, Result.andThen, Sem.run_bind, Sem.run_pure]

/-- A contact's box and a field's. -/
theorem cf_new (w : World) (v : Value) (x : Fd) : ((w.alloc (.cells #[v] 24)).alloc (.cells #[.string x.1, .string x.2.1, .string x.2.2] 33)).cell? ⟨w.heap.size, 0, none⟩ = some v ∧ (((w.alloc (.cells #[v] 24)).alloc (.cells #[.string x.1, .string x.2.1, .string x.2.2] 33)).cell? ⟨w.heap.size + 1, 0, none⟩ = some (.string x.1) ∧ ((w.alloc (.cells #[v] 24)).alloc (.cells #[.string x.1, .string x.2.1, .string x.2.2] 33)).cell? ⟨w.heap.size + 1, 1, none⟩ = some (.string x.2.1) ∧ ((w.alloc (.cells #[v] 24)).alloc (.cells #[.string x.1, .string x.2.1, .string x.2.2] 33)).cell? ⟨w.heap.size + 1, 2, none⟩ = some (.string x.2.2)) ∧ Below w.heap.size w ((w.alloc (.cells #[v] 24)).alloc (.cells #[.string x.1, .string x.2.1, .string x.2.2] 33)) ∧ ((w.alloc (.cells #[v] 24)).alloc (.cells #[.string x.1, .string x.2.1, .string x.2.2] 33)).heap.size = w.heap.size + 2 := by
  obtain ⟨h0, hb⟩ := box_new w v
  obtain ⟨h1, hb1⟩ := fbox_new (w.alloc (.cells #[v] 24)) x.1 x.2.1 x.2.2
  have hz : (w.alloc (.cells #[v] 24)).heap.size = w.heap.size + 1 := World.size_alloc _ _
  rw [hz] at h1
  exact ⟨alloc_cell _ h0, h1, hb.trans (hb1.mono hb.size), by rw [World.size_alloc, hz]⟩

set_option maxHeartbeats 2000000 in
theorem rin_any (v : Value) (l : List Fd) (x : Fd) (w : World) (hl : Fs w w.heap.size v l) (hn : l.length ≤ 1000) :
    Calls Try.prog 14 #[.agg #[v], .agg #[.string x.1, .string x.2.1, .string x.2.2]] w fun e w' => e = .returned (.bool (hasF l x)) ∧ Below w.heap.size w w' := by
  obtain ⟨a, c, rfl⟩ := hl.shape
  obtain ⟨r, hr⟩ : ∃ r, hasF l x = r := ⟨_, rfl⟩
  rw [hr]
  obtain ⟨z0, ⟨y0, y1, y2⟩, hb, hsz⟩ := cf_new w (.slice a l.length c) x
  have HB := Lib.hid hb
  have HS := Lib.hid (Nat.le_of_eq hsz.symm)
  clear hb hsz
  have HE : Hid (∀ (z : Fd) W, (binOp .eql 33 (.agg #[.string z.1, .string z.2.1, .string z.2.2]) (.agg #[.string x.1, .string x.2.1, .string x.2.2])).run Try.prog W = .ok (.bool (eqF z x)) W) := Lib.hid (fun z W => eqlF z x W)
  have HF : Hid (∀ z : Fd, eqF z x = decide (z = x)) := Lib.hid (fun z => rfl)
  have HD : Hid (∀ {k : Nat} (h : k < l.length), (l[k] = x → hasF (l.drop k) x = true) ∧ (¬ l[k] = x → hasF (l.drop k) x = hasF (l.drop (k + 1)) x)) := Lib.hid (fun h => ⟨hasF_yes h, hasF_no h⟩)
  have HX : Hid (hasF [] x = false) := Lib.hid rfl
  have HR := Lib.hid (show hasF (l.drop 0) x = r by rw [List.drop_zero]; exact hr)
  clear hr
  obtain ⟨x0, x1, x2⟩ := x
  simp only at HE y0 y1 y2
  go_enter Try.func14, Try.ntmps14
  go_wp2_with fail
  go_loopw [5] (fun iv wr => ∃ k : Nat, k ≤ l.length ∧ iv = .int .i64 (k : Int) ∧ wr.cell? ⟨w.heap.size, 0, none⟩ = some (.slice a l.length c) ∧ wr.cell? ⟨w.heap.size + 1, 0, none⟩ = some (.string x0) ∧ wr.cell? ⟨w.heap.size + 1, 1, none⟩ = some (.string x1) ∧ wr.cell? ⟨w.heap.size + 1, 2, none⟩ = some (.string x2) ∧ Hid (w.heap.size + 2 ≤ wr.heap.size) ∧ Below w.heap.size w wr ∧ Hid (hasF (l.drop k) (x0, x1, x2) = r)) (fun iv _ => l.length - (intOf iv).toNat)
  case atStart => exact ⟨0, Nat.zero_le _, rfl, z0, y0, y1, y2, HS, HB.out, HR⟩
  case round =>
    clear HB HR HS z0 y0 y1 y2
    obtain ⟨k, hk, rfl, z0, y0, y1, y2, hsize, hbel, HK⟩ := hrel
    by_cases hlt : k < l.length
    · have hlz : (k : Int) < (l.length : Int) := by omega
      obtain ⟨b, o, cap, hv1, hbB, c0, c1, c2⟩ := (hl.below hbel).at_ hlt
      simp only [Value.slice.injEq, true_and] at hv1
      obtain ⟨rfl, rfl⟩ := hv1
      have HDk := Lib.hid (HD.out hlt)
      have hE := HE.out l[k]
      have hF := HF.out l[k]
      generalize l[k] = x at c0 c1 c2 HDk hE hF
      have HBL := Lib.hid hbel
      have HH := Lib.hid hk
      clear hbel hbB hk HE HF HD
      cases he : eqF x (x0, x1, x2)
      · have HK' := Lib.hid ((HDk.out.2 (by rw [he] at hF; exact of_decide_eq_false hF.symm)).symm.trans HK.out)
        rw [he] at hE
        obtain ⟨n', l', t'⟩ := x
        simp only at c0 c1 c2 hE
        clear he hF HDk HK
        go_wp2_with fail
        go_quiet (fail)
        go_wp2_with fail
        go_roundw
        case rel => exact ⟨k + 1, by omega, by go_num, z0, y0, y1, y2, hsize, HBL.out.trans (drewN_below _ _), HK'⟩
        case measure => simp [intOf]; omega
      · obtain rfl : true = r := by rw [← HK.out]; exact (HDk.out.1 (by rw [he] at hF; exact of_decide_eq_true hF.symm)).symm
        rw [he] at hE
        obtain ⟨n', l', t'⟩ := x
        simp only at c0 c1 c2 hE
        clear he hF HDk HK
        go_wp2_with fail
        go_quiet (fail)
        go_wp2_with fail
        go_ret
        exact ⟨rfl, HBL.out.trans (drewN_below _ _)⟩
    · obtain rfl : k = l.length := by omega
      have hlz : ¬ (l.length : Int) < (l.length : Int) := by omega
      obtain rfl : false = r := by rw [← HK.out, List.drop_length]; exact HX.out.symm
      go_wp2_with fail
      go_ret
      exact ⟨rfl, hbel⟩

/-- Two boxes, and a field. -/
structure L1 (w W : World) (v v' : Value) (l m : List Fd) (b o i : Nat) (x : Fd) : Prop where
  lw : Lw w W v v' l m
  c : W.cell? ⟨b, o + i * 3, none⟩ = some (.string x.1) ∧ W.cell? ⟨b, o + i * 3 + 1, none⟩ = some (.string x.2.1) ∧ W.cell? ⟨b, o + i * 3 + 2, none⟩ = some (.string x.2.2)
section
variable {w W W' : World} {v v' : Value} {l m : List Fd} {b o i : Nat} {x : Fd}
theorem L1.below (h : L1 w W v v' l m b o i x) (hb : Below W.heap.size W W') : L1 w W' v v' l m b o i x := by
  have E : ∀ (p : Addr) (u : Value), W.cell? p = some u → W'.cell? p = some u := fun p u hp => (hb.cell (World.block_lt_of_cell? W _ hp)).trans hp
  exact ⟨h.lw.below hb, ⟨E _ _ h.c.1, E _ _ h.c.2.1, E _ _ h.c.2.2⟩⟩
theorem L1.drew (h : L1 w W v v' l m b o i x) : L1 w W.drew v v' l m b o i x := h.below ((Below.refl _ _).drew)
theorem L1.cells (h : L1 w W v v' l m b o i x) : W.cell? ⟨w.heap.size, 0, none⟩ = some v ∧ W.cell? ⟨w.heap.size + 1, 0, none⟩ = some v' ∧ W.cell? ⟨b, o + i * 3, none⟩ = some (.string x.1) ∧ W.cell? ⟨b, o + i * 3 + 1, none⟩ = some (.string x.2.1) ∧ W.cell? ⟨b, o + i * 3 + 2, none⟩ = some (.string x.2.2) :=
  ⟨h.lw.z0, h.lw.z1, h.c.1, h.c.2.1, h.c.2.2⟩
end
/-- Two contacts' boxes. -/
theorem lw_new (w : World) (v v' : Value) (l m : List Fd) (hl : Fs w w.heap.size v l) (hm : Fs w w.heap.size v' m) : Lw w ((w.alloc (.cells #[v] 24)).alloc (.cells #[v'] 24)) v v' l m := by
  have hb := two_boxes w (.cells #[v] 24) (.cells #[v'] 24)
  have hX : ((w.alloc (.cells #[v] 24)).alloc (.cells #[v'] 24)).heap[w.heap.size]? = some (.cells #[v] 24 (0, 0)) :=
    (((Below.refl (w.heap.size + 1) (w.alloc (.cells #[v] 24))).alloc (by simp) _).block _ (by omega)).trans (heap_alloc_new w _)
  have hY := heap_alloc_new (w.alloc (.cells #[v] 24)) (.cells #[v'] 24)
  rw [World.size_alloc] at hY
  have hsz := (Array.getElem?_eq_some_iff.1 hY).1
  exact ⟨cell_of_row _ w.heap.size 0 _ _ _ hX, cell_of_row _ (w.heap.size + 1) 0 _ _ _ hY, hb, hsz, (hl.below hb).up hb.size, (hm.below hb).up hb.size⟩

set_option maxHeartbeats 4000000 in
theorem rchanges_any (v v' : Value) (l m : List Fd) (w : World) (hl : Fs w w.heap.size v l) (hm : Fs w w.heap.size v' m) (hn : l.length ≤ 1000) (hn' : m.length ≤ 1000) :
    Calls Try.prog 12 #[.agg #[v], .agg #[v']] w fun e w' => e = .returned (.int .i64 ((missF l m + missF m l : Nat) : Int)) ∧ Below w.heap.size w w' := by
  obtain ⟨a, c, rfl⟩ := hl.shape
  obtain ⟨a', c', rfl⟩ := hm.shape
  have L0 := lw_new w _ _ _ _ hl hm
  have z0 := L0.z0
  have z1 := L0.z1
  have HL0 := Lib.hid L0
  obtain ⟨r1, hr1⟩ : ∃ r1, missF l m = r1 := ⟨_, rfl⟩
  obtain ⟨r, hr⟩ : ∃ r, r1 + missF m l = r := ⟨_, rfl⟩
  rw [hr1, hr]
  have HA := Lib.hid (show 0 + missF (l.drop 0) m = r1 by rw [List.drop_zero, Nat.zero_add]; exact hr1)
  have HB := Lib.hid (show r1 + missF (m.drop 0) l = r by rw [List.drop_zero]; exact hr)
  have HD : Hid (∀ {k : Nat} (h : k < l.length), (hasF m l[k] = true → missF (l.drop k) m = missF (l.drop (k + 1)) m) ∧ (hasF m l[k] = false → missF (l.drop k) m = missF (l.drop (k + 1)) m + 1)) := Lib.hid (fun h => ⟨missF_yes h, missF_no h⟩)
  have HD' : Hid (∀ {k : Nat} (h : k < m.length), (hasF l m[k] = true → missF (m.drop k) l = missF (m.drop (k + 1)) l) ∧ (hasF l m[k] = false → missF (m.drop k) l = missF (m.drop (k + 1)) l + 1)) := Lib.hid (fun h => ⟨missF_yes h, missF_no h⟩)
  have hr1n : r1 ≤ 1000 := by rw [← hr1]; exact Nat.le_trans (missF_le _ _) hn
  have CI : Hid (∀ (v : Value) (l : List Fd) (x : Fd) (W : World), Fs W W.heap.size v l → l.length ≤ 1000 → Calls Try.prog 14 #[.agg #[v], .agg #[.string x.1, .string x.2.1, .string x.2.2]] W fun e w' => e = .returned (.bool (hasF l x)) ∧ Below W.heap.size W w') := Lib.hid (fun v l x W h hn => rin_any v l x W h hn)
  clear L0 hl hm hr1 hr
  go_enter Try.func12, Try.ntmps12
  go_wp2_with fail
  go_loopw [5, 6] (fun nv iv wr => ∃ k n : Nat, k ≤ l.length ∧ iv = .int .i64 (k : Int) ∧ nv = .int .i64 (n : Int) ∧ n ≤ k ∧ Lw w wr (.slice a l.length c) (.slice a' m.length c') l m ∧ Hid (n + missF (l.drop k) m = r1)) (fun _ iv _ => l.length - (intOf iv).toNat)
  case atStart => exact ⟨0, 0, Nat.zero_le _, rfl, rfl, Nat.le_refl _, HL0.out, HA⟩
  case round =>
    clear HL0 HA z0 z1
    obtain ⟨k, n, hk, rfl, rfl, hnk, hlw, HK⟩ := hrel
    by_cases hlt : k < l.length
    · have hlz : (k : Int) < (l.length : Int) := by omega
      obtain ⟨b, o, cap, hv1, hbB, c0⟩ := hlw.l.at_ hlt
      simp only [Value.slice.injEq, true_and] at hv1
      obtain ⟨rfl, rfl⟩ := hv1
      have HDk := Lib.hid (HD.out hlt)
      generalize l[k] = x at c0 HDk
      have h1 : L1 w wr (.slice (some ⟨b, o, none⟩) l.length c) (.slice a' m.length c') l m b o k x := ⟨hlw, c0⟩
      have h1d := h1.drew
      obtain ⟨z0, z1, q0, q1, q2⟩ := h1.cells
      have CIx : Hid (∀ W, Fs W W.heap.size (.slice a' m.length c') m → Calls Try.prog 14 #[.agg #[.slice a' m.length c'], .agg #[.string x.1, .string x.2.1, .string x.2.2]] W fun e w' => e = .returned (.bool (hasF m x)) ∧ Below W.heap.size W w') := Lib.hid (fun W h => CI.out _ m x W h hn')
      generalize hasF m x = g at CIx HDk
      cases g
      · have HK' := Lib.hid (show n + 1 + missF (l.drop (k + 1)) m = r1 by rw [← HK.out, HDk.out.2 rfl]; omega)
        obtain ⟨x0, x1, x2⟩ := x
        simp only at q0 q1 q2 CIx
        clear hlw c0 hbB HDk HK CI HD HD' HB
        go_wp2_with fail
        go_region_held3 (fun W => W.cell? ⟨w.heap.size, 0, none⟩ = some (.slice (some ⟨b, o, none⟩) l.length c) ∧ W.cell? ⟨w.heap.size + 1, 0, none⟩ = some (.slice a' m.length c') ∧ W.cell? ⟨b, o + k * 3, none⟩ = some (.string x0) ∧ W.cell? ⟨b, o + k * 3 + 1, none⟩ = some (.string x1) ∧ W.cell? ⟨b, o + k * 3 + 2, none⟩ = some (.string x2)) (exact L1.cells (w := w) (l := l) (m := m) (x := (x0, x1, x2)) (by assumption)) (first | (go_at_call 14; (with_reducible refine (CIx.out _ (Lw.m (w := w) (v := .slice (some ⟨b, o, none⟩) l.length c) (l := l) (L1.lw (b := b) (o := o) (i := k) (x := (x0, x1, x2)) (by assumption)))).mono ?_); rintro e w5 ⟨rfl, b5⟩; have L5 := L1.below (w := w) (v := .slice (some ⟨b, o, none⟩) l.length c) (v' := .slice a' m.length c') (l := l) (m := m) (b := b) (o := o) (i := k) (x := (x0, x1, x2)) (by assumption) b5))
        all_goals go_wp2_with fail
        all_goals go_roundw
        all_goals (first | exact ⟨k + 1, n + 1, by omega, by go_num, by go_num, by omega, L1.lw (by assumption), HK'⟩ | (simp [intOf] <;> omega))
      · have HK' := Lib.hid (show n + missF (l.drop (k + 1)) m = r1 by rw [← HK.out, HDk.out.1 rfl])
        obtain ⟨x0, x1, x2⟩ := x
        simp only at q0 q1 q2 CIx
        clear hlw c0 hbB HDk HK CI HD HD' HB
        go_wp2_with fail
        go_region_held3 (fun W => W.cell? ⟨w.heap.size, 0, none⟩ = some (.slice (some ⟨b, o, none⟩) l.length c) ∧ W.cell? ⟨w.heap.size + 1, 0, none⟩ = some (.slice a' m.length c') ∧ W.cell? ⟨b, o + k * 3, none⟩ = some (.string x0) ∧ W.cell? ⟨b, o + k * 3 + 1, none⟩ = some (.string x1) ∧ W.cell? ⟨b, o + k * 3 + 2, none⟩ = some (.string x2)) (exact L1.cells (w := w) (l := l) (m := m) (x := (x0, x1, x2)) (by assumption)) (first | (go_at_call 14; (with_reducible refine (CIx.out _ (Lw.m (w := w) (v := .slice (some ⟨b, o, none⟩) l.length c) (l := l) (L1.lw (b := b) (o := o) (i := k) (x := (x0, x1, x2)) (by assumption)))).mono ?_); rintro e w5 ⟨rfl, b5⟩; have L5 := L1.below (w := w) (v := .slice (some ⟨b, o, none⟩) l.length c) (v' := .slice a' m.length c') (l := l) (m := m) (b := b) (o := o) (i := k) (x := (x0, x1, x2)) (by assumption) b5))
        all_goals go_wp2_with fail
        all_goals go_roundw
        all_goals (first | exact ⟨k + 1, n, by omega, by go_num, rfl, by omega, L1.lw (by assumption), HK'⟩ | (simp [intOf] <;> omega))
    · obtain rfl : k = l.length := by omega
      have hlz : ¬ (l.length : Int) < (l.length : Int) := by omega
      have hn1 : n = r1 := by have h := HK.out; rw [List.drop_length, missF_nil] at h; omega
      subst hn1
      have z0 := hlw.z0
      have z1 := hlw.z1
      have HLW := Lib.hid hlw
      clear hlw HK hk hlt hnk
      go_wp2_with fail
      go_loopw [5, 7] (fun nv iv wr => ∃ k n' : Nat, k ≤ m.length ∧ iv = .int .i64 (k : Int) ∧ nv = .int .i64 (n' : Int) ∧ n' ≤ n + k ∧ Lw w wr (.slice a l.length c) (.slice a' m.length c') l m ∧ Hid (n' + missF (m.drop k) l = r)) (fun _ iv _ => m.length - (intOf iv).toNat)
      case atStart => exact ⟨0, n, Nat.zero_le _, rfl, rfl, Nat.le_refl _, HLW.out, HB⟩
      case round =>
        clear HLW HB z0 z1 hlz
        obtain ⟨k, n', hk, rfl, rfl, hnk, hlw, HK⟩ := hrel
        by_cases hlt : k < m.length
        · have hlz : (k : Int) < (m.length : Int) := by omega
          obtain ⟨b, o, cap, hv1, hbB, c0⟩ := hlw.m.at_ hlt
          simp only [Value.slice.injEq, true_and] at hv1
          obtain ⟨rfl, rfl⟩ := hv1
          have HDk := Lib.hid (HD'.out hlt)
          generalize m[k] = x at c0 HDk
          have h1 : L1 w wr (.slice a l.length c) (.slice (some ⟨b, o, none⟩) m.length c') l m b o k x := ⟨hlw, c0⟩
          have h1d := h1.drew
          obtain ⟨z0, z1, q0, q1, q2⟩ := h1.cells
          have CIx : Hid (∀ W, Fs W W.heap.size (.slice a l.length c) l → Calls Try.prog 14 #[.agg #[.slice a l.length c], .agg #[.string x.1, .string x.2.1, .string x.2.2]] W fun e w' => e = .returned (.bool (hasF l x)) ∧ Below W.heap.size W w') := Lib.hid (fun W h => CI.out _ l x W h hn)
          generalize hasF l x = g at CIx HDk
          cases g
          · have HK' := Lib.hid (show n' + 1 + missF (m.drop (k + 1)) l = r by rw [← HK.out, HDk.out.2 rfl]; omega)
            obtain ⟨x0, x1, x2⟩ := x
            simp only at q0 q1 q2 CIx
            clear hlw c0 hbB HDk HK CI HD HD'
            go_wp2_with fail
            go_region_held3 (fun W => W.cell? ⟨w.heap.size, 0, none⟩ = some (.slice a l.length c) ∧ W.cell? ⟨w.heap.size + 1, 0, none⟩ = some (.slice (some ⟨b, o, none⟩) m.length c') ∧ W.cell? ⟨b, o + k * 3, none⟩ = some (.string x0) ∧ W.cell? ⟨b, o + k * 3 + 1, none⟩ = some (.string x1) ∧ W.cell? ⟨b, o + k * 3 + 2, none⟩ = some (.string x2)) (exact L1.cells (w := w) (l := l) (m := m) (x := (x0, x1, x2)) (by assumption)) (first | (go_at_call 14; (with_reducible refine (CIx.out _ (Lw.l (w := w) (v' := .slice (some ⟨b, o, none⟩) m.length c') (m := m) (L1.lw (b := b) (o := o) (i := k) (x := (x0, x1, x2)) (by assumption)))).mono ?_); rintro e w5 ⟨rfl, b5⟩; have L5 := L1.below (w := w) (v := .slice a l.length c) (v' := .slice (some ⟨b, o, none⟩) m.length c') (l := l) (m := m) (b := b) (o := o) (i := k) (x := (x0, x1, x2)) (by assumption) b5))
            all_goals go_wp2_with fail
            all_goals go_roundw
            all_goals (first | exact ⟨k + 1, n' + 1, by omega, by go_num, by go_num, by omega, L1.lw (by assumption), HK'⟩ | (simp [intOf] <;> omega))
          · have HK' := Lib.hid (show n' + missF (m.drop (k + 1)) l = r by rw [← HK.out, HDk.out.1 rfl])
            obtain ⟨x0, x1, x2⟩ := x
            simp only at q0 q1 q2 CIx
            clear hlw c0 hbB HDk HK CI HD HD'
            go_wp2_with fail
            go_region_held3 (fun W => W.cell? ⟨w.heap.size, 0, none⟩ = some (.slice a l.length c) ∧ W.cell? ⟨w.heap.size + 1, 0, none⟩ = some (.slice (some ⟨b, o, none⟩) m.length c') ∧ W.cell? ⟨b, o + k * 3, none⟩ = some (.string x0) ∧ W.cell? ⟨b, o + k * 3 + 1, none⟩ = some (.string x1) ∧ W.cell? ⟨b, o + k * 3 + 2, none⟩ = some (.string x2)) (exact L1.cells (w := w) (l := l) (m := m) (x := (x0, x1, x2)) (by assumption)) (first | (go_at_call 14; (with_reducible refine (CIx.out _ (Lw.l (w := w) (v' := .slice (some ⟨b, o, none⟩) m.length c') (m := m) (L1.lw (b := b) (o := o) (i := k) (x := (x0, x1, x2)) (by assumption)))).mono ?_); rintro e w5 ⟨rfl, b5⟩; have L5 := L1.below (w := w) (v := .slice a l.length c) (v' := .slice (some ⟨b, o, none⟩) m.length c') (l := l) (m := m) (b := b) (o := o) (i := k) (x := (x0, x1, x2)) (by assumption) b5))
            all_goals go_wp2_with fail
            all_goals go_roundw
            all_goals (first | exact ⟨k + 1, n', by omega, by go_num, rfl, by omega, L1.lw (by assumption), HK'⟩ | (simp [intOf] <;> omega))
        · obtain rfl : k = m.length := by omega
          have hlz : ¬ (m.length : Int) < (m.length : Int) := by omega
          obtain rfl : n' = r := by have h := HK.out; rw [List.drop_length, missF_nil] at h; omega
          have z1 := hlw.z1
          have HLW := Lib.hid hlw.b
          clear hlw HK
          go_wp2_with fail
          go_ret
          exact ⟨rfl, HLW.out⟩
end Go.Proofs.Ytfghodakdnhleaa.Ct
