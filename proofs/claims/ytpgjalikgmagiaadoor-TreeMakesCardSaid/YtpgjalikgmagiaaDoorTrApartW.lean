/-
apart copies a list of elements. Conditions: as in TrApart.
-/
import Derived.Test.YtpgjalikgmagiaaDoorTrApart
import Derived.Deep.RegionHeld3
namespace Go.Proofs.YtpgjalikgmagiaaDoor.Tr
set_option maxRecDepth 100000
open Go.RowKit Sq

/-- What a copy is. -/
def CopyIs (w : World) (l : List Iv) (e : Ending) (w' : World) : Prop := ∃ v' l' g, e = .returned v' ∧ w.heap.size ≤ g ∧ (∀ W', Stays (fun k => k = g) w' W' → Lst W' W'.heap.size v' l') ∧ l'.map (·.1) = l.map (·.1) ∧ Below w.heap.size w w'
theorem run_mk (N : Nat) (hN : N ≤ 3000) : ∃ cs : Array Value, cs.size = N * 5 ∧ ∀ W, (Instr.makeSlice 22 (.int .i64 0) (.int .i64 (N : Int))).run Tryd.prog W = .ok (.slice (some ⟨W.heap.size, 0, none⟩) 0 N) (W.alloc (.cells cs 24)) := by
  obtain ⟨i0, hi, hz0, hz1, hz2⟩ := info_parts infoEl
  refine ⟨madeCells (Value.agg #[.int .i64 0, .string .empty, .string .empty, .bool false, .slice none 0 0]).cells (N * 5), size_madeCells _ _, fun W => ?_⟩
  have h := run_make (P := Tryd.prog) W 22 24 i0 _ Tryd.underlying22 hi hz0 .i64 .i64 0 N (Int.le_refl _) (by omega) (by rw [hz2]; omega) (by omega)
  rw [hz1] at h
  simp only [Int.toNat_zero, Int.toNat_natCast] at h
  exact h

theorem Lst.stays {w w' : World} {B : Nat} {v : Value} {l : List Iv} (h : Lst w B v l) (hb : Below B w w') : Lst w' B v l := by
  obtain ⟨a, c, rfl, hm, h⟩ := h
  refine ⟨a, c, rfl, hm, fun j hj => ?_⟩
  obtain ⟨b, o, e, hB, c0, c1, c2, c3, c4, hok⟩ := h j hj
  exact ⟨b, o, e, hB, (hb.cell (p := ⟨b, o + j * 5, none⟩) hB).trans c0, (hb.cell (p := ⟨b, o + j * 5 + 1, none⟩) hB).trans c1, (hb.cell (p := ⟨b, o + j * 5 + 2, none⟩) hB).trans c2, (hb.cell (p := ⟨b, o + j * 5 + 3, none⟩) hB).trans c3, (hb.cell (p := ⟨b, o + j * 5 + 4, none⟩) hB).trans c4, hok.stays hb⟩
/-- What put does. -/
def PutIs (rb base g cap : Nat) (R K : List Iv) (W : World) (e : Ending) (W' : World) : Prop := ∃ v', e = .returned v' ∧ VOf v' g R.length K.length ∧ Boxed W' rb 22 (.slice (some ⟨g, 0, none⟩) (R ++ K).length cap) ∧ Es W' base g cap (R ++ K) ∧ Stays (fun k => k < W.heap.size ∧ k ≠ rb ∧ k ≠ g) W W'
theorem Cp.close {w wr w9 : World} {rb g N i : Nat} {R K l : List Iv} {e : El} {kv v9 : Value} (h : Cp w wr rb g N i R l) (hi : i < R.length) (he : R[i] = (e, kv)) (hK : kidsV w (e, kv) = K) (hv : VOf v9 g R.length K.length) (hb : Below w.heap.size w w9)
    (hbx : Boxed w9 rb 22 (.slice (some ⟨g, 0, none⟩) (R ++ K).length N)) (hr : Es w9 w.heap.size g N (R ++ K)) (hne : rb ≠ g) : Cp w (w9.setCell ⟨g, i * 5 + 4, none⟩ v9) rb g N (i + 1) ((R ++ K).set i (e, v9)) l := by
  have hg := hr.parts.1
  have hgr := (World.ownsRow.stored hr (i * 5 + 4) v9).2
  have hst := hr.store (i := i) (by rw [List.length_append]; omega) v9
  have h1 : (R ++ K)[i]'(by rw [List.length_append]; omega) = (e, kv) := by rw [List.getElem_append_left hi, he]
  rw [h1] at hst
  exact h.step hi he hK (nw_of hi e v9) hv (hb.grown hgr hb.size (fun k e => by cases e; exact hg)) (hbx.kept hgr (by simp; exact fun e => hne e)) hst
set_option maxHeartbeats 4000000 in
theorem apart_any (l : List Iv) (lv : Value) (w : World) (hl : Lst w w.heap.size lv l) (hh : ∀ x ∈ l, Ht 50 x.1) (hN : sumc l ≤ 3000) :
    Calls Tryd.prog 36 #[lv] w (CopyIs w l) := by
  have C := Lib.hid (weigh_any l lv 262144 w hl hh hN (by decide) (by decide))
  obtain ⟨a, c, rfl⟩ := hl.len
  have hll : l.length ≤ sumc l := sumc_len l
  obtain ⟨N, hNe⟩ : ∃ N, sumc l = N := ⟨_, rfl⟩
  rw [hNe] at C hN hll
  obtain ⟨cs, hcs, hmk⟩ := run_mk N hN
  have HMK := hmk
  have HL := Lib.hid (And.intro hl (And.intro hh (And.intro hNe (And.intro hcs (And.intro hll hN)))))
  clear hl hh hNe hcs hmk
  go_enter Tryd.func36, Tryd.ntmps36
  go_wp2_with (go_at_call 21; refine C.out.mono ?_; rintro e w1 ⟨rfl, b1⟩)
  obtain ⟨hl, hh, hNe, hcs, -, -⟩ := HL.out
  obtain ⟨V1, hV1⟩ : ∃ V1, w1.alloc (.cells cs 24) = V1 := ⟨_, rfl⟩
  obtain ⟨V2, hV2⟩ : ∃ V2, V1.alloc (.cells #[.slice (some ⟨w1.heap.size, 0, none⟩) 0 N] 22) = V2 := ⟨_, rfl⟩
  have hwz := b1.size
  have z1 : V1.heap.size = w1.heap.size + 1 := by rw [← hV1, World.size_alloc]
  have hB2 : Below w.heap.size w V2 := by rw [← hV2, ← hV1]; exact (b1.alloc (by omega) _).alloc (by simp; omega) _
  have hr1 : Es V1 w.heap.size w1.heap.size N [] := by
    have h := World.ownsRow_made (e := 24) (size := 5) w1 cs N (base := w.heap.size) hwz (by unfold maxLen; omega) hcs
    rw [hV1] at h
    exact h
  have hr2 : Es V2 w.heap.size w1.heap.size N [] := by rw [← hV2]; exact World.ownsRow.alloc hr1 _
  have hbx2 : Boxed V2 (w1.heap.size + 1) 22 (.slice (some ⟨w1.heap.size, 0, none⟩) ([] : List Iv).length N) := by
    have h := Boxed.new V1 22 (.slice (some ⟨w1.heap.size, 0, none⟩) 0 N)
    rw [hV2, z1] at h
    exact h
  have CP := put_any (w1.heap.size + 1) w.heap.size w.heap.size w1.heap.size N [] l (.slice a l.length c) V2 (hl.stays hB2) hbx2 hr2 (by simp; omega) (by omega)
  obtain ⟨g, hg⟩ : ∃ g, w1.heap.size = g := ⟨_, rfl⟩
  have hz2 : V2.heap.size = g + 2 := by rw [← hV2, World.size_alloc, z1, hg]
  rw [hg] at CP hwz hV2 ⊢
  rw [hV1, hV2]
  simp only [List.nil_append, List.length_nil] at CP
  refine CP.mono ?_
  rintro e w2 ⟨v', rfl, hv, hbx, hrow, hS⟩
  have hBw2 : Below w.heap.size w w2 := hB2.trans (hS.below fun k hk => ⟨by omega, by omega, by omega⟩)
  have hcp := cp_start hl hh hBw2 hbx hrow (by omega) hNe
  obtain ⟨⟨va, vc, rfl⟩, hv2⟩ := id hv
  have HV := Lib.hid hv
  have HCP := Lib.hid hcp
  have HMX : Hid (l.length ≤ maxLen) := Lib.hid (by unfold maxLen; omega)
  clear CP hv hv2 hcp hbx hrow hS hBw2 hB2 hr1 hr2 hbx2 hl hh hNe hcs z1 hz2 hV1 hV2 b1 HMK C HL
  go_wp2_with fail
  go_loopw [6] (fun iv wr => ∃ (i : Nat) (R : List Iv), iv = .int .i64 (i : Int) ∧ i ≤ R.length ∧ Cp w wr (g + 1) g N i R l) (fun iv _ => N - (intOf iv).toNat)
  case atStart => exact ⟨0, l, rfl, Nat.zero_le _, HCP.out⟩
  case round =>
    clear HCP
    obtain ⟨i, R, rfl, hi, hcp⟩ := hrel
    have hRN : R.length ≤ N := hcp.row.parts.2.2.1
    have hcx := hcp.box.cell
    by_cases hlt : i < R.length
    · have hltz : (i : Int) < (R.length : Int) := by omega
      obtain ⟨-, -, -, -, c4⟩ := hcp.row.at_ hlt
      have hok := hcp.todo i hlt (Nat.le_refl _)
      have hroom := hcp.room hlt
      obtain ⟨⟨e, kv⟩, hxe⟩ : ∃ x, R[i] = x := ⟨_, rfl⟩
      rw [hxe] at c4 hok hroom
      obtain ⟨ka, kc, hkv⟩ := hok.len
      simp only at hkv c4
      subst hkv
      obtain ⟨K, hK⟩ : ∃ K, kidsV w (e, .slice ka e.kids.length kc) = K := ⟨_, rfl⟩
      have hlst := hok.lst
      rw [hK] at hlst hroom
      have CPW := Lib.hid (fun (W : World) (h : Below wr.heap.size wr W) => show Calls Tryd.prog 42 #[.slice ka e.kids.length kc, .pointer (some ⟨g + 1, 0, none⟩)] W (PutIs (g + 1) w.heap.size g N R K W) from
        put_any (g + 1) w.heap.size w.heap.size g N R K _ W (hlst.stays (hcp.b.trans (h.mono hcp.b.size))) ((h.block _ hcp.box.lt).trans hcp.box) (hcp.row.stays (Stays.of_below h fun k hk => hk) hcp.row.parts.2.1) hroom.1 (by omega))
      have HCP := Lib.hid (And.intro hcp (And.intro hxe (And.intro hK hlt)))
      have hbd : Below wr.heap.size wr wr.drew := (Below.refl _ _).drew
      have hbr : Below wr.heap.size wr wr := Below.refl _ _
      have hRK : (i : Int) < ((R ++ K).length : Int) := by rw [List.length_append]; omega
      clear hcp hok hlst hroom hK
      unfold PutIs at CPW
      go_wp2_with fail
      have hlen9 : i < (R ++ K).length := by rw [List.length_append]; omega
      go_region_with (go_at_call 42; (with_reducible refine (CPW.out _ (by first | exact hbd | exact hbr)).mono ?_); rintro en w9 ⟨v9, rfl, hv9, hbx9, hrow9, hS9⟩; obtain ⟨⟨va9, vc9, rfl⟩, hv92⟩ := id hv9; have x9 := hbx9.cell; have y9 := (hrow9.at_ hlen9).2.2.2.2; have f9 := hrow9.frozen (i * 5 + 4))
      all_goals go_wp2_with fail
      all_goals go_roundw
      all_goals (first
        | (refine ⟨i + 1, (R ++ K).set i (e, .slice va9 K.length vc9), by go_num, by rw [List.length_set, List.length_append]; omega, ?_⟩
           exact Cp.close HCP.out.1 HCP.out.2.2.2 HCP.out.2.1 HCP.out.2.2.1 hv9 (HCP.out.1.b.drew.trans (hS9.below fun k hk => ⟨by have := HCP.out.1.b.size; show k < wr.heap.size; omega, by omega, by omega⟩)) hbx9 hrow9 (by omega))
        | (simp [intOf] <;> omega))
    · obtain rfl : i = R.length := by omega
      have hltz : ¬ (R.length : Int) < (R.length : Int) := by omega
      have HEND := Lib.hid (And.intro (hcp.end_ HV.out HMX.out) hcp.b)
      clear hcp
      go_wp2_with fail
      go_ret
      obtain ⟨⟨l', h2, h1⟩, h3⟩ := HEND.out
      exact ⟨_, l', g, rfl, hwz, h1, h2, h3⟩
end Go.Proofs.YtpgjalikgmagiaaDoor.Tr
