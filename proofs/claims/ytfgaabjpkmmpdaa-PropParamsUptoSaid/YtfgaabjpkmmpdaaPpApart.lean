/-
prop.canBeApart answers true where what is within the property is of a weight that is not too great. Conditions: that weight is at most 2^20.
-/
import Derived.Test.YtfgaabjpkmmpdaaPpPTree
import Derived.Deep.LoopGhost
import Derived.RangeFuncBox
namespace Go.Proofs.Ytfgaabjpkmmpdaa.Pp
open Go.RowKit

/-- Pointers in a row of the call's own. -/
def Ptrs (w : World) (base : Nat) (v : Value) (l : List Addr) : Prop := w.ownsRow base 49 1 v l.length (l.map fun a => .pointer (some a))
theorem infoPtr : (Try.prog.info? 49).map (fun i => (i.zero, i.size, i.bytes)) = some (some (.pointer none), 1, 8) := by kernel_rfl
theorem Ptrs.one (w : World) (a : Addr) : Ptrs (w.alloc (.cells #[.pointer (some a)] 49)) w.heap.size (.slice (some ⟨w.heap.size, 0, none⟩) 1 1) [a] := by
  refine ⟨by simp, .inr ⟨w.heap.size, 1, #[.pointer (some a)], rfl, Nat.le_refl _, heap_alloc_new w _, by simp, by decide, by simp, by simp⟩⟩
/-- Where they lie, and the last of them. -/
theorem Ptrs.last {w : World} {base : Nat} {v : Value} {l : List Addr} {a : Addr} (h : Ptrs w base v (l ++ [a])) :
    ∃ g cap, v = .slice (some ⟨g, 0, none⟩) (l.length + 1) cap ∧ base ≤ g ∧ g < w.heap.size ∧ l.length + 1 ≤ cap ∧ w.cell? ⟨g, l.length, none⟩ = some (.pointer (some a)) ∧ Ptrs w base (.slice (some ⟨g, 0, none⟩) l.length cap) l := by
  obtain ⟨h0, ⟨_, hn⟩ | ⟨g, cap, cur, rfl, hb, hh, h1, h2, h3, ht⟩⟩ := h
  · simp at hn
  · simp only [List.length_append, List.length_singleton, Nat.mul_one] at ht h1
    refine ⟨g, cap, by simp, hb, (Array.getElem?_eq_some_iff.1 hh).1, h1, ?_, by simp, .inr ⟨g, cap, cur, rfl, hb, hh, by omega, h2, h3, ?_⟩⟩
    · have : (cur.toList.take (l.length + 1))[l.length]? = some (.pointer (some a)) := by rw [ht]; simp
      rw [List.getElem?_take_of_lt (by omega)] at this
      have hc : cur[l.length]? = some (.pointer (some a)) := by simpa using this
      exact cellCur hh hc
    · rw [Nat.mul_one]
      have := congrArg (List.take l.length) ht
      rw [List.take_take, Nat.min_eq_left (by omega)] at this
      rw [this]; simp
theorem Ptrs.nil_of {w : World} {base : Nat} {v : Value} (h : Ptrs w base v []) : ∃ a cap, v = .slice a 0 cap := by
  obtain ⟨_, ⟨rfl, _⟩ | ⟨g, cap, cur, rfl, _⟩⟩ := h
  · exact ⟨none, 0, rfl⟩
  · exact ⟨_, cap, rfl⟩
theorem Ptrs.snoc {w : World} {base : Nat} {v : Value} {l : List Addr} {a : Addr} (h : w.ownsRow base 49 1 v (l.length + 1) ((l.map fun a => Value.pointer (some a)) ++ [.pointer (some a)])) : Ptrs w base v (l ++ [a]) := by
  unfold Ptrs; rw [List.length_append, List.map_append]; exact h
theorem Ptrs.below {w w' : World} {base : Nat} {v : Value} {l : List Addr} (h : Ptrs w base v l) (hb : Below w.heap.size w w') : Ptrs w' base v l := by
  obtain ⟨h0, h⟩ := h
  refine ⟨h0, ?_⟩
  rcases h with h | ⟨g, cap, cur, h1, h2, h3, h4⟩
  · exact .inl h
  · exact .inr ⟨g, cap, cur, h1, h2, (hb.block g (Array.getElem?_eq_some_iff.1 h3).1).trans h3, h4⟩
theorem snoc_of {α : Type} {l : List α} (h : l ≠ []) : ∃ em p, l = em ++ [p] := ⟨l.dropLast, l.getLast h, (List.dropLast_concat_getLast h).symm⟩

theorem cell_spot {w : World} {a : Addr} {v : Value} (h : w.cell? a = some v) : a = ⟨a.block, a.off, none⟩ := by
  obtain ⟨b, o, sp⟩ := a
  cases sp with
  | none => rfl
  | some x =>
    unfold World.cell? at h
    dsimp only at h
    split at h <;> simp at h
/-- A property that is still to be gone through: where it lies, and the weight of its cards. -/
def ER (w : World) (e : Addr × Nat) : Prop := ∃ k bv b o, e.1 = ⟨b, o, none⟩ ∧ w.cell? ⟨b, o + 4, none⟩ = some bv ∧ AgW w w.heap.size k e.2 bv ∧ 1 ≤ e.2
theorem CaW.pos {w : World} {B : Nat} {A : Nat → Value → Prop} {t : Nat} {sv : Value} (h : CaW w B A t sv) : 1 ≤ t := by obtain ⟨_, _, us, _, h1, _⟩ := h; omega
theorem AgW.pos {w : World} {B k t m : Nat} {a : Option Addr} {c : Nat} (h : AgW w B k t (.slice a m c)) (hm : 0 < m) : 1 ≤ t := by
  cases k with
  | zero => exact h.elim
  | succ k =>
    obtain ⟨aa, ac, ts, he, h1, h2, h3⟩ := h
    cases he
    cases a with
    | none => rw [h2 rfl] at hm; simp at hm
    | some ad =>
      obtain ⟨sv, _, hc⟩ := (h3 ad rfl).2 0 hm
      have := le_sum hm
      have := hc.pos
      omega
/-- What is left, and how many have been counted. -/
structure Ap (w W : World) (T : Nat) (c : Nat) (lv : Value) (ls : List (Addr × Nat)) (more : Nat) : Prop where
  b : Below w.heap.size w W
  row : Ptrs W w.heap.size lv (ls.map (·.1))
  er : ∀ e ∈ ls, ER w e
  sum : c + (ls.map (·.2)).sum + more ≤ T
theorem Ap.len {w W : World} {T c more : Nat} {lv : Value} {ls : List (Addr × Nat)} (h : Ap w W T c lv ls more) : ls.length ≤ T := by
  have h1 := len_sum (l := ls.map (·.2)) (fun i hi => by
    rw [List.getElem_map]
    obtain ⟨_, _, _, _, _, _, _, h1⟩ := h.er _ (List.getElem_mem (by simpa using hi))
    exact h1)
  have := h.sum
  rw [List.length_map] at h1
  omega
theorem Ap.below {w W W' : World} {T c more : Nat} {lv : Value} {ls : List (Addr × Nat)} (h : Ap w W T c lv ls more) (hb : Below W.heap.size W W') : Ap w W' T c lv ls more :=
  ⟨h.b.trans (hb.mono h.b.size), h.row.below hb, h.er, h.sum⟩
theorem Ap.count {w W : World} {T c c' more more' : Nat} {lv : Value} {ls : List (Addr × Nat)} (h : Ap w W T c lv ls more) (hc : c' + more' ≤ c + more) : Ap w W T c' lv ls more' :=
  ⟨h.b, h.row, h.er, by have := h.sum; omega⟩

set_option maxRecDepth 100000 in
set_option maxHeartbeats 4000000 in
theorem apart_any (a0 : Addr) (s0 : Nat) (w : World) (h0 : ER w (a0, s0)) (hs0 : s0 ≤ 1048577) :
    Calls Try.prog 33 #[.pointer (some a0)] w fun e w' => e = .returned (.bool true) ∧ Below w.heap.size w w' := by
  obtain ⟨i0, hi, hz0, hz1, hz2⟩ := info_parts infoPtr
  have HS := Lib.hid hs0
  have hA0 : Ap w (w.alloc (.cells #[.pointer (some a0)] 49)) s0 0 (.slice (some ⟨w.heap.size, 0, none⟩) 1 1) [(a0, s0)] 0 :=
    ⟨(Below.refl _ _).alloc (Nat.le_refl _) _, Ptrs.one w a0, fun e he => by rw [List.mem_singleton] at he; rw [he]; exact h0, by simp⟩
  have HA0 := Lib.hid hA0
  clear h0 hA0 hs0
  go_enter Try.func33, Try.ntmps33
  go_wp2_with fail
  go_loopg [3, 4] (s0 + 1) (fun gk cv lv wr => ∃ (c : Nat) (ls : List (Addr × Nat)), cv = .int .i64 (c : Int) ∧ Ap w wr s0 c lv ls 0 ∧ gk = (ls.map (·.2)).sum + ls.length)
  case atStart => exact ⟨0, _, rfl, HA0.out, rfl⟩
  case round =>
    obtain ⟨c, ls, rfl, hA, hgk⟩ := hrel
    have hlen := hA.len
    have hsum := hA.sum
    by_cases hls : ls = []
    · subst hls
      obtain ⟨la, lc, rfl⟩ := Ptrs.nil_of hA.row
      have HB := Lib.hid hA.b
      clear hA hgk
      go_wp2_with fail
      go_ret
      exact ⟨rfl, HB.out⟩
    · obtain ⟨l0, ⟨a, s⟩, rfl⟩ := snoc_of hls
      have hrow := hA.row
      rw [List.map_append] at hrow
      obtain ⟨g, cap, rfl, hg1, hg2, hcap, hcl, hrow0⟩ := Ptrs.last hrow
      obtain ⟨k, bv, ab, ao, rfl, hbv, hag, hs1⟩ : ∃ k bv b o, a = ⟨b, o, none⟩ ∧ _ := hA.er (a, s) (by simp)
      cases k with
      | zero => exact hag.elim
      | succ k =>
      obtain ⟨aa, ac, ts, rfl, hts, haa, had⟩ := hag
      have hbv1 : wr.cell? ⟨ab, ao + 4, none⟩ = some (.slice aa ts.length ac) := (hA.b.cell (World.block_lt_of_cell? w _ hbv)).trans hbv
      have hA1 : Ap w wr s0 c (.slice (some ⟨g, 0, none⟩) l0.length cap) l0 ts.sum :=
        ⟨hA.b, by rw [List.length_map] at hrow0; exact hrow0, fun e he => hA.er e (by simp [he]), by have := hA.sum; simp at this; omega⟩
      have hgk1 : (l0.map (·.2)).sum + l0.length + ts.sum + 1 ≤ gk := by rw [hgk]; simp at hts ⊢; omega
      have hll : l0.length ≤ 1048577 := by have := hA1.len; have := HS.out; omega
      simp only [List.length_map] at hcl hcap
      have hcapz : (l0.length : Int) ≤ (cap : Int) := by omega
      have HA1 := Lib.hid hA1
      have HG := Lib.hid hgk1
      have HAA := Lib.hid haa
      have HAD := Lib.hid had
      have HTS : Hid (ts.length ≤ 1048577) := Lib.hid (by
        cases aa with
        | none => rw [haa rfl]; simp
        | some ad => have := len_sum (l := ts) (fun i hi => by obtain ⟨sv, _, hc⟩ := (had ad rfl).2 i hi; exact hc.pos); have := HS.out; have := hA.sum; simp at this hts; omega)
      clear hA hgk hlen hsum hrow hrow0 hbv hts haa had hA1 hgk1 hls hs1 hcap hg1 hg2
      rw [List.length_map]
      go_wp2_with fail
      go_loopw [3, 4, 31] (fun cv lv iv wr => ∃ (c i : Nat) (ls : List (Addr × Nat)), cv = .int .i64 (c : Int) ∧ iv = .int .i64 (i : Int) ∧ i ≤ ts.length ∧ Ap w wr s0 c lv ls (ts.drop i).sum ∧ Hid ((ls.map (·.2)).sum + ls.length + (ts.drop i).sum + 1 ≤ gk)) (fun _ _ iv _ => ts.length - (intOf iv).toNat)
      case atStart => exact ⟨c, 0, l0, rfl, rfl, Nat.zero_le _, by rw [List.drop_zero]; exact HA1.out, by rw [List.drop_zero]; exact HG⟩
      case round =>
        obtain ⟨c, i, ls, rfl, rfl, hil, hA, hG⟩ := hrel
        by_cases hlt : i < ts.length
        · obtain ⟨ad, rfl⟩ : ∃ ad, aa = some ad := by
            cases aa with
            | none => rw [HAA.out rfl] at hlt; simp at hlt
            | some ad => exact ⟨ad, rfl⟩
          obtain ⟨sv, hsv, hca⟩ := (HAD.out ad rfl).2 i hlt
          obtain ⟨sv0, hsv0, _⟩ := (HAD.out ad rfl).2 0 (by omega)
          obtain ⟨cb, co, rfl⟩ : ∃ b o, ad = ⟨b, o, none⟩ := ⟨_, _, cell_spot (a := ad) (by simpa [Addr.add] using hsv0)⟩
          rw [Lib.addr_add] at hsv
          obtain ⟨pa, pc, us, rfl, hus, hpa, hpd⟩ := hca
          have hsv1 := (hA.b.cell (World.block_lt_of_cell? w _ hsv)).trans hsv
          have hds := drop_sum hlt
          have hlen : us.length + 1 ≤ ts[i] := by
            obtain ⟨_, _, _, e, h⟩ := CaW.len (t := ts[i]) (sv := .slice pa us.length pc) ⟨pa, pc, us, rfl, hus, hpa, hpd⟩
            cases e; exact h
          have hA1 : Ap w wr (s0 + us.length) (c + (1 + us.length)) u4 ls (us.sum + (ts.drop (i + 1)).sum) := ⟨hA.b, hA.row, hA.er, by have := hA.sum; omega⟩
          have hc20 : c + (1 + us.length) ≤ 1048577 := by have := hA.sum; have := HS.out; omega
          have hcz : ¬ (16777216 : Int) < (c : Int) + (1 + (us.length : Int)) := by omega
          have hltz : (i : Int) < (ts.length : Int) := by omega
          have HA1 := Lib.hid hA1
          have HDS := Lib.hid hds
          have HUS := Lib.hid hus
          have HPA := Lib.hid hpa
          have HPD := Lib.hid hpd
          clear hA hA1 hsv hsv0 hds hus hpa hpd hlen hll hcl hcapz hbv1
          go_wp2_with fail
          have hX1 := Boxed.new wr 56 (.slice pa us.length pc)
          have hb1 : Below wr.heap.size wr (wr.alloc (.cells #[.slice pa us.length pc] 56)) := (Below.refl _ _).alloc (Nat.le_refl _) _
          have HA2 := Lib.hid (HA1.out.below hb1)
          obtain ⟨X, hX⟩ : ∃ X, wr.heap.size = X := ⟨_, rfl⟩
          rw [hX] at hX1
          rw [hX]
          generalize (wr.alloc (.cells #[.slice pa us.length pc] 56)) = V1 at *
          clear HA1 hb1 hX
          go_loopw [3, 4, 46] (fun cv lv jv wr => ∃ (c j : Nat) (ls : List (Addr × Nat)), cv = .int .i64 (c : Int) ∧ jv = .int .i64 (j : Int) ∧ j ≤ us.length ∧ Ap w wr (s0 + (us.length - j)) c lv ls ((us.drop j).sum + (ts.drop (i + 1)).sum) ∧ Hid ((ls.map (·.2)).sum + ls.length + ((us.drop j).sum + (ts.drop (i + 1)).sum) + 2 ≤ gk) ∧ Boxed wr X 56 (.slice pa us.length pc)) (fun _ _ jv _ => us.length - (intOf jv).toNat)
          case atStart => exact ⟨c + (1 + us.length), 0, ls, by simp, rfl, Nat.zero_le _, by rw [List.drop_zero]; exact HA2.out, Lib.hid (by rw [List.drop_zero]; have h1 := hG.out; have h2 := HDS.out; have h3 := HUS.out; omega), hX1⟩
          case round =>
            obtain ⟨c, j, ls, rfl, rfl, hjl, hA, hG2, hbox⟩ := hrel
            have hXc := hbox.cell
            by_cases hlj : j < us.length
            · obtain ⟨pd, rfl⟩ : ∃ pd, pa = some pd := by
                cases pa with
                | none => rw [HPA.out rfl] at hlj; simp at hlj
                | some pd => exact ⟨pd, rfl⟩
              obtain ⟨_, _, _, _, _, _, _, hq0, _⟩ := (HPD.out pd rfl).2 0 (by omega)
              obtain ⟨pb, po, rfl⟩ : ∃ b o, pd = ⟨b, o, none⟩ := ⟨_, _, cell_spot (a := pd) (by simpa [Addr.add] using hq0)⟩
              obtain ⟨gs, nn, vv, pv, bv, ps, sj, _, _, c2, _, c4, hps, huj, hag⟩ := (HPD.out _ rfl).2 j hlj
              obtain ⟨oa, oc, rfl⟩ := hps.shape
              obtain ⟨ba, bm, bc, rfl⟩ := hag.one.2
              simp only [Lib.addr_add] at c2 c4
              rw [← Nat.add_assoc] at c2 c4
              have e2 := (hA.b.cell (World.block_lt_of_cell? w _ c2)).trans c2
              have e4 := (hA.b.cell (World.block_lt_of_cell? w _ c4)).trans c4
              have hdu := drop_sum hlj
              have hsum := hA.sum
              have hs0 := HS.out
              have hus1 := HUS.out
              have hcp : c + ps.length ≤ 2097154 := by have := le_sum hlj; have := le_sum hlt; omega
              have hljz : (j : Int) < (us.length : Int) := by omega
              rcases Nat.eq_zero_or_pos bm with hbm | hbm
              · have hbz : ¬ (bm : Int) > 0 := by omega
                have HA3 : Hid (Ap w wr (s0 + (us.length - (j + 1))) (c + ps.length) u4 ls ((us.drop (j + 1)).sum + (ts.drop (i + 1)).sum)) := Lib.hid ⟨hA.b, hA.row, hA.er, by omega⟩
                have HG3 : Hid ((ls.map (·.2)).sum + ls.length + ((us.drop (j + 1)).sum + (ts.drop (i + 1)).sum) + 2 ≤ gk) := Lib.hid (by have := hG2.out; omega)
                clear hbm hA hdu hsum hs0 hus1 huj hag hps c2 c4 hq0
                go_wp2_with fail
                go_roundw
                case rel => exact ⟨c + ps.length, j + 1, ls, by simp, by go_num, by omega, HA3.out, HG3, hbox⟩
                case measure => simp [intOf]; omega
              · have hbz : (bm : Int) > 0 := by omega
                have hsj := hag.pos hbm
                have hER : ER w (⟨pb, po + j * 5, none⟩, sj) := ⟨_, _, pb, po + j * 5, rfl, c4, hag, hsj⟩
                have hlen := hA.len
                have hrow := hA.row
                have hlm : (ls.map (·.1)).length = ls.length := List.length_map _
                have hA1 : (ls.map (·.1)).length + 1 ≤ maxLen := by rw [hlm]; unfold maxLen; have := le_sum hlj; have := le_sum hlt; omega
                have hA2 : ((ls.map (·.1)).length + 1) * 8 ≤ 140737488355328 := by rw [hlm]; have := le_sum hlj; have := le_sum hlt; omega
                have hz := hA.b.size
                have HA3 : Hid (c + ps.length + (((ls ++ [((⟨pb, po + j * 5, none⟩ : Addr), sj)]).map (·.2)).sum) + ((us.drop (j + 1)).sum + (ts.drop (i + 1)).sum) ≤ s0 + (us.length - (j + 1))) := Lib.hid (by simp; omega)
                have HG3 : Hid (((ls ++ [((⟨pb, po + j * 5, none⟩ : Addr), sj)]).map (·.2)).sum + (ls ++ [((⟨pb, po + j * 5, none⟩ : Addr), sj)]).length + ((us.drop (j + 1)).sum + (ts.drop (i + 1)).sum) + 2 ≤ gk) := Lib.hid (by have := hG2.out; simp; omega)
                have HB := Lib.hid hA.b
                have HE := Lib.hid hA.er
                have HER := Lib.hid hER
                clear hbm hA hdu hsum hs0 hus1 huj hag hps c2 c4 hq0 hlen hsj hER hlm
                go_wp2_with (at_builtin; refine wpList_append_own _ rfl _ _ 51 rfl w.heap.size 49 i0 (.pointer none) 1 8 Try.underlying51 hi hz0 hz1 hz2 rfl (by decide) _ _ _ rfl (World.ownsRow.alloc hrow _) ⟨wr.heap.size, 0, none⟩ 1 1 [.pointer (some ⟨pb, po + j * 5, none⟩)] rfl rfl (cell_one_new _ _ _) (by simp [Value.oneCell']) hA1 hA2 (by simp; omega) ?_; intro v' w1 hown' hgrow _)
                go_roundw
                case rel =>
                  have hB1 : Below w.heap.size w w1 := (HB.out.alloc hz _).grown hgrow (by simp; omega) (fun k e => (World.ownsRow.lt hrow k e).1)
                  have hbox1 : Boxed w1 X 56 (.slice (some ⟨pb, po, none⟩) us.length pc) := (hgrow.block X (by have := hbox.lt; simp; omega) (fun e => hbox.not_row (by decide) hrow e)).trans (hbox.alloc _)
                  refine ⟨c + ps.length, j + 1, ls ++ [(⟨pb, po + j * 5, none⟩, sj)], by simp, by go_num, by omega, ⟨hB1, ?_, fun e he => ?_, HA3.out⟩, HG3, hbox1⟩
                  · rw [List.map_append]; exact Ptrs.snoc hown'
                  · rcases List.mem_append.1 he with he | he
                    · exact HE.out e he
                    · rw [List.mem_singleton] at he; rw [he]; exact HER.out
                case measure => simp [intOf]; omega
            · obtain rfl : j = us.length := by omega
              have hljz : ¬ (us.length : Int) < (us.length : Int) := by omega
              have HA3 : Hid (Ap w wr s0 c u4 ls (ts.drop (i + 1)).sum) := Lib.hid ⟨hA.b, hA.row, hA.er, by have := hA.sum; rw [List.drop_length] at this; simp at this; omega⟩
              have HG3 : Hid ((ls.map (·.2)).sum + ls.length + (ts.drop (i + 1)).sum + 1 ≤ gk) := Lib.hid (by have := hG2.out; rw [List.drop_length] at this; simp at this; omega)
              have himz : (i : Int) + 1 ≤ 9223372036854775807 := by have := HTS.out; omega
              clear hA
              go_wp2_with fail
              go_roundw
              case rel => exact ⟨c, i + 1, ls, rfl, by go_num, by omega, HA3.out, HG3⟩
              case measure => simp [intOf]; omega
        · have HA1 := Lib.hid hA
          have HG1 := Lib.hid hG.out
          have hltz : ¬ (i : Int) < (ts.length : Int) := by omega
          obtain rfl : i = ts.length := by omega
          clear hA hll hcl hcapz hbv1
          go_wp2_with fail
          go_roundg ((ls.map (·.2)).sum + ls.length)
          case rel => exact ⟨c, ls, rfl, by have h := HA1.out; rw [List.drop_length] at h; exact h, rfl⟩
          case measure => have := HG1.out; rw [List.drop_length] at this; simp at this ⊢; omega
end Go.Proofs.Ytfgaabjpkmmpdaa.Pp
