/-
prop.copied, to any depth of cards: the parameters in a row of the call's own, as many cards as there were. Conditions: what comes in lies below the caller's blocks, and is of a weight of at most 2^20.
-/
import Derived.Test.YtfgaabjpkmmpdaaPpPCs
import Derived.Laws.Cover3
namespace Go.Proofs.Ytfgaabjpkmmpdaa.Pp
open Go.RowKit

theorem adr_snoc (l : List (Nat × Nat × Nat)) (e : Nat × Nat × Nat) : (l ++ [e]).map adr = l.map adr ++ [adr e] := by simp

theorem make_map (W : World) : (Instr.makeMap 50 none).run Try.prog W = .ok (.map (some W.heap.size)) (W.alloc (.map #[] 0)) := by
  simp [Instr.makeMap, go_sem]
/-- p's box: it is all that is left, or it is done. -/
def Fs (w W : World) (g n v : ByteArray) (pv : Value) (ps : List (ByteArray × ByteArray)) (aa : Option Addr) (m ac s0 : Nat) (ls : List (Nat × Nat × Nat)) : Prop :=
  (ls = [(w.heap.size, 0, ps.length + s0 + 1)] ∧ QAt W w.heap.size 0 g n pv v (.slice aa m ac)) ∨ ((w.heap.size, 0) ∉ ls.map key ∧ PD w W g n v ps m)
theorem take_last {w W : World} {mb : Nat} {g n v : ByteArray} {pv : Value} {ps : List (ByteArray × ByteArray)} {aa : Option Addr} {m ac s0 k : Nat} {ls : List (Nat × Nat × Nat)} {e : Nat × Nat × Nat} (h : Bs w W mb (ls ++ [e])) (hF : Fs w W g n v pv ps aa m ac s0 (ls ++ [e])) (hps : Ps w w.heap.size pv ps) (hag : AgW w w.heap.size k s0 (.slice aa m ac)) :
    ∃ (k : Nat) (gs nq vq : ByteArray) (pvq : Value) (aq : Option Addr) (cq : Nat) (ts : List Nat) (pq : List (ByteArray × ByteArray)), (e.1 = w.heap.size ∨ w.heap.size + 2 ≤ e.1) ∧ QAt W e.1 e.2.1 gs nq pvq vq (.slice aq ts.length cq) ∧ Ps w w.heap.size pvq pq ∧ pq.length + ts.sum + 1 ≤ e.2.2 ∧
      (aq = none → ts = []) ∧ (∀ ad, aq = some ad → (ts = [] ∨ ad.block < w.heap.size) ∧ ∀ i (hi : i < ts.length), ∃ sv, w.cell? (ad.add i) = some sv ∧ CaW w w.heap.size (AgW w w.heap.size k) ts[i] sv) ∧
      ((ls = [] ∧ key e = (w.heap.size, 0) ∧ gs = g ∧ nq = n ∧ vq = v ∧ pq = ps ∧ ts.length = m) ∨ ((w.heap.size, 0) ∉ (ls ++ [e]).map key ∧ PD w W g n v ps m)) := by
  rcases hF with ⟨he, hq⟩ | hF
  · have hl : ls = [] := by
      have := congrArg List.length he
      simp at this
      exact this
    subst hl
    simp only [List.nil_append, List.cons.injEq, and_true] at he
    subst he
    cases k with
    | zero => exact hag.elim
    | succ k =>
      obtain ⟨aq, cq, ts, he, h1, h2, h3⟩ := hag
      cases he
      exact ⟨k, g, n, v, pv, aa, ac, ts, ps, .inl rfl, hq, hps, by show ps.length + ts.sum + 1 ≤ ps.length + s0 + 1; omega, h2, h3, .inl ⟨rfl, rfl, rfl, rfl, rfl, rfl, rfl⟩⟩
  · obtain ⟨k, gs, nq, vq, pvq, bvq, pq, s, h1, h2, h3, h4, h5⟩ := h.ent e (by simp)
    cases k with
    | zero => exact h5.elim
    | succ k =>
      obtain ⟨aq, cq, ts, rfl, h6, h7, h8⟩ := h5
      exact ⟨k, gs, nq, vq, pvq, aq, cq, ts, pq, h1, h2, h3, by omega, h7, h8, .inr hF⟩
/-- The row of cards is not the row of pointers. -/
theorem RowC.ne_ptr {W : World} {base ga i : Nat} {ts : List Nat} {P : Nat → Value → Prop} {v : Value} {l : List Addr} (h : RowC W ga ts i P) (hp : Ptrs W base v l) : ga ≠ v.ownBlock.getD W.heap.size := by
  obtain ⟨cur, h1, _⟩ := h
  obtain ⟨_, ⟨rfl, _⟩ | ⟨g, cap, cur', rfl, _, hh, _⟩⟩ := hp
  · have := (Array.getElem?_eq_some_iff.1 h1).1
    simp [Value.ownBlock]; omega
  · intro e
    have e : ga = g := by simpa [Value.ownBlock] using e
    subst e
    rw [hh] at h1; simp at h1
theorem Ptrs.base {W : World} {base : Nat} {v : Value} {l : List Addr} (hp : Ptrs W base v l) (hb : base ≤ W.heap.size) : base ≤ v.ownBlock.getD W.heap.size := by
  obtain ⟨_, ⟨rfl, _⟩ | ⟨g, cap, cur', rfl, h, _⟩⟩ := hp
  · simpa [Value.ownBlock] using hb
  · simpa [Value.ownBlock] using h
theorem RowC.block {W : World} {ga i : Nat} {ts : List Nat} {P : Nat → Value → Prop} (h : RowC W ga ts i P) : ∃ cur, W.heap[ga]? = some (.cells cur 56 (0, 0)) := by obtain ⟨cur, h, _⟩ := h; exact ⟨cur, h⟩
theorem len_le_sum {w W : World} {ls : List (Nat × Nat × Nat)} (h : ∀ e ∈ ls, Ent w W e) : ls.length ≤ (ls.map (·.2.2)).sum := by
  have := len_sum (l := ls.map (·.2.2)) (fun i hi => by rw [List.getElem_map]; exact (h _ (List.getElem_mem (by simpa using hi))).pos)
  rwa [List.length_map] at this

set_option maxRecDepth 100000 in
set_option maxHeartbeats 8000000 in
theorem copied_any (k : Nat) (g n v : ByteArray) (pv : Value) (aa : Option Addr) (m ac : Nat) (ps : List (ByteArray × ByteArray)) (w : World) (hps : Ps w w.heap.size pv ps) (hl1 : ps.length ≤ 1048576) (hag : AgT w w.heap.size k (.slice aa m ac)) :
    Calls Try.prog 26 #[prV g n pv v (.slice aa m ac)] w fun e w' => ∃ pv' a' c', e = .returned (prV g n pv' v (.slice a' m c')) ∧ Own w' w.heap.size pv' ps ∧ Below w.heap.size w w' := by
  obtain ⟨i0, hi, hz0, hz1, hz2⟩ := info_parts infoPtr
  obtain ⟨pa, pc, rfl⟩ := hps.shape
  obtain ⟨s0, hs0, hag⟩ := hag
  unfold prV
  obtain ⟨w1, hw1⟩ : ∃ x, w.alloc (.cells #[.string g, .string n, .slice pa ps.length pc, .string v, .slice aa m ac] 25) = x := ⟨_, rfl⟩
  obtain ⟨w2, hw2⟩ : ∃ x, w1.alloc (.cells #[.string ⟨#[]⟩, .string ⟨#[]⟩, .slice none 0 0, .string ⟨#[]⟩, .slice none 0 0] 25) = x := ⟨_, rfl⟩
  have z1 : w1.heap.size = w.heap.size + 1 := by rw [← hw1]; simp
  have z2 : w2.heap.size = w.heap.size + 2 := by rw [← hw2, World.size_alloc, z1]
  have hb1 : Below w.heap.size w w1 := by rw [← hw1]; exact (Below.refl _ _).alloc (Nat.le_refl _) _
  have hb2 : Below w1.heap.size w1 w2 := by rw [← hw2]; exact (Below.refl _ _).alloc (Nat.le_refl _) _
  have hbb : Below w.heap.size w w2 := hb1.trans (hb2.mono (by omega))
  have hp1 : PrAt w1 w.heap.size g n (.slice pa ps.length pc) v (.slice aa m ac) := by rw [← hw1]; exact heap_alloc_new w _
  have hp2 : PrAt w2 w.heap.size g n (.slice pa ps.length pc) v (.slice aa m ac) := hp1.below hb2
  have hr2 : PrAt w2 (w.heap.size + 1) ⟨#[]⟩ ⟨#[]⟩ (.slice none 0 0) ⟨#[]⟩ (.slice none 0 0) := by rw [← hw2, ← z1]; exact heap_alloc_new w1 _
  have hER : ER w2 (⟨w.heap.size, 0, none⟩, s0 + 1) := ⟨k, _, w.heap.size, 0, rfl, hp2.c4, ((hag.below hbb).up hbb.size).more (Nat.le_succ _), by show 1 ≤ s0 + 1; omega⟩
  have CA := Lib.hid (apart_any _ _ w2 hER (by omega))
  have HQ : Hid (QAt w2 w.heap.size 0 g n (.slice pa ps.length pc) v (.slice aa m ac)) := Lib.hid ⟨_, hp2, rfl, rfl, rfl, rfl, rfl⟩
  have HALL := Lib.hid (And.intro hps (And.intro hag (And.intro hbb (And.intro hr2 z2))))
  have HL := Lib.hid (And.intro hl1 hs0)
  clear hps hag hb1 hb2 hbb hp1 hp2 hr2 hER z1 z2 hl1 hs0
  subst hw1 hw2
  go_enter Try.func26, Try.ntmps26
  go_wp2_with fail
  refine CA.out.mono ?_
  rintro e w3 ⟨rfl, b3⟩
  have mkm := make_map w3
  have HW : Hid (∃ ls, Bs w ((w3.alloc (.map #[] 0)).alloc (.cells #[.pointer (some ⟨w.heap.size, 0, none⟩)] 49)) w3.heap.size ls ∧ Fs w ((w3.alloc (.map #[] 0)).alloc (.cells #[.pointer (some ⟨w.heap.size, 0, none⟩)] 49)) g n v (.slice pa ps.length pc) ps aa m ac s0 ls ∧ Ptrs ((w3.alloc (.map #[] 0)).alloc (.cells #[.pointer (some ⟨w.heap.size, 0, none⟩)] 49)) (w.heap.size + 2) (.slice (some ⟨w3.heap.size + 1, 0, none⟩) 1 1) (ls.map adr) ∧ ps.length + s0 + 1 = (ls.map (·.2.2)).sum) := Lib.hid (by
    obtain ⟨hps, hag, hbb, hr2, z2⟩ := HALL.out
    have hz3 : w.heap.size + 2 ≤ w3.heap.size := by have := b3.size; rw [z2] at this; exact this
    have bm : Below w3.heap.size w3 (w3.alloc (.map #[] 0)) := (Below.refl _ _).alloc (Nat.le_refl _) _
    have bc : Below (w3.alloc (.map #[] 0)).heap.size (w3.alloc (.map #[] 0)) ((w3.alloc (.map #[] 0)).alloc (.cells #[.pointer (some ⟨w.heap.size, 0, none⟩)] 49)) := (Below.refl _ _).alloc (Nat.le_refl _) _
    have bmc : Below w3.heap.size w3 ((w3.alloc (.map #[] 0)).alloc (.cells #[.pointer (some ⟨w.heap.size, 0, none⟩)] 49)) := bm.trans (bc.mono bm.size)
    have b23 := b3.trans (bmc.mono b3.size)
    have hq : QAt ((w3.alloc (.map #[] 0)).alloc (.cells #[.pointer (some ⟨w.heap.size, 0, none⟩)] 49)) w.heap.size 0 g n (.slice pa ps.length pc) v (.slice aa m ac) := HQ.out.keep (b23.block _ HQ.out.lt)
    refine ⟨[(w.heap.size, 0, ps.length + s0 + 1)], ⟨hbb.trans (b23.mono hbb.size), hr2.below b23, ⟨0, (bc.block _ (by simp)).trans (World.alloc_heap_new w3 _)⟩, fun e he => ?_, by simp⟩, .inl ⟨rfl, hq⟩, ?_, by simp⟩
    · rw [List.mem_singleton] at he
      rw [he]
      exact ⟨k, g, n, v, _, _, ps, s0, .inl rfl, hq, hps, Nat.le_refl _, hag⟩
    · have h := Ptrs.one (w3.alloc (.map #[] 0)) ⟨w.heap.size, 0, none⟩
      rw [World.size_alloc] at h
      obtain ⟨h0, h | ⟨g', cap, cur, h1, h2, h3⟩⟩ := h
      · exact ⟨h0, .inl h⟩
      · exact ⟨h0, .inr ⟨g', cap, cur, h1, by omega, h3⟩⟩)
  have HDAT := Lib.hid (And.intro HALL.out.1 HALL.out.2.1)
  have HZ3 : Hid (w.heap.size + 2 ≤ w3.heap.size) := Lib.hid (by have := b3.size; rw [HALL.out.2.2.2.2] at this; exact this)
  clear HALL HQ CA b3
  go_wp2_with fail
  go_loopg [5] (ps.length + s0 + 1) (fun gk lv wr => ∃ ls : List (Nat × Nat × Nat), Hid (Bs w wr w3.heap.size ls) ∧ Hid (Fs w wr g n v (.slice pa ps.length pc) ps aa m ac s0 ls) ∧ Hid (Ptrs wr (w.heap.size + 2) lv (ls.map adr)) ∧ Hid (gk = (ls.map (·.2.2)).sum) ∧ Hid (gk ≤ 2097154))
  case atStart =>
    obtain ⟨ls, h1, h2, h3, h4⟩ := HW.out
    exact ⟨ls, Lib.hid h1, Lib.hid h2, Lib.hid h3, Lib.hid h4, Lib.hid (by have := HL.out; omega)⟩
  case round =>
    obtain ⟨ls, HB, HF, HP, HG, HG2⟩ := hrel
    clear HW mkm
    by_cases hls : ls = []
    · subst hls
      obtain ⟨pv1, a1, c1, hq, hown⟩ : PD w wr g n v ps m := by
        rcases HF.out with ⟨h, _⟩ | ⟨_, h⟩
        · cases h
        · exact h
      obtain ⟨la, lc, rfl⟩ := Ptrs.nil_of HP.out
      obtain ⟨qa, qc, rfl⟩ := shapeP hown
      have k0 : wr.cell? ⟨w.heap.size, 0, none⟩ = _ := hq.c0
      have k1 : wr.cell? ⟨w.heap.size, 1, none⟩ = _ := hq.c1
      have k2 : wr.cell? ⟨w.heap.size, 2, none⟩ = _ := hq.c2
      have k3 : wr.cell? ⟨w.heap.size, 3, none⟩ = _ := hq.c3
      have k4 : wr.cell? ⟨w.heap.size, 4, none⟩ = _ := hq.c4
      have hr := HB.out.r
      have r0 := hr.c0
      have r1 := hr.c1
      have r2 := hr.c2
      have r3 := hr.c3
      have r4 := hr.c4
      have f0 := At.f hr 0
      have f1 := At.f hr 1
      have f2 := At.f hr 2
      have f3 := At.f hr 3
      have f4 := At.f hr 4
      have HO := Lib.hid hown
      clear hown hq hr HP HG HF
      go_wp2_with fail
      have hO := HO.out
      have hB := HB.out.b
      have hne : ∀ k, (Value.slice qa ps.length qc).ownBlock = some k → k ≠ w.heap.size + 1 := fun k e => by have := own_blk hO k e; omega
      have hO5 := own_setNe (own_setNe (own_setNe (own_setNe (own_setNe hO (a := ⟨w.heap.size + 1, 0, none⟩) hne (.string g)) (a := ⟨w.heap.size + 1, 1, none⟩) hne (.string n)) (a := ⟨w.heap.size + 1, 2, none⟩) hne (.slice qa ps.length qc)) (a := ⟨w.heap.size + 1, 3, none⟩) hne (.string v)) (a := ⟨w.heap.size + 1, 4, none⟩) hne (.slice a1 m c1)
      exact bodyPost_ret (v := .agg #[.string g, .string n, .slice qa ps.length qc, .string v, .slice a1 m c1]) (by simp [results, Try.results26, go_sem, r0, r1, r2, r3, r4]) rfl ⟨_, _, _, rfl, own_low (show w.heap.size ≤ w.heap.size + 2 by omega) hO5, ((((hB.setCell (p := ⟨w.heap.size + 1, 0, none⟩) (Nat.le_succ _) _).setCell (p := ⟨w.heap.size + 1, 1, none⟩) (Nat.le_succ _) _).setCell (p := ⟨w.heap.size + 1, 2, none⟩) (Nat.le_succ _) _).setCell (p := ⟨w.heap.size + 1, 3, none⟩) (Nat.le_succ _) _).setCell (p := ⟨w.heap.size + 1, 4, none⟩) (Nat.le_succ _) _⟩
    · obtain ⟨l0, ⟨gq, jq, uq⟩, rfl⟩ := snoc_of hls
      obtain ⟨kq, gs, nq, vq, pvq, aq, cq, ts, pq, hge, hq, hpq, huq, haq, hadq, hf⟩ := take_last HB.out HF.out HDAT.out.1 HDAT.out.2
      have hrow := HP.out
      rw [adr_snoc] at hrow
      obtain ⟨lg, lcap, rfl, hg1, hg2, hcap, hcl, hrow0⟩ := Ptrs.last hrow
      simp only [List.length_map] at hcl hcap
      rw [List.length_map]
      change wr.cell? ⟨lg, l0.length, none⟩ = some (.pointer (some ⟨gq, jq * 5, none⟩)) at hcl
      change pq.length + ts.sum + 1 ≤ uq at huq
      change QAt wr gq jq gs nq pvq vq (.slice aq ts.length cq) at hq
      change gq = w.heap.size ∨ w.heap.size + 2 ≤ gq at hge
      have hgk : gk = (l0.map (·.2.2)).sum + uq := by rw [HG.out]; simp
      have hll : l0.length ≤ 2097154 := by have h1 := len_le_sum HB.out.ent; rw [← HG.out, List.length_append, List.length_singleton] at h1; have := HG2.out; omega
      have hcapz : (l0.length : Int) ≤ (lcap : Int) := by omega
      obtain ⟨xa, xc, rfl⟩ := hpq.shape
      have hW := HB.out.b
      have hpqW : Ps wr wr.heap.size (.slice xa pq.length xc) pq := (hpq.below hW).up hW.size
      have hul : uq ≤ 2097154 := by have := HG2.out; omega
      have CP := Lib.hid (cloneP_ps _ pq wr hpqW (by unfold maxLen; omega) (by omega))
      have hq2 := hq.c2
      have HQ := Lib.hid (And.intro hge (And.intro hq (And.intro hpq (And.intro huq (And.intro haq (And.intro hadq hf))))))
      have HR0 := Lib.hid hrow0
      have HGK := Lib.hid hgk
      have HUL := Lib.hid hul
      clear hge hq hpq huq haq hadq hf hrow hrow0 hgk hul hW hpqW hg1 hg2 hcap HP HF HG hls
      go_wp2_with fail
      refine CP.out.mono ?_
      rintro e w4 ⟨pv4, rfl, hown4, b4⟩
      obtain ⟨ya, yc, rfl⟩ := shapeP hown4
      obtain ⟨hge, hq, hpq, huq, haq, hadq, hf⟩ := HQ.out
      have hq4 : QAt w4 gq jq gs nq (.slice xa pq.length xc) vq (.slice aq ts.length cq) := hq.keep (b4.block _ hq.lt)
      have hwz : w.heap.size + 2 ≤ wr.heap.size := by have := HB.out.r.lt; omega
      have hM : Md w (w4.setCell ⟨gq, jq * 5 + 2, none⟩ (.slice ya pq.length yc)) w3.heap.size l0 g n v ps m gq jq gs nq vq pq ts.length (.slice ya pq.length yc) (.slice aq ts.length cq) :=
        md_start HB.out hge hq hf b4 hown4 hwz
      have hR4 : Ptrs (w4.setCell ⟨gq, jq * 5 + 2, none⟩ (.slice ya pq.length yc)) (w.heap.size + 2) (.slice (some ⟨lg, 0, none⟩) l0.length lcap) (l0.map adr) := by
        have h := HR0.out.below b4
        rw [List.length_map] at h
        obtain ⟨cur, hh, _⟩ := (id hq4 : QAt w4 gq jq gs nq (.slice xa pq.length xc) vq (.slice aq ts.length cq))
        exact h.frm (Frm.set _ _ _ _) (fun _ _ e => by rw [hh] at e; simp at e)
      have s2 := hq4.c2
      have t2 := hq4.f (jq * 5 + 2)
      have s4 := hM.q.c4
      have t4 := hM.q.f (jq * 5 + 4)
      have HM := Lib.hid hM
      have HR4 := Lib.hid hR4
      have HQ4 := Lib.hid (And.intro huq (And.intro haq hadq))
      clear hge hq hpq huq haq hadq hf hq4 hM hR4 hown4 CP HQ HR0 b4 hq2 hcl
      by_cases hm0 : ts.length = 0
      · have hmb : ((ts.length : Int) == 0) = true := by simp; exact List.eq_nil_of_length_eq_zero hm0
        have HD := Lib.hid ((HM.out.set4 (.slice none 0 0)).done ⟨none, 0, by rw [hm0]⟩)
        have HR5 : Hid (Ptrs ((w4.setCell ⟨gq, jq * 5 + 2, none⟩ (.slice ya pq.length yc)).setCell ⟨gq, jq * 5 + 4, none⟩ (.slice none 0 0)) (w.heap.size + 2) (.slice (some ⟨lg, 0, none⟩) l0.length lcap) (l0.map adr)) := Lib.hid (by
          obtain ⟨cur, hh, _⟩ := HM.out.q
          exact HR4.out.frm (Frm.set _ _ _ _) (fun _ _ e => by rw [hh] at e; simp at e))
        clear hm0
        go_wp2_with fail
        go_roundg ((l0.map (·.2.2)).sum)
        case rel => exact ⟨l0, Lib.hid HD.out.1, Lib.hid (.inr HD.out.2), HR5, Lib.hid rfl, Lib.hid (by have := HG2.out; have := HGK.out; omega)⟩
        case measure => have := HGK.out; have := HQ4.out.1; omega
      · have hmb : ((ts.length : Int) == 0) = false := by simp; exact fun e => hm0 (by rw [e]; rfl)
        obtain ⟨ab, ao, rfl⟩ : ∃ ab ao, aq = some ⟨ab, ao, none⟩ := by
          cases aq with
          | none => exact absurd (by rw [HQ4.out.2.1 rfl]; rfl) hm0
          | some ad =>
            obtain ⟨sv0, hsv0, _⟩ := (HQ4.out.2.2 ad rfl).2 0 (by omega)
            exact ⟨_, _, congrArg some (cell_spot (a := ad) (by simpa [Addr.add] using hsv0))⟩
        have hm1 : (0 : Int) < (ts.length : Int) := by omega
        have q23 : ∀ (w : World) (a : Option Addr) (n c n' c' : Nat), (binOp .eql 23 (.slice a n c) (.slice none n' c')).run Try.prog w = .ok (.bool a.isNone) w := fun w a n c n' c' => Lib.run_eql_slice_nil w _ _ a n c n' c' Try.underlying23
        have HM0 := Lib.hid hm0
        clear hm0
        go_wp2_with fail
        generalize w4.setCell ⟨gq, jq * 5 + 2, none⟩ (.slice ya pq.length yc) = W5 at HM HR4 s4 t4 ⊢
        have s4d : (W5.alloc (.cells #[.pointer none, .int .i64 0] 58)).cell? ⟨gq, jq * 5 + 4, none⟩ = some (.slice (some ⟨ab, ao, none⟩) ts.length cq) := alloc_cell _ s4
        clear s2 t2
        go_region
        have bV : Below W5.heap.size W5 (W5.alloc (.cells #[.pointer (some ⟨ab, ao, none⟩), .int .i64 (ts.length : Int)] 58)).drew := ((Below.refl _ _).alloc (Nat.le_refl _) _).drew
        have M6 := HM.out.below bV
        have HM6 := Lib.hid M6
        have HR6 : Hid (Ptrs (W5.alloc (.cells #[.pointer (some ⟨ab, ao, none⟩), .int .i64 (ts.length : Int)] 58)).drew (w.heap.size + 2) (.slice (some ⟨lg, 0, none⟩) l0.length lcap) (l0.map adr)) := Lib.hid (HR4.out.below bV)
        obtain ⟨clock, hmap⟩ := M6.bs.map
        have hlk := lookup_none w3.heap.size clock (some ⟨ab, ao, none⟩) (ts.length : Int) _ hmap
        have s5 := M6.q.c4
        have htl : ts.length ≤ 2097154 := by
          have h1 := HQ4.out.1
          have h2 := len_sum (l := ts) (fun i hi => by obtain ⟨sv, _, hc⟩ := (HQ4.out.2.2 _ rfl).2 i hi; exact hc.pos)
          have h3 := HUL.out
          omega
        have hk7 : (W5.alloc (.cells #[.pointer (some ⟨ab, ao, none⟩), .int .i64 (ts.length : Int)] 58)).drew.heap[W5.heap.size]? = some (.cells #[.pointer (some ⟨ab, ao, none⟩), .int .i64 (ts.length : Int)] 58 (0, 0)) := heap_alloc_new W5 _
        have c70 : (W5.alloc (.cells #[.pointer (some ⟨ab, ao, none⟩), .int .i64 (ts.length : Int)] 58)).drew.cell? ⟨W5.heap.size, 0, none⟩ = some (.pointer (some ⟨ab, ao, none⟩)) := cellCur hk7 rfl
        have c71 : (W5.alloc (.cells #[.pointer (some ⟨ab, ao, none⟩), .int .i64 (ts.length : Int)] 58)).drew.cell? ⟨W5.heap.size, 1, none⟩ = some (.int .i64 (ts.length : Int)) := cellCur hk7 rfl
        have CC := Lib.hid (cloneC_ag HQ4.out.2.1 HQ4.out.2.2 htl (ac := cq) _ M6.bs.b)
        generalize (W5.alloc (.cells #[.pointer (some ⟨ab, ao, none⟩), .int .i64 (ts.length : Int)] 58)).drew = W6 at HM6 HR6 hmap hlk s5 CC c70 c71 ⊢
        have HTL := Lib.hid htl
        clear M6 hmap s4 t4 s4d HM HR4 bV htl hk7
        go_wp2_with fail
        refine CC.out.mono ?_
        rintro e w7 ⟨a7, c7, rfl, hrc, b7⟩
        obtain ⟨ga, rfl, hga, hrc⟩ := hrc (fun h => HM0.out (by rw [h]; rfl))
        have M7 := HM6.out.below b7
        have s7 := M7.q.c4
        have t7 := M7.q.f (jq * 5 + 4)
        have M8 := M7.set4 (.slice (some ⟨ga, 0, none⟩) ts.length c7)
        have hgq : ga ≠ gq := by have := HM6.out.q.lt; omega
        have HRC := Lib.hid (hrc.frm (Frm.set w7 gq (jq * 5 + 4) (.slice (some ⟨ga, 0, none⟩) ts.length c7)) hgq)
        have HP8 : Hid (Ptrs (w7.setCell ⟨gq, jq * 5 + 4, none⟩ (.slice (some ⟨ga, 0, none⟩) ts.length c7)) (w.heap.size + 2) (.slice (some ⟨lg, 0, none⟩) l0.length lcap) (l0.map adr)) := Lib.hid (by
          obtain ⟨cur, hh, _⟩ := M7.q
          exact (HR6.out.below b7).frm (Frm.set _ _ _ _) (fun _ _ e => by rw [hh] at e; simp at e))
        have s8 := M8.q.c4
        have HM8 := Lib.hid M8
        have HGA : Hid (w.heap.size + 2 ≤ ga) := Lib.hid (by have := HM6.out.bs.r.lt; omega)
        clear M7 M8 hgq hrc hga b7 CC s5 HM6 HR6 hlk c70 c71
        go_wp2_with fail
        clear s7 t7 s8
        go_loopw [5, 87] (fun lv iv wr => ∃ (i : Nat) (ls : List (Nat × Nat × Nat)), iv = .int .i64 (i : Int) ∧ i ≤ ts.length ∧ Hid (Md w wr w3.heap.size ls g n v ps m gq jq gs nq vq pq ts.length (.slice ya pq.length yc) (.slice (some ⟨ga, 0, none⟩) ts.length c7)) ∧ Hid (Ptrs wr (w.heap.size + 2) lv (ls.map adr)) ∧ Hid (RowC wr ga ts i (CaW w w.heap.size (AgW w w.heap.size kq))) ∧ Hid ((ls.map (·.2.2)).sum + (ts.drop i).sum + 1 ≤ gk)) (fun _ iv _ => ts.length - (intOf iv).toNat)
        case atStart => exact ⟨0, l0, rfl, Nat.zero_le _, HM8, HP8, HRC, Lib.hid (by rw [List.drop_zero]; have := HGK.out; have := HQ4.out.1; omega)⟩
        case round =>
          obtain ⟨i, ls, rfl, hil, hM, hP, hC, hG⟩ := hrel
          clear HM8 HP8 HRC
          by_cases hlt : i < ts.length
          · obtain ⟨sv, x0, xf, hca⟩ := hC.out.at_ hlt
            obtain ⟨ra, rm, rc, rfl, hrm⟩ := hca.len
            have hltz : (i : Int) < (ts.length : Int) := by omega
            have x4 := hM.out.q.c4
            have hds := drop_sum hlt
            have hti : ts[i] ≤ 2097154 := by have := le_sum hlt; have := HQ4.out.1; have := HUL.out; omega
            have CR := Lib.hid (cloneR_ca hca hti (fun s v hv => hv.one.1) wr hM.out.bs.b)
            have HDS := Lib.hid hds
            have HWB : Hid (w.heap.size + 2 ≤ wr.heap.size) := Lib.hid (by have := hM.out.bs.r.lt; omega)
            have HQL := Lib.hid hM.out.q.lt
            clear hca hrm hds hti
            go_wp2_with fail
            refine CR.out.mono ?_
            rintro e w9 ⟨a9, c9, us, rfl, hus, husl, hrr, b9⟩
            have hM9 : Hid (Md w w9 w3.heap.size ls g n v ps m gq jq gs nq vq pq ts.length (.slice ya pq.length yc) (.slice (some ⟨ga, 0, none⟩) ts.length c7)) := Lib.hid (hM.out.below b9)
            have hP9 : Hid (Ptrs w9 (w.heap.size + 2) u5 (ls.map adr)) := Lib.hid (hP.out.below b9)
            have hC9 : Hid (RowC w9 ga ts i (CaW w w.heap.size (AgW w w.heap.size kq))) := Lib.hid (hC.out.below b9)
            have hGP : Hid (∃ gp, us ≠ [] → a9 = some ⟨gp, 0, none⟩ ∧ wr.heap.size ≤ gp ∧ RowR w9 w w.heap.size (AgW w w.heap.size kq) gp us) := Lib.hid (by
              by_cases h : us = []
              · exact ⟨0, fun h' => absurd h h'⟩
              · obtain ⟨gp, h1⟩ := hrr h; exact ⟨gp, fun _ => h1⟩)
            have HE9 := Lib.hid (fun e (he : e ∈ ls) => (hM.out.bs.ent e he).lt)
            obtain ⟨gp, hgp⟩ := hGP.out
            have HGP := Lib.hid hgp
            obtain ⟨X, hX⟩ : ∃ X, wr.heap.size = X := ⟨_, rfl⟩
            rw [hX] at HGP HWB HQL HE9
            have HUS := Lib.hid hus
            have husz : us.length ≤ 2097154 := by have := le_sum hlt; have := HQ4.out.1; have := HUL.out; omega
            clear hgp hGP hrr hus husl b9 CR hM hP hC x0 xf x4 hX
            go_wp2_with fail
            go_loopw [5, 101] (fun lv jv wr => ∃ (j : Nat) (ls : List (Nat × Nat × Nat)), jv = .int .i64 (j : Int) ∧ j ≤ us.length ∧ Hid (Md w wr w3.heap.size ls g n v ps m gq jq gs nq vq pq ts.length (.slice ya pq.length yc) (.slice (some ⟨ga, 0, none⟩) ts.length c7)) ∧ Hid (Ptrs wr (w.heap.size + 2) lv (ls.map adr)) ∧ Hid (RowC wr ga ts i (CaW w w.heap.size (AgW w w.heap.size kq))) ∧ Hid (us ≠ [] → RowR wr w w.heap.size (AgW w w.heap.size kq) gp us ∧ ∀ e ∈ ls, e.1 < gp ∨ (e.1 = gp ∧ e.2.1 < j)) ∧ Hid ((ls.map (·.2.2)).sum + ((us.drop j).sum + (ts.drop (i + 1)).sum) + 2 ≤ gk)) (fun _ jv _ => us.length - (intOf jv).toNat)
            case atStart => exact ⟨0, ls, rfl, Nat.zero_le _, hM9, hP9, hC9, Lib.hid (fun h => ⟨(HGP.out h).2.2, fun e he => .inl (by have := HE9.out e he; have := (HGP.out h).2.1; omega)⟩), Lib.hid (by rw [List.drop_zero]; have := hG.out; have := HDS.out; have := HUS.out; omega)⟩
            case round =>
              obtain ⟨j, ls, rfl, hjl, hM, hP, hC, hRR, hG⟩ := hrel
              clear hM9 hP9 hC9 HE9
              by_cases hlj : j < us.length
              · have hne : us ≠ [] := fun h => by rw [h] at hlj; simp at hlj
                obtain ⟨rfl, hgp1, _⟩ := HGP.out hne
                obtain ⟨hR1, hR2⟩ := hRR.out hne
                have hljz : (j : Int) < (us.length : Int) := by omega
                have hrow := hP.out
                have hdu := drop_sum hlj
                have hlen := len_le_sum hM.out.bs.ent
                have hg1 := hG.out
                have hg2 := HG2.out
                have hlm : (ls.map adr).length = ls.length := List.length_map _
                have hA1 : (ls.map adr).length + 1 ≤ maxLen := by rw [hlm]; unfold maxLen; omega
                have hA2 : ((ls.map adr).length + 1) * 8 ≤ 140737488355328 := by rw [hlm]; omega
                have hz : w.heap.size + 2 ≤ wr.heap.size := by have := hM.out.bs.r.lt; omega
                have HGX := Lib.hid hgp1
                have HR1 := Lib.hid hR1
                have HR2 := Lib.hid hR2
                have HDU := Lib.hid hdu
                clear hgp1 hR1 hR2 hdu hlen hg1 hg2 hlm hne
                go_wp2_with (at_builtin; refine wpList_append_own _ rfl _ _ 51 rfl (w.heap.size + 2) 49 i0 (.pointer none) 1 8 Try.underlying51 hi hz0 hz1 hz2 rfl (by decide) _ _ _ rfl (World.ownsRow.alloc hrow _) ⟨wr.heap.size, 0, none⟩ 1 1 [.pointer (some ⟨gp, j * 5, none⟩)] rfl rfl (cell_one_new _ _ _) (by simp [Value.oneCell']) hA1 hA2 (by simp; omega) ?_; intro v' w10 hown' hgrow _)
                go_roundw
                case rel =>
                  have F := Frm.grown hgrow
                  have A := Alien.ptr hrow
                  have hbase : w.heap.size ≤ u5.ownBlock.getD wr.heap.size := by have := Ptrs.base hrow hz; omega
                  have hR10 := HR1.out.frm F A
                  have hgX : X ≤ gp := HGX.out
                  have hXq := HQL.out
                  have hXw := HWB.out
                  have hGA := HGA.out
                  have hge2 : w.heap.size + 2 ≤ gp := by omega
                  have hent := hR10.ent hge2 hlj
                  have hM10 := (hM.out.frm F A hbase).push hent (fun hm => by
                    obtain ⟨e, he, hk⟩ := List.mem_map.1 hm
                    unfold key at hk
                    simp only [Prod.mk.injEq] at hk
                    rcases HR2.out e he with h | ⟨_, h⟩ <;> omega) (by unfold key; simp only [ne_eq, Prod.mk.injEq]; omega) (by show gp ≠ w.heap.size; omega)
                  refine ⟨j + 1, ls ++ [(gp, j, us[j])], by go_num, by omega, Lib.hid hM10, Lib.hid ?_, Lib.hid (hC.out.frm F (hC.out.ne_ptr hrow)), Lib.hid (fun _ => ⟨hR10, fun e he => ?_⟩), Lib.hid ?_⟩
                  · rw [adr_snoc]; exact Ptrs.snoc hown'
                  · rcases List.mem_append.1 he with he | he
                    · rcases HR2.out e he with h | ⟨h1, h2⟩
                      · exact .inl h
                      · exact .inr ⟨h1, by omega⟩
                    · rw [List.mem_singleton] at he; rw [he]; exact .inr ⟨rfl, Nat.lt_succ_self j⟩
                  · have h1 := hG.out
                    have h2 := HDU.out
                    simp only [List.map_append, List.map_cons, List.map_nil, List.sum_append, List.sum_cons, List.sum_nil]
                    omega
                case measure => simp [intOf]; omega
              · obtain rfl : j = us.length := by omega
                have hljz : ¬ (us.length : Int) < (us.length : Int) := by omega
                have x4 := hM.out.q.c4
                obtain ⟨sv', x0, xf, _⟩ := hC.out.at_ hlt
                have himz : (i : Int) + 1 ≤ 9223372036854775807 := by have := HTL.out; omega
                go_wp2_with fail
                go_roundw
                case rel =>
                  obtain ⟨cur, hcb⟩ := hC.out.block
                  refine ⟨i + 1, ls, by go_num, by omega, Lib.hid (hM.out.frm (Frm.set _ _ _ _) (Alien.card hcb) (by have := HGA.out; omega)), Lib.hid (hP.out.frm (Frm.set _ _ _ _) (fun _ _ e => by rw [hcb] at e; simp at e)), Lib.hid (hC.out.set _), Lib.hid (by have := hG.out; rw [List.drop_length] at this; simp at this; omega)⟩
                case measure => simp [intOf]; omega
          · obtain rfl : i = ts.length := by omega
            have hltz : ¬ (ts.length : Int) < (ts.length : Int) := by omega
            have HD := Lib.hid (hM.out.done ⟨_, _, rfl⟩)
            go_wp2_with fail
            go_roundg ((ls.map (·.2.2)).sum)
            case rel => exact ⟨ls, Lib.hid HD.out.1, Lib.hid (.inr HD.out.2), hP, Lib.hid rfl, Lib.hid (by have := HG2.out; have := hG.out; omega)⟩
            case measure => have := hG.out; rw [List.drop_length] at this; simp at this ⊢; omega
end Go.Proofs.Ytfgaabjpkmmpdaa.Pp
