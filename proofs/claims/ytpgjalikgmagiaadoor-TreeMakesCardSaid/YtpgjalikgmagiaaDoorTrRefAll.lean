/-
The document's All gathers an element and all within it, at most so many, so deep. Conditions: as in TrAll.
-/
import Derived.Test.YtpgjalikgmagiaaDoorTrAll
import Derived.Test.YtpgjalikgmagiaaDoorAppRun
import Derived.Deep.AppendLies
namespace Go.Proofs.YtpgjalikgmagiaaDoor.Tr
set_option maxRecDepth 100000
open Go.RowKit Sq

/-- One more behind a row. -/
theorem pairs_append {U : World} {base : Nat} {v : Value} {l : List (Nat × Iv)} (h : Pairs U base v l) (hl : l.length < 5000) (d : Nat) (e : El) {a : Option Addr} {n c : Nat} (hbase : base ≤ U.heap.size) :
    ∃ v' w', (∀ ty, (Builtin.append_ #[36, 36] ty #[v, .slice (some ⟨U.heap.size, 0, none⟩) 1 1]).run Tryd.prog (U.alloc (.cells #[.int .i64 (d : Int), .int .i64 e.page, .string e.name, .string e.text, .bool e.bare, .slice a n c] 39)) = .ok v' w') ∧
      Pairs w' base v' (l ++ [(d, (e, .slice a n c))]) ∧ Stays (fun j => j < U.heap.size ∧ some j ≠ v.ownBlock) U w' ∧ (∀ g, v'.ownBlock = some g → v.ownBlock = some g ∨ U.heap.size ≤ g) := by
  obtain ⟨V, hV⟩ : ∃ V, U.alloc (.cells #[.int .i64 (d : Int), .int .i64 e.page, .string e.name, .string e.text, .bool e.bare, .slice a n c] 39) = V := ⟨_, rfl⟩
  have hb : V.heap[U.heap.size]? = some (.cells #[.int .i64 (d : Int), .int .i64 e.page, .string e.name, .string e.text, .bool e.bare, .slice a n c] 39 (0, 0)) := by rw [← hV]; exact heap_alloc_new U _
  have hzs : V.heap.size = U.heap.size + 1 := by rw [← hV, World.size_alloc]
  have hBl : Below U.heap.size U V := by rw [← hV]; exact (Below.refl _ _).alloc (Nat.le_refl _) _
  have h' : Pairs V base v l := h.keep hBl
  rw [hV]
  obtain ⟨i0, hi, hz0, hz1, hz2⟩ := info_parts infoPair
  obtain ⟨v', w', hrun, hown, hgr, hpl⟩ := App.run_append_where (P := Tryd.prog) V base 36 0 39 i0 _ 6 80 Tryd.underlying36 hi hz0 hz1 hz2 rfl (by decide) v l.length _ h' ⟨U.heap.size, 0, none⟩ 1 1 [.int .i64 (d : Int), .int .i64 e.page, .string e.name, .string e.text, .bool e.bare, .slice a n c] rfl
    (World.news_of_block (cs := #[.int .i64 (d : Int), .int .i64 e.page, .string e.name, .string e.text, .bool e.bare, .slice a n c]) hb) (by simp [Value.oneCell']) (by unfold maxLen; omega) (by omega) (by omega) (by decide)
  refine ⟨v', w', fun ty => hrun, Pairs.snoc (x := (e, .slice a n c)) hown, ?_, fun g e => ?_⟩
  · exact ⟨hgr.os.trans hBl.os, hgr.tape.trans hBl.tape, hgr.output.trans hBl.output, Nat.le_trans hBl.size hgr.size, fun j hj => (hgr.block j (by omega) hj.2).trans (hBl.block j hj.1)⟩
  · rcases hpl with h | h
    · exact .inl (h ▸ e)
    · rw [e] at h; cases h; right; omega

theorem kidsV_drop {w : World} {x : Iv} {i : Nat} (h : i < x.1.kids.length) {y : Iv} (hy : (kidsV w x)[i]? = some y) : (kidsV w x).drop i = y :: (kidsV w x).drop (i + 1) := by
  rw [List.drop_eq_getElem_cons (by rw [kidsV_length]; exact h)]
  rw [List.getElem?_eq_getElem (by rw [kidsV_length]; exact h)] at hy
  rw [Option.some.inj hy]

/-- An element in a box. -/
def ElAt (w : World) (b : Nat) (e : El) (kv : Value) : Prop := w.heap[b]? = some (.cells #[.int .i64 e.page, .string e.name, .string e.text, .bool e.bare, kv] 24 (0, 0))
theorem ElAt.lt {w : World} {b : Nat} {e : El} {kv : Value} (h : ElAt w b e kv) : b < w.heap.size := (Array.getElem?_eq_some_iff.1 h).1
theorem ElAt.c0 {w : World} {b : Nat} {e : El} {kv : Value} (h : ElAt w b e kv) : w.cell? ⟨b, 0, none⟩ = some (.int .i64 e.page) := cell_of_row _ _ _ _ _ _ h
theorem ElAt.c1 {w : World} {b : Nat} {e : El} {kv : Value} (h : ElAt w b e kv) : w.cell? ⟨b, 1, none⟩ = some (.string e.name) := cell_of_row _ _ _ _ _ _ h
theorem ElAt.c2 {w : World} {b : Nat} {e : El} {kv : Value} (h : ElAt w b e kv) : w.cell? ⟨b, 2, none⟩ = some (.string e.text) := cell_of_row _ _ _ _ _ _ h
theorem ElAt.c3 {w : World} {b : Nat} {e : El} {kv : Value} (h : ElAt w b e kv) : w.cell? ⟨b, 3, none⟩ = some (.bool e.bare) := cell_of_row _ _ _ _ _ _ h
theorem ElAt.c4 {w : World} {b : Nat} {e : El} {kv : Value} (h : ElAt w b e kv) : w.cell? ⟨b, 4, none⟩ = some kv := cell_of_row _ _ _ _ _ _ h

/-- What comes of it: the row has grown, or lies anew; nothing else has turned. -/
def AllIs (W : World) (base : Nat) (v : Value) (l : List (Nat × Iv)) (e : Ending) (W' : World) : Prop :=
  ∃ v', e = .returned v' ∧ Pairs W' base v' l ∧ Stays (fun j => j < W.heap.size ∧ some j ≠ v.ownBlock) W W' ∧ ∀ g, v'.ownBlock = some g → v.ownBlock = some g ∨ W.heap.size ≤ g

set_option maxHeartbeats 2000000 in
theorem refAll_in (w0 : World) (B most : Nat) (hmost : most ≤ 5000) : ∀ (k d : Nat) (l : List (Nat × Iv)) (v : Value) (x : Iv) (base : Nat) (W : World), d + k ≤ 5001 → Ok w0 B x → Below B w0 W → B ≤ base → base ≤ W.heap.size → Pairs W base v l → l.length ≤ most →
    Calls Tryd.prog 24 #[v, .agg #[.int .i64 x.1.page, .string x.1.name, .string x.1.text, .bool x.1.bare, x.2], .int .i64 (d : Int), .int .i64 (most : Int), .int .i64 ((d : Int) + (k : Int) - 1)] W (AllIs W base v (allR (kidsV w0) most k d l x)) := by
  intro k
  induction k with
  | zero =>
    intro d l v x base W hd hx hW hB hbase hv hl
    obtain ⟨⟨p, n, t, q, ks⟩, kv⟩ := x
    obtain ⟨a, c, hkv⟩ := hx.len
    simp only [El.page, El.name, El.text, El.bare] at hkv ⊢
    subst hkv
    obtain ⟨va, vc, rfl⟩ := hv.shape
    have hD : (d : Int) > (d : Int) + ((0 : Nat) : Int) - 1 := by omega
    have hb1 : Stays (fun j => j < W.heap.size ∧ some j ≠ (Value.slice va l.length vc).ownBlock) W (W.alloc (.cells #[.int .i64 p, .string n, .string t, .bool q, .slice a ks.length c] 24)) := (Stays.refl _ _).alloc _ fun j hj => hj.1
    have HV := Lib.hid (hv.keep ((Below.refl W.heap.size W).alloc (Nat.le_refl _) (.cells #[.int .i64 p, .string n, .string t, .bool q, .slice a (El.mk p n t q ks).kids.length c] 24)))
    simp only [El.kids] at HV ⊢
    generalize (d : Int) + ((0 : Nat) : Int) - 1 = D at hD ⊢
    generalize hks : ks.length = m at *
    clear hv
    go_enter Tryd.func24, Tryd.ntmps24
    go_wp2_with fail
    go_ret
    exact ⟨_, rfl, HV.out, hb1, fun g e => .inl e⟩
  | succ k ih =>
    intro d l v x base W hd hx hW hB hbase hv hl
    have hD : ¬ (d : Int) > (d : Int) + ((k + 1 : Nat) : Int) - 1 := by omega
    have IH := Lib.hid (ih (d + 1))
    have hDD : ((d + 1 : Nat) : Int) + (k : Int) - 1 = (d : Int) + ((k + 1 : Nat) : Int) - 1 := by omega
    rw [hDD] at IH
    have hdd : ((d + 1 : Nat) : Int) = (d : Int) + 1 := by omega
    rw [hdd] at IH
    obtain ⟨R, hR⟩ : ∃ R, allR (kidsV w0) most (k + 1) d l x = R := ⟨_, rfl⟩
    rw [hR]
    have HX := Lib.hid hx
    have hE : Lib.hid hx = HX := rfl
    obtain ⟨a, c, hkv⟩ := hx.len
    obtain ⟨-, -, hf3⟩ := hx.fits
    unfold maxLen at hf3
    have hR2 : (if most ≤ l.length then l else goA (allR (kidsV w0) most k (d + 1)) most (l ++ [(d, x)]) (kidsV w0 x)) = R := hR
    clear hE ih hR
    generalize (d : Int) + ((k + 1 : Nat) : Int) - 1 = D at *
    obtain ⟨va, vc, rfl⟩ := hv.shape
    have hd9 : (d : Int) ≤ 5001 := by omega
    have hbox : ElAt (W.alloc (.cells #[.int .i64 x.1.page, .string x.1.name, .string x.1.text, .bool x.1.bare, x.2] 24)) W.heap.size x.1 x.2 := heap_alloc_new W _
    have hbw : Below W.heap.size W (W.alloc (.cells #[.int .i64 x.1.page, .string x.1.name, .string x.1.text, .bool x.1.bare, x.2] 24)) := (Below.refl _ _).alloc (Nat.le_refl _) _
    have hv1 := hv.keep hbw
    have hz1 : (W.alloc (.cells #[.int .i64 x.1.page, .string x.1.name, .string x.1.text, .bool x.1.bare, x.2] 24)).heap.size = W.heap.size + 1 := World.size_alloc _ _
    rw [hkv] at hbox hbw hv1 hz1 ⊢
    by_cases hm : most ≤ l.length
    · have hmz : (l.length : Int) ≥ (most : Int) := by omega
      have HE := Lib.hid (show R = l by rw [if_pos hm] at hR2; exact hR2.symm)
      have HV := Lib.hid (And.intro hv1 ((Stays.refl (fun j => j < W.heap.size ∧ some j ≠ (Value.slice va l.length vc).ownBlock) W).trans (Stays.of_below hbw fun j hj => hj.1)))
      clear hR2 hm hv hv1 hbw hbox IH
      go_enter Tryd.func24, Tryd.ntmps24
      go_wp2_with fail
      go_ret
      exact ⟨_, rfl, by rw [HE.out]; exact HV.out.1, HV.out.2, fun g e => .inl e⟩
    have hmz : ¬ (l.length : Int) ≥ (most : Int) := by omega
    have hR3 := Lib.hid (show goA (allR (kidsV w0) most k (d + 1)) most (l ++ [(d, x)]) ((kidsV w0 x).drop 0) = R by rw [if_neg hm] at hR2; rw [List.drop_zero]; exact hR2)
    generalize hU : W.alloc (.cells #[.int .i64 x.1.page, .string x.1.name, .string x.1.text, .bool x.1.bare, .slice a x.1.kids.length c] 24) = U at *
    obtain ⟨v1, w1, hrun, hp1, hs1, hfr1⟩ := pairs_append hv1 (by omega) d x.1 (a := a) (n := x.1.kids.length) (c := c) (by omega)
    rw [hz1] at hrun
    have HRUN := Lib.hid hrun
    have hbox1 : ElAt w1 W.heap.size x.1 (.slice a x.1.kids.length c) := (hs1.block _ ⟨by omega, fun e => by have := (own_lt hv _ e.symm).2; omega⟩).trans hbox
    have hS0 : Stays (fun j => j < W.heap.size ∧ some j ≠ (Value.slice va l.length vc).ownBlock) W w1 := (Stays.of_below hbw fun j hj => hj.1).trans (hs1.mono fun j hj => ⟨by have := hj.1; omega, hj.2⟩)
    have HP := Lib.hid (And.intro hp1 (And.intro hbox1 (And.intro hS0 (fun g e => (hfr1 g e).imp id fun h => (by omega : W.heap.size < g)))))
    have HL0 := Lib.hid (show (l ++ [(d, x)]).length ≤ most by rw [List.length_append, List.length_singleton]; omega)
    have HB := Lib.hid (And.intro hW (And.intro hB (And.intro hbase (fun g e => own_lt hv g e))))
    have he : (x.1, Value.slice a x.1.kids.length c) = x := by rw [← hkv]
    rw [he] at HP
    obtain ⟨va1, vc1, hv1e⟩ := hp1.shape
    rw [List.length_append, List.length_singleton] at hv1e
    subst hv1e
    clear hrun hp1 hs1 hfr1 hbox1 hS0 hv hv1 hbox hbw hR2 hm hW hz1 hl
    subst hU
    go_enter Tryd.func24, Tryd.ntmps24
    go_wp2_with (at_builtin; refine App.list_run rfl _ _ _ _ rfl _ _ _ rfl rfl HRUN.out ?_)
    clear HRUN
    go_loopw [0, 11] (fun lv iv wr => ∃ (i : Nat) (l' : List (Nat × Iv)), iv = .int .i64 (i : Int) ∧ i ≤ x.1.kids.length ∧ l'.length ≤ most ∧ Pairs wr base lv l' ∧ Hid (goA (allR (kidsV w0) most k (d + 1)) most l' ((kidsV w0 x).drop i) = R) ∧ ElAt wr W.heap.size x.1 (.slice a x.1.kids.length c) ∧ Stays (fun j => j < W.heap.size ∧ some j ≠ (Value.slice va l.length vc).ownBlock) W wr ∧ (∀ g, lv.ownBlock = some g → (Value.slice va l.length vc).ownBlock = some g ∨ W.heap.size < g)) (fun _ iv _ => x.1.kids.length - (intOf iv).toNat)
    case atStart => exact ⟨0, l ++ [(d, x)], rfl, Nat.zero_le _, HL0.out, HP.out.1, hR3, HP.out.2.1, HP.out.2.2.1, HP.out.2.2.2⟩
    case round =>
      clear hR3 HP HL0
      obtain ⟨i, l', rfl, hi, hl', hp, hg, hbx, hS, hfr⟩ := hrel
      obtain ⟨la, lc, rfl⟩ := hp.shape
      have hk4 := hbx.c4
      have hz := hS.size
      have hBW : Below B w0 wr := HB.out.1.trans (hS.below fun j hj => ⟨by have := HB.out.2.1; have := HB.out.2.2.1; omega, fun e => by have := (HB.out.2.2.2 j e.symm).1; have := HB.out.2.1; omega⟩)
      by_cases hlt : i < x.1.kids.length
      · have hltz : (i : Int) < (x.1.kids.length : Int) := by omega
        by_cases hlm : l'.length < most
        · have hlmz : (l'.length : Int) < (most : Int) := by omega
          obtain ⟨b, o, c', kv, e1, hbB, c0, c1, c2, c3, c4, hk, hok⟩ := HX.out.kid hlt
          rw [hkv] at e1
          cases e1
          obtain ⟨ka, kc, hkv2⟩ := hok.len
          simp only at hkv2
          subst hkv2
          have c0 := (hBW.cell (p := ⟨b, o + i * 5, none⟩) hbB).trans c0
          have c1 := (hBW.cell (p := ⟨b, o + i * 5 + 1, none⟩) hbB).trans c1
          have c2 := (hBW.cell (p := ⟨b, o + i * 5 + 2, none⟩) hbB).trans c2
          have c3 := (hBW.cell (p := ⟨b, o + i * 5 + 3, none⟩) hbB).trans c3
          have c4 := (hBW.cell (p := ⟨b, o + i * 5 + 4, none⟩) hbB).trans c4
          have CI := Lib.hid (IH.out l' (.slice la l'.length lc) (x.1.kids[i], .slice ka x.1.kids[i].kids.length kc) base wr (by omega) hok hBW HB.out.2.1 (by have := HB.out.2.2.1; omega) hp hl')
          have HG := Lib.hid (show goA (allR (kidsV w0) most k (d + 1)) most (allR (kidsV w0) most k (d + 1) l' (x.1.kids[i], .slice ka x.1.kids[i].kids.length kc)) ((kidsV w0 x).drop (i + 1)) = R by
            have h := hg.out
            rw [kidsV_drop hlt hk, goA, if_pos hlm] at h
            exact h)
          have HL := Lib.hid (allR_le (kids := kidsV w0) most k (d + 1) l' (x.1.kids[i], .slice ka x.1.kids[i].kids.length kc) hl')
          generalize allR (kidsV w0) most k (d + 1) l' (x.1.kids[i], .slice ka x.1.kids[i].kids.length kc) = l2 at CI HG HL
          simp only at CI
          unfold AllIs at CI
          have HS := Lib.hid (And.intro hS (And.intro hfr (And.intro hbx (own_lt hp))))
          clear hg hok hk hS hfr hbx
          go_wp2_with (go_at_call 24; refine CI.out.mono ?_; rintro e w2 ⟨v2, rfl, hp2, hs2, hfr2⟩)
          obtain ⟨hS, hfr, hbx, hol⟩ := HS.out
          go_roundw
          case rel => exact ⟨i + 1, l2, by go_num, by omega, HL.out, hp2, HG, (hs2.block _ ⟨hbx.lt, fun e => by
              rcases hfr _ e.symm with h | h
              · have := (HB.out.2.2.2 _ h).2; omega
              · exact Nat.lt_irrefl _ h⟩).trans hbx, hS.trans (hs2.mono fun j hj => ⟨by have := hj.1; omega, fun e => by
              rcases hfr _ e.symm with h | h
              · exact hj.2 h.symm
              · have := hj.1; omega⟩), fun g e => by
              rcases hfr2 g e with h | h
              · exact hfr g h
              · exact .inr (by have := hbx.lt; omega)⟩
          case measure => simp [intOf]; omega
        · have hlmz : ¬ (l'.length : Int) < (most : Int) := by omega
          have HE := Lib.hid (show l' = R by
            have h := hg.out
            rw [List.drop_eq_getElem_cons (by rw [kidsV_length]; exact hlt), goA, if_neg hlm] at h
            exact h)
          clear hg
          go_wp2_with fail
          go_ret
          exact ⟨_, rfl, by rw [← HE.out]; exact hp, hS, fun g e => (hfr g e).imp id Nat.le_of_lt⟩
      · obtain rfl : i = x.1.kids.length := by omega
        have hltz : ¬ (x.1.kids.length : Int) < (x.1.kids.length : Int) := by omega
        have HE := Lib.hid (show l' = R by
          have h := hg.out
          rw [List.drop_eq_nil_of_le (by rw [kidsV_length]; exact Nat.le_refl _), goA] at h
          exact h)
        clear hg
        go_wp2_with fail
        go_ret
        exact ⟨_, rfl, by rw [← HE.out]; exact hp, hS, fun g e => (hfr g e).imp id Nat.le_of_lt⟩
end Go.Proofs.YtpgjalikgmagiaaDoor.Tr
