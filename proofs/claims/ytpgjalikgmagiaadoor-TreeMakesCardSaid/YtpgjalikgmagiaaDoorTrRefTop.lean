/-
The document's All and Weight, and the law's guard on size. Conditions: the element lies below the caller's blocks.
-/
import Derived.Test.YtpgjalikgmagiaaDoorTrRefAll
namespace Go.Proofs.YtpgjalikgmagiaaDoor.Tr
set_option maxRecDepth 100000
open Go.RowKit Sq

/-- An element as a value. -/
abbrev elV (x : Iv) : Value := .agg #[.int .i64 x.1.page, .string x.1.name, .string x.1.text, .bool x.1.bare, x.2]
theorem refAll_any (most deepest : Nat) (hm : most ≤ 5000) (hd : deepest ≤ 5000) (x : Iv) (w : World) (hx : Ok w w.heap.size x) :
    Calls Tryd.prog 15 #[elV x, .int .i64 (most : Int), .int .i64 (deepest : Int)] w fun e w' => ∃ v, e = .returned v ∧ Pairs w' w.heap.size v ((preV w deepest 1 x).take most) ∧ Below w.heap.size w w' := by
  have hbw : Below w.heap.size w (w.alloc (.cells #[.int .i64 x.1.page, .string x.1.name, .string x.1.text, .bool x.1.bare, x.2] 24)) := (Below.refl _ _).alloc (Nat.le_refl _) _
  have hbox : ElAt (w.alloc (.cells #[.int .i64 x.1.page, .string x.1.name, .string x.1.text, .bool x.1.bare, x.2] 24)) w.heap.size x.1 x.2 := heap_alloc_new w _
  have C := Lib.hid (refAll_in w w.heap.size most hm deepest 1 [] (.slice none 0 0) x w.heap.size _ (by omega) hx hbw (Nat.le_refl _) hbw.size (Pairs.nil _ _) (Nat.zero_le _))
  rw [allR_eq most deepest 1 [] x (Nat.zero_le _), List.nil_append, List.length_nil, Nat.sub_zero] at C
  rw [show (((1 : Nat) : Int) + (deepest : Int) - 1) = (deepest : Int) by omega] at C
  have HB := Lib.hid hbw
  unfold elV
  obtain ⟨a, c, hkv⟩ := hx.len
  have q0 := hbox.c0
  have q1 := hbox.c1
  have q2 := hbox.c2
  have q3 := hbox.c3
  have q4 := hbox.c4
  rw [hkv] at C HB q0 q1 q2 q3 q4 ⊢
  unfold preV
  generalize (preG (kidsV w) deepest 1 x).take most = l at C ⊢
  unfold AllIs at C
  clear hbox hbw hx hkv
  go_enter Tryd.func15, Tryd.ntmps15
  go_wp2_with (go_at_call 24; refine C.out.mono ?_; rintro e w2 ⟨v2, rfl, hp2, hs2, hfr2⟩)
  go_ret
  exact ⟨_, rfl, hp2, HB.out.trans (hs2.below fun j hj => ⟨by have := HB.out.size; omega, by simp [Value.ownBlock]⟩)⟩
theorem refWeight_any (x : Iv) (w : World) (hx : Ok w w.heap.size x) :
    Calls Tryd.prog 9 #[elV x] w fun e w' => e = .returned (.int .i64 (weight x.1 : Int)) ∧ Below w.heap.size w w' := by
  have hbw : Below w.heap.size w (w.alloc (.cells #[.int .i64 x.1.page, .string x.1.name, .string x.1.text, .bool x.1.bare, x.2] 24)) := (Below.refl _ _).alloc (Nat.le_refl _) _
  have hbox : ElAt (w.alloc (.cells #[.int .i64 x.1.page, .string x.1.name, .string x.1.text, .bool x.1.bare, x.2] 24)) w.heap.size x.1 x.2 := heap_alloc_new w _
  have C := Lib.hid (refAll_any 5000 5000 (Nat.le_refl _) (Nat.le_refl _) x _ ((hx.stays hbw).up hbw.size))
  have HL := Lib.hid (show ((preV (w.alloc (.cells #[.int .i64 x.1.page, .string x.1.name, .string x.1.text, .bool x.1.bare, x.2] 24)) 5000 1 x).take 5000).length = weight x.1 by rw [List.length_take, preV_length]; rfl)
  have HB := Lib.hid hbw
  unfold elV at C ⊢
  obtain ⟨a, c, hkv⟩ := hx.len
  have q0 := hbox.c0
  have q1 := hbox.c1
  have q2 := hbox.c2
  have q3 := hbox.c3
  have q4 := hbox.c4
  rw [hkv] at C HB HL q0 q1 q2 q3 q4 ⊢
  generalize (preV _ 5000 1 x).take 5000 = l at C HL
  clear hbox hbw hx hkv
  go_enter Tryd.func9, Tryd.ntmps9
  go_wp2_with (go_at_call 15; refine C.out.mono ?_; rintro e w2 ⟨v2, rfl, hp2, hs2⟩; obtain ⟨ra, rc, rfl⟩ := hp2.shape)
  go_ret
  exact ⟨by rw [← HL.out]; rfl, HB.out.trans (hs2.mono HB.out.size)⟩

/-! ### The guard -/
/-- Texts that are too long, or too deep down. -/
def gr : Nat → List (Nat × El) → Bool
  | _, [] => false
  | n, y :: r => if 30000 < n + y.2.text.size + y.2.name.size ∨ 10000 < y.2.text.size ∨ 10000 < y.2.name.size ∨ 50 < y.1 then true else gr (n + y.2.text.size + y.2.name.size) r
theorem gr_drop {l : List (Nat × El)} {n i : Nat} (h : i < l.length) : gr n (l.drop i) = if 30000 < n + l[i].2.text.size + l[i].2.name.size ∨ 10000 < l[i].2.text.size ∨ 10000 < l[i].2.name.size ∨ 50 < l[i].1 then true else gr (n + l[i].2.text.size + l[i].2.name.size) (l.drop (i + 1)) := by
  rw [List.drop_eq_getElem_cons h]; rfl
/-- How a text's or a depth's excess shows. -/
def Over (n : Nat) (y : Nat × El) : Prop := 30000 < n + y.2.text.size + y.2.name.size ∨ 10000 < y.2.text.size ∨ 10000 < y.2.name.size ∨ 50 < y.1
theorem gr_yes {l : List (Nat × Iv)} {n i : Nat} (h : i < l.length) (hc : Over n (l[i].1, l[i].2.1)) : gr n ((l.map (fun y => (y.1, y.2.1))).drop i) = true := by
  rw [gr_drop (by rw [List.length_map]; exact h)]
  simp only [List.getElem_map]
  exact if_pos hc
theorem gr_no {l : List (Nat × Iv)} {n i : Nat} (h : i < l.length) (hc : ¬ Over n (l[i].1, l[i].2.1)) : gr n ((l.map (fun y => (y.1, y.2.1))).drop i) = gr (n + l[i].2.1.text.size + l[i].2.1.name.size) ((l.map (fun y => (y.1, y.2.1))).drop (i + 1)) := by
  rw [gr_drop (by rw [List.length_map]; exact h)]
  simp only [List.getElem_map]
  exact if_neg hc
def great (e : El) : Bool := gr 0 ((pre 60 1 e).take 3000) || decide (3000 ≤ ((pre 60 1 e).take 3000).length)
theorem gr_small : ∀ {l : List (Nat × El)} {n : Nat}, gr n l = false → ∀ y ∈ l, y.2.text.size ≤ 10000 ∧ y.2.name.size ≤ 10000 ∧ y.1 ≤ 50
  | [], _, _, y, hy => by cases hy
  | z :: r, n, h, y, hy => by
    unfold gr at h
    split at h
    · cases h
    · rename_i hc
      rcases List.mem_cons.1 hy with rfl | hy
      · omega
      · exact gr_small h y hy
/-- What is not too much. -/
structure Small (e : El) : Prop where
  ht : Ht 50 e
  n : ∀ k d, (pre k d e).length < 3000
  t : ∀ k d, ∀ y ∈ pre k d e, y.2.text.size ≤ 10000 ∧ y.2.name.size ≤ 10000
theorem pre_cut : ∀ (k j d : Nat) (e : El), ∀ y ∈ pre k d e, y ∈ pre (k + j) d e
  | 0, _, _, _, y, h => by cases h
  | k + 1, j, d, e, y, h => by
    rw [show k + 1 + j = (k + j) + 1 by omega]
    rw [pre_succ] at h ⊢
    rcases List.mem_cons.1 h with rfl | h
    · exact List.mem_cons_self ..
    · obtain ⟨z, hz, hx⟩ := List.mem_flatten.1 h
      obtain ⟨c, hc, rfl⟩ := List.mem_map.1 hz
      exact List.mem_cons_of_mem _ (List.mem_flatten.2 ⟨_, List.mem_map.2 ⟨c, hc, rfl⟩, pre_cut k j (d + 1) c y hx⟩)
theorem pre_snd : ∀ (k d d' : Nat) (e : El), (pre k d e).map (·.2) = (pre k d' e).map (·.2)
  | 0, _, _, _ => rfl
  | k + 1, d, d', e => by
    rw [pre_succ, pre_succ, List.map_cons, List.map_cons, List.map_flatten, List.map_flatten, List.map_map, List.map_map]
    congr 2
    exact List.map_congr_left fun c _ => pre_snd k (d + 1) (d' + 1) c
theorem small_of {e : El} (h : great e = false) : Small e := by
  unfold great at h
  rw [Bool.or_eq_false_iff, decide_eq_false_iff_not, List.length_take] at h
  have hl : (pre 60 1 e).length < 3000 := by omega
  have ht := h.1
  rw [List.take_of_length_le (by omega)] at ht
  have hs := gr_small ht
  have hH : Ht 50 e := ht_pre 50 9 1 e fun x hx => by have := (hs x hx).2.2; omega
  have hall : ∀ k d, (pre k d e).length ≤ (pre 60 1 e).length := fun k d => by
    rw [pre_len k d 1]
    rcases Nat.le_total k 60 with hk | hk
    · obtain ⟨j, hj⟩ := Nat.exists_eq_add_of_le hk
      rw [hj]; exact pre_grow k j 1 e
    · obtain ⟨j, rfl⟩ := Nat.exists_eq_add_of_le hk
      rw [show 60 + j = 50 + (10 + j) by omega, pre_ht 50 (10 + j) 1 e hH, show (60 : Nat) = 50 + 10 from rfl, pre_ht 50 10 1 e hH]
      exact Nat.le_refl _
  refine ⟨hH, fun k d => by have := hall k d; omega, fun k d y hy => ?_⟩
  have h1 : y.2 ∈ (pre k 1 e).map (·.2) := by rw [pre_snd k 1 d]; exact List.mem_map.2 ⟨y, hy, rfl⟩
  obtain ⟨z, hz, hzy⟩ := List.mem_map.1 h1
  have h2 : z ∈ pre 60 1 e := by
    rcases Nat.le_total k 60 with hk | hk
    · obtain ⟨j, hj⟩ := Nat.exists_eq_add_of_le hk
      rw [hj]; exact pre_cut k j 1 e z hz
    · obtain ⟨j, rfl⟩ := Nat.exists_eq_add_of_le hk
      rw [show 60 + j = 50 + (10 + j) by omega, pre_ht 50 (10 + j) 1 e hH] at hz
      exact pre_cut 50 10 1 e z hz
  have := hs z h2
  rw [← hzy]
  exact ⟨this.1, this.2.1⟩

set_option maxHeartbeats 1000000 in
theorem great_walk (p : Int) (n t : ByteArray) (q : Bool) (a : Option Addr) (m c : Nat) (w : World) (l : List (Nat × Iv)) (hl : l.length ≤ 3000) (hf : ∀ y ∈ l, y.1 ≤ 61)
    (hc : Calls Tryd.prog 15 #[.agg #[.int .i64 p, .string n, .string t, .bool q, .slice a m c], .int .i64 3000, .int .i64 60] (w.alloc (.cells #[.int .i64 p, .string n, .string t, .bool q, .slice a m c] 24)) fun e w' => ∃ v, e = .returned v ∧ Pairs w' (w.heap.size + 1) v l ∧ Below (w.heap.size + 1) (w.alloc (.cells #[.int .i64 p, .string n, .string t, .bool q, .slice a m c] 24)) w') :
    Calls Tryd.prog 5 #[.agg #[.int .i64 p, .string n, .string t, .bool q, .slice a m c]] w fun e w' => e = .returned (.bool (gr 0 (l.map (fun y => (y.1, y.2.1))) || decide (3000 ≤ l.length))) ∧ Below w.heap.size w w' := by
  have hbw : Below w.heap.size w (w.alloc (.cells #[.int .i64 p, .string n, .string t, .bool q, .slice a m c] 24)) := (Below.refl _ _).alloc (Nat.le_refl _) _
  have hbox : ElAt (w.alloc (.cells #[.int .i64 p, .string n, .string t, .bool q, .slice a m c] 24)) w.heap.size (.mk p n t q []) (.slice a m c) := heap_alloc_new w _
  have C := Lib.hid hc
  have HF := Lib.hid hf
  have HL0 := Lib.hid hl
  have HB := Lib.hid hbw
  obtain ⟨R, hR⟩ : ∃ R, (gr 0 (l.map (fun y => (y.1, y.2.1))) || decide (3000 ≤ l.length)) = R := ⟨_, rfl⟩
  rw [hR]
  have q0 := hbox.c0
  have q1 := hbox.c1
  have q2 := hbox.c2
  have q3 := hbox.c3
  have q4 := hbox.c4
  simp only [El.page, El.name, El.text, El.bare] at q0 q1 q2 q3
  have HR := Lib.hid hR
  clear hbox hbw hR hc hf hl
  go_enter Tryd.func5, Tryd.ntmps5
  go_wp2_with (go_at_call 15; refine C.out.mono ?_; rintro e w2 ⟨v2, rfl, hp2, hs2⟩; obtain ⟨ra, rc, rfl⟩ := hp2.shape)
  clear q0 q1 q2 q3 q4 C
  go_loopw [4, 5] (fun nv iv wr => ∃ (n i : Nat), nv = .int .i64 (n : Int) ∧ iv = .int .i64 (i : Int) ∧ i ≤ l.length ∧ n ≤ 30000 ∧ Hid ((gr n ((l.map (fun y => (y.1, y.2.1))).drop i) || decide (3000 ≤ l.length)) = R) ∧ Pairs wr (w.heap.size + 1) (.slice ra l.length rc) l ∧ Below w.heap.size w wr) (fun _ iv _ => l.length - (intOf iv).toNat)
  case atStart => exact ⟨0, 0, rfl, rfl, Nat.zero_le _, by decide, Lib.hid (by rw [List.drop_zero]; exact HR.out), hp2, HB.out.trans (hs2.mono (Nat.le_succ _))⟩
  case round =>
    clear hp2 hs2 HR HB
    obtain ⟨n, i, rfl, rfl, hi, hn, hg, hp, hB⟩ := hrel
    have hl0 := HL0.out
    by_cases hlt : i < l.length
    · have hltz : (i : Int) < (l.length : Int) := by omega
      obtain ⟨g, c', e1, hgb, c0, c1, c2, c3, c4, c5⟩ := hp.at_ hlt
      cases e1
      have ht3 := HF.out _ (List.getElem_mem hlt)
      have HY := Lib.hid (show Over n (l[i].1, l[i].2.1) → R = true from fun hc => by have h := hg.out; rw [gr_yes hlt hc, Bool.true_or] at h; exact h.symm)
      have HN := Lib.hid (show ¬ Over n (l[i].1, l[i].2.1) → (gr (n + l[i].2.1.text.size + l[i].2.1.name.size) ((l.map (fun y => (y.1, y.2.1))).drop (i + 1)) || decide (3000 ≤ l.length)) = R from fun hc => by have h := hg.out; rw [gr_no hlt hc] at h; exact h)
      unfold Over at HY HN
      generalize hy : l[i] = y at c0 c1 c2 c3 c4 c5 ht3 HY HN
      obtain ⟨yd, ⟨yp, yn, yt, yq, yk⟩, yv⟩ := y
      simp only [El.page, El.name, El.text, El.bare] at c0 c1 c2 c3 c4 ht3 HY HN
      clear hg hy
      have HBD := Lib.hid (show Below w.heap.size w wr.drew from hB.drew)
      by_cases h2 : 10000 < (yt.size : Int)
      · have HE : Hid (R = true) := Lib.hid (HY.out (by omega))
        clear HY HN
        obtain ⟨s1, hs1⟩ : ∃ s1, IntKind.i64.wrap ((n : Int) + (yt.size : Int)) = s1 := ⟨_, rfl⟩
        obtain ⟨s2, hs2⟩ : ∃ s2, IntKind.i64.wrap (s1 + (yn.size : Int)) = s2 := ⟨_, rfl⟩
        by_cases hs3 : 30000 < s2
        · go_wp2_with fail
          go_region
          all_goals go_wp2_with fail
          all_goals (go_ret; exact ⟨by rw [HE.out]; rfl, HBD.out⟩)
        · go_wp2_with fail
          go_region
          all_goals go_wp2_with fail
          all_goals (go_ret; exact ⟨by rw [HE.out]; rfl, HBD.out⟩)
      by_cases h3 : 10000 < (yn.size : Int)
      · have HE : Hid (R = true) := Lib.hid (HY.out (by omega))
        clear HY HN
        obtain ⟨s1, hs1⟩ : ∃ s1, IntKind.i64.wrap ((n : Int) + (yt.size : Int)) = s1 := ⟨_, rfl⟩
        obtain ⟨s2, hs2⟩ : ∃ s2, IntKind.i64.wrap (s1 + (yn.size : Int)) = s2 := ⟨_, rfl⟩
        by_cases hs3 : 30000 < s2
        · go_wp2_with fail
          go_region
          all_goals go_wp2_with fail
          all_goals (go_ret; exact ⟨by rw [HE.out]; rfl, HBD.out⟩)
        · go_wp2_with fail
          go_region
          all_goals go_wp2_with fail
          all_goals (go_ret; exact ⟨by rw [HE.out]; rfl, HBD.out⟩)
      by_cases h1 : 30000 < (n : Int) + (yt.size : Int) + (yn.size : Int)
      · have HE : Hid (R = true) := Lib.hid (HY.out (by omega))
        clear HY HN
        go_wp2_with fail
        go_region
        all_goals go_wp2_with fail
        all_goals (go_ret; exact ⟨by rw [HE.out]; rfl, HBD.out⟩)
      by_cases h4 : 50 < (yd : Int)
      · have HE : Hid (R = true) := Lib.hid (HY.out (by omega))
        clear HY HN
        go_wp2_with fail
        go_region
        all_goals go_wp2_with fail
        all_goals (go_ret; exact ⟨by rw [HE.out]; rfl, HBD.out⟩)
      have HG2 := Lib.hid (HN.out (by omega))
      have HSUM := Lib.hid (show (n : Int) + (yt.size : Int) + (yn.size : Int) = ((n + yt.size + yn.size : Nat) : Int) by omega)
      clear HY HN
      go_wp2_with fail
      go_region
      all_goals go_wp2_with fail
      all_goals go_roundw
      all_goals (first | exact ⟨n + yt.size + yn.size, i + 1, congrArg (Value.int .i64) HSUM.out, by go_num, by omega, by omega, HG2, hp.keep (Below.refl _ _).drew, HBD.out⟩ | (simp [intOf] <;> omega))
    · obtain rfl : i = l.length := by omega
      have hltz : ¬ (l.length : Int) < (l.length : Int) := by omega
      have HE : Hid (R = decide (3000 ≤ l.length)) := Lib.hid (by have h := hg.out; rw [List.drop_eq_nil_of_le (by rw [List.length_map]; exact Nat.le_refl _), gr, Bool.false_or] at h; exact h.symm)
      clear hg
      by_cases h3 : 3000 ≤ l.length
      · have h3z : (l.length : Int) ≥ 3000 := by omega
        go_wp2_with fail
        go_ret
        exact ⟨by rw [HE.out, decide_eq_true h3]; rfl, hB⟩
      · have h3z : ¬ (l.length : Int) ≥ 3000 := by omega
        go_wp2_with fail
        go_ret
        exact ⟨by rw [HE.out, decide_eq_false h3]; rfl, hB⟩
theorem great_any (x : Iv) (w : World) (hx : Ok w w.heap.size x) :
    Calls Tryd.prog 5 #[elV x] w fun e w' => e = .returned (.bool (great x.1)) ∧ Below w.heap.size w w' := by
  have hbw : Below w.heap.size w (w.alloc (.cells #[.int .i64 x.1.page, .string x.1.name, .string x.1.text, .bool x.1.bare, x.2] 24)) := (Below.refl _ _).alloc (Nat.le_refl _) _
  have hz : (w.alloc (.cells #[.int .i64 x.1.page, .string x.1.name, .string x.1.text, .bool x.1.bare, x.2] 24)).heap.size = w.heap.size + 1 := World.size_alloc _ _
  have hx' := (hx.stays hbw).up hbw.size
  have C := refAll_any 3000 60 (by decide) (by decide) x _ hx'
  obtain ⟨a, c, hkv⟩ := hx.len
  have hm := preV_map (w.alloc (.cells #[.int .i64 x.1.page, .string x.1.name, .string x.1.text, .bool x.1.bare, x.2] 24)) 60 1 x
  have hf : ∀ y ∈ preV (w.alloc (.cells #[.int .i64 x.1.page, .string x.1.name, .string x.1.text, .bool x.1.bare, x.2] 24)) 60 1 x, y.1 ≤ 61 := fun y hy => by
    have h2 := preV_fst y hy
    omega
  generalize hk : (60 : Nat) = k at C hm hf
  rw [hz] at C
  generalize hl : preV (w.alloc (.cells #[.int .i64 x.1.page, .string x.1.name, .string x.1.text, .bool x.1.bare, x.2] 24)) k 1 x = l at C hm hf
  unfold elV at C ⊢
  rw [hkv] at C ⊢
  have := great_walk x.1.page x.1.name x.1.text x.1.bare a x.1.kids.length c w (l.take 3000) (by rw [List.length_take]; exact Nat.min_le_left _ _) (fun y hy => hf y (List.mem_of_mem_take hy)) (by rw [← hk] at C; exact C)
  refine this.mono ?_
  rintro e w' ⟨rfl, hb⟩
  refine ⟨?_, hb⟩
  have h1 : (l.take 3000).map (fun y => (y.1, y.2.1)) = (pre k 1 x.1).take 3000 := by rw [List.map_take, hm]
  have h2 : (l.take 3000).length = ((pre k 1 x.1).take 3000).length := by rw [← h1, List.length_map]
  unfold great
  rw [h1, h2, hk]
end Go.Proofs.YtpgjalikgmagiaaDoor.Tr
