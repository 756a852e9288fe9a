/-
The law TreeMakes holds at anything that elements are made of. Conditions: the kids lie below the caller's blocks; the two tables of UTF-8 hold what the rows list.
-/
import Derived.Test.YtpgjalikgmagiaaDoorTrMkMath
import Derived.Test.YtpgjalikgmagiaaDoorTrOwn
import Derived.Test.YtpgjalikgmagiaaDoorTrSame
import Derived.Deep.RegionHeld3
namespace Go.Proofs.YtpgjalikgmagiaaDoor.Tr
set_option maxRecDepth 100000
open Go.RowKit Sq

/-- Kids alone. -/
abbrev mk0 (ks : List El) : El := .mk 0 ⟨#[]⟩ ⟨#[]⟩ false ks
/-- The law under way: its two boxes, what was made, the kids. -/
structure Kz (w W : World) (p : Int) (n t : ByteArray) (ks : List El) (lv yv : Value) (l : List Iv) (bx b9 : Nat) : Prop where
  b : Below w.heap.size w W
  xs : ElAt W bx (.mk p n t false []) (.slice none 0 0)
  ys : ElAt W b9 (mkE p n ks) yv
  x : Ok W W.heap.size (.mk p n t false [], .slice none 0 0)
  y : Ok W W.heap.size (mkE p n ks, yv)
  z : Ok W W.heap.size (mkE p n ks, lv)
  l : Lst W W.heap.size lv l
  t : Cs.Tabs W
section
variable {w W W' : World} {p : Int} {n t : ByteArray} {ks : List El} {lv yv : Value} {l : List Iv} {bx b9 : Nat}
theorem Kz.below (h : Kz w W p n t ks lv yv l bx b9) (hb : Below W.heap.size W W') : Kz w W' p n t ks lv yv l bx b9 :=
  ⟨h.b.trans (hb.mono h.b.size), (hb.block _ h.xs.lt).trans h.xs, (hb.block _ h.ys.lt).trans h.ys, (h.x.stays hb).up hb.size, (h.y.stays hb).up hb.size, (h.z.stays hb).up hb.size, (h.l.stays hb).up hb.size, h.t.below hb (Nat.le_refl _)⟩
theorem Kz.drew (h : Kz w W p n t ks lv yv l bx b9) : Kz w W.drew p n t ks lv yv l bx b9 := h.below ((Below.refl _ _).drew)
theorem Kz.cells (h : Kz w W p n t ks lv yv l bx b9) : W.cell? ⟨bx, 0, none⟩ = some (.int .i64 p) ∧ W.cell? ⟨bx, 1, none⟩ = some (.string n) ∧ W.cell? ⟨bx, 2, none⟩ = some (.string t) ∧ W.cell? ⟨bx, 3, none⟩ = some (.bool false) ∧ W.cell? ⟨bx, 4, none⟩ = some (.slice none 0 0) ∧
    W.cell? ⟨b9, 0, none⟩ = some (.int .i64 p) ∧ W.cell? ⟨b9, 1, none⟩ = some (.string n) ∧ W.cell? ⟨b9, 2, none⟩ = some (.string ⟨#[]⟩) ∧ W.cell? ⟨b9, 3, none⟩ = some (.bool false) ∧ W.cell? ⟨b9, 4, none⟩ = some yv := ⟨h.xs.c0, h.xs.c1, h.xs.c2, h.xs.c3, h.xs.c4, h.ys.c0, h.ys.c1, h.ys.c2, h.ys.c3, h.ys.c4⟩
end
theorem ok_leaf (w : World) (p : Int) (n t : ByteArray) (hn : n.size ≤ maxLen) (ht : t.size ≤ maxLen) : Ok w w.heap.size (.mk p n t false [], .slice none 0 0) :=
  ⟨1, ⟨none, 0, rfl, fun h => absurd rfl h, fun _ _ e => by cases e⟩, ht, hn, Nat.zero_le _, fun c hc => by cases hc⟩
/-- The same kids make another element. -/
theorem Ok.made {w : World} {B : Nat} {ks : List El} {v : Value} (h : Ok w B (mk0 ks, v)) (p : Int) (n : ByteArray) (hn : n.size ≤ maxLen) : Ok w B (mkE p n ks, v) := by
  obtain ⟨k, h1, h2⟩ := h
  cases k with
  | zero => exact h1.elim
  | succ k => exact ⟨k + 1, h1, Nat.zero_le _, hn, h2.2.2.1, h2.2.2.2⟩

section
variable {w W : World} {p : Int} {n t : ByteArray} {ks : List El} {lv : Value} {a ya : Option Addr} {c yc : Nat} {l : List Iv} {bx b9 : Nat}
theorem Kz.d2 (h : Kz w W p n t ks (.slice a ks.length c) (.slice ya ks.length yc) l bx b9) : Calls Tryd.prog 12 #[.agg #[.int .i64 p, .string n, .string t, .bool false, .slice none 0 0], .agg #[.int .i64 p, .string n, .string t, .bool false, .slice none 0 0]] W fun e w' => e = .returned (.bool true) ∧ Below W.heap.size W w' := by
  have C := refSame_any (.mk p n t false []) (.slice none 0 0) (.slice none 0 0) W h.x h.x
  unfold elV at C
  simp only [El.page, El.name, El.text, El.bare] at C
  exact C
theorem Kz.d4 (h : Kz w W p n t ks (.slice a ks.length c) (.slice ya ks.length yc) l bx b9) : Calls Tryd.prog 12 #[.agg #[.int .i64 p, .string n, .string ⟨#[]⟩, .bool false, .slice ya ks.length yc], .agg #[.int .i64 p, .string n, .string ⟨#[]⟩, .bool false, .slice a ks.length c]] W fun e w' => e = .returned (.bool true) ∧ Below W.heap.size W w' := by
  have C := refSame_any (mkE p n ks) (.slice ya ks.length yc) (.slice a ks.length c) W h.y h.z
  unfold elV at C
  simp only [El.page, El.name, El.text, El.bare] at C
  exact C
theorem Kz.d5 (h : Kz w W p n t ks (.slice a ks.length c) (.slice ya ks.length yc) l bx b9) {q : Int} (hq : chkS (.mk p n t false []) = q) (hs : Small (.mk p n t false [])) : Calls Tryd.prog 6 #[.agg #[.int .i64 p, .string n, .string t, .bool false, .slice none 0 0]] W fun e w' => e = .returned (.int .i64 q) ∧ Below W.heap.size W w' := by
  have C := pCheck_any (.mk p n t false [], .slice none 0 0) W h.x hs h.t
  simp only [hq] at C
  unfold elV at C
  simp only [El.page, El.name, El.text, El.bare] at C
  exact C
theorem Kz.d6 (h : Kz w W p n t ks (.slice a ks.length c) (.slice ya ks.length yc) l bx b9) {q : Int} (hq : chkS (.mk p n t false []) = q) (hs : Small (.mk p n t false [])) : Calls Tryd.prog 7 #[.agg #[.int .i64 p, .string n, .string t, .bool false, .slice none 0 0]] W fun e w' => e = .returned (.int .i64 q) ∧ Below W.heap.size W w' := by
  have C := refCheck_any (.mk p n t false [], .slice none 0 0) W h.x hs
  simp only [hq] at C
  unfold elV at C
  simp only [El.page, El.name, El.text, El.bare] at C
  exact C
/-- What is wrong with what was made. -/
theorem Kz.cy (h : Kz w W p n t ks (.slice a ks.length c) (.slice ya ks.length yc) l bx b9) {q : Int} (hq : chkS (mkE p n ks) = q) (hs : Small (mkE p n ks)) : Calls Tryd.prog 6 #[.agg #[.int .i64 p, .string n, .string ⟨#[]⟩, .bool false, .slice ya ks.length yc]] W fun e w' => e = .returned (.int .i64 q) ∧ Below W.heap.size W w' := by
  have C := pCheck_any (mkE p n ks, .slice ya ks.length yc) W h.y hs h.t
  simp only [hq] at C
  unfold elV at C
  simp only [El.page, El.name, El.text, El.bare] at C
  exact C
end

set_option maxHeartbeats 8000000 in
theorem makes_law (p : Int) (n t : ByteArray) (ks : List El) (lv : Value) (w : World) (hx : Ok w w.heap.size (mk0 ks, lv)) (hn : n.size ≤ maxLen) (ht : t.size ≤ maxLen) (T : Cs.Tabs w) :
    Calls Tryd.prog 4 #[.agg #[.int .i64 p, .string n, .string t, lv]] w fun e w' => e = .returned (.bool true) ∧ Below w.heap.size w w' := by
  obtain ⟨a, c, hlv⟩ := hx.len
  simp only [El.kids] at hlv
  subst hlv
  obtain ⟨V1, hV1⟩ : ∃ V1, w.alloc (.cells #[.int .i64 p, .string n, .string t, .slice a ks.length c] 30) = V1 := ⟨_, rfl⟩
  have hB1 : Below w.heap.size w V1 := by rw [← hV1]; exact (Below.refl _ _).alloc (Nat.le_refl _) _
  have hz : V1.heap[w.heap.size]? = some (.cells #[.int .i64 p, .string n, .string t, .slice a ks.length c] 30 (0, 0)) := by rw [← hV1]; exact heap_alloc_new w _
  have m0 : V1.cell? ⟨w.heap.size, 0, none⟩ = some (.int .i64 p) := cell_of_row _ _ _ _ _ _ hz
  have m1 : V1.cell? ⟨w.heap.size, 1, none⟩ = some (.string n) := cell_of_row _ _ _ _ _ _ hz
  have m2 : V1.cell? ⟨w.heap.size, 2, none⟩ = some (.string t) := cell_of_row _ _ _ _ _ _ hz
  have m3 : V1.cell? ⟨w.heap.size, 3, none⟩ = some (.slice a ks.length c) := cell_of_row _ _ _ _ _ _ hz
  have HB1 := Lib.hid hB1
  clear hB1 hz
  subst hV1
  go_enter Tryd.func4, Tryd.ntmps4
  go_wp2_with fail
  go_quiet (fail)
  go_wp2_with fail
  have hB2 : Below w.heap.size w ((w.alloc (.cells #[.int .i64 p, .string n, .string t, .slice a ks.length c] 30)).drewN nq) := HB1.out.trans ⟨rfl, rfl, rfl, Nat.le_refl _, fun _ _ => rfl⟩
  clear m0 m1 m2 m3 HB1
  generalize (w.alloc (.cells #[.int .i64 p, .string n, .string t, .slice a ks.length c] 30)).drewN nq = V1 at *
  have hB3 : Below w.heap.size w (V1.alloc (.cells #[.int .i64 0, .string { data := #[] }, .string { data := #[] }, .bool false, .slice a ks.length c] 24)) := hB2.alloc hB2.size _
  clear hB2
  generalize V1.alloc (.cells #[.int .i64 0, .string { data := #[] }, .string { data := #[] }, .bool false, .slice a ks.length c] 24) = V2 at *
  have CG := great_any (mk0 ks, .slice a ks.length c) V2 ((hx.stays hB3).up hB3.size)
  have hsm := small_of (e := mk0 ks)
  unfold elV at CG
  simp only [El.page, El.name, El.text, El.bare] at CG
  generalize great (mk0 ks) = G at CG hsm
  cases G with
  | true =>
    clear hsm hx T
    refine CG.mono ?_
    rintro e w3 ⟨rfl, b3⟩
    go_wp2_with fail
    go_ret
    exact ⟨rfl, hB3.trans (b3.mono hB3.size)⟩
  | false =>
  have hsm := hsm rfl
  by_cases htb : (t.size : Int) > 10000
  · clear hsm hx T
    refine CG.mono ?_
    rintro e w3 ⟨rfl, b3⟩
    go_wp2_with fail
    go_ret
    exact ⟨rfl, hB3.trans (b3.mono hB3.size)⟩
  by_cases hnb : (n.size : Int) > 1000
  · clear hsm hx T
    refine CG.mono ?_
    rintro e w3 ⟨rfl, b3⟩
    go_wp2_with fail
    go_ret
    exact ⟨rfl, hB3.trans (b3.mono hB3.size)⟩
  obtain ⟨l, hle⟩ : ∃ l, kidsV w (mk0 ks, .slice a ks.length c) = l := ⟨_, rfl⟩
  have hlm : l.map (·.1) = ks := by rw [← hle]; exact kidsV_map w _
  have hln : l.length = ks.length := by rw [← hlm, List.length_map]
  have hlst : Lst w w.heap.size (.slice a ks.length c) l := by rw [← hle]; exact hx.lst
  have hsc : sumc l ≤ 3000 := by
    have h1 := (small_cnt hsm).1
    have h2 := sumc_kids (w := w) (x := (mk0 ks, .slice a ks.length c)) hsm.ht
    rw [hle] at h2
    simp only at h2
    omega
  have hlh : ∀ x ∈ l, Ht 50 x.1 := fun x hxl => ht_kids hsm.ht _ (by show x.1 ∈ ks; rw [← hlm]; exact List.mem_map.2 ⟨x, hxl, rfl⟩)
  have hl3 : l.length ≤ 3000 := Nat.le_trans (sumc_len l) hsc
  have hye := (hx.made p n hn)
  refine CG.mono ?_
  rintro e w3 ⟨rfl, b3⟩
  have hB4 : Below w.heap.size w w3 := hB3.trans (b3.mono hB3.size)
  have HPRE := Lib.hid (And.intro hx (And.intro T (And.intro hsm (And.intro hlst (And.intro hlh (And.intro hye hlm))))))
  clear CG b3 hB3 hx T hsm hlst hlh hye hle
  go_wp2_with fail
  refine (pLeaf_any p n t w3).mono ?_
  rintro e w4 ⟨rfl, b4⟩
  have hB5 : Below w.heap.size w w4 := hB4.trans (b4.mono hB4.size)
  clear b4 hB4
  have hz5 : (w4.alloc (.cells #[.int .i64 p, .string n, .string t, .bool false, .slice none 0 0] 24)).heap.size = w4.heap.size + 1 := World.size_alloc _ _
  have hB6 : Below w.heap.size w (w4.alloc (.cells #[.int .i64 p, .string n, .string t, .bool false, .slice none 0 0] 24)) := hB5.alloc hB5.size _
  have hbx : ElAt (w4.alloc (.cells #[.int .i64 p, .string n, .string t, .bool false, .slice none 0 0] 24)) w4.heap.size (.mk p n t false []) (.slice none 0 0) := heap_alloc_new w4 _
  obtain ⟨v6, w6, hrun, hl6, b6⟩ := own_append l (.slice a ks.length c) _ ((HPRE.out.2.2.2.1.stays hB6).up hB6.size) hl3
  rw [hz5] at hrun
  have HRUN := Lib.hid hrun
  have hbx6 : ElAt w6 w4.heap.size (.mk p n t false []) (.slice none 0 0) := ElAt.bl (b6.block _ hbx.lt) hbx
  have hB7 : Below w.heap.size w w6 := hB6.trans (b6.mono hB6.size)
  have CN := pNode_any p n l v6 w6 hl6 HPRE.out.2.2.2.2.1 hsc hn
  rw [HPRE.out.2.2.2.2.2.2] at CN
  have HC := Lib.hid (And.intro CN (And.intro hbx6 hB7))
  clear hrun hl6 b6 hz5 hB5 hB6 hbx hbx6 hB7 CN
  go_wp2_with (at_builtin; refine App.list_run rfl _ _ _ _ rfl _ _ _ rfl rfl HRUN.out ?_)
  obtain ⟨CN, hbx6, hB7⟩ := HC.out
  refine CN.mono ?_
  rintro e w7 ⟨yv, rfl, hyo, b7⟩
  obtain ⟨ya, yc, hyv⟩ := hyo.len
  simp only [El.kids] at hyv
  subst hyv
  have hb9 : ElAt (w7.alloc (.cells #[.int .i64 p, .string n, .string ⟨#[]⟩, .bool false, .slice ya ks.length yc] 24)) w7.heap.size (mkE p n ks) (.slice ya ks.length yc) := heap_alloc_new w7 _
  have hB8 : Below w.heap.size w (w7.alloc (.cells #[.int .i64 p, .string n, .string ⟨#[]⟩, .bool false, .slice ya ks.length yc] 24)) := (hB7.trans (b7.mono hB7.size)).alloc (by have := hB7.size; have := b7.size; omega) _
  have hbb : Below w7.heap.size w7 (w7.alloc (.cells #[.int .i64 p, .string n, .string ⟨#[]⟩, .bool false, .slice ya ks.length yc] 24)) := (Below.refl _ _).alloc (Nat.le_refl _) _
  have hbx9 : ElAt (w7.alloc (.cells #[.int .i64 p, .string n, .string ⟨#[]⟩, .bool false, .slice ya ks.length yc] 24)) w4.heap.size (.mk p n t false []) (.slice none 0 0) := ElAt.bl (hbb.block _ (by have := hbx6.lt; have := b7.size; omega)) (ElAt.bl (b7.block _ hbx6.lt) hbx6)
  obtain ⟨hx, T, hsm, hlst, hlh, hye, -⟩ := HPRE.out
  have K0 : Kz w (w7.alloc (.cells #[.int .i64 p, .string n, .string ⟨#[]⟩, .bool false, .slice ya ks.length yc] 24)) p n t ks (.slice a ks.length c) (.slice ya ks.length yc) l w4.heap.size w7.heap.size :=
    ⟨hB8, hbx9, hb9, ok_leaf _ p n t hn ht, (hyo.stays hbb).up hbb.size, (hye.stays hB8).up hB8.size, (hlst.stays hB8).up hB8.size, T.below hB8 (Nat.le_refl _)⟩
  have HK0 := Lib.hid K0
  clear hb9 hB8 hbb hbx9 hyo b7 hbx6 hB7 CN hx hye T hlst K0 HC HRUN
  go_wp2_with fail
  have K0 := HK0.out
  clear HK0
  have D1 : Hid (∀ W, Kz w W p n t ks (.slice a ks.length c) (.slice ya ks.length yc) l w4.heap.size w7.heap.size → Calls Tryd.prog 13 #[.int .i64 p, .string n, .string t] W fun e w' => e = .returned (.agg #[.int .i64 p, .string n, .string t, .bool false, .slice none 0 0]) ∧ Below W.heap.size W w') := Lib.hid (fun W _ => rLeaf_any p n t W)
  have D2 : Hid (∀ W, Kz w W p n t ks (.slice a ks.length c) (.slice ya ks.length yc) l w4.heap.size w7.heap.size → Calls Tryd.prog 12 #[.agg #[.int .i64 p, .string n, .string t, .bool false, .slice none 0 0], .agg #[.int .i64 p, .string n, .string t, .bool false, .slice none 0 0]] W fun e w' => e = .returned (.bool true) ∧ Below W.heap.size W w') := Lib.hid (fun W h => h.d2)
  have D3 : Hid (∀ W, Kz w W p n t ks (.slice a ks.length c) (.slice ya ks.length yc) l w4.heap.size w7.heap.size → Calls Tryd.prog 14 #[.int .i64 p, .string n, .slice a ks.length c] W fun e w' => e = .returned (.agg #[.int .i64 p, .string n, .string ⟨#[]⟩, .bool false, .slice a ks.length c]) ∧ Below W.heap.size W w') := Lib.hid (fun W _ => rNode_any p n a ks.length c W)
  have D4 : Hid (∀ W, Kz w W p n t ks (.slice a ks.length c) (.slice ya ks.length yc) l w4.heap.size w7.heap.size → Calls Tryd.prog 12 #[.agg #[.int .i64 p, .string n, .string ⟨#[]⟩, .bool false, .slice ya ks.length yc], .agg #[.int .i64 p, .string n, .string ⟨#[]⟩, .bool false, .slice a ks.length c]] W fun e w' => e = .returned (.bool true) ∧ Below W.heap.size W w') := Lib.hid (fun W h => h.d4)
  have hsx : Small (.mk p n t false []) := small_leaf (by omega) (by omega)
  obtain ⟨q, hq⟩ : ∃ q, chkS (.mk p n t false []) = q := ⟨_, rfl⟩
  have D5 : Hid (∀ W, Kz w W p n t ks (.slice a ks.length c) (.slice ya ks.length yc) l w4.heap.size w7.heap.size → Calls Tryd.prog 6 #[.agg #[.int .i64 p, .string n, .string t, .bool false, .slice none 0 0]] W fun e w' => e = .returned (.int .i64 q) ∧ Below W.heap.size W w') := Lib.hid (fun W h => h.d5 hq hsx)
  have D6 : Hid (∀ W, Kz w W p n t ks (.slice a ks.length c) (.slice ya ks.length yc) l w4.heap.size w7.heap.size → Calls Tryd.prog 7 #[.agg #[.int .i64 p, .string n, .string t, .bool false, .slice none 0 0]] W fun e w' => e = .returned (.int .i64 q) ∧ Below W.heap.size W w') := Lib.hid (fun W h => h.d6 hq hsx)
  have hqq : (q != q) = false := by simp
  have hqe : (q == q) = true := by simp
  clear hq hsx
  have K0d := K0.drew
  obtain ⟨x0, x1, x2, x3, x4, y0, y1, y2, y3, y4⟩ := K0.cells
  go_region_held3 (fun W => W.cell? ⟨w4.heap.size, 0, none⟩ = some (.int .i64 p) ∧ W.cell? ⟨w4.heap.size, 1, none⟩ = some (.string n) ∧ W.cell? ⟨w4.heap.size, 2, none⟩ = some (.string t) ∧ W.cell? ⟨w4.heap.size, 3, none⟩ = some (.bool false) ∧ W.cell? ⟨w4.heap.size, 4, none⟩ = some (.slice none 0 0) ∧
      W.cell? ⟨w7.heap.size, 0, none⟩ = some (.int .i64 p) ∧ W.cell? ⟨w7.heap.size, 1, none⟩ = some (.string n) ∧ W.cell? ⟨w7.heap.size, 2, none⟩ = some (.string ⟨#[]⟩) ∧ W.cell? ⟨w7.heap.size, 3, none⟩ = some (.bool false) ∧ W.cell? ⟨w7.heap.size, 4, none⟩ = some (.slice ya ks.length yc)) (exact Kz.cells (w := w) (p := p) (n := n) (t := t) (ks := ks) (lv := .slice a ks.length c) (l := l) (by assumption)) (first
    | (go_at_call 13; (with_reducible refine (D1.out _ (by assumption)).mono ?_); rintro e v1 ⟨rfl, b1⟩; have k1 := Kz.below (w := w) (p := p) (n := n) (t := t) (ks := ks) (lv := .slice a ks.length c) (l := l) (by assumption) b1)
    | (go_at_call 14; (with_reducible refine (D3.out _ (by assumption)).mono ?_); rintro e v3 ⟨rfl, b3⟩; have k3 := Kz.below (w := w) (p := p) (n := n) (t := t) (ks := ks) (lv := .slice a ks.length c) (l := l) (by assumption) b3)
    | (go_at_call 12; (with_reducible refine (D2.out _ (by assumption)).mono ?_); rintro e v2 ⟨rfl, b2⟩; have k2 := Kz.below (w := w) (p := p) (n := n) (t := t) (ks := ks) (lv := .slice a ks.length c) (l := l) (by assumption) b2)
    | (go_at_call 12; (with_reducible refine (D4.out _ (by assumption)).mono ?_); rintro e v4 ⟨rfl, b4⟩; have k4 := Kz.below (w := w) (p := p) (n := n) (t := t) (ks := ks) (lv := .slice a ks.length c) (l := l) (by assumption) b4)
    | (go_at_call 6; (with_reducible refine (D5.out _ (by assumption)).mono ?_); rintro e v5 ⟨rfl, b5⟩; have k5 := Kz.below (w := w) (p := p) (n := n) (t := t) (ks := ks) (lv := .slice a ks.length c) (l := l) (by assumption) b5)
    | (go_at_call 7; (with_reducible refine (D6.out _ (by assumption)).mono ?_); rintro e v6' ⟨rfl, b6⟩; have k6 := Kz.below (w := w) (p := p) (n := n) (t := t) (ks := ks) (lv := .slice a ks.length c) (l := l) (by assumption) b6))
  clear D1 D2 D3 D4 D5 D6 K0d K0 k1 k2 k3 k4 k5 b1 b2 b3 b4 b5 b6 x0 x1 x2 x3 x4 y0 y1 y2 y3 y4 hqq hqe
  have hsy : Small (mkE p n ks) := small_mk (e := mk0 ks) hsm (by omega)
  obtain ⟨Q, hQ⟩ : ∃ Q, chkS (mkE p n ks) = Q := ⟨_, rfl⟩
  have CY := Lib.hid (fun (W : World) (h : Kz w W p n t ks (.slice a ks.length c) (.slice ya ks.length yc) l w4.heap.size w7.heap.size) => h.cy hQ hsy)
  have hmem : ∀ (j : Nat) (hj : j < l.length), l[j].1 ∈ ks := fun j hj => by
    have h1 : l[j].1 ∈ l.map (·.1) := List.mem_map.2 ⟨_, List.getElem_mem hj, rfl⟩
    rw [hlm] at h1
    exact h1
  have CK := Lib.hid (fun (j : Nat) (hj : j < l.length) (h : Q = 0) => chk_kids (e := mkE p n ks) (c := l[j].1) hsy (hmem j hj) (hQ.trans h))
  have CS := Lib.hid (fun (j : Nat) (hj : j < l.length) => small_kid (e := mk0 ks) hsm (hmem j hj))
  have CM := Lib.hid (fun (h : ∀ (j : Nat) (hj : j < l.length), chkS l[j].1 = 0) => chk_made (p := p) (n := n) (ks := ks) (fun e he => by
    rw [← hlm] at he
    obtain ⟨x, hx, rfl⟩ := List.mem_map.1 he
    obtain ⟨j, hj, rfl⟩ := List.getElem_of_mem hx
    exact h j hj))
  rw [hQ] at CM
  have HK6 := Lib.hid k6
  clear hQ hsy hmem hsm HPRE hlh k6 hlm hsc
  go_wp2_with fail
  go_loopw [10] (fun iv wr => ∃ (i : Nat), iv = .int .i64 (i : Int) ∧ i ≤ ks.length ∧ Hid (∀ (j : Nat) (hj : j < l.length), j < i → chkS l[j].1 = 0) ∧ Kz w wr p n t ks (.slice a ks.length c) (.slice ya ks.length yc) l w4.heap.size w7.heap.size) (fun iv _ => ks.length - (intOf iv).toNat)
  case atStart => exact ⟨0, rfl, Nat.zero_le _, Lib.hid (fun j hj h => by omega), HK6.out⟩
  case round =>
    clear HK6
    obtain ⟨i, rfl, hi, hP, K⟩ := hrel
    obtain ⟨-, -, -, -, -, z0, z1, z2, z3, z4⟩ := K.cells
    by_cases hlt : i < ks.length
    · have hltz : (i : Int) < (ks.length : Int) := by omega
      have hltl : i < l.length := by omega
      obtain ⟨b, o, rfl, hbB, c0, c1, c2, c3, c4, hok⟩ := K.l.at_ hltl
      obtain ⟨q, hq⟩ : ∃ q, chkS l[i].1 = q := ⟨_, rfl⟩
      obtain ⟨ka, kc, hk2⟩ := hok.len
      have C := pCheck_any l[i] wr hok (CS.out i hltl) K.t
      rw [hq] at C
      unfold elV at C
      rw [hk2] at c4 C
      have KH := Lib.hid K
      clear K hok
      by_cases hq0 : q = 0
      · have hqn : (q != 0) = false := by simp [hq0]
        have hqe : (q == 0) = true := by simp [hq0]
        go_wp2_with (go_at_call 6; (with_reducible refine C.mono ?_); rintro e v8 ⟨rfl, b8⟩; have k8 := Kz.below (w := w) (p := p) (n := n) (t := t) (ks := ks) (l := l) KH.out b8)
        all_goals go_roundw
        case rel => exact ⟨i + 1, by go_num, by omega, Lib.hid (fun j hj h => by
          rcases Nat.lt_or_ge j i with h1 | h1
          · exact hP.out j hj h1
          · obtain rfl : j = i := by omega
            exact hq.trans hq0), k8⟩
        case measure => simp [intOf]; omega
      · have hqn : (q != 0) = true := by simp [hq0]
        have hqe : (q == 0) = false := by simp [hq0]
        have hQ0 : Q ≠ 0 := fun h => hq0 (hq.symm.trans (CK.out i hltl h))
        have hQn : (Q != 0) = true := by simp [hQ0]
        have hQe : (Q == 0) = false := by simp [hQ0]
        go_wp2_with (first
          | (go_at_call 6; (with_reducible refine C.mono ?_); rintro e v8 ⟨rfl, b8⟩; have k8 := Kz.below (w := w) (p := p) (n := n) (t := t) (ks := ks) (l := l) KH.out b8; obtain ⟨-, -, -, -, -, z0', z1', z2', z3', z4'⟩ := k8.cells)
          | (go_at_call 6; (with_reducible refine (CY.out _ k8).mono ?_); rintro e v9 ⟨rfl, b9⟩; have k9 := Kz.below (w := w) (p := p) (n := n) (t := t) (ks := ks) (l := l) k8 b9))
        all_goals (go_ret; exact ⟨rfl, k9.b⟩)
    · obtain rfl : i = ks.length := by omega
      have hltz : ¬ (ks.length : Int) < (ks.length : Int) := by omega
      have KH := Lib.hid K
      clear K
      have hM := CM.out (fun j hj => hP.out j hj (by omega))
      rcases hM with h | h | h | h | h
      all_goals (subst h)
      all_goals go_wp2_with (go_at_call 6; (with_reducible refine (CY.out _ KH.out).mono ?_); rintro e v9 ⟨rfl, b9⟩; have k9 := Kz.below (w := w) (p := p) (n := n) (t := t) (ks := ks) (l := l) KH.out b9)
      all_goals (go_ret; exact ⟨rfl, k9.b⟩)
end Go.Proofs.YtpgjalikgmagiaaDoor.Tr
