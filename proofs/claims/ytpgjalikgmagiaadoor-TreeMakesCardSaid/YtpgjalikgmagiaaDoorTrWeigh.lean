/-
How many elements there are, as the program counts them. Conditions: the elements lie below the caller's blocks; at most 50 lie within one another, and at most 3000 there are in all.
-/
import Derived.Test.YtpgjalikgmagiaaDoorTrRefTop
import Derived.Deep.LoopGhost
namespace Go.Proofs.YtpgjalikgmagiaaDoor.Tr
set_option maxRecDepth 100000
open Go.RowKit Sq

/-! ### Counting -/
def cnt (e : El) : Nat := (pre 50 1 e).length
theorem cnt_pos (e : El) : 1 ≤ cnt e := by unfold cnt; rw [show (50 : Nat) = 49 + 1 from rfl, pre_succ, List.length_cons]; omega
theorem cnt_kids {e : El} (h : Ht 50 e) : cnt e = 1 + (e.kids.map cnt).sum := by
  have h0 : cnt e = ((e.kids.map (pre 49 2)).flatten).length + 1 := congrArg List.length (pre_succ 49 1 e)
  have h1 : e.kids.map (List.length ∘ pre 49 2) = e.kids.map cnt := List.map_congr_left fun c hc => by
    show (pre 49 2 c).length = (pre 50 1 c).length
    rw [show pre 50 1 c = pre (49 + 1) 1 c from rfl, pre_ht 49 1 1 c (h c hc)]
    exact pre_len 49 _ _ c
  rw [h0, List.length_flatten, List.map_map, h1]; omega
theorem ht_kids {e : El} (h : Ht 50 e) : ∀ c ∈ e.kids, Ht 50 c := fun c hc => Ht.up (k := 49) (j := 1) (h c hc)
def sumc (l : List Iv) : Nat := (l.map fun x => cnt x.1).sum
theorem sumc_len : ∀ l : List Iv, l.length ≤ sumc l
  | [] => Nat.le_refl _
  | x :: r => by have := sumc_len r; have := cnt_pos x.1; simp only [sumc, List.map_cons, List.sum_cons, List.length_cons] at *; omega
theorem sumc_drop {l : List Iv} {i : Nat} (h : i < l.length) : sumc (l.drop i) = cnt l[i].1 + sumc (l.drop (i + 1)) := by
  rw [List.drop_eq_getElem_cons h]; unfold sumc; rw [List.map_cons, List.sum_cons]
theorem sumc_kids {w : World} {x : Iv} (h : Ht 50 x.1) : cnt x.1 = 1 + sumc (kidsV w x) := by
  rw [cnt_kids h]
  unfold sumc
  rw [show ((kidsV w x).map fun y => cnt y.1) = ((kidsV w x).map (·.1)).map cnt by rw [List.map_map]; rfl, kidsV_map]

/-! ### In memory -/
/-- A list of elements. -/
def Lst (w : World) (B : Nat) (v : Value) (l : List Iv) : Prop :=
  ∃ a c, v = .slice a l.length c ∧ l.length ≤ maxLen ∧ ∀ j (hj : j < l.length), ∃ b o, a = some ⟨b, o, none⟩ ∧ b < B ∧ w.cell? ⟨b, o + j * 5, none⟩ = some (.int .i64 l[j].1.page) ∧ w.cell? ⟨b, o + j * 5 + 1, none⟩ = some (.string l[j].1.name) ∧ w.cell? ⟨b, o + j * 5 + 2, none⟩ = some (.string l[j].1.text) ∧ w.cell? ⟨b, o + j * 5 + 3, none⟩ = some (.bool l[j].1.bare) ∧ w.cell? ⟨b, o + j * 5 + 4, none⟩ = some l[j].2 ∧ Ok w B l[j]
theorem Ok.lst {w : World} {B : Nat} {x : Iv} (h : Ok w B x) : Lst w B x.2 (kidsV w x) := by
  obtain ⟨a, c, hv⟩ := h.len
  refine ⟨a, c, by rw [kidsV_length]; exact hv, by rw [kidsV_length]; exact h.fits.2.2, fun j hj => ?_⟩
  have hj' : j < x.1.kids.length := by rw [← kidsV_length w]; exact hj
  obtain ⟨b, o, c', kv, e, hb, c0, c1, c2, c3, c4, hk, hok⟩ := h.kid hj'
  rw [hv] at e
  cases e
  rw [List.getElem?_eq_getElem hj] at hk
  rw [Option.some.inj hk]
  exact ⟨b, o, rfl, hb, c0, c1, c2, c3, c4, hok⟩
theorem Lst.len {w : World} {B : Nat} {v : Value} {l : List Iv} (h : Lst w B v l) : ∃ a c, v = .slice a l.length c := by obtain ⟨a, c, rfl, _⟩ := h; exact ⟨_, _, rfl⟩
theorem Lst.at_ {w : World} {B : Nat} {a : Option Addr} {n c : Nat} {l : List Iv} (h : Lst w B (.slice a n c) l) {j : Nat} (hj : j < l.length) : ∃ b o, a = some ⟨b, o, none⟩ ∧ b < B ∧ w.cell? ⟨b, o + j * 5, none⟩ = some (.int .i64 l[j].1.page) ∧ w.cell? ⟨b, o + j * 5 + 1, none⟩ = some (.string l[j].1.name) ∧ w.cell? ⟨b, o + j * 5 + 2, none⟩ = some (.string l[j].1.text) ∧ w.cell? ⟨b, o + j * 5 + 3, none⟩ = some (.bool l[j].1.bare) ∧ w.cell? ⟨b, o + j * 5 + 4, none⟩ = some l[j].2 ∧ Ok w B l[j] := by
  obtain ⟨a', c', e, _, h⟩ := h
  cases e
  exact h j hj
/-- Slices in a row of the call's own. -/
def Lss (w : World) (base : Nat) (v : Value) (l : List Value) : Prop := w.ownsRow base 22 1 v l.length l
theorem infoLss : (Tryd.prog.info? 22).map (fun i => (i.zero, i.size, i.bytes)) = some (some (.slice none 0 0), 1, 24) := by kernel_rfl
theorem Lss.one (w : World) (a : Option Addr) (n c : Nat) : Lss (w.alloc (.cells #[.slice a n c] 22)) w.heap.size (.slice (some ⟨w.heap.size, 0, none⟩) 1 1) [.slice a n c] := by
  refine ⟨by simp, .inr ⟨w.heap.size, 1, #[.slice a n c], rfl, Nat.le_refl _, heap_alloc_new w _, by simp, by decide, by simp, by simp⟩⟩
theorem Lss.last {w : World} {base : Nat} {v : Value} {l : List Value} {u : Value} (h : Lss w base v (l ++ [u])) :
    ∃ g cap, v = .slice (some ⟨g, 0, none⟩) (l.length + 1) cap ∧ base ≤ g ∧ g < w.heap.size ∧ l.length + 1 ≤ cap ∧ w.cell? ⟨g, l.length, none⟩ = some u ∧ Lss w base (.slice (some ⟨g, 0, none⟩) l.length cap) l := by
  obtain ⟨h0, ⟨_, hn⟩ | ⟨g, cap, cur, rfl, hb, hh, h1, h2, h3, ht⟩⟩ := h
  · simp at hn
  · simp only [List.length_append, List.length_singleton, Nat.mul_one] at ht h1
    refine ⟨g, cap, by simp, hb, (Array.getElem?_eq_some_iff.1 hh).1, h1, ?_, by simp, .inr ⟨g, cap, cur, rfl, hb, hh, by omega, h2, h3, ?_⟩⟩
    · have : (cur.toList.take (l.length + 1))[l.length]? = some u := by rw [ht]; simp
      rw [← Nat.mul_one (l.length + 1)] at this
      have h2 := Lib.cells_of_row hh _ l.length _ this
      rwa [Lib.addr_add, Nat.zero_add] at h2
    · rw [Nat.mul_one]
      have := congrArg (List.take l.length) ht
      rw [List.take_take, Nat.min_eq_left (by omega)] at this
      rw [this]; simp
theorem Lss.nil_of {w : World} {base : Nat} {v : Value} (h : Lss w base v []) : ∃ a cap, v = .slice a 0 cap := by
  obtain ⟨_, ⟨rfl, _⟩ | ⟨g, cap, cur, rfl, _⟩⟩ := h
  · exact ⟨none, 0, rfl⟩
  · exact ⟨_, cap, rfl⟩
theorem Lss.snoc {w : World} {base : Nat} {v : Value} {l : List Value} {u : Value} (h : w.ownsRow base 22 1 v (l.length + 1) (l ++ [u])) : Lss w base v (l ++ [u]) := by
  unfold Lss; rw [List.length_append]; exact h
theorem snoc_of {α : Type} {l : List α} (h : l ≠ []) : ∃ em p, l = em ++ [p] := ⟨l.dropLast, l.getLast h, (List.dropLast_concat_getLast h).symm⟩

def Ml (ls : List (Value × List Iv)) : Nat := (ls.map fun e => 1 + sumc e.2).sum
def Sl (ls : List (Value × List Iv)) : Nat := (ls.map fun e => sumc e.2).sum
def Tl (ls : List (Value × List Iv)) : Nat := (ls.map fun e => e.2.length).sum
theorem ml_len : ∀ ls : List (Value × List Iv), ls.length + Sl ls = Ml ls ∧ Tl ls ≤ Sl ls
  | [] => ⟨rfl, Nat.le_refl _⟩
  | e :: r => by
    have h1 := ml_len r
    have h2 := sumc_len e.2
    simp only [Ml, Sl, Tl, List.map_cons, List.sum_cons, List.length_cons] at *
    omega
theorem ml_snoc (ls : List (Value × List Iv)) (e : Value × List Iv) : Ml (ls ++ [e]) = Ml ls + 1 + sumc e.2 ∧ Sl (ls ++ [e]) = Sl ls + sumc e.2 ∧ Tl (ls ++ [e]) = Tl ls + e.2.length := by
  refine ⟨?_, ?_, ?_⟩ <;> simp [Ml, Sl, Tl] <;> omega
/-- What is left, and how many have been counted. -/
structure Aw (w W : World) (N c : Nat) (lv : Value) (ls : List (Value × List Iv)) (ms mt : Nat) : Prop where
  b : Below w.heap.size w W
  row : Lss W w.heap.size lv (ls.map (·.1))
  er : ∀ e ∈ ls, Lst w w.heap.size e.1 e.2 ∧ ∀ x ∈ e.2, Ht 50 x.1
  sum : c + Sl ls + ms = N + Tl ls + mt

set_option maxHeartbeats 4000000 in
theorem weigh_any (l : List Iv) (lv : Value) (most : Nat) (w : World) (hl : Lst w w.heap.size lv l) (hh : ∀ x ∈ l, Ht 50 x.1) (hN : sumc l ≤ 3000) (hm : 3000 < most) (hm2 : most ≤ 1048576) :
    Calls Tryd.prog 21 #[lv, .int .i64 (most : Int)] w fun e w' => e = .returned (.int .i64 (sumc l : Int)) ∧ Below w.heap.size w w' := by
  obtain ⟨i0, hi, hz0, hz1, hz2⟩ := info_parts infoLss
  obtain ⟨a, c, rfl⟩ := hl.len
  have hll : l.length ≤ 3000 := Nat.le_trans (sumc_len l) hN
  have hA0 : Aw w (w.alloc (.cells #[.slice a l.length c] 22)) (sumc l) l.length (.slice (some ⟨w.heap.size, 0, none⟩) 1 1) [(.slice a l.length c, l)] 0 0 :=
    ⟨(Below.refl _ _).alloc (Nat.le_refl _) _, Lss.one w _ _ _, fun e he => by rw [List.mem_singleton] at he; rw [he]; exact ⟨hl, hh⟩, by simp [Sl, Tl]; omega⟩
  have hM0 : Ml [(Value.slice a l.length c, l)] = 1 + sumc l := by simp [Ml]
  have HA0 := Lib.hid hA0
  have HM0 := Lib.hid hM0
  have HSL := Lib.hid (sumc_len l)
  generalize sumc l = N at *
  clear hl hh hA0 hM0
  go_enter Tryd.func21, Tryd.ntmps21
  go_wp2_with fail
  go_loopg [5, 6] (1 + N) (fun gk cv lv wr => ∃ (k : Nat) (ls : List (Value × List Iv)), cv = .int .i64 (k : Int) ∧ Aw w wr N k lv ls 0 0 ∧ gk = Ml ls ∧ gk ≤ 1 + N)
  case atStart => exact ⟨l.length, _, rfl, HA0.out, HM0.out.symm, Nat.le_refl _⟩
  case round =>
    obtain ⟨k, ls, rfl, hA, hgk, hgN⟩ := hrel
    clear HA0 HM0
    have hml := ml_len ls
    have hsum := hA.sum
    have hkN : k ≤ N := by omega
    by_cases hls : ls = []
    · subst hls
      obtain ⟨la, lc, rfl⟩ := Lss.nil_of hA.row
      have HK := Lib.hid (show k = N by simp [Sl, Tl] at hsum; omega)
      have HB := Lib.hid hA.b
      have hmn : ¬ (most : Int) < (k : Int) := by omega
      have hmn2 : min (k : Int) (most : Int) = (k : Int) := by omega
      clear hA hgk hml hsum
      go_wp2_with fail
      go_ret
      exact ⟨by rw [← HK.out]; rfl, HB.out⟩
    · obtain ⟨l0, ⟨v, L⟩, rfl⟩ := snoc_of hls
      have hrow := hA.row
      rw [List.map_append] at hrow
      obtain ⟨g, cap, rfl, hg1, hg2, hcap, hcl, hrow0⟩ := Lss.last hrow
      obtain ⟨hL, hLh⟩ := hA.er (v, L) (by simp)
      obtain ⟨la, lc, hve⟩ := hL.len
      simp only at hve
      subst hve
      obtain ⟨s1, s2, s3⟩ := ml_snoc l0 (Value.slice la L.length lc, L)
      simp only at s1 s2 s3 hL hLh
      have hSL := sumc_len L
      have hA1 : Aw w wr N k (.slice (some ⟨g, 0, none⟩) l0.length cap) l0 (sumc (L.drop 0)) (L.length - 0) :=
        ⟨hA.b, by rw [List.length_map] at hrow0; exact hrow0, fun e he => hA.er e (by simp [he]), by rw [List.drop_zero, Nat.sub_zero]; omega⟩
      have HG := Lib.hid (show Ml l0 + sumc (L.drop 0) + 1 ≤ gk by rw [List.drop_zero, hgk, s1]; omega)
      have hll0 : l0.length ≤ 3001 := by have := (ml_len l0).1; omega
      simp only [List.length_map] at hcl hcap
      have hcapz : (l0.length : Int) ≤ (cap : Int) := by omega
      have HA1 := Lib.hid hA1
      have HL := Lib.hid (And.intro hL hLh)
      have HLL := Lib.hid (show L.length ≤ 3001 by omega)
      clear hA hgk hml hsum hrow hrow0 hA1 hls hg1 hg2 hcap s1 s2 s3 hL hLh hSL
      rw [List.length_map]
      go_wp2_with fail
      go_loopw [5, 6, 8] (fun cv lv iv wr => ∃ (k i : Nat) (ls : List (Value × List Iv)), cv = .int .i64 (k : Int) ∧ iv = .int .i64 (i : Int) ∧ i ≤ L.length ∧ Aw w wr N k lv ls (sumc (L.drop i)) (L.length - i) ∧ Hid (Ml ls + sumc (L.drop i) + 1 ≤ gk)) (fun _ _ iv _ => L.length - (intOf iv).toNat)
      case atStart => exact ⟨k, 0, l0, rfl, rfl, Nat.zero_le _, HA1.out, HG⟩
      case round =>
        clear HA1 HG hcl hcapz hll0 hkN
        obtain ⟨k, i, ls, rfl, rfl, hiL, hA, hG⟩ := hrel
        have hsum := hA.sum
        have hml := ml_len ls
        have hLl := HLL.out
        by_cases hlt : i < L.length
        · have hltz : (i : Int) < (L.length : Int) := by omega
          have hd := sumc_drop hlt
          have hdl := sumc_len (L.drop (i + 1))
          rw [List.length_drop] at hdl
          have hcp := cnt_pos L[i].1
          have hkN : k ≤ N := by omega
          have hkm : (k : Int) < (most : Int) := by omega
          obtain ⟨b, o, rfl, hbB, c0, c1, c2, c3, c4, hok⟩ := HL.out.1.at_ hlt
          have hht := HL.out.2 _ (List.getElem_mem hlt)
          have hck := sumc_kids (w := w) hht
          have hkl := sumc_len (kidsV w L[i])
          have hlst := hok.lst
          have hlht : ∀ y ∈ kidsV w L[i], Ht 50 y.1 := fun y hy => ht_kids hht _ (by rw [← kidsV_map w]; exact List.mem_map.2 ⟨y, hy, rfl⟩)
          have hc4 := (hA.b.cell (p := ⟨b, o + i * 5 + 4, none⟩) hbB).trans c4
          obtain ⟨ka, kc, hkv⟩ := hlst.len
          rw [hkv] at hc4 hlst
          generalize kidsV w L[i] = K at hc4 hlst hck hkl hlht
          generalize hcn : cnt L[i].1 = cn at hd hcp hck
          have hGo := hG.out
          by_cases hK : 0 < K.length
          · have hKz : (K.length : Int) > 0 := by omega
            have hrow := hA.row
            obtain ⟨t1, t2, t3⟩ := ml_snoc ls (Value.slice ka K.length kc, K)
            simp only at t1 t2 t3
            have HA2 := Lib.hid (show k + K.length + Sl (ls ++ [(Value.slice ka K.length kc, K)]) + sumc (L.drop (i + 1)) = N + Tl (ls ++ [(Value.slice ka K.length kc, K)]) + (L.length - (i + 1)) by rw [t2, t3]; omega)
            have HG2 := Lib.hid (show Ml (ls ++ [(Value.slice ka K.length kc, K)]) + sumc (L.drop (i + 1)) + 1 ≤ gk by rw [t1]; omega)
            have hlsl : ls.length ≤ 3001 := by omega
            have hlm : (ls.map (·.1)).length = ls.length := List.length_map _
            have hm1 : (ls.map (·.1)).length + 1 ≤ maxLen := by rw [hlm]; unfold maxLen; omega
            have hm2' : ((ls.map (·.1)).length + 1) * 24 ≤ 140737488355328 := by rw [hlm]; omega
            have hz := hA.b.size
            have hKN : K.length ≤ 3001 := by omega
            have HB := Lib.hid hA.b
            have HE := Lib.hid hA.er
            have HER := Lib.hid (And.intro hlst hlht)
            clear hA hd hdl hcp hck hkl hlst hlht hGo hsum hml t1 t2 t3 hlm c0 c1 c2 c3 c4 hok hht hcn hkv hlsl hG
            go_wp2_with (at_builtin; refine wpList_append_own _ rfl _ _ 50 rfl w.heap.size 22 i0 (.slice none 0 0) 1 24 Tryd.underlying50 hi hz0 hz1 hz2 rfl (by decide) _ _ _ rfl (World.ownsRow.alloc hrow _) ⟨wr.heap.size, 0, none⟩ 1 1 [.slice ka K.length kc] rfl rfl (World.news_of_block (cs := #[.slice ka K.length kc]) (t := 22) (fr := (0, 0)) (heap_alloc_new wr _)) (by simp [Value.oneCell']) hm1 hm2' (by simp; omega) ?_; intro v' w1 hown' hgrow _)
            go_roundw
            case rel =>
              have hB1 : Below w.heap.size w w1 := (HB.out.alloc hz _).grown hgrow (by simp; omega) (fun k e => (World.ownsRow.lt hrow k e).1)
              refine ⟨k + K.length, i + 1, ls ++ [(.slice ka K.length kc, K)], by simp, by go_num, by omega, ⟨hB1, ?_, fun e he => ?_, HA2.out⟩, HG2⟩
              · rw [List.map_append]; exact Lss.snoc hown'
              · rcases List.mem_append.1 he with he | he
                · exact HE.out e he
                · rw [List.mem_singleton] at he; rw [he]; exact HER.out
            case measure => simp [intOf]; omega
          · have hK0 : K.length = 0 := by omega
            have hKz : ¬ (K.length : Int) > 0 := by omega
            have hs0 : sumc K = 0 := by rw [List.length_eq_zero_iff.1 hK0]; rfl
            have HA2 : Hid (Aw w wr N k u6 ls (sumc (L.drop (i + 1))) (L.length - (i + 1))) := Lib.hid ⟨hA.b, hA.row, hA.er, by omega⟩
            have HG2 := Lib.hid (show Ml ls + sumc (L.drop (i + 1)) + 1 ≤ gk by omega)
            clear hA hd hdl hcp hck hkl hlst hlht hGo hsum hml hs0 hK0 c0 c1 c2 c3 c4 hok hht hcn hkv hG
            go_wp2_with fail
            go_roundw
            case rel => exact ⟨k, i + 1, ls, rfl, by go_num, by omega, HA2.out, HG2⟩
            case measure => simp [intOf]; omega
        · obtain rfl : i = L.length := by omega
          have hltz : ¬ (L.length : Int) < (L.length : Int) := by omega
          have HA2 := Lib.hid (show Aw w wr N k u6 ls 0 0 from ⟨hA.b, hA.row, hA.er, by rw [List.drop_length, Nat.sub_self] at hsum; simpa [sumc] using hsum⟩)
          have HG2 := Lib.hid (show Ml ls + 1 ≤ gk by have := hG.out; rw [List.drop_length] at this; simpa [sumc] using this)
          clear hA hsum hml hG
          go_wp2_with fail
          go_roundg (Ml ls)
          case rel => exact ⟨k, ls, rfl, HA2.out, rfl, by have := HG2.out; omega⟩
          case measure => exact HG2.out
end Go.Proofs.YtpgjalikgmagiaaDoor.Tr
