/-
Elements of a text, and of kids: the program's, and the document's. Conditions: as in TrApart.
-/
import Derived.Test.YtpgjalikgmagiaaDoorTrApartW
namespace Go.Proofs.YtpgjalikgmagiaaDoor.Tr
set_option maxRecDepth 100000
open Go.RowKit Sq

theorem copier_any (l : List Iv) (lv : Value) (w : World) (hl : Lst w w.heap.size lv l) (hh : ∀ x ∈ l, Ht 50 x.1) (hN : sumc l ≤ 3000) :
    Calls Tryd.prog 30 #[lv] w fun e w' => e = .returned (.func (.func 36) #[] #[]) ∧ Below w.heap.size w w' := by
  have C := Lib.hid (weigh_any l lv 262145 w hl hh hN (by decide) (by decide))
  obtain ⟨a, c, rfl⟩ := hl.len
  have hn : ¬ ((sumc l : Int) > 262144) := by omega
  generalize sumc l = N at C hn
  clear hl hh hN
  go_enter Tryd.func30, Tryd.ntmps30
  go_wp2_with (go_at_call 21; refine C.out.mono ?_; rintro e w1 ⟨rfl, b1⟩)
  go_ret
  exact ⟨rfl, b1⟩
theorem copied_any (l : List Iv) (lv : Value) (w : World) (hl : Lst w w.heap.size lv l) (hh : ∀ x ∈ l, Ht 50 x.1) (hN : sumc l ≤ 3000) :
    Calls Tryd.prog 22 #[lv] w (CopyIs w l) := by
  have C := Lib.hid (copier_any l lv w hl hh hN)
  have CA := Lib.hid (fun w1 (b : Below w.heap.size w w1) => apart_any l lv w1 (by
    obtain ⟨a, c, e, hm, h⟩ := hl.stays b
    refine ⟨a, c, e, hm, fun j hj => ?_⟩
    obtain ⟨bb, o, ea, hB, c0, c1, c2, c3, c4, hok⟩ := h j hj
    exact ⟨bb, o, ea, Nat.lt_of_lt_of_le hB b.size, c0, c1, c2, c3, c4, hok.up b.size⟩) hh hN)
  obtain ⟨a, c, rfl⟩ := hl.len
  clear hl hh hN
  go_enter Tryd.func22, Tryd.ntmps22
  go_wp2_with (first
    | (go_at_call 30; refine C.out.mono ?_; rintro e w1 ⟨rfl, b1⟩; have CB := CA.out w1 b1; unfold CopyIs at CB)
    | (go_at_call 36; refine CB.mono ?_; rintro e w2 ⟨v', l', g, rfl, hg, h1, h2, h3⟩; obtain ⟨va, vc, rfl⟩ := (h1 w2 (Stays.refl _ _)).len))
  go_ret
  exact ⟨_, l', g, rfl, Nat.le_trans b1.size hg, h1, h2, b1.trans (h3.mono b1.size)⟩

set_option maxHeartbeats 2000000 in
theorem pLeaf_any (p : Int) (n : ByteArray) (t : ByteArray) (w : World) :
    Calls Tryd.prog 10 #[.int .i64 p, .string n, .string t] w fun e w' => e = .returned (.agg #[.int .i64 p, .string n, .string t, .bool false, .slice none 0 0]) ∧ Below w.heap.size w w' := by
  go_enter Tryd.func10, Tryd.ntmps10
  go_wp2_with fail
  refine bodyPost_ret (v := .agg #[.int .i64 p, .string n, .string t, .bool false, .slice none 0 0]) (by simp [results, Tryd.results10, go_sem]) rfl ⟨rfl, (Below.refl _ _).alloc (Nat.le_refl _) _⟩
set_option maxHeartbeats 2000000 in
theorem rLeaf_any (p : Int) (n : ByteArray) (t : ByteArray) (w : World) :
    Calls Tryd.prog 13 #[.int .i64 p, .string n, .string t] w fun e w' => e = .returned (.agg #[.int .i64 p, .string n, .string t, .bool false, .slice none 0 0]) ∧ Below w.heap.size w w' := by
  go_enter Tryd.func13, Tryd.ntmps13
  go_wp2_with fail
  refine bodyPost_ret (v := .agg #[.int .i64 p, .string n, .string t, .bool false, .slice none 0 0]) (by simp [results, Tryd.results13, go_sem]) rfl ⟨rfl, (Below.refl _ _).alloc (Nat.le_refl _) _⟩
set_option maxHeartbeats 2000000 in
theorem rNode_any (p : Int) (n : ByteArray) (a : Option Addr) (m c : Nat) (w : World) :
    Calls Tryd.prog 14 #[.int .i64 p, .string n, .slice a m c] w fun e w' => e = .returned (.agg #[.int .i64 p, .string n, .string ⟨#[]⟩, .bool false, .slice a m c]) ∧ Below w.heap.size w w' := by
  go_enter Tryd.func14, Tryd.ntmps14
  go_wp2_with fail
  refine bodyPost_ret (v := .agg #[.int .i64 p, .string n, .string ⟨#[]⟩, .bool false, .slice a m c]) (by simp [results, Tryd.results14, go_sem]) rfl ⟨rfl, (Below.refl _ _).alloc (Nat.le_refl _) _⟩

/-! ### Node -/
theorem set5 {w W : World} {g : Nat} (hb : Below w.heap.size w W) (hg : w.heap.size ≤ g) (v0 v1 v2 v3 v4 : Value) :
    Below w.heap.size w (((((W.setCell ⟨g, 0, none⟩ v0).setCell ⟨g, 1, none⟩ v1).setCell ⟨g, 2, none⟩ v2).setCell ⟨g, 3, none⟩ v3).setCell ⟨g, 4, none⟩ v4) :=
  ((((hb.setCell (p := ⟨g, 0, none⟩) hg _).setCell (p := ⟨g, 1, none⟩) hg _).setCell (p := ⟨g, 2, none⟩) hg _).setCell (p := ⟨g, 3, none⟩) hg _).setCell (p := ⟨g, 4, none⟩) hg _
theorem stays_set {O : Nat → Prop} {A B : World} {a : Addr} {u : Value} (h : Stays O A B) (ha : ¬ O a.block) : Stays O A (B.setCell a u) :=
  h.trans ⟨rfl, rfl, rfl, by rw [World.size_setCell]; exact Nat.le_refl _, fun k hk => Below.heap_setCell B a u k (fun e => ha (e ▸ hk))⟩
theorem eat_level {w : World} {B : Nat} : ∀ (m k : Nat) {e : El} {v : Value}, Ht m e → EAt w B k e v → EAt w B m e v
  | 0, _, _, _, h, _ => h.elim
  | _ + 1, 0, _, _, _, h => h.elim
  | m + 1, k + 1, e, v, hh, h => by
    have h' : KsAt w B (EAt w B k) e.kids v := h
    obtain ⟨a, c, ha, h1, h2⟩ := h'
    refine ⟨a, c, ha, h1, fun b o ea j hj => ?_⟩
    obtain ⟨kv, c0, c1, c2, c3, c4, h3⟩ := h2 b o ea j hj
    exact ⟨kv, c0, c1, c2, c3, c4, eat_level m k (hh _ (List.getElem_mem hj)) h3⟩
/-- A list's elements as the kids of an element. -/
theorem Lst.elem {w : World} {B : Nat} {v : Value} {l : List Iv} (h : Lst w B v l) (hh : ∀ x ∈ l, Ht 50 x.1) (p : Int) (n : ByteArray) (hn : n.size ≤ maxLen) : Ok w B (.mk p n ⟨#[]⟩ false (l.map (·.1)), v) := by
  obtain ⟨a, c, rfl, hm, h⟩ := h
  refine ⟨51, ?_, ?_⟩
  · show KsAt w B (EAt w B 50) (l.map (·.1)) _
    refine ⟨a, c, by rw [List.length_map], fun hne => ?_, fun b o e j hj => ?_⟩
    · have h0 : 0 < l.length := by
        cases l with
        | nil => exact absurd rfl hne
        | cons x r => simp
      obtain ⟨b, o, ea, hb, _⟩ := h 0 h0
      exact ⟨b, o, ea, hb⟩
    · rw [List.length_map] at hj
      obtain ⟨b', o', ea, hb, c0, c1, c2, c3, c4, k, hk, _⟩ := h j hj
      rw [e] at ea
      cases ea
      simp only [List.getElem_map]
      exact ⟨_, c0, c1, c2, c3, c4, eat_level 50 k (hh _ (List.getElem_mem hj)) hk⟩
  · refine ⟨by show 0 ≤ maxLen; exact Nat.zero_le _, hn, by show (l.map (·.1)).length ≤ maxLen; rw [List.length_map]; exact hm, fun e he => ?_⟩
    obtain ⟨x, hx, rfl⟩ := List.mem_map.1 he
    obtain ⟨j, hj, rfl⟩ := List.getElem_of_mem hx
    obtain ⟨_, _, _, _, _, _, _, _, _, hok⟩ := h j hj
    exact hok.fit 50
theorem ht_same {l l' : List Iv} (h : l'.map (·.1) = l.map (·.1)) (hh : ∀ x ∈ l, Ht 50 x.1) : ∀ x ∈ l', Ht 50 x.1 := fun x hx => by
  have : x.1 ∈ l.map (·.1) := by rw [← h]; exact List.mem_map.2 ⟨x, hx, rfl⟩
  obtain ⟨y, hy, e⟩ := List.mem_map.1 this
  rw [← e]; exact hh y hy
set_option maxHeartbeats 2000000 in
theorem pNode_any (p : Int) (n : ByteArray) (l : List Iv) (lv : Value) (w : World) (hl : Lst w w.heap.size lv l) (hh : ∀ x ∈ l, Ht 50 x.1) (hN : sumc l ≤ 3000) (hn : n.size ≤ maxLen) :
    Calls Tryd.prog 11 #[.int .i64 p, .string n, lv] w fun e w' => ∃ v', e = .returned (.agg #[.int .i64 p, .string n, .string ⟨#[]⟩, .bool false, v']) ∧ Ok w' w'.heap.size (.mk p n ⟨#[]⟩ false (l.map (·.1)), v') ∧ Below w.heap.size w w' := by
  have hz : (w.alloc (.cells #[.int .i64 0, .string { data := #[] }, .string { data := #[] }, .bool false, .slice none 0 0] 24)).heap[w.heap.size]? = some (.cells #[.int .i64 0, .string { data := #[] }, .string { data := #[] }, .bool false, .slice none 0 0] 24 (0, 0)) := heap_alloc_new w _
  have hb : Below w.heap.size w (w.alloc (.cells #[.int .i64 0, .string { data := #[] }, .string { data := #[] }, .bool false, .slice none 0 0] 24)) := (Below.refl _ _).alloc (Nat.le_refl _) _
  have hs : (w.alloc (.cells #[.int .i64 0, .string { data := #[] }, .string { data := #[] }, .bool false, .slice none 0 0] 24)).heap.size = w.heap.size + 1 := World.size_alloc _ _
  have C := copied_any l lv _ (by
    obtain ⟨a, c, e, hm, h⟩ := hl.stays hb
    refine ⟨a, c, e, hm, fun j hj => ?_⟩
    obtain ⟨bb, o, ea, hB, c0, c1, c2, c3, c4, hok⟩ := h j hj
    exact ⟨bb, o, ea, Nat.lt_of_lt_of_le hB hb.size, c0, c1, c2, c3, c4, hok.up hb.size⟩) hh hN
  unfold CopyIs at C
  have HC := Lib.hid C
  have HX := Lib.hid (And.intro hh (And.intro hn (And.intro hb (And.intro hz hs))))
  obtain ⟨a, c, rfl⟩ := hl.len
  clear hl hh hN hn C hb hz hs
  go_enter Tryd.func11, Tryd.ntmps11
  go_wp2_with (go_at_call 22; refine HC.out.mono ?_; rintro e w2 ⟨v', l', g, rfl, hg, h1, h2, h3⟩; obtain ⟨va, vc, rfl⟩ := (h1 _ (Stays.refl _ _)).len; have hz2 := (h3.block w.heap.size (by rw [HX.out.2.2.2.2]; omega)).trans HX.out.2.2.2.1; have r0 : w2.cell? ⟨w.heap.size, 0, none⟩ = some (.int .i64 0) := cell_of_row _ _ _ _ _ _ hz2; have r1 : w2.cell? ⟨w.heap.size, 1, none⟩ = some (.string { data := #[] }) := cell_of_row _ _ _ _ _ _ hz2; have r2 : w2.cell? ⟨w.heap.size, 2, none⟩ = some (.string { data := #[] }) := cell_of_row _ _ _ _ _ _ hz2; have r3 : w2.cell? ⟨w.heap.size, 3, none⟩ = some (.bool false) := cell_of_row _ _ _ _ _ _ hz2; have r4 : w2.cell? ⟨w.heap.size, 4, none⟩ = some (.slice none 0 0) := cell_of_row _ _ _ _ _ _ hz2; have s0 : w2.frozen? ⟨w.heap.size, 0, none⟩ = false := frozen_of_row _ _ _ _ _ hz2; have s1 : w2.frozen? ⟨w.heap.size, 1, none⟩ = false := frozen_of_row _ _ _ _ _ hz2; have s2 : w2.frozen? ⟨w.heap.size, 2, none⟩ = false := frozen_of_row _ _ _ _ _ hz2; have s3 : w2.frozen? ⟨w.heap.size, 3, none⟩ = false := frozen_of_row _ _ _ _ _ hz2; have s4 : w2.frozen? ⟨w.heap.size, 4, none⟩ = false := frozen_of_row _ _ _ _ _ hz2)
  obtain ⟨hh, hn, hb, hz, hs⟩ := HX.out
  have hgw : w.heap.size ≠ g := by omega
  have hll : l'.length = l.length := by have := congrArg List.length h2; rwa [List.length_map, List.length_map] at this
  refine bodyPost_ret (v := .agg #[.int .i64 p, .string n, .string ⟨#[]⟩, .bool false, .slice va l'.length vc]) (by simp [results, Tryd.results11, go_sem, r0, r1, r2, r3, r4]) rfl ⟨_, rfl, ?_, set5 (hb.trans (h3.mono hb.size)) (Nat.le_refl _) _ _ _ _ _⟩
  rw [← h2]
  exact (h1 _ (stays_set (stays_set (stays_set (stays_set (stays_set (Stays.refl _ _) hgw) hgw) hgw) hgw) hgw)).elem (ht_same h2 hh) p n hn
end Go.Proofs.YtpgjalikgmagiaaDoor.Tr
