/-
The document's own Numbered and Unfold answer lines, each with those that go on with it. Conditions: the lines have at most 2^40 bytes in all, and there are at most 2^40 of them.
-/
import Derived.Test.YtcclicgjklmihaaLnFold
import Derived.RegionTactic
namespace Go.Proofs.Ytcclicgjklmihaa.Ln
open Go.RowKit Strs Sq

/-- Numbers in a row of the call's own. -/
def icells (l : List Nat) : List Value := l.map fun n : Nat => Value.int .i64 (n : Int)
theorem icells_snoc (l : List Nat) (n : Nat) : icells (l ++ [n]) = icells l ++ [.int .i64 (n : Int)] := by simp [icells]
def Ints (w : World) (base : Nat) (v : Value) (l : List Nat) : Prop := w.ownsRow base 3 1 v l.length (icells l)
theorem infoInt : (Try.prog.info? 3).map (fun i => (i.zero, i.size, i.bytes)) = some (some (.int .i64 0), 1, 8) := by kernel_rfl
theorem Ints.snoc {w : World} {base : Nat} {v : Value} {l : List Nat} {n : Nat} (h : w.ownsRow base 3 1 v (l.length + 1) (icells l ++ [.int .i64 (n : Int)])) : Ints w base v (l ++ [n]) := by
  unfold Ints; rw [icells_snoc, List.length_append]; exact h
/-- Rows of unlike elements lie apart. -/
theorem rows_apart {w : World} {b b' n n' s s' : Nat} {e e' : TypeId} {v v' : Value} {xs xs' : List Value} (h : w.ownsRow b e s v n xs) (h' : w.ownsRow b' e' s' v' n' xs') (he : e ≠ e') : ∀ g, v'.ownBlock = some g → some g ≠ v.ownBlock := by
  intro g hg hv
  rcases h.2 with ⟨rfl, _⟩ | ⟨g1, cap, cur, rfl, _, hh, _⟩
  · simp [Value.ownBlock] at hv
  · rcases h'.2 with ⟨rfl, _⟩ | ⟨g2, cap', cur', rfl, _, hh', _⟩
    · simp [Value.ownBlock] at hg
    · simp only [Value.ownBlock, Option.some.injEq] at hg hv
      subst hg; subst hv
      rw [hh] at hh'
      simp at hh'
      exact he hh'.2
theorem row_grown {w w1 : World} {b b' n n' s s' : Nat} {e e' : TypeId} {v v' : Value} {xs xs' : List Value} {o : Obj} (h : w.ownsRow b e s v n xs) (h' : w.ownsRow b' e' s' v' n' xs') (he : e ≠ e') (hg : (w.alloc o).grownBy w1 v.ownBlock) : w1.ownsRow b' e' s' v' n' xs' :=
  (((Stays.refl (fun k => v'.ownBlock = some k) w).alloc o (fun k hk => (own_lt h' k hk).2)).grown hg (fun k hk => ⟨by have := (own_lt h' k hk).2; simp; omega, rows_apart h h' he k hk⟩)).row h' (fun g e => e)
/-- The last cell of a row is written. -/
theorem set_last {w : World} {base g k cap : Nat} {e : TypeId} {xs : List Value} {a u : Value} (h : w.ownsRow base e 1 (.slice (some ⟨g, 0, none⟩) (k + 1) cap) (k + 1) (xs ++ [a])) : (w.setCell ⟨g, k, none⟩ u).ownsRow base e 1 (.slice (some ⟨g, 0, none⟩) (k + 1) cap) (k + 1) (xs ++ [u]) := by
  obtain ⟨h0, ⟨hv, _⟩ | ⟨g', cap', cur, hv, hb, hg, hn, hm, hc, ht⟩⟩ := h
  · cases hv
  · cases hv
    have hxs : xs.length = k := by simp at h0; exact h0
    refine ⟨by simpa using h0, .inr ⟨g, cap, cur.setIfInBounds k u, rfl, hb, heap_setCell_same w g k cur e u hg, hn, hm, by simpa using hc, ?_⟩⟩
    rw [Array.toList_setIfInBounds]
    have : (cur.toList.set k u).take ((k + 1) * 1) = (cur.toList.take ((k + 1) * 1)).set k u := by rw [List.take_set]
    rw [this, ht, List.set_append_right _ _ (by omega), hxs, Nat.sub_self]
    rfl
theorem row_set {w : World} {b n s g k : Nat} {e : TypeId} {v : Value} {xs : List Value} {u : Value} (h : w.ownsRow b e s v n xs) (hg : ∀ j, v.ownBlock = some j → j ≠ g) : (w.setCell ⟨g, k, none⟩ u).ownsRow b e s v n xs := by
  refine ⟨h.1, ?_⟩
  rcases h.2 with h | ⟨g', cap, cur, rfl, hb, hh, rest⟩
  · exact .inl h
  · exact .inr ⟨g', cap, cur, rfl, hb, (heap_setCell_other w ⟨g, k, none⟩ g' u (hg g' rfl)).trans hh, rest⟩

theorem row_open {w : World} {base n : Nat} {e : TypeId} {v : Value} {xs : List Value} (h : w.ownsRow base e 1 v n xs) (hn : n ≠ 0) :
    ∃ g cap cur, v = .slice (some ⟨g, 0, none⟩) n cap ∧ base ≤ g ∧ w.heap[g]? = some (.cells cur e (0, 0)) ∧ n ≤ cap ∧ cap ≤ maxLen ∧ cur.size = cap * 1 ∧ cur.toList.take (n * 1) = xs := by
  obtain ⟨_, ⟨_, h0⟩ | h⟩ := h
  · exact absurd h0 hn
  · exact h
theorem row_unfrozen {w : World} {g k : Nat} {e : TypeId} {cu : Array Value} (h : w.heap[g]? = some (.cells cu e (0, 0))) : w.frozen? ⟨g, k, none⟩ = false := by
  simp [World.frozen?, h]
theorem row_last {w : World} {base g n cap : Nat} {cur em : List (Nat × List UInt8)} {p : Nat × List UInt8} (h : w.ownsRow base 9 1 (.slice (some ⟨g, 0, none⟩) n cap) cur.length (scells (cur.map (·.2)))) (hc : cur = em ++ [p]) : w.cell? ⟨g, em.length, none⟩ = some (.string ⟨p.2.toArray⟩) := by
  have := h.cells (g := g) rfl em.length (.string ⟨p.2.toArray⟩) (by subst hc; simp [scells])
  rwa [Lib.addr_add, Nat.zero_add] at this

/-- What has been gathered, and what is left. -/
def Gath (cur rest all : List (Nat × List UInt8)) : Prop := (cur = [] ∧ unf none rest = all) ∨ ∃ em p, cur = em ++ [p] ∧ em ++ unf (some p) rest = all
theorem Gath.new {cur r all : List (Nat × List UInt8)} {x : Nat × List UInt8} (h : Gath cur (x :: r) all) (hg : goes x.2 = false ∨ cur = []) : Gath (cur ++ [x]) r all := by
  refine .inr ⟨cur, x, rfl, ?_⟩
  rcases h with ⟨rfl, h⟩ | ⟨em, p, rfl, h⟩
  · exact h
  · rcases hg with hg | hg
    · rw [← h]; simp [unf, hg]
    · simp at hg
theorem Gath.on {em r all : List (Nat × List UInt8)} {p x : Nat × List UInt8} (h : Gath (em ++ [p]) (x :: r) all) (hg : goes x.2 = true) : Gath (em ++ [(p.1, p.2 ++ x.2)]) r all := by
  refine .inr ⟨em, _, rfl, ?_⟩
  rcases h with ⟨h, _⟩ | ⟨em', p', he, h⟩
  · simp at h
  · obtain ⟨rfl, hp⟩ := List.append_inj' he rfl
    simp only [List.cons.injEq, and_true] at hp
    subst hp
    rw [← h]; simp [unf, hg]
theorem Gath.done {cur all : List (Nat × List UInt8)} (h : Gath cur [] all) : cur = all := by
  rcases h with ⟨rfl, h⟩ | ⟨em, p, rfl, h⟩
  · exact h
  · exact h
theorem snoc_of {α : Type} {l : List α} (h : l ≠ []) : ∃ em p, l = em ++ [p] := ⟨l.dropLast, l.getLast h, (List.dropLast_concat_getLast h).symm⟩
theorem add_text (a b : ByteArray) (x y : List UInt8) (ha : a = ⟨x.toArray⟩) (hb : b = ⟨y.toArray⟩) : a ++ b = ⟨(x ++ y).toArray⟩ := by
  subst ha; subst hb; apply ByteArray.ext; simp [ByteArray.data_append]

theorem ints_more {w1 w2 : World} {base : Nat} {v1 mv : Value} {cur : List (Nat × List UInt8)} {i m : Nat} {X : List UInt8} {xs : List Value} {o : Obj} (h : w1.ownsRow base 3 1 v1 (cur.length + 1) (icells (cur.map (·.1)) ++ [.int .i64 ((i : Int) + 1)])) (hg : (w1.alloc o).grownBy w2 mv.ownBlock) (hm : w1.ownsRow base 9 1 mv m xs) :
    w2.ownsRow base 3 1 v1 (cur ++ [(i + 1, X)]).length (icells ((cur ++ [(i + 1, X)]).map (·.1))) := by
  rw [List.map_append, List.length_append]
  exact row_grown hm (by rw [show [(i + 1, X)].map (·.1) = [i + 1] from rfl, icells_snoc, show ((i + 1 : Nat) : Int) = (i : Int) + 1 by omega]; exact h) (by decide) hg
theorem texts_more {w2 : World} {base : Nat} {v2 : Value} {cur : List (Nat × List UInt8)} {n : Nat} {X : List UInt8} (h : w2.ownsRow base 9 1 v2 (cur.length + 1) (scells (cur.map (·.2)) ++ [.string ⟨X.toArray⟩])) :
    w2.ownsRow base 9 1 v2 (cur ++ [(n, X)]).length (scells ((cur ++ [(n, X)]).map (·.2))) := by
  rw [List.map_append, List.length_append, show [(n, X)].map (·.2) = [X] from rfl, scells_snoc]; exact h

theorem ints_same {w : World} {base g k : Nat} {v u : Value} {cur em : List (Nat × List UInt8)} {p : Nat × List UInt8} {Y : List UInt8} (hc : cur = em ++ [p]) (h : w.ownsRow base 3 1 v cur.length (icells (cur.map (·.1)))) (hg : ∀ j, v.ownBlock = some j → j = g → False) :
    (w.setCell ⟨g, k, none⟩ u).drew.ownsRow base 3 1 v (em ++ [(p.1, Y)]).length (icells ((em ++ [(p.1, Y)]).map (·.1))) := by
  have h2 : (w.setCell ⟨g, k, none⟩ u).ownsRow base 3 1 v cur.length (icells (cur.map (·.1))) := row_set h hg
  subst hc
  rw [show (em ++ [(p.1, Y)]).length = (em ++ [p]).length by simp, show (em ++ [(p.1, Y)]).map (·.1) = (em ++ [p]).map (·.1) by simp]
  exact h2
theorem texts_same {w : World} {base g cap : Nat} {cur em : List (Nat × List UInt8)} {p : Nat × List UInt8} {Y : List UInt8} {z : ByteArray} (hc : cur = em ++ [p]) (h : w.ownsRow base 9 1 (.slice (some ⟨g, 0, none⟩) cur.length cap) cur.length (scells (cur.map (·.2)))) (hz : z = ⟨Y.toArray⟩) :
    (w.setCell ⟨g, em.length, none⟩ (.string z)).drew.ownsRow base 9 1 (.slice (some ⟨g, 0, none⟩) cur.length cap) (em ++ [(p.1, Y)]).length (scells ((em ++ [(p.1, Y)]).map (·.2))) := by
  have hl : cur.length = em.length + 1 := by rw [hc]; simp
  rw [show (em ++ [(p.1, Y)]).length = em.length + 1 by simp, hl]
  rw [hl, hc, List.map_append, show [p].map (·.2) = [p.2] from rfl, scells_snoc] at h
  rw [List.map_append, show [(p.1, Y)].map (·.2) = [Y] from rfl, scells_snoc, ← hz]
  exact set_last h

/-- Two rows of the call's own: the numbers, and the texts. -/
def NumRows (w : World) (l : List (Nat × List UInt8)) (e : Ending) (W' : World) : Prop := ∃ v v', e = .returned (.tuple #[v, v']) ∧ Ints W' w.heap.size v (l.map (·.1)) ∧ Strs W' w.heap.size v' (l.map (·.2)) ∧ Below w.heap.size w W'

set_option maxRecDepth 100000 in
set_option maxHeartbeats 2000000 in
theorem refNum_any (v : Value) (l : List (List UInt8)) (h1 : l.length ≤ 1099511627776) (h2 : bytes l ≤ 1099511627776) (w : World) (h : Reads w v l) :
    Calls Try.prog 17 #[v] w (NumRows w (unf none (num 1 l))) := by
  obtain ⟨i0, hi, hzs0, hzs1, hzs2⟩ := info_parts infoStr
  obtain ⟨i1, hi', hz0', hz1', hz2'⟩ := info_parts infoInt
  obtain ⟨a, cap, rfl⟩ := h.shape
  have H := Lib.hid h
  obtain ⟨all, hall⟩ : ∃ all, unf none (num 1 l) = all := ⟨_, rfl⟩
  rw [hall]
  have G0 := Lib.hid (show Gath [] ((num 1 l).drop 0) all from .inl ⟨rfl, by rw [List.drop_zero]; exact hall⟩)
  have CB := Lib.hid (fun t W => refBlank_any t 0 W)
  rw [show ((0 : Nat) : Int) = 0 from rfl] at CB
  have HB0 := Lib.hid (show bytes (([] : List (Nat × List UInt8)).map (·.2)) + bytes (l.drop 0) ≤ 1099511627776 by simp [bytes] at h2 ⊢; exact h2)
  clear h hall h2
  go_enter Try.func17, Try.ntmps17
  go_wp2_with fail
  go_loopw [4, 5, 6] (fun nv mv iv wr => ∃ (i : Nat) (cur : List (Nat × List UInt8)), iv = .int .i64 (i : Int) ∧ i ≤ l.length ∧ Hid (Gath cur ((num 1 l).drop i) all) ∧ cur.length ≤ i ∧ Hid (bytes (cur.map (·.2)) + bytes (l.drop i) ≤ 1099511627776) ∧ wr.ownsRow w.heap.size 3 1 nv cur.length (icells (cur.map (·.1))) ∧ wr.ownsRow w.heap.size 9 1 mv cur.length (scells (cur.map (·.2))) ∧ Below w.heap.size w wr) (fun _ _ iv _ => l.length - (intOf iv).toNat)
  case atStart => exact ⟨0, [], rfl, Nat.zero_le _, G0, Nat.le_refl _, HB0, World.ownsRow_nil _ _ _ _, World.ownsRow_nil _ _ _ _, Below.refl _ _⟩
  case round =>
    obtain ⟨i, cur, rfl, hil, hG, hcl, hBy, hnr, hmr, hbel⟩ := hrel
    have hz := hbel.size
    by_cases hlt : i < l.length
    · have hnd := num_drop 1 l i hlt
      rw [hnd] at hG
      obtain ⟨_, b, o, rfl, hbw, hc0⟩ := H.out.at_ i hlt
      have hc := (hbel.cell (p := ⟨b, o + i, none⟩) hbw).trans hc0
      have hx := mk_list l[i]
      have hxz := mk_size l[i]
      have hby := hBy.out
      rw [List.drop_eq_getElem_cons hlt, bytes_cons] at hby
      have hi2 : (i : Int) < (l.length : Int) := by omega
      have hA : cur.length + 1 ≤ maxLen := by unfold maxLen; omega
      have hA2 : (cur.length + 1) * 8 ≤ 140737488355328 := by omega
      have hB2 : (cur.length + 1) * 16 ≤ 140737488355328 := by omega
      have hA3 : w.heap.size ≤ (wr.alloc (.cells #[.int .i64 ((i : Int) + 1)] 3)).heap.size := by simp; omega
      have hi1 : 1 + i = i + 1 := by omega
      rw [hi1] at hG
      have C := Lib.hid (fun W => CB.out ⟨l[i].toArray⟩ W)
      rw [hx, ← goes_blank] at C
      obtain ⟨X, hX⟩ : ∃ X, l[i] = X := ⟨_, rfl⟩
      rw [hX] at hG C hc hc0 hx hxz hby
      by_cases hnew : goes X = false ∨ cur = []
      · have HG := Lib.hid (Gath.new hG.out hnew)
        have HBY := Lib.hid (show bytes ((cur ++ [(i + 1, X)]).map (·.2)) + bytes (l.drop (i + 1)) ≤ 1099511627776 by rw [List.map_append, bytes_append]; simp [bytes] at hby ⊢; omega)
        generalize hTT : (⟨X.toArray⟩ : ByteArray) = x at hc hc0 C
        have HTT := Lib.hid hTT
        clear hx hxz hby hTT hG hBy hnd hX
        cases hg : goes X
        · rw [hg] at C
          clear hnew hg
          go_wp2_with (first | (go_at_call 21; refine (C.out _).mono ?_; rintro e w' ⟨rfl, rfl⟩) | (at_builtin; refine wpList_append_own _ rfl _ _ 33 rfl w.heap.size 3 i1 (.int .i64 0) 1 8 Try.underlying33 hi' hz0' hz1' hz2' rfl (by decide) _ _ _ rfl (hnr.alloc _) ⟨wr.heap.size, 0, none⟩ 1 1 [.int .i64 ((i : Int) + 1)] rfl rfl (cell_one_new _ _ _) (by simp [Value.oneCell']) hA hA2 hA3 ?_; intro v1 w1 hown1 hgrow1 _; have hmr1 := row_grown hnr hmr (by decide) hgrow1; have hb1 : Below w.heap.size w w1 := (hbel.alloc hz _).grown hgrow1 (by simp; omega) (fun k e => (World.ownsRow.lt hnr k e).1); have hz1 := hb1.size; have hc1 := (hb1.cell (p := ⟨b, o + i, none⟩) hbw).trans hc0) | (at_builtin; refine wpList_append_own _ rfl _ _ 22 rfl w.heap.size 9 i0 (.string .empty) 1 16 Try.underlying22 hi hzs0 hzs1 hzs2 rfl (by decide) _ _ _ rfl (hmr1.alloc _) ⟨w1.heap.size, 0, none⟩ 1 1 [.string x] rfl rfl (cell_one_new _ _ _) (by simp [Value.oneCell']) hA hB2 (by simp; omega) ?_; intro v2 w2 hown2 hgrow2 _))
          go_roundw
          case rel => exact ⟨i + 1, cur ++ [(i + 1, X)], by go_num, by omega, HG, by simp; omega, HBY, ints_more hown1 hgrow2 hmr1, texts_more (by rw [HTT.out]; exact hown2), (hb1.alloc hz1 _).grown hgrow2 (by simp; omega) (fun k e => (World.ownsRow.lt hmr1 k e).1)⟩
          case measure => simp [intOf]; omega
        · rw [hg] at C
          have hcur : cur = [] := by rcases hnew with h | h; rw [hg] at h; cases h; exact h
          have hcl0 : (cur.length : Int) = 0 := by rw [hcur]; rfl
          obtain ⟨sa, sc, rfl⟩ := Strs.shape hmr
          clear hnew hg hcur
          go_wp2_with (first | (go_at_call 21; refine (C.out _).mono ?_; rintro e w' ⟨rfl, rfl⟩) | (at_builtin; refine wpList_append_own _ rfl _ _ 33 rfl w.heap.size 3 i1 (.int .i64 0) 1 8 Try.underlying33 hi' hz0' hz1' hz2' rfl (by decide) _ _ _ rfl (hnr.alloc _) ⟨wr.heap.size, 0, none⟩ 1 1 [.int .i64 ((i : Int) + 1)] rfl rfl (cell_one_new _ _ _) (by simp [Value.oneCell']) hA hA2 hA3 ?_; intro v1 w1 hown1 hgrow1 _; have hmr1 := row_grown hnr hmr (by decide) hgrow1; have hb1 : Below w.heap.size w w1 := (hbel.alloc hz _).grown hgrow1 (by simp; omega) (fun k e => (World.ownsRow.lt hnr k e).1); have hz1 := hb1.size; have hc1 := (hb1.cell (p := ⟨b, o + i, none⟩) hbw).trans hc0) | (at_builtin; refine wpList_append_own _ rfl _ _ 22 rfl w.heap.size 9 i0 (.string .empty) 1 16 Try.underlying22 hi hzs0 hzs1 hzs2 rfl (by decide) _ _ _ rfl (hmr1.alloc _) ⟨w1.heap.size, 0, none⟩ 1 1 [.string x] rfl rfl (cell_one_new _ _ _) (by simp [Value.oneCell']) hA hB2 (by simp; omega) ?_; intro v2 w2 hown2 hgrow2 _))
          go_roundw
          case rel => exact ⟨i + 1, cur ++ [(i + 1, X)], by go_num, by omega, HG, by simp; omega, HBY, ints_more hown1 hgrow2 hmr1, texts_more (by rw [HTT.out]; exact hown2), (hb1.alloc hz1 _).grown hgrow2 (by simp; omega) (fun k e => (World.ownsRow.lt hmr1 k e).1)⟩
          case measure => simp [intOf]; omega
      · have hgo : goes X = true := by cases h : goes X; exact absurd (.inl h) hnew; rfl
        have hne : cur ≠ [] := fun h => hnew (.inr h)
        obtain ⟨em, p, hcur⟩ := snoc_of hne
        have HG := Lib.hid (Gath.on (by rw [← hcur]; exact hG.out) hgo)
        rw [hgo] at C
        obtain ⟨g, mc, cu, hmv, hmb, hmg, hm1, hm2, hm3, hm4⟩ := row_open hmr (fun h => hne (List.eq_nil_of_length_eq_zero h))
        subst hmv
        have hck : cur.length = em.length + 1 := by rw [hcur]; simp
        have hcell := row_last hmr hcur
        have hcm : wr.drew.cell? ⟨g, em.length, none⟩ = some (.string ⟨p.2.toArray⟩) := hcell
        have hfm : wr.drew.frozen? ⟨g, em.length, none⟩ = false := row_unfrozen hmg
        have hcx : wr.drew.cell? ⟨b, o + i, none⟩ = some (.string ⟨X.toArray⟩) := hc
        have hpz := mk_size p.2
        have hby2 : p.2.length + X.length + bytes (em.map (·.2)) + bytes (l.drop (i + 1)) ≤ 1099511627776 := by
          rw [hcur, List.map_append, bytes_append] at hby; simp [bytes] at hby ⊢; omega
        have HBY := Lib.hid (show bytes ((em ++ [(p.1, p.2 ++ X)]).map (·.2)) + bytes (l.drop (i + 1)) ≤ 1099511627776 by rw [List.map_append, bytes_append]; simp [bytes] at hby2 ⊢; omega)
        have hsum : (⟨p.2.toArray⟩ : ByteArray).size + (⟨X.toArray⟩ : ByteArray).size ≤ 1099511627776 := by rw [hpz, hxz]; omega
        have HT := Lib.hid (add_text ⟨p.2.toArray⟩ ⟨X.toArray⟩ p.2 X rfl rfl)
        have hpos : (0 : Int) < (cur.length : Int) := by omega
        have hk1 : (cur.length : Int) - 1 = (em.length : Int) := by omega
        have hk2 : em.length < cur.length := by omega
        have hk3 : (em.length : Int) < (cur.length : Int) := by omega
        have HNR := Lib.hid hnr
        have HMR := Lib.hid hmr
        have HCUR := Lib.hid hcur
        have HCK := Lib.hid hck
        have hcl2 : em.length + 1 ≤ i := by omega
        clear hx hxz hby hG hBy hnd hX hpz hby2 hcell hmb hmg hm1 hm2 hm3 hm4 hcur hck hnew hne hgo hA hA2 hB2 hA3 hc0
        generalize (⟨p.2.toArray⟩ : ByteArray) = P at hcm hsum HT
        generalize (⟨X.toArray⟩ : ByteArray) = x at hc hcx hsum HT C
        go_wp2_with (go_at_call 21; refine (C.out _).mono ?_; rintro e w' ⟨rfl, rfl⟩)
        go_region
        go_wp2_with fail
        go_roundw
        case rel => exact ⟨i + 1, em ++ [(p.1, p.2 ++ X)], by go_num, by omega, HG, by simp; omega, HBY, ints_same HCUR.out HNR.out (fun j e h => rows_apart HNR.out HMR.out (by decide) g rfl (by rw [e, h])), texts_same HCUR.out HMR.out HT.out, ((hbel.setCell (p := ⟨g, em.length, none⟩) (own_lt HMR.out g rfl).1 _).drew)⟩
        case measure => simp [intOf]; omega
    · have HE := Lib.hid (show cur = all from Gath.done (by have := hG.out; rwa [List.drop_eq_nil_of_le (by rw [num_length]; omega)] at this))
      go_wp2_with fail
      go_ret2
      exact ⟨_, _, rfl, by unfold Ints; rw [← HE.out, List.length_map]; exact hnr, by unfold Strs; rw [← HE.out, List.length_map]; exact hmr, hbel⟩
end Go.Proofs.Ytcclicgjklmihaa.Ln
