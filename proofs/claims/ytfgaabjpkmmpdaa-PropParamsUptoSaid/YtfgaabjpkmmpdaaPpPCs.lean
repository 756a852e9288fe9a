/-
What prop.copied holds between its steps: what is left, each as it was; what is done. No conditions.
-/
import Derived.Test.YtfgaabjpkmmpdaaPpApart
import Derived.Test.YtfgaabjpkmmpdaaPpTKey
namespace Go.Proofs.Ytfgaabjpkmmpdaa.Pp
open Go.RowKit

section
variable {w wr w1 : World} {b : Nat} {g n v : ByteArray} {pv av : Value}
theorem At.set2 (h : PrAt w b g n pv v av) (x : Value) : PrAt (w.setCell ⟨b, 2, none⟩ x) b g n x v av := heapSet h _
theorem At.set4 (h : PrAt w b g n pv v av) (x : Value) : PrAt (w.setCell ⟨b, 4, none⟩ x) b g n pv v x := heapSet h _
theorem At.other (h : PrAt w b g n pv v av) {a : Addr} (ha : b ≠ a.block) (u : Value) : PrAt (w.setCell a u) b g n pv v av := (Below.heap_setCell w a u b ha).trans h
theorem At.f (h : PrAt w b g n pv v av) (j : Nat) : w.frozen? ⟨b, j, none⟩ = false := frozen_of_row _ _ _ _ _ h
end
theorem own_below {w w' : World} {base : Nat} {v : Value} {ps : List (ByteArray × ByteArray)} (h : Own w base v ps) (hb : Below w.heap.size w w') : Own w' base v ps := by
  obtain ⟨h0, h⟩ := h
  refine ⟨h0, ?_⟩
  rcases h with h | ⟨g, cap, cur, h1, h2, h3, h4⟩
  · exact .inl h
  · exact .inr ⟨g, cap, cur, h1, h2, (hb.block g (Array.getElem?_eq_some_iff.1 h3).1).trans h3, h4⟩
theorem own_setNe {w : World} {base : Nat} {v : Value} {ps : List (ByteArray × ByteArray)} (h : Own w base v ps) {a : Addr} (hne : ∀ k, v.ownBlock = some k → k ≠ a.block) (u : Value) : Own (w.setCell a u) base v ps := by
  obtain ⟨h0, h⟩ := h
  refine ⟨h0, ?_⟩
  rcases h with h | ⟨g, cap, cur, rfl, h2, h3, h4⟩
  · exact .inl h
  · exact .inr ⟨g, cap, cur, rfl, h2, (Below.heap_setCell w a u g (hne g rfl)).trans h3, h4⟩
theorem own_blk {w : World} {base : Nat} {v : Value} {ps : List (ByteArray × ByteArray)} (h : Own w base v ps) (k : Nat) (e : v.ownBlock = some k) : base ≤ k ∧ k < w.heap.size := by
  obtain ⟨_, ⟨rfl, _⟩ | ⟨g, cap, cur, rfl, h2, h3, _⟩⟩ := h
  · simp [Value.ownBlock] at e
  · cases e; exact ⟨h2, (Array.getElem?_eq_some_iff.1 h3).1⟩

/-- Nothing but block b has turned. -/
structure Frm (W W' : World) (b : Nat) : Prop where
  os : W'.os = W.os
  tape : W'.tape = W.tape
  output : W'.output = W.output
  size : W.heap.size ≤ W'.heap.size
  block : ∀ k, k < W.heap.size → k ≠ b → W'.heap[k]? = W.heap[k]?
theorem Frm.set (W : World) (b i : Nat) (u : Value) : Frm W (W.setCell ⟨b, i, none⟩ u) b :=
  ⟨rfl, rfl, rfl, by rw [World.size_setCell]; exact Nat.le_refl _, fun k _ hk => Below.heap_setCell W _ u k hk⟩
theorem Frm.of_below {W W' : World} (h : Below W.heap.size W W') : Frm W W' W.heap.size := ⟨h.os, h.tape, h.output, h.size, fun k hk _ => h.block k hk⟩
theorem Frm.grown {W W' : World} {o : Obj} {row : Option Nat} (h : (W.alloc o).grownBy W' row) : Frm W W' (row.getD W.heap.size) :=
  ⟨h.os, h.tape, h.output, by have := h.size; simp at this; omega, fun k hk hne => (h.block k (by simp; omega) (fun e => by subst e; exact hne rfl)).trans (((Below.refl W.heap.size W).alloc (Nat.le_refl _) o).block k hk)⟩
theorem Frm.below {w W W' : World} {b : Nat} (h : Frm W W' b) (hb : Below w.heap.size w W) (hle : w.heap.size ≤ b) : Below w.heap.size w W' :=
  hb.trans ⟨h.os, h.tape, h.output, h.size, fun k hk => h.block k (by have := hb.size; omega) (by omega)⟩
/-- Block b is none of these. -/
structure Alien (W : World) (b : Nat) : Prop where
  prop : ∀ cur fr, W.heap[b]? ≠ some (.cells cur 25 fr)
  param : ∀ cur fr, W.heap[b]? ≠ some (.cells cur 39 fr)
  map : ∀ es c, W.heap[b]? ≠ some (.map es c)
theorem Alien.new (W : World) : Alien W W.heap.size := by
  have : W.heap[W.heap.size]? = none := by simp
  exact ⟨fun _ _ h => (by rw [this] at h; cases h), fun _ _ h => (by rw [this] at h; cases h), fun _ _ h => (by rw [this] at h; cases h)⟩
theorem Alien.card {W : World} {b : Nat} {cur : Array Value} {fr : Nat × Nat} (h : W.heap[b]? = some (.cells cur 56 fr)) : Alien W b :=
  ⟨fun _ _ e => by rw [h] at e; simp at e, fun _ _ e => by rw [h] at e; simp at e, fun _ _ e => by rw [h] at e; cases e⟩
theorem Alien.ptr {W : World} {base : Nat} {v : Value} {l : List Addr} (h : Ptrs W base v l) : Alien W (v.ownBlock.getD W.heap.size) := by
  obtain ⟨_, ⟨rfl, _⟩ | ⟨g, cap, cur, rfl, _, hh, _⟩⟩ := h
  · exact Alien.new W
  · exact ⟨fun _ _ e => by simp [Value.ownBlock] at e; rw [hh] at e; simp at e, fun _ _ e => by simp [Value.ownBlock] at e; rw [hh] at e; simp at e, fun _ _ e => by simp [Value.ownBlock] at e; rw [hh] at e; cases e⟩

/-- A property in a row of properties of the call's own. -/
def QAt (W : World) (g j : Nat) (gs n : ByteArray) (pv : Value) (v : ByteArray) (bv : Value) : Prop :=
  ∃ cur : Array Value, W.heap[g]? = some (.cells cur 25 (0, 0)) ∧ cur[j * 5]? = some (.string gs) ∧ cur[j * 5 + 1]? = some (.string n) ∧ cur[j * 5 + 2]? = some pv ∧ cur[j * 5 + 3]? = some (.string v) ∧ cur[j * 5 + 4]? = some bv
section
variable {W W' : World} {g j : Nat} {gs n v : ByteArray} {pv bv : Value}
theorem QAt.lt (h : QAt W g j gs n pv v bv) : g < W.heap.size := by obtain ⟨_, h, _⟩ := h; exact (Array.getElem?_eq_some_iff.1 h).1
theorem QAt.c0 (h : QAt W g j gs n pv v bv) : W.cell? ⟨g, j * 5, none⟩ = some (.string gs) := by obtain ⟨_, h, h0, h1, h2, h3, h4⟩ := h; exact cellCur h h0
theorem QAt.c1 (h : QAt W g j gs n pv v bv) : W.cell? ⟨g, j * 5 + 1, none⟩ = some (.string n) := by obtain ⟨_, h, h0, h1, h2, h3, h4⟩ := h; exact cellCur h h1
theorem QAt.c2 (h : QAt W g j gs n pv v bv) : W.cell? ⟨g, j * 5 + 2, none⟩ = some pv := by obtain ⟨_, h, h0, h1, h2, h3, h4⟩ := h; exact cellCur h h2
theorem QAt.c3 (h : QAt W g j gs n pv v bv) : W.cell? ⟨g, j * 5 + 3, none⟩ = some (.string v) := by obtain ⟨_, h, h0, h1, h2, h3, h4⟩ := h; exact cellCur h h3
theorem QAt.c4 (h : QAt W g j gs n pv v bv) : W.cell? ⟨g, j * 5 + 4, none⟩ = some bv := by obtain ⟨_, h, h0, h1, h2, h3, h4⟩ := h; exact cellCur h h4
theorem QAt.f (h : QAt W g j gs n pv v bv) (i : Nat) : W.frozen? ⟨g, i, none⟩ = false := by obtain ⟨_, h, _⟩ := h; exact frozenCur h
theorem QAt.keep (h : QAt W g j gs n pv v bv) (hk : W'.heap[g]? = W.heap[g]?) : QAt W' g j gs n pv v bv := by obtain ⟨c, h, h0⟩ := h; exact ⟨c, hk.trans h, h0⟩
theorem QAt.frm {b : Nat} (h : QAt W g j gs n pv v bv) (F : Frm W W' b) (A : Alien W b) : QAt W' g j gs n pv v bv :=
  h.keep (F.block g h.lt (fun e => by obtain ⟨c, h, _⟩ := h; subst e; exact A.prop _ _ h))
theorem QAt.set2 (h : QAt W g j gs n pv v bv) (x : Value) : QAt (W.setCell ⟨g, j * 5 + 2, none⟩ x) g j gs n x v bv := by
  obtain ⟨c, h, h0, h1, h2, h3, h4⟩ := h
  have := (Array.getElem?_eq_some_iff.1 h2).1
  exact ⟨_, heapSet h x, by rw [Array.getElem?_setIfInBounds_ne (by omega)]; exact h0, by rw [Array.getElem?_setIfInBounds_ne (by omega)]; exact h1, by rw [Array.getElem?_setIfInBounds_self_of_lt this], by rw [Array.getElem?_setIfInBounds_ne (by omega)]; exact h3, by rw [Array.getElem?_setIfInBounds_ne (by omega)]; exact h4⟩
theorem QAt.set4 (h : QAt W g j gs n pv v bv) (x : Value) : QAt (W.setCell ⟨g, j * 5 + 4, none⟩ x) g j gs n pv v x := by
  obtain ⟨c, h, h0, h1, h2, h3, h4⟩ := h
  have := (Array.getElem?_eq_some_iff.1 h4).1
  exact ⟨_, heapSet h x, by rw [Array.getElem?_setIfInBounds_ne (by omega)]; exact h0, by rw [Array.getElem?_setIfInBounds_ne (by omega)]; exact h1, by rw [Array.getElem?_setIfInBounds_ne (by omega)]; exact h2, by rw [Array.getElem?_setIfInBounds_ne (by omega)]; exact h3, by rw [Array.getElem?_setIfInBounds_self_of_lt this]⟩
theorem QAt.setNe (h : QAt W g j gs n pv v bv) {b i : Nat} (hne : g ≠ b ∨ i < j * 5 ∨ j * 5 + 5 ≤ i) (x : Value) : QAt (W.setCell ⟨b, i, none⟩ x) g j gs n pv v bv := by
  by_cases hg : g = b
  · subst hg
    obtain ⟨c, h, h0, h1, h2, h3, h4⟩ := h
    have hi : i < j * 5 ∨ j * 5 + 5 ≤ i := by omega
    exact ⟨_, heapSet h x, by rw [Array.getElem?_setIfInBounds_ne (by omega)]; exact h0, by rw [Array.getElem?_setIfInBounds_ne (by omega)]; exact h1, by rw [Array.getElem?_setIfInBounds_ne (by omega)]; exact h2, by rw [Array.getElem?_setIfInBounds_ne (by omega)]; exact h3, by rw [Array.getElem?_setIfInBounds_ne (by omega)]; exact h4⟩
  · exact h.keep (Below.heap_setCell W _ x g hg)
end
theorem own_frm {W W' : World} {b base : Nat} {v : Value} {ps : List (ByteArray × ByteArray)} (h : Own W base v ps) (F : Frm W W' b) (hb : ∀ cur fr, W.heap[b]? ≠ some (.cells cur 39 fr)) : Own W' base v ps := by
  obtain ⟨h0, h⟩ := h
  refine ⟨h0, ?_⟩
  rcases h with h | ⟨g, cap, cur, h1, h2, h3, h4⟩
  · exact .inl h
  · exact .inr ⟨g, cap, cur, h1, h2, (F.block g (Array.getElem?_eq_some_iff.1 h3).1 (fun e => by subst e; exact hb _ _ h3)).trans h3, h4⟩
theorem Ptrs.frm {W W' : World} {b base : Nat} {v : Value} {l : List Addr} (h : Ptrs W base v l) (F : Frm W W' b) (hb : ∀ cur fr, W.heap[b]? ≠ some (.cells cur 49 fr)) : Ptrs W' base v l := by
  obtain ⟨h0, h⟩ := h
  refine ⟨h0, ?_⟩
  rcases h with h | ⟨g, cap, cur, h1, h2, h3, h4⟩
  · exact .inl h
  · exact .inr ⟨g, cap, cur, h1, h2, (F.block g (Array.getElem?_eq_some_iff.1 h3).1 (fun e => by subst e; exact hb _ _ h3)).trans h3, h4⟩

/-- A property that is left: as it was. -/
def Ent (w W : World) (e : Nat × Nat × Nat) : Prop :=
  ∃ (k : Nat) (gs n v : ByteArray) (pv bv : Value) (ps : List (ByteArray × ByteArray)) (s : Nat), (e.1 = w.heap.size ∨ w.heap.size + 2 ≤ e.1) ∧ QAt W e.1 e.2.1 gs n pv v bv ∧ Ps w w.heap.size pv ps ∧ ps.length + s + 1 ≤ e.2.2 ∧ AgW w w.heap.size k s bv
def key (e : Nat × Nat × Nat) : Nat × Nat := (e.1, e.2.1)
def adr (e : Nat × Nat × Nat) : Addr := ⟨e.1, e.2.1 * 5, none⟩
theorem Ent.lt {w W : World} {e : Nat × Nat × Nat} (h : Ent w W e) : e.1 < W.heap.size := by obtain ⟨_, _, _, _, _, _, _, _, _, h, _⟩ := h; exact h.lt
theorem Ent.ge {w W : World} {e : Nat × Nat × Nat} (h : Ent w W e) : w.heap.size ≤ e.1 := by obtain ⟨_, _, _, _, _, _, _, _, h, _⟩ := h; omega
theorem Ent.pos {w W : World} {e : Nat × Nat × Nat} (h : Ent w W e) : 1 ≤ e.2.2 := by obtain ⟨_, _, _, _, _, _, _, _, _, _, _, h, _⟩ := h; omega

/-- What holds of all that is not the property at hand. -/
structure Bs (w W : World) (mb : Nat) (ls : List (Nat × Nat × Nat)) : Prop where
  b : Below w.heap.size w W
  r : PrAt W (w.heap.size + 1) ⟨#[]⟩ ⟨#[]⟩ (.slice none 0 0) ⟨#[]⟩ (.slice none 0 0)
  map : ∃ clock, W.heap[mb]? = some (.map #[] clock)
  ent : ∀ e ∈ ls, Ent w W e
  nd : (ls.map key).Nodup
theorem Bs.frm {w W W' : World} {mb b : Nat} {ls : List (Nat × Nat × Nat)} (h : Bs w W mb ls) (F : Frm W W' b) (A : Alien W b) (hle : w.heap.size ≤ b) : Bs w W' mb ls := by
  refine ⟨F.below h.b hle, (F.block _ h.r.lt (fun e => A.prop _ _ (e ▸ h.r))).trans h.r, ?_, fun e he => ?_, h.nd⟩
  · obtain ⟨c, hm⟩ := h.map
    exact ⟨c, (F.block _ (Array.getElem?_eq_some_iff.1 hm).1 (fun e => A.map _ _ (e ▸ hm))).trans hm⟩
  · obtain ⟨k, gs, n, v, pv, bv, ps, s, h1, h2, h3⟩ := h.ent e he
    exact ⟨k, gs, n, v, pv, bv, ps, s, h1, h2.frm F A, h3⟩
/-- A cell of a property that is not left is written. -/
theorem Bs.setQ {w W : World} {mb gq jq i : Nat} {ls : List (Nat × Nat × Nat)} {cur : Array Value} (h : Bs w W mb ls) (hq : W.heap[gq]? = some (.cells cur 25 (0, 0))) (hge : gq = w.heap.size ∨ w.heap.size + 2 ≤ gq) (hn : (gq, jq) ∉ ls.map key) (hi : jq * 5 ≤ i ∧ i < jq * 5 + 5) (x : Value) : Bs w (W.setCell ⟨gq, i, none⟩ x) mb ls := by
  refine ⟨h.b.setCell (p := ⟨gq, i, none⟩) (by show w.heap.size ≤ gq; omega) x, At.other h.r (by show w.heap.size + 1 ≠ gq; omega) x, ?_, fun e he => ?_, h.nd⟩
  · obtain ⟨c, hm⟩ := h.map
    exact ⟨c, (Below.heap_setCell W _ x mb (fun e => by change mb = gq at e; subst e; rw [hq] at hm; cases hm)).trans hm⟩
  · obtain ⟨k, gs, n, v, pv, bv, ps, s, h1, h2, h3⟩ := h.ent e he
    refine ⟨k, gs, n, v, pv, bv, ps, s, h1, h2.setNe ?_ x, h3⟩
    by_cases hg : e.1 = gq
    · have hj : e.2.1 ≠ jq := fun hj => hn (List.mem_map.2 ⟨e, he, by unfold key; rw [hg, hj]⟩)
      omega
    · exact .inl hg

/-- p's box, when it is done. -/
def PD (w W : World) (g n v : ByteArray) (ps : List (ByteArray × ByteArray)) (m : Nat) : Prop :=
  ∃ pv a c, QAt W w.heap.size 0 g n pv v (.slice a m c) ∧ Own W (w.heap.size + 2) pv ps
theorem PD.frm {w W W' : World} {g n v : ByteArray} {ps : List (ByteArray × ByteArray)} {m b : Nat} (h : PD w W g n v ps m) (F : Frm W W' b) (A : Alien W b) : PD w W' g n v ps m := by
  obtain ⟨pv, a, c, h1, h2⟩ := h
  exact ⟨pv, a, c, h1.frm F A, own_frm h2 F A.param⟩

/-- The property at hand, its parameters copied. -/
structure Md (w W : World) (mb : Nat) (ls : List (Nat × Nat × Nat)) (g n v : ByteArray) (ps : List (ByteArray × ByteArray)) (m : Nat) (gq jq : Nat) (gs nq vq : ByteArray) (pq : List (ByteArray × ByteArray)) (mq : Nat) (pv bv : Value) : Prop where
  bs : Bs w W mb ls
  q : QAt W gq jq gs nq pv vq bv
  own : Own W (w.heap.size + 2) pv pq
  ge : gq = w.heap.size ∨ w.heap.size + 2 ≤ gq
  ne : (gq, jq) ∉ ls.map key
  nh : (w.heap.size, 0) ∉ ls.map key
  pd : (gq, jq) ≠ (w.heap.size, 0) → PD w W g n v ps m
  fst : (gq, jq) = (w.heap.size, 0) → gs = g ∧ nq = n ∧ vq = v ∧ pq = ps ∧ mq = m
section
variable {w W W' : World} {mb : Nat} {ls : List (Nat × Nat × Nat)} {g n v : ByteArray} {ps : List (ByteArray × ByteArray)} {m gq jq : Nat} {gs nq vq : ByteArray} {pq : List (ByteArray × ByteArray)} {mq : Nat} {pv bv : Value}
theorem Md.frm {b : Nat} (h : Md w W mb ls g n v ps m gq jq gs nq vq pq mq pv bv) (F : Frm W W' b) (A : Alien W b) (hle : w.heap.size ≤ b) : Md w W' mb ls g n v ps m gq jq gs nq vq pq mq pv bv :=
  ⟨h.bs.frm F A hle, h.q.frm F A, own_frm h.own F A.param, h.ge, h.ne, h.nh, fun hn => (h.pd hn).frm F A, h.fst⟩
theorem Md.below (h : Md w W mb ls g n v ps m gq jq gs nq vq pq mq pv bv) (hb : Below W.heap.size W W') : Md w W' mb ls g n v ps m gq jq gs nq vq pq mq pv bv :=
  h.frm (Frm.of_below hb) (Alien.new W) h.bs.b.size
theorem Md.set4 (h : Md w W mb ls g n v ps m gq jq gs nq vq pq mq pv bv) (x : Value) : Md w (W.setCell ⟨gq, jq * 5 + 4, none⟩ x) mb ls g n v ps m gq jq gs nq vq pq mq pv x := by
  have hq := h.q
  obtain ⟨cur, hh, _⟩ := hq
  have hp : ∀ c fr, W.heap[gq]? ≠ some (.cells c 39 fr) := fun _ _ e => by rw [hh] at e; simp at e
  refine ⟨h.bs.setQ hh h.ge h.ne (by omega) x, h.q.set4 x, own_frm h.own (Frm.set _ _ _ _) hp, h.ge, h.ne, h.nh, fun hn => ?_, h.fst⟩
  obtain ⟨pv', a, c, h1, h2⟩ := h.pd hn
  refine ⟨pv', a, c, h1.setNe ?_ x, own_frm h2 (Frm.set _ _ _ _) hp⟩
  by_cases hg : w.heap.size = gq
  · have : jq ≠ 0 := fun h0 => hn (by rw [← hg, h0])
    omega
  · exact .inl hg
/-- At the round's end. -/
theorem Md.done (h : Md w W mb ls g n v ps m gq jq gs nq vq pq mq pv bv) (hbv : ∃ a c, bv = .slice a mq c) : Bs w W mb ls ∧ (w.heap.size, 0) ∉ ls.map key ∧ PD w W g n v ps m := by
  refine ⟨h.bs, h.nh, ?_⟩
  by_cases hn : (gq, jq) = (w.heap.size, 0)
  · obtain ⟨rfl, rfl, rfl, rfl, rfl⟩ := h.fst hn
    obtain ⟨a, c, rfl⟩ := hbv
    simp only [Prod.mk.injEq] at hn
    obtain ⟨rfl, rfl⟩ := hn
    exact ⟨pv, a, c, h.q, h.own⟩
  · exact h.pd hn
/-- A new property is left. -/
theorem Md.push (h : Md w W mb ls g n v ps m gq jq gs nq vq pq mq pv bv) {e : Nat × Nat × Nat} (he : Ent w W e) (hn : key e ∉ ls.map key) (hq : key e ≠ (gq, jq)) (hh : e.1 ≠ w.heap.size) : Md w W mb (ls ++ [e]) g n v ps m gq jq gs nq vq pq mq pv bv := by
  refine ⟨⟨h.bs.b, h.bs.r, h.bs.map, fun x hx => ?_, ?_⟩, h.q, h.own, h.ge, ?_, ?_, h.pd, h.fst⟩
  · rcases List.mem_append.1 hx with hx | hx
    · exact h.bs.ent x hx
    · rw [List.mem_singleton] at hx; rw [hx]; exact he
  · rw [List.map_append, List.nodup_append]
    refine ⟨h.bs.nd, by simp, fun a ha b hb => ?_⟩
    simp only [List.map_cons, List.map_nil, List.mem_singleton] at hb
    subst hb
    exact fun e1 => hn (e1 ▸ ha)
  · rw [List.map_append, List.mem_append]
    rintro (h1 | h1)
    · exact h.ne h1
    · simp only [List.map_cons, List.map_nil, List.mem_singleton] at h1; exact hq h1.symm
  · rw [List.map_append, List.mem_append]
    rintro (h1 | h1)
    · exact h.nh h1
    · simp only [List.map_cons, List.map_nil, List.mem_singleton] at h1; exact hh (congrArg Prod.fst h1).symm
end
/-- The last of those that are left is taken, and its parameters are copied. -/
theorem md_start {w W W' : World} {mb : Nat} {ls : List (Nat × Nat × Nat)} {e : Nat × Nat × Nat} {g n v : ByteArray} {ps : List (ByteArray × ByteArray)} {m : Nat} {gs nq vq : ByteArray} {pv bv pv' : Value} {pq : List (ByteArray × ByteArray)} {mq base : Nat}
    (h : Bs w W mb (ls ++ [e])) (hge : e.1 = w.heap.size ∨ w.heap.size + 2 ≤ e.1) (hq : QAt W e.1 e.2.1 gs nq pv vq bv) (hf : (ls = [] ∧ key e = (w.heap.size, 0) ∧ gs = g ∧ nq = n ∧ vq = v ∧ pq = ps ∧ mq = m) ∨ ((w.heap.size, 0) ∉ (ls ++ [e]).map key ∧ PD w W g n v ps m))
    (hb : Below W.heap.size W W') (hown : Own W' base pv' pq) (hbase : w.heap.size + 2 ≤ base) : Md w (W'.setCell ⟨e.1, e.2.1 * 5 + 2, none⟩ pv') mb ls g n v ps m e.1 e.2.1 gs nq vq pq mq pv' bv := by
  have F := Frm.of_below hb
  have A := Alien.new W
  have h' := h.frm F A h.b.size
  have hq' := hq.frm F A
  have hnd := h.nd
  rw [List.map_append, List.nodup_append] at hnd
  have hne : (e.1, e.2.1) ∉ ls.map key := fun hm => hnd.2.2 _ hm (key e) (by simp) rfl
  have hbs : Bs w W' mb ls := ⟨h'.b, h'.r, h'.map, fun x hx => h'.ent x (by simp [hx]), hnd.1⟩
  obtain ⟨cur, hh, _⟩ := (id hq' : QAt W' e.1 e.2.1 gs nq pv vq bv)
  have hp : ∀ c fr, W'.heap[e.1]? ≠ some (.cells c 39 fr) := fun _ _ e1 => by rw [hh] at e1; simp at e1
  refine ⟨hbs.setQ hh hge hne (by omega) pv', hq'.set2 pv', own_low hbase (own_frm hown (Frm.set _ _ _ _) hp), hge, hne, ?_, fun hn => ?_, fun hn => ?_⟩
  · rcases hf with ⟨rfl, _⟩ | ⟨h1, _⟩
    · simp
    · exact fun hm => h1 (by rw [List.map_append]; exact List.mem_append_left _ hm)
  · rcases hf with ⟨_, hk, _⟩ | ⟨_, h2⟩
    · exact absurd hk hn
    · obtain ⟨pv2, a, c, q1, q2⟩ := h2.frm F A
      refine ⟨pv2, a, c, q1.setNe ?_ pv', own_frm q2 (Frm.set _ _ _ _) hp⟩
      by_cases hg : w.heap.size = e.1
      · have : e.2.1 ≠ 0 := fun h0 => hn (by rw [← hg, h0])
        omega
      · exact .inl hg
  · rcases hf with ⟨_, _, h3⟩ | ⟨h1, _⟩
    · exact h3
    · exact absurd (by rw [List.map_append]; exact List.mem_append_right _ (by simp [key, hn])) h1
theorem RowC.frm {W W' : World} {ga i b : Nat} {ts : List Nat} {P : Nat → Value → Prop} (h : RowC W ga ts i P) (F : Frm W W' b) (hne : ga ≠ b) : RowC W' ga ts i P := by
  obtain ⟨cur, h1, h2⟩ := h
  exact ⟨cur, (F.block ga (Array.getElem?_eq_some_iff.1 h1).1 hne).trans h1, h2⟩
theorem RowR.frm {W W' w : World} {B gp b : Nat} {A : Nat → Value → Prop} {us : List Nat} (h : RowR W w B A gp us) (F : Frm W W' b) (hA : Alien W b) : RowR W' w B A gp us := by
  obtain ⟨cur, h1, h2⟩ := h
  exact ⟨cur, (F.block gp (Array.getElem?_eq_some_iff.1 h1).1 (fun e => by subst e; exact hA.prop _ _ h1)).trans h1, h2⟩
theorem RowR.ent {W w : World} {gp k j : Nat} {us : List Nat} (h : RowR W w w.heap.size (AgW w w.heap.size k) gp us) (hge : w.heap.size + 2 ≤ gp) (hj : j < us.length) : Ent w W (gp, j, us[j]) := by
  obtain ⟨cur, h1, h2⟩ := h
  obtain ⟨g, n, v, pv, bv, ps, s, c0, c1, c2, c3, c4, hps, hs, ha⟩ := h2 j hj
  exact ⟨k, g, n, v, pv, bv, ps, s, .inr hge, ⟨cur, h1, c0, c1, c2, c3, c4⟩, hps, hs, ha⟩
end Go.Proofs.Ytfgaabjpkmmpdaa.Pp
