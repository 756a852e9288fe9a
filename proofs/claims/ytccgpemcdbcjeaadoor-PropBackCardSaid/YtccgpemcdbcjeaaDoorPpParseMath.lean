/-
A property's line read, in plain words; how its variable and its result lie in memory meanwhile. No conditions of its own.
-/
import Derived.Test.YtccgpemcdbcjeaaDoorPpFind
import Derived.Test.YtccgpemcdbcjeaaDoorPpUpper
import Derived.Test.YtccgpemcdbcjeaaDoorPpOwn2
namespace Go.Proofs.YtccgpemcdbcjeaaDoor.Pp
open Go.RowKit

/-- What reading a line answers. -/
structure Par where
  g : ByteArray
  n : ByteArray
  ps : List (ByteArray × ByteArray)
  v : ByteArray
  at_ : Nat
  err : Int
def errP (a : Nat) (e : Int) : Par := ⟨⟨#[]⟩, ⟨#[]⟩, [], ⟨#[]⟩, a, e⟩
/-- Capitals of a piece. -/
def upB (s : ByteArray) : ByteArray := ⟨(up s.data.toList).toArray⟩
def find (s : ByteArray) (a z : Nat) (c : UInt8) : Nat := findN s.data.toList a z c
theorem find_le {s : ByteArray} {a z : Nat} {c : UInt8} (hz : z ≤ s.size) (ha : a ≤ z) : find s a z c ≤ z := findN_le (by rw [list_size]; exact hz) ha
theorem find_ge {s : ByteArray} {a z : Nat} {c : UInt8} : a ≤ find s a z c := findN_ge
/-- The value, behind the place z of the : -/
def tailP (s : ByteArray) (z : Nat) (g n : ByteArray) (ps : List (ByteArray × ByteArray)) : Par :=
  let v := s.extract (z + 1) s.size
  if 2400 < v.size then errP (z + 1) 8 else if v.data.toList.findIdx oddb < v.size then errP (z + 1 + v.data.toList.findIdx oddb) 3 else ⟨g, n, ps, v, 0, 0⟩
/-- A parameter in the piece from a to t, its = at q. -/
def parOf (s : ByteArray) (a t q : Nat) : ByteArray × ByteArray := if q < t then (upB (s.extract a q), s.extract (q + 1) t) else (⟨#[]⟩, upB (s.extract a t))
/-- The parameters, from the ; at 'stop' on. -/
def parsP (s : ByteArray) (z : Nat) (g n : ByteArray) (stop : Nat) (ps : List (ByteArray × ByteArray)) : Par :=
  if _h : stop < z then
    let t := find s (stop + 1) z 59
    let q := find s (stop + 1) t 61
    if ps.length = 6 then errP (stop + 1) 4
    else if paramB (parOf s (stop + 1) t q).1 (parOf s (stop + 1) t q).2 = false ∨ q = stop + 1 then errP (stop + 1) 3
    else parsP s z g n t (ps ++ [parOf s (stop + 1) t q])
  else tailP s z g n ps
termination_by z - stop
decreasing_by
  have := find_ge (s := s) (a := stop + 1) (z := z) (c := 59)
  omega
def nameP (s : ByteArray) (z stop : Nat) (g : ByteArray) (a : Nat) : Par :=
  if nameB (upB (s.extract a stop)) = false then errP a 14 else parsP s z g (upB (s.extract a stop)) stop []
def groupP (s : ByteArray) (z : Nat) : Par :=
  let stop := find s 0 z 59
  let dot := find s 0 stop 46
  if dot < stop then (if nameB (upB (s.extract 0 dot)) = false then errP 0 14 else nameP s z stop (upB (s.extract 0 dot)) (dot + 1)) else nameP s z stop ⟨#[]⟩ 0
def parse (s : ByteArray) : Par :=
  let z := find s 0 s.size 58
  if z = s.size then errP s.size 1 else groupP s z

section
variable {w wr w1 : World} {b : Nat} {g n v : ByteArray} {pv av : Value}
theorem heap_set {W : World} {b i : Nat} {cs : Array Value} {t : TypeId} {fr : Nat × Nat} (h : W.heap[b]? = some (.cells cs t fr)) (u : Value) : (W.setCell ⟨b, i, none⟩ u).heap[b]? = some (.cells (cs.setIfInBounds i u) t fr) := by
  simp [World.setCell, Array.getElem?_modify, h]
theorem PrAt.set0 (h : PrAt w b g n pv v av) (x : ByteArray) : PrAt (w.setCell ⟨b, 0, none⟩ (.string x)) b x n pv v av := heap_set h _
theorem PrAt.set1 (h : PrAt w b g n pv v av) (x : ByteArray) : PrAt (w.setCell ⟨b, 1, none⟩ (.string x)) b g x pv v av := heap_set h _
theorem PrAt.set2 (h : PrAt w b g n pv v av) (x : Value) : PrAt (w.setCell ⟨b, 2, none⟩ x) b g n x v av := heap_set h _
theorem PrAt.set3 (h : PrAt w b g n pv v av) (x : ByteArray) : PrAt (w.setCell ⟨b, 3, none⟩ (.string x)) b g n pv x av := heap_set h _
theorem PrAt.other (h : PrAt w b g n pv v av) {a : Addr} (ha : b ≠ a.block) (u : Value) : PrAt (w.setCell a u) b g n pv v av := (Below.heap_setCell w a u b ha).trans h
theorem PrAt.f (h : PrAt w b g n pv v av) (j : Nat) : w.frozen? ⟨b, j, none⟩ = false := frozen_of_row _ _ _ _ _ h

/-- The result at its first value, the variable behind it. -/
structure St (w wr : World) (g n : ByteArray) (pv : Value) (v : ByteArray) : Prop where
  p : PrAt wr (w.heap.size + 1) g n pv v (.slice none 0 0)
  r : PrAt wr w.heap.size ⟨#[]⟩ ⟨#[]⟩ (.slice none 0 0) ⟨#[]⟩ (.slice none 0 0)
  size : w.heap.size + 1 + 1 ≤ wr.heap.size
  bel : Below w.heap.size w wr
theorem St.below (h : St w wr g n pv v) (hb : Below wr.heap.size wr w1) : St w w1 g n pv v := ⟨h.p.below hb, h.r.below hb, by have := h.size; have := hb.size; omega, h.bel.trans (hb.mono (by have := h.size; omega))⟩
theorem St.far (h : St w wr g n pv v) {a : Addr} (ha : w.heap.size + 1 < a.block) (u : Value) : St w (wr.setCell a u) g n pv v := ⟨h.p.other (by omega) u, h.r.other (by omega) u, by rw [World.size_setCell]; exact h.size, h.bel.setCell (by omega) u⟩
theorem St.set0 (h : St w wr g n pv v) (x : ByteArray) : St w (wr.setCell ⟨w.heap.size + 1, 0, none⟩ (.string x)) x n pv v := ⟨h.p.set0 x, h.r.other (by simp) _, by rw [World.size_setCell]; exact h.size, h.bel.setCell (by simp) _⟩
theorem St.set1 (h : St w wr g n pv v) (x : ByteArray) : St w (wr.setCell ⟨w.heap.size + 1, 1, none⟩ (.string x)) g x pv v := ⟨h.p.set1 x, h.r.other (by simp) _, by rw [World.size_setCell]; exact h.size, h.bel.setCell (by simp) _⟩
theorem St.set2 (h : St w wr g n pv v) (x : Value) : St w (wr.setCell ⟨w.heap.size + 1, 2, none⟩ x) g n x v := ⟨h.p.set2 x, h.r.other (by simp) _, by rw [World.size_setCell]; exact h.size, h.bel.setCell (by simp) _⟩
theorem St.set3 (h : St w wr g n pv v) (x : ByteArray) : St w (wr.setCell ⟨w.heap.size + 1, 3, none⟩ (.string x)) g n pv x := ⟨h.p.set3 x, h.r.other (by simp) _, by rw [World.size_setCell]; exact h.size, h.bel.setCell (by simp) _⟩
end
theorem Own.below {w w' : World} {base : Nat} {v : Value} {ps : List (ByteArray × ByteArray)} (h : Own w base v ps) (hb : Below w.heap.size w w') : Own w' base v ps := by
  obtain ⟨h0, h⟩ := h
  refine ⟨h0, ?_⟩
  rcases h with h | ⟨g, cap, cur, h1, h2, h3, h4⟩
  · exact .inl h
  · exact .inr ⟨g, cap, cur, h1, h2, (hb.block g (Array.getElem?_eq_some_iff.1 h3).1).trans h3, h4⟩
theorem Own.setNe {w : World} {base : Nat} {v : Value} {ps : List (ByteArray × ByteArray)} (h : Own w base v ps) {a : Addr} (hne : ∀ k, v.ownBlock = some k → k < a.block) (u : Value) : Own (w.setCell a u) base v ps := by
  obtain ⟨h0, h⟩ := h
  refine ⟨h0, ?_⟩
  rcases h with h | ⟨g, cap, cur, rfl, h2, h3, h4⟩
  · exact .inl h
  · exact .inr ⟨g, cap, cur, rfl, h2, (Below.heap_setCell w a u g (Nat.ne_of_lt (hne g rfl))).trans h3, h4⟩
theorem fi_yes {y : ByteArray} {k : Nat} (h : k < y.size) (hp : oddb y[k] = true) : (y.data.toList.drop k).findIdx oddb = 0 := by
  rw [List.drop_eq_getElem_cons (by rw [list_size]; exact h), List.findIdx_cons]
  have : y.data.toList[k]'(by rw [list_size]; exact h) = y[k] := by simp; rfl
  rw [this, hp]; rfl
theorem fi_no {y : ByteArray} {k : Nat} (h : k < y.size) (hp : oddb y[k] = false) : (y.data.toList.drop k).findIdx oddb = (y.data.toList.drop (k + 1)).findIdx oddb + 1 := by
  rw [List.drop_eq_getElem_cons (by rw [list_size]; exact h), List.findIdx_cons]
  have : y.data.toList[k]'(by rw [list_size]; exact h) = y[k] := by simp; rfl
  rw [this, hp]; rfl
theorem fi_end {y : ByteArray} : (y.data.toList.drop y.size).findIdx oddb = 0 := by
  rw [List.drop_eq_nil_of_le (by rw [list_size]; exact Nat.le_refl _)]; rfl
/-- A piece of a text. -/
theorem slice_any (s : ByteArray) (a b : Nat) (w : World) (h : a ≤ b) (h' : b ≤ s.size) : (Instr.slice 9 (.string s) (some (.int .i64 (a : Int))) (some (.int .i64 (b : Int))) none).run Tryd.prog w = .ok (.string (s.extract a b)) w := by
  simp [Instr.slice, go_sem, h, h']
theorem sliceFrom_any (s : ByteArray) (a : Nat) (w : World) (h : a ≤ s.size) : (Instr.slice 9 (.string s) (some (.int .i64 (a : Int))) none none).run Tryd.prog w = .ok (.string (s.extract a s.size)) w := by
  simp [Instr.slice, go_sem, h]
/-- What the call hands back. -/
def Told (w : World) (r : Par) (e : Ending) (w' : World) : Prop := ∃ pv, e = .returned (.tuple #[prV r.g r.n pv r.v (.slice none 0 0), .int .i64 r.at_, .int .i64 r.err]) ∧ Own w' w.heap.size pv r.ps ∧ Below w.heap.size w w'
theorem told_err {w wr : World} {a : Nat} {e : Int} (h : Below w.heap.size w wr) : Told w (errP a e) (.returned (.tuple #[.agg #[.string ⟨#[]⟩, .string ⟨#[]⟩, .slice none 0 0, .string ⟨#[]⟩, .slice none 0 0], .int .i64 (a : Int), .int .i64 e])) wr := ⟨_, rfl, Own.nil _ _, h⟩
end Go.Proofs.YtccgpemcdbcjeaaDoor.Pp
