/-
Texts joined in one file, each with its own conditions: A property's line read, in plain words; how its variable and its result lie in memory meanwhile. No conditions of its own. · What reading a line answers with no error is right, in plain words. No program in it. · Where a byte is in a text that is made of pieces; capitals said twice. No program in it.
-/
import Derived.Test.YtjgfbicllgalkaaGreatDoorJ01
import Derived.Test.YtjgfbicllgalkaaGreatDoorJ03
import Derived.Test.YtjgfbicllgalkaaGreatDoorJ19
namespace Go.Proofs.YtjgfbicllgalkaaGreatDoor.Pp
open Go.RowKit

/-- What reading a line answers. -/
structure Par where
  g : ByteArray
  n : ByteArray
  ps : List (ByteArray × ByteArray)
  v : ByteArray
  at_ : Nat
  err : Int
def errP (a : Nat) (e : Int) : Par := ⟨⟨#[]⟩, ⟨#[]⟩, [], ⟨#[]⟩, a, e⟩
/-- Capitals of a piece. -/
def upB (s : ByteArray) : ByteArray := ⟨(up s.data.toList).toArray⟩
def find (s : ByteArray) (a z : Nat) (c : UInt8) : Nat := findN s.data.toList a z c
theorem find_le {s : ByteArray} {a z : Nat} {c : UInt8} (hz : z ≤ s.size) (ha : a ≤ z) : find s a z c ≤ z := findN_le (by rw [list_size]; exact hz) ha
theorem find_ge {s : ByteArray} {a z : Nat} {c : UInt8} : a ≤ find s a z c := findN_ge
/-- The value, behind the place z of the : -/
def tailP (s : ByteArray) (z : Nat) (g n : ByteArray) (ps : List (ByteArray × ByteArray)) : Par :=
  let v := s.extract (z + 1) s.size
  if 2400 < v.size then errP (z + 1) 8 else if v.data.toList.findIdx oddb < v.size then errP (z + 1 + v.data.toList.findIdx oddb) 3 else ⟨g, n, ps, v, 0, 0⟩
/-- A parameter in the piece from a to t, its = at q. -/
def parOf (s : ByteArray) (a t q : Nat) : ByteArray × ByteArray := if q < t then (upB (s.extract a q), s.extract (q + 1) t) else (⟨#[]⟩, upB (s.extract a t))
/-- The parameters, from the ; at 'stop' on. -/
def parsP (s : ByteArray) (z : Nat) (g n : ByteArray) (stop : Nat) (ps : List (ByteArray × ByteArray)) : Par :=
  if _h : stop < z then
    let t := find s (stop + 1) z 59
    let q := find s (stop + 1) t 61
    if ps.length = 6 then errP (stop + 1) 4
    else if paramB (parOf s (stop + 1) t q).1 (parOf s (stop + 1) t q).2 = false ∨ q = stop + 1 then errP (stop + 1) 3
    else parsP s z g n t (ps ++ [parOf s (stop + 1) t q])
  else tailP s z g n ps
termination_by z - stop
decreasing_by
  have := find_ge (s := s) (a := stop + 1) (z := z) (c := 59)
  omega
def nameP (s : ByteArray) (z stop : Nat) (g : ByteArray) (a : Nat) : Par :=
  if nameB (upB (s.extract a stop)) = false then errP a 14 else parsP s z g (upB (s.extract a stop)) stop []
def groupP (s : ByteArray) (z : Nat) : Par :=
  let stop := find s 0 z 59
  let dot := find s 0 stop 46
  if dot < stop then (if nameB (upB (s.extract 0 dot)) = false then errP 0 14 else nameP s z stop (upB (s.extract 0 dot)) (dot + 1)) else nameP s z stop ⟨#[]⟩ 0
def parse (s : ByteArray) : Par :=
  let z := find s 0 s.size 58
  if z = s.size then errP s.size 1 else groupP s z

section
variable {w wr w1 : World} {b : Nat} {g n v : ByteArray} {pv av : Value}
theorem heap_set {W : World} {b i : Nat} {cs : Array Value} {t : TypeId} {fr : Nat × Nat} (h : W.heap[b]? = some (.cells cs t fr)) (u : Value) : (W.setCell ⟨b, i, none⟩ u).heap[b]? = some (.cells (cs.setIfInBounds i u) t fr) := by
  simp [World.setCell, Array.getElem?_modify, h]
theorem PrAt.set0 (h : PrAt w b g n pv v av) (x : ByteArray) : PrAt (w.setCell ⟨b, 0, none⟩ (.string x)) b x n pv v av := heap_set h _
theorem PrAt.set1 (h : PrAt w b g n pv v av) (x : ByteArray) : PrAt (w.setCell ⟨b, 1, none⟩ (.string x)) b g x pv v av := heap_set h _
theorem PrAt.set2 (h : PrAt w b g n pv v av) (x : Value) : PrAt (w.setCell ⟨b, 2, none⟩ x) b g n x v av := heap_set h _
theorem PrAt.set3 (h : PrAt w b g n pv v av) (x : ByteArray) : PrAt (w.setCell ⟨b, 3, none⟩ (.string x)) b g n pv x av := heap_set h _
theorem PrAt.other (h : PrAt w b g n pv v av) {a : Addr} (ha : b ≠ a.block) (u : Value) : PrAt (w.setCell a u) b g n pv v av := (Below.heap_setCell w a u b ha).trans h
theorem PrAt.f (h : PrAt w b g n pv v av) (j : Nat) : w.frozen? ⟨b, j, none⟩ = false := frozen_of_row _ _ _ _ _ h

/-- The result at its first value, the variable behind it. -/
structure St (w wr : World) (g n : ByteArray) (pv : Value) (v : ByteArray) : Prop where
  p : PrAt wr (w.heap.size + 1) g n pv v (.slice none 0 0)
  r : PrAt wr w.heap.size ⟨#[]⟩ ⟨#[]⟩ (.slice none 0 0) ⟨#[]⟩ (.slice none 0 0)
  size : w.heap.size + 1 + 1 ≤ wr.heap.size
  bel : Below w.heap.size w wr
theorem St.below (h : St w wr g n pv v) (hb : Below wr.heap.size wr w1) : St w w1 g n pv v := ⟨h.p.below hb, h.r.below hb, by have := h.size; have := hb.size; omega, h.bel.trans (hb.mono (by have := h.size; omega))⟩
theorem St.far (h : St w wr g n pv v) {a : Addr} (ha : w.heap.size + 1 < a.block) (u : Value) : St w (wr.setCell a u) g n pv v := ⟨h.p.other (by omega) u, h.r.other (by omega) u, by rw [World.size_setCell]; exact h.size, h.bel.setCell (by omega) u⟩
theorem St.set0 (h : St w wr g n pv v) (x : ByteArray) : St w (wr.setCell ⟨w.heap.size + 1, 0, none⟩ (.string x)) x n pv v := ⟨h.p.set0 x, h.r.other (by simp) _, by rw [World.size_setCell]; exact h.size, h.bel.setCell (by simp) _⟩
theorem St.set1 (h : St w wr g n pv v) (x : ByteArray) : St w (wr.setCell ⟨w.heap.size + 1, 1, none⟩ (.string x)) g x pv v := ⟨h.p.set1 x, h.r.other (by simp) _, by rw [World.size_setCell]; exact h.size, h.bel.setCell (by simp) _⟩
theorem St.set2 (h : St w wr g n pv v) (x : Value) : St w (wr.setCell ⟨w.heap.size + 1, 2, none⟩ x) g n x v := ⟨h.p.set2 x, h.r.other (by simp) _, by rw [World.size_setCell]; exact h.size, h.bel.setCell (by simp) _⟩
theorem St.set3 (h : St w wr g n pv v) (x : ByteArray) : St w (wr.setCell ⟨w.heap.size + 1, 3, none⟩ (.string x)) g n pv x := ⟨h.p.set3 x, h.r.other (by simp) _, by rw [World.size_setCell]; exact h.size, h.bel.setCell (by simp) _⟩
end
theorem Own.below {w w' : World} {base : Nat} {v : Value} {ps : List (ByteArray × ByteArray)} (h : Own w base v ps) (hb : Below w.heap.size w w') : Own w' base v ps := by
  obtain ⟨h0, h⟩ := h
  refine ⟨h0, ?_⟩
  rcases h with h | ⟨g, cap, cur, h1, h2, h3, h4⟩
  · exact .inl h
  · exact .inr ⟨g, cap, cur, h1, h2, (hb.block g (Array.getElem?_eq_some_iff.1 h3).1).trans h3, h4⟩
theorem Own.setNe {w : World} {base : Nat} {v : Value} {ps : List (ByteArray × ByteArray)} (h : Own w base v ps) {a : Addr} (hne : ∀ k, v.ownBlock = some k → k < a.block) (u : Value) : Own (w.setCell a u) base v ps := by
  obtain ⟨h0, h⟩ := h
  refine ⟨h0, ?_⟩
  rcases h with h | ⟨g, cap, cur, rfl, h2, h3, h4⟩
  · exact .inl h
  · exact .inr ⟨g, cap, cur, rfl, h2, (Below.heap_setCell w a u g (Nat.ne_of_lt (hne g rfl))).trans h3, h4⟩
theorem fi_yes {y : ByteArray} {k : Nat} (h : k < y.size) (hp : oddb y[k] = true) : (y.data.toList.drop k).findIdx oddb = 0 := by
  rw [List.drop_eq_getElem_cons (by rw [list_size]; exact h), List.findIdx_cons]
  have : y.data.toList[k]'(by rw [list_size]; exact h) = y[k] := by simp; rfl
  rw [this, hp]; rfl
theorem fi_no {y : ByteArray} {k : Nat} (h : k < y.size) (hp : oddb y[k] = false) : (y.data.toList.drop k).findIdx oddb = (y.data.toList.drop (k + 1)).findIdx oddb + 1 := by
  rw [List.drop_eq_getElem_cons (by rw [list_size]; exact h), List.findIdx_cons]
  have : y.data.toList[k]'(by rw [list_size]; exact h) = y[k] := by simp; rfl
  rw [this, hp]; rfl
theorem fi_end {y : ByteArray} : (y.data.toList.drop y.size).findIdx oddb = 0 := by
  rw [List.drop_eq_nil_of_le (by rw [list_size]; exact Nat.le_refl _)]; rfl
/-- A piece of a text. -/
theorem slice_any (s : ByteArray) (a b : Nat) (w : World) (h : a ≤ b) (h' : b ≤ s.size) : (Instr.slice 9 (.string s) (some (.int .i64 (a : Int))) (some (.int .i64 (b : Int))) none).run Tryz.prog w = .ok (.string (s.extract a b)) w := by
  simp [Instr.slice, go_sem, h, h']
theorem sliceFrom_any (s : ByteArray) (a : Nat) (w : World) (h : a ≤ s.size) : (Instr.slice 9 (.string s) (some (.int .i64 (a : Int))) none none).run Tryz.prog w = .ok (.string (s.extract a s.size)) w := by
  simp [Instr.slice, go_sem, h]
/-- What the call hands back. -/
def Told (w : World) (r : Par) (e : Ending) (w' : World) : Prop := ∃ pv, e = .returned (.tuple #[prV r.g r.n pv r.v (.slice none 0 0), .int .i64 r.at_, .int .i64 r.err]) ∧ Own w' w.heap.size pv r.ps ∧ Below w.heap.size w w'
theorem told_err {w wr : World} {a : Nat} {e : Int} (h : Below w.heap.size w wr) : Told w (errP a e) (.returned (.tuple #[.agg #[.string ⟨#[]⟩, .string ⟨#[]⟩, .slice none 0 0, .string ⟨#[]⟩, .slice none 0 0], .int .i64 (a : Int), .int .i64 e])) wr := ⟨_, rfl, Own.nil _ _, h⟩
end Go.Proofs.YtjgfbicllgalkaaGreatDoor.Pp

namespace Go.Proofs.YtjgfbicllgalkaaGreatDoor.Pp

theorem err_ne {a : Nat} {e : Int} (h : ¬ e = 0) : ¬ (errP a e).err = 0 := h
theorem goodV_of {v : ByteArray} (h : ¬ v.data.toList.findIdx oddb < v.size) : goodV v = true := by
  unfold goodV
  rw [List.all_eq_true]
  intro c hc
  cases ho : oddb c
  · rfl
  · exact absurd (by rw [← list_size]; exact List.findIdx_lt_length_of_exists ⟨c, hc, ho⟩) h
theorem tailP_ok {s : ByteArray} {z : Nat} {g n : ByteArray} {ps : List (ByteArray × ByteArray)} (he : (tailP s z g n ps).err = 0) :
    tailP s z g n ps = ⟨g, n, ps, s.extract (z + 1) s.size, 0, 0⟩ ∧ (s.extract (z + 1) s.size).size ≤ 2400 ∧ goodV (s.extract (z + 1) s.size) = true := by
  unfold tailP at he ⊢
  simp only at he ⊢
  split at he
  · exact absurd he (err_ne (by decide))
  · rename_i h1
    split at he
    · exact absurd he (err_ne (by decide))
    · rename_i h2
      rw [if_neg h1, if_neg h2]
      exact ⟨rfl, by omega, goodV_of h2⟩
/-- The parameters read, one by one: each is right. -/
theorem parsP_ok (s : ByteArray) (z : Nat) (g n : ByteArray) : ∀ (d stop : Nat) (ps : List (ByteArray × ByteArray)), z - stop ≤ d → ps.length ≤ 6 → goodPs ps = true → (parsP s z g n stop ps).err = 0 →
    (parsP s z g n stop ps).g = g ∧ (parsP s z g n stop ps).n = n ∧ (parsP s z g n stop ps).ps.length ≤ 6 ∧ goodPs (parsP s z g n stop ps).ps = true ∧ (parsP s z g n stop ps).v = s.extract (z + 1) s.size ∧ (s.extract (z + 1) s.size).size ≤ 2400 ∧ goodV (s.extract (z + 1) s.size) = true := by
  intro d
  induction d with
  | zero =>
    intro stop ps hd hp hg he
    rw [parsP, dif_neg (by omega)] at he ⊢
    obtain ⟨h1, h2, h3⟩ := tailP_ok he
    rw [h1]
    exact ⟨rfl, rfl, hp, hg, rfl, h2, h3⟩
  | succ d ih =>
    intro stop ps hd hp hg he
    rw [parsP] at he ⊢
    by_cases h : stop < z
    · rw [dif_pos h] at he ⊢
      simp only at he ⊢
      split at he
      · exact absurd he (err_ne (by decide))
      · rename_i h6
        split at he
        · exact absurd he (err_ne (by decide))
        · rename_i hq
          rw [if_neg h6, if_neg hq]
          refine ih _ _ ?_ ?_ ?_ he
          · have := find_ge (s := s) (a := stop + 1) (z := z) (c := 59); omega
          · rw [List.length_append]; simp; omega
          · unfold goodPs at hg ⊢
            rw [List.all_append, hg, Bool.true_and]
            simp only [List.all_cons, List.all_nil, Bool.and_true]
            cases hb : paramB (parOf s (stop + 1) (find s (stop + 1) z 59) (find s (stop + 1) (find s (stop + 1) z 59) 61)).1 (parOf s (stop + 1) (find s (stop + 1) z 59) (find s (stop + 1) (find s (stop + 1) z 59) 61)).2
            · exact absurd (.inl hb) hq
            · rfl
    · rw [dif_neg h] at he ⊢
      obtain ⟨h1, h2, h3⟩ := tailP_ok he
      rw [h1]
      exact ⟨rfl, rfl, hp, hg, rfl, h2, h3⟩
theorem chk_of {R : Par} (h1 : goodNames R.g R.n = true) (h2 : R.ps.length ≤ 6) (h3 : goodPs R.ps = true) (h4 : R.v.size ≤ 2400) (h5 : goodV R.v = true) : chk R.g R.n R.ps R.v 0 = 0 := by
  unfold chk
  rw [if_neg (by rw [h1]; simp), if_neg (by omega), if_neg (by rw [h3]; simp), if_neg (by omega), if_neg (by omega), if_neg (by rw [h5]; simp)]
theorem nameP_ok {s : ByteArray} {z stop a : Nat} {g : ByteArray} (hg : (decide (g.size = 0) || nameB g) = true) (he : (nameP s z stop g a).err = 0) : chk (nameP s z stop g a).g (nameP s z stop g a).n (nameP s z stop g a).ps (nameP s z stop g a).v 0 = 0 := by
  unfold nameP at he ⊢
  split at he
  · exact absurd he (err_ne (by decide))
  · rename_i hn
    rw [if_neg hn]
    obtain ⟨h1, h2, h3, h4, h5, h6, h7⟩ := parsP_ok s z g _ _ stop [] (Nat.le_refl _) (by simp) rfl he
    refine chk_of ?_ h3 h4 (by rw [h5]; exact h6) (by rw [h5]; exact h7)
    rw [h1, h2]
    unfold goodNames
    rw [hg, Bool.true_and]
    simpa using hn
/-- What is read is right. -/
theorem parse_ok {s : ByteArray} (he : (parse s).err = 0) : chk (parse s).g (parse s).n (parse s).ps (parse s).v 0 = 0 := by
  unfold parse at he ⊢
  simp only at he ⊢
  split at he
  · exact absurd he (err_ne (by decide))
  · rename_i hz
    rw [if_neg hz]
    unfold groupP at he ⊢
    simp only at he ⊢
    split at he
    · rename_i hd
      rw [if_pos hd]
      split at he
      · exact absurd he (err_ne (by decide))
      · rename_i hn
        rw [if_neg hn]
        exact nameP_ok (by simp only [Bool.not_eq_false] at hn; rw [hn, Bool.or_true]) he
    · rename_i hd
      rw [if_neg hd]
      exact nameP_ok rfl he
end Go.Proofs.YtjgfbicllgalkaaGreatDoor.Pp

namespace Go.Proofs.YtjgfbicllgalkaaGreatDoor.Pp
set_option maxRecDepth 100000
open Cs

theorem findN_at {A B C : List UInt8} {c : UInt8} {z : Nat} (hB : c ∉ B) (hz : A.length + B.length < z) : findN (A ++ (B ++ c :: C)) A.length z c = A.length + B.length := by
  unfold findN
  congr 1
  rw [List.drop_take, List.drop_left]
  obtain ⟨k, hk⟩ : ∃ k, z - A.length = B.length + (k + 1) := ⟨z - A.length - B.length - 1, by omega⟩
  rw [hk, List.take_append, List.take_of_length_le (by omega), show B.length + (k + 1) - B.length = k + 1 by omega, List.take_succ_cons, List.idxOf_append, if_neg hB, List.idxOf_cons_self, Nat.zero_add]
theorem findN_none {A B C : List UInt8} {c : UInt8} (hB : c ∉ B) : findN (A ++ (B ++ C)) A.length (A.length + B.length) c = A.length + B.length := by
  unfold findN
  congr 1
  rw [List.drop_take, List.drop_left, show A.length + B.length - A.length = B.length by omega, List.take_left]
  exact List.idxOf_eq_length hB
theorem cap1_capb {c : UInt8} (h : capb c = true) : cap1 c = c := by
  unfold capb at h
  refine cap1_no (fun h' => ?_)
  rw [decide_eq_true h'] at h
  cases h
theorem capb_cap1 (c : UInt8) : capb (cap1 c) = true := by
  unfold capb
  by_cases h : 97 ≤ (c.toNat : Int) ∧ (c.toNat : Int) ≤ 122
  · have h2 := cap1_yes h.1 h.2
    rw [decide_eq_false (by omega)]; rfl
  · rw [cap1_no h, decide_eq_false h]; rfl
theorem upB_caps {s : ByteArray} (h : s.data.toList.all capb = true) : upB s = s := by
  unfold upB up
  have hm : s.data.toList.map cap1 = s.data.toList := by
    rw [List.all_eq_true] at h
    conv => rhs; rw [← List.map_id s.data.toList]
    exact List.map_congr_left (fun c hc => cap1_capb (h c hc))
  rw [hm]
theorem upB_up (s : ByteArray) : (upB s).data.toList.all capb = true := by
  unfold upB up
  rw [List.all_eq_true]
  intro c hc
  simp only [List.mem_map] at hc
  obtain ⟨d, _, rfl⟩ := hc
  exact capb_cap1 d
theorem upB_upB (s : ByteArray) : upB (upB s) = upB s := upB_caps (upB_up s)
theorem upB_size (s : ByteArray) : (upB s).size = s.size := by
  rw [← list_size, ← list_size]
  unfold upB up
  simp
/-- A right name is capitals, and has none of the signs that part a line. -/
theorem nmc_caps {c : UInt8} (h : nmc c = true) : capb c = true ∧ ¬ c = 46 ∧ ¬ c = 58 ∧ ¬ c = 59 ∧ ¬ c = 61 := by
  unfold nmc lett at h
  simp only [Bool.or_eq_true, decide_eq_true_eq] at h
  refine ⟨?_, ?_, ?_, ?_, ?_⟩
  · unfold capb; rw [decide_eq_false (by omega)]; rfl
  all_goals (rintro rfl; revert h; decide)
theorem valc_signs {c : UInt8} (h : valc c = true) : ¬ c = 58 ∧ ¬ c = 59 ∧ ¬ c = 61 := by
  unfold valc at h
  simp only [decide_eq_true_eq] at h
  refine ⟨?_, ?_, ?_⟩
  all_goals (rintro rfl; revert h; decide)
end Go.Proofs.YtjgfbicllgalkaaGreatDoor.Pp
