/-
What the walk of the document's own Decode goes by: rows of numbers, the worth of a letter, and what a text's letters come to, one by one. Conditions: those that each theorem states.
-/
import Derived.Test.YtijgpelgdepbaaaDoorBytes
import Derived.Test.YtijgpelgdepbaaaDoorSxLet
import Derived.Test.YtijgpelgdepbaaaDoorSxBy8
import Derived.Laws.OwnMore
import Derived.IntWalk
namespace Go.Proofs.YtijgpelgdepbaaaDoor.Sx
open Go.RowKit

/-- A row of numbers. -/
def icells (l : List Nat) : List Value := l.map fun n : Nat => Value.int .i64 (n : Int)
theorem icells_length (l : List Nat) : (icells l).length = l.length := by simp [icells]
def IHas (w : World) (base : Nat) (v : Value) (l : List Nat) : Prop := w.ownsRow base 3 1 v l.length (icells l)
theorem IHas.nil (w : World) (base : Nat) : IHas w base (.slice none 0 0) [] := World.ownsRow_nil _ _ _ _
theorem IHas.alloc {w : World} {base : Nat} {v : Value} {l : List Nat} (h : IHas w base v l) (o : Obj) : IHas (w.alloc o) base v l := World.ownsRow.alloc h o
theorem infoInt : (Tryd.prog.info? 3).map (fun i => (i.zero, i.size, i.bytes)) = some (some (.int .i64 0), 1, 8) := by kernel_rfl
theorem IHas.laid1 {w : World} {base : Nat} {v : Value} {l : List Nat} {c : Nat} (h : w.ownsRow base 3 1 v (l.length + 1) (icells l ++ [.int .i64 (c : Int)])) : IHas w base v (l ++ [c]) := by
  unfold IHas icells; rw [List.map_append, List.length_append]; exact h
theorem IHas.below {a w w1 : World} {B : Nat} {v : Value} {l : List Nat} (h : IHas w B v l) (hb : Below B a w) (hB : B ≤ w.heap.size) (o : Obj) (hg : (w.alloc o).grownBy w1 v.ownBlock) : Below B a w1 :=
  (hb.alloc hB o).grown hg (by simp; omega) (fun k e => (World.ownsRow.lt h k e).1)
/-- A row that lies below B stays where only what lies from B on turns. -/
theorem row_stays {w w' : World} {base B n size : Nat} {e : TypeId} {v : Value} {xs : List Value} (h : w.ownsRow base e size v n xs) (hB : w.heap.size = B) (hb : Below B w w') : w'.ownsRow base e size v n xs := by
  subst hB
  refine h.kept (row := none) ⟨hb.os, hb.tape, hb.output, hb.size, fun k hk _ => hb.block k hk⟩ ?_
  cases e : v.ownBlock with
  | none => exact .inl rfl
  | some k => exact .inr (by simp)
/-- A row's cell. -/
theorem byte_cell {w : World} {base : Nat} {v : Value} {l : List UInt8} (h : Bytes.Has w base v l) {i : Nat} {c : UInt8} (hi : l[i]? = some c) : ∃ g cap, v = .slice (some ⟨g, 0, none⟩) l.length cap ∧ w.cell? ⟨g, i, none⟩ = some (.int .u8 (c.toNat : Int)) := by
  have hlt := (List.getElem?_eq_some_iff.1 hi).1
  obtain ⟨g, cap, rfl, _, _⟩ := World.ownsRow.form h (by omega)
  refine ⟨g, cap, rfl, (World.ownsRow.cellAt h i (by omega)).trans ?_⟩
  unfold Bytes.cells; rw [List.getElem?_map, hi]; rfl
theorem int_cell {w : World} {base : Nat} {v : Value} {l : List Nat} (h : IHas w base v l) {i : Nat} {c : Nat} (hi : l[i]? = some c) : ∃ g cap, v = .slice (some ⟨g, 0, none⟩) l.length cap ∧ w.cell? ⟨g, i, none⟩ = some (.int .i64 (c : Int)) := by
  have hlt := (List.getElem?_eq_some_iff.1 hi).1
  obtain ⟨g, cap, rfl, _, _⟩ := World.ownsRow.form h (by omega)
  refine ⟨g, cap, rfl, (World.ownsRow.cellAt h i (by omega)).trans ?_⟩
  unfold icells; rw [List.getElem?_map, hi]; rfl
theorem has_shape {w : World} {base : Nat} {v : Value} {l : List UInt8} (h : Bytes.Has w base v l) : ∃ a cap, v = .slice a l.length cap := Bytes.Has.shape h
theorem ihas_shape {w : World} {base : Nat} {v : Value} {l : List Nat} (h : IHas w base v l) : ∃ a cap, v = .slice a l.length cap := by
  obtain ⟨_, ⟨rfl, h0⟩ | ⟨g, cap, cur, rfl, _⟩⟩ := h
  · exact ⟨none, 0, by rw [h0]⟩
  · exact ⟨_, cap, rfl⟩

/-- What a letter is worth, from a place on. -/
def wF (c : UInt8) (i : Nat) : Int := if Lib.indexByte (lts.drop i) c == -1 then -1 else Lib.indexByte (lts.drop i) c + i
theorem wF_0 (c : UInt8) : wF c 0 = wI c := by
  unfold wF; rw [List.drop_zero]
  split
  · rename_i h; exact (beq_iff_eq.1 h).symm
  · simp [wI]
theorem lts_drop {i : Nat} (h : i < 64) : lts.drop i = lt i :: lts.drop (i + 1) := by
  rw [List.drop_eq_getElem_cons (by show i < 64; exact h)]
  congr 1
  unfold lt; rw [List.getD_eq_getElem?_getD, List.getElem?_eq_getElem (by show i < 64; exact h)]; rfl
theorem wF_yes {c : UInt8} {i : Nat} (h : i < 64) (e : lt i = c) : wF c i = i := by
  have h0 : Lib.indexByte (lt i :: lts.drop (i + 1)) c = 0 := by rw [Lib.indexByte, if_pos (beq_iff_eq.2 e)]
  unfold wF; rw [lts_drop h, h0]; simp
theorem wF_no {c : UInt8} {i : Nat} (h : i < 64) (e : ¬ lt i = c) : wF c i = wF c (i + 1) := by
  have h0 : Lib.indexByte (lt i :: lts.drop (i + 1)) c = if Lib.indexByte (lts.drop (i + 1)) c == -1 then -1 else Lib.indexByte (lts.drop (i + 1)) c + 1 := by rw [Lib.indexByte, if_neg (by rw [beq_iff_eq]; exact e)]
  unfold wF; rw [lts_drop h, h0]
  have := Lib.indexByte_ge (lts.drop (i + 1)) c
  generalize Lib.indexByte (lts.drop (i + 1)) c = z at this
  by_cases hz : z = -1
  · subst hz; rfl
  · have h1 : (z == -1) = false := by simpa using hz
    have h2 : (z + 1 == -1) = false := by rw [beq_eq_false_iff_ne]; omega
    simp only [h1, h2, Bool.false_eq_true, if_false]; omega
theorem wF_end (c : UInt8) : wF c 64 = -1 := rfl
theorem ret_w {a b : Int} (h : b = a) : Ending.returned (.int .i64 a) = .returned (.int .i64 b) := by rw [h]
set_option maxHeartbeats 400000 in
theorem refWorth_any (c : UInt8) (w : World) :
    Calls Tryd.prog 15 #[.int .u8 (c.toNat : Int)] w fun e w' => e = .returned (.int .i64 (wI c)) ∧ w = w' := by
  rw [← wF_0]
  go_enter Tryd.func15, Tryd.ntmps15
  go_wp2_with fail
  go_loop [3] (fun iv => ∃ i : Nat, i ≤ 64 ∧ iv = .int .i64 (i : Int) ∧ Hid (wF c i = wF c 0)) (fun iv => 64 - (intOf iv).toNat)
  case atStart => exact ⟨0, by omega, rfl, Lib.hid rfl⟩
  case round =>
    obtain ⟨i, hi, rfl, hw⟩ := hrel
    by_cases hlt : i < 64
    · have hx := idx_lt .i64 (i : Int) (by omega) (by omega)
      rw [Int.toNat_natCast] at hx
      by_cases he : lt i = c
      · have HE := Lib.hid (wF_yes hlt he)
        have hq : (((lt i).toNat : Int) == (c.toNat : Int)) = true := by rw [he]; simp
        clear he
        go_wp2_with fail
        go_ret
        exact ⟨ret_w (by rw [← hw.out, HE.out]), rfl⟩
      · have HE := Lib.hid (wF_no hlt he)
        have hq : (((lt i).toNat : Int) == (c.toNat : Int)) = false := by rw [beq_eq_false_iff_ne]; intro h; exact he (UInt8.toNat_inj.1 (by omega))
        clear he
        go_wp2_with fail
        go_round
        case rel => exact ⟨i + 1, by omega, by go_num, Lib.hid (by rw [← HE.out, hw.out])⟩
        case measure => simp [intOf]; omega
    · obtain rfl : i = 64 := by omega
      go_wp2_with fail
      go_ret
      exact ⟨ret_w (by rw [← hw.out]; rfl), rfl⟩

theorem flt_all : ∀ (t : List UInt8) (i : Nat) (bp : Bool), flt i bp t = 0 → ∀ c ∈ t, isP c = true ∨ isL c = true
  | [], _, _, _, c, hc => by cases hc
  | a :: t, i, bp, h, c, hc => by
    unfold flt at h
    by_cases ha : fa i bp a = 0
    · rw [if_pos ha] at h
      rcases List.mem_cons.1 hc with rfl | hc
      · exact (fa_ok ha).1
      · exact flt_all t _ _ h c hc
    · rw [if_neg ha] at h; exact absurd h ha
theorem dec_fault {s : ByteArray} {k n f : Nat} {bp : Bool} {c : UInt8} (H : Hid (flt 0 false (strip s.data.toList) = flt n bp (strip (s.data.toList.drop k)))) (hd : s.data.toList.drop k = c :: s.data.toList.drop (k + 1)) (hb : blankB c = false)
    (hf : fa n bp c = f) (h0 : f ≠ 0) : dec s.data.toList = ([], f) := by
  have h : flt 0 false (strip s.data.toList) = f := by
    rw [H.out, hd, strip_no _ hb, flt, if_neg (by rw [hf]; exact h0), hf]
  unfold dec; rw [if_neg (by rw [h]; exact h0), h]
theorem flt_next {s : ByteArray} {k n : Nat} {bp : Bool} {c : UInt8} (H : Hid (flt 0 false (strip s.data.toList) = flt n bp (strip (s.data.toList.drop k)))) (hd : s.data.toList.drop k = c :: s.data.toList.drop (k + 1)) (hb : blankB c = false)
    (hf : fa n bp c = 0) : Hid (flt 0 false (strip s.data.toList) = flt (n + 1) (isP c) (strip (s.data.toList.drop (k + 1)))) := by
  refine Lib.hid ?_
  rw [H.out, hd, strip_no _ hb, flt, if_pos hf]
theorem dec_short {s : ByteArray} {n : Nat} {bp : Bool} {t : List UInt8} (H : Hid (flt 0 false (strip s.data.toList) = flt n bp t)) (ht : t = []) (h : ¬ n % 4 = 0) : dec s.data.toList = ([], 1) := by
  have h : flt 0 false (strip s.data.toList) = 1 := by rw [H.out, ht, flt, if_neg h]
  unfold dec; rw [if_neg (by rw [h]; decide), h]
theorem dec_whole {s : ByteArray} {n : Nat} {bp : Bool} {t l : List UInt8} (H : Hid (flt 0 false (strip s.data.toList) = flt n bp t)) (ht : t = []) (h : n % 4 = 0) (hl : strip s.data.toList = l) :
    dec s.data.toList = (if (rest8 (bitsOf l)).any (fun b => b != 0) then ([], 3) else (by8 (bitsOf l), 0)) ∧ ∀ c ∈ l, isP c = true ∨ isL c = true := by
  have h : flt 0 false (strip s.data.toList) = 0 := by rw [H.out, ht, flt, if_pos h]
  have h' := h
  rw [hl] at h'
  obtain ⟨d1, d2⟩ := dec_bits l h'
  refine ⟨?_, flt_all l _ _ h'⟩
  unfold dec; rw [if_pos h, hl, d1, d2]
theorem blank_iff (c : UInt8) : blankB c = true ↔ ((c.toNat : Int) = 32 ∨ (c.toNat : Int) = 9 ∨ (c.toNat : Int) = 10 ∨ (c.toNat : Int) = 13) := by
  have h : ∀ c : UInt8, blankB c = true ↔ (c = 32 ∨ c = 9 ∨ c = 10 ∨ c = 13) := all_bytes (P := fun c => blankB c = true ↔ (c = 32 ∨ c = 9 ∨ c = 10 ∨ c = 13)) (by decide +kernel)
  rw [h]
  simp only [← UInt8.toNat_inj]
  show (c.toNat = 32 ∨ c.toNat = 9 ∨ c.toNat = 10 ∨ c.toNat = 13) ↔ _
  omega
theorem num_eq {a b : Int} (h : ¬ a = b) : (a == b) = false := beq_eq_false_iff_ne.2 h
theorem bits_drop {l : List UInt8} {i : Nat} {c : UInt8} (hi : l[i]? = some c) (hc : isL c = true) : bitsOf (l.drop i) = six c ++ bitsOf (l.drop (i + 1)) := by
  have hlt := (List.getElem?_eq_some_iff.1 hi).1
  rw [List.drop_eq_getElem_cons hlt, (List.getElem?_eq_some_iff.1 hi).2, bits_yes _ hc]
theorem bits_stop {l : List UInt8} {i : Nat} {c : UInt8} (hi : l[i]? = some c) (hc : isP c = true) : bitsOf (l.drop i) = [] := by
  have hlt := (List.getElem?_eq_some_iff.1 hi).1
  rw [List.drop_eq_getElem_cons hlt, (List.getElem?_eq_some_iff.1 hi).2, isP_eq hc, bits_pad]
end Go.Proofs.YtijgpelgdepbaaaDoor.Sx
