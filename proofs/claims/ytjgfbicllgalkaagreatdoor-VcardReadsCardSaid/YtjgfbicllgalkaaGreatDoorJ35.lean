/-
Texts joined in one file, each with its own conditions: What the walk of the document's own Decode goes by: rows of numbers, the worth of a letter, and what a text's letters come to, one by one. Conditions: those that each theorem states. · Letters as bytes: the document's own Decode answers what the plain function 'dec' says. Conditions: the text has at most 2^20 bytes.
-/
import Derived.Test.YtjgfbicllgalkaaGreatDoorJ03
import Derived.Test.YtjgfbicllgalkaaGreatDoorJ06
import Derived.Test.YtjgfbicllgalkaaGreatDoorJ15
import Derived.Laws.OwnMore
import Derived.IntWalk
import Derived.Deep.RegionHeld3
import Derived.Laws.BitsAllLaws
import Derived.Laws.IdiomStrings
namespace Go.Proofs.YtjgfbicllgalkaaGreatDoor.Sx
open Go.RowKit

/-- A row of numbers. -/
def icells (l : List Nat) : List Value := l.map fun n : Nat => Value.int .i64 (n : Int)
theorem icells_length (l : List Nat) : (icells l).length = l.length := by simp [icells]
def IHas (w : World) (base : Nat) (v : Value) (l : List Nat) : Prop := w.ownsRow base 3 1 v l.length (icells l)
theorem IHas.nil (w : World) (base : Nat) : IHas w base (.slice none 0 0) [] := World.ownsRow_nil _ _ _ _
theorem IHas.alloc {w : World} {base : Nat} {v : Value} {l : List Nat} (h : IHas w base v l) (o : Obj) : IHas (w.alloc o) base v l := World.ownsRow.alloc h o
theorem infoInt : (Tryz.prog.info? 3).map (fun i => (i.zero, i.size, i.bytes)) = some (some (.int .i64 0), 1, 8) := by kernel_rfl
theorem IHas.laid1 {w : World} {base : Nat} {v : Value} {l : List Nat} {c : Nat} (h : w.ownsRow base 3 1 v (l.length + 1) (icells l ++ [.int .i64 (c : Int)])) : IHas w base v (l ++ [c]) := by
  unfold IHas icells; rw [List.map_append, List.length_append]; exact h
theorem IHas.below {a w w1 : World} {B : Nat} {v : Value} {l : List Nat} (h : IHas w B v l) (hb : Below B a w) (hB : B ≤ w.heap.size) (o : Obj) (hg : (w.alloc o).grownBy w1 v.ownBlock) : Below B a w1 :=
  (hb.alloc hB o).grown hg (by simp; omega) (fun k e => (World.ownsRow.lt h k e).1)
/-- A row that lies below B stays where only what lies from B on turns. -/
theorem row_stays {w w' : World} {base B n size : Nat} {e : TypeId} {v : Value} {xs : List Value} (h : w.ownsRow base e size v n xs) (hB : w.heap.size = B) (hb : Below B w w') : w'.ownsRow base e size v n xs := by
  subst hB
  refine h.kept (row := none) ⟨hb.os, hb.tape, hb.output, hb.size, fun k hk _ => hb.block k hk⟩ ?_
  cases e : v.ownBlock with
  | none => exact .inl rfl
  | some k => exact .inr (by simp)
/-- A row's cell. -/
theorem byte_cell {w : World} {base : Nat} {v : Value} {l : List UInt8} (h : Bytes.Has w base v l) {i : Nat} {c : UInt8} (hi : l[i]? = some c) : ∃ g cap, v = .slice (some ⟨g, 0, none⟩) l.length cap ∧ w.cell? ⟨g, i, none⟩ = some (.int .u8 (c.toNat : Int)) := by
  have hlt := (List.getElem?_eq_some_iff.1 hi).1
  obtain ⟨g, cap, rfl, _, _⟩ := World.ownsRow.form h (by omega)
  refine ⟨g, cap, rfl, (World.ownsRow.cellAt h i (by omega)).trans ?_⟩
  unfold Bytes.cells; rw [List.getElem?_map, hi]; rfl
theorem int_cell {w : World} {base : Nat} {v : Value} {l : List Nat} (h : IHas w base v l) {i : Nat} {c : Nat} (hi : l[i]? = some c) : ∃ g cap, v = .slice (some ⟨g, 0, none⟩) l.length cap ∧ w.cell? ⟨g, i, none⟩ = some (.int .i64 (c : Int)) := by
  have hlt := (List.getElem?_eq_some_iff.1 hi).1
  obtain ⟨g, cap, rfl, _, _⟩ := World.ownsRow.form h (by omega)
  refine ⟨g, cap, rfl, (World.ownsRow.cellAt h i (by omega)).trans ?_⟩
  unfold icells; rw [List.getElem?_map, hi]; rfl
theorem has_shape {w : World} {base : Nat} {v : Value} {l : List UInt8} (h : Bytes.Has w base v l) : ∃ a cap, v = .slice a l.length cap := Bytes.Has.shape h
theorem ihas_shape {w : World} {base : Nat} {v : Value} {l : List Nat} (h : IHas w base v l) : ∃ a cap, v = .slice a l.length cap := by
  obtain ⟨_, ⟨rfl, h0⟩ | ⟨g, cap, cur, rfl, _⟩⟩ := h
  · exact ⟨none, 0, by rw [h0]⟩
  · exact ⟨_, cap, rfl⟩

/-- What a letter is worth, from a place on. -/
def wF (c : UInt8) (i : Nat) : Int := if Lib.indexByte (lts.drop i) c == -1 then -1 else Lib.indexByte (lts.drop i) c + i
theorem wF_0 (c : UInt8) : wF c 0 = wI c := by
  unfold wF; rw [List.drop_zero]
  split
  · rename_i h; exact (beq_iff_eq.1 h).symm
  · simp [wI]
theorem lts_drop {i : Nat} (h : i < 64) : lts.drop i = lt i :: lts.drop (i + 1) := by
  rw [List.drop_eq_getElem_cons (by show i < 64; exact h)]
  congr 1
  unfold lt; rw [List.getD_eq_getElem?_getD, List.getElem?_eq_getElem (by show i < 64; exact h)]; rfl
theorem wF_yes {c : UInt8} {i : Nat} (h : i < 64) (e : lt i = c) : wF c i = i := by
  have h0 : Lib.indexByte (lt i :: lts.drop (i + 1)) c = 0 := by rw [Lib.indexByte, if_pos (beq_iff_eq.2 e)]
  unfold wF; rw [lts_drop h, h0]; simp
theorem wF_no {c : UInt8} {i : Nat} (h : i < 64) (e : ¬ lt i = c) : wF c i = wF c (i + 1) := by
  have h0 : Lib.indexByte (lt i :: lts.drop (i + 1)) c = if Lib.indexByte (lts.drop (i + 1)) c == -1 then -1 else Lib.indexByte (lts.drop (i + 1)) c + 1 := by rw [Lib.indexByte, if_neg (by rw [beq_iff_eq]; exact e)]
  unfold wF; rw [lts_drop h, h0]
  have := Lib.indexByte_ge (lts.drop (i + 1)) c
  generalize Lib.indexByte (lts.drop (i + 1)) c = z at this
  by_cases hz : z = -1
  · subst hz; rfl
  · have h1 : (z == -1) = false := by simpa using hz
    have h2 : (z + 1 == -1) = false := by rw [beq_eq_false_iff_ne]; omega
    simp only [h1, h2, Bool.false_eq_true, if_false]; omega
theorem wF_end (c : UInt8) : wF c 64 = -1 := rfl
theorem ret_w {a b : Int} (h : b = a) : Ending.returned (.int .i64 a) = .returned (.int .i64 b) := by rw [h]
set_option maxHeartbeats 400000 in
theorem refWorth_any (c : UInt8) (w : World) :
    Calls Tryz.prog 210 #[.int .u8 (c.toNat : Int)] w fun e w' => e = .returned (.int .i64 (wI c)) ∧ w = w' := by
  rw [← wF_0]
  go_enter Tryz.func210, Tryz.ntmps210
  go_wp2_with fail
  go_loop [3] (fun iv => ∃ i : Nat, i ≤ 64 ∧ iv = .int .i64 (i : Int) ∧ Hid (wF c i = wF c 0)) (fun iv => 64 - (intOf iv).toNat)
  case atStart => exact ⟨0, by omega, rfl, Lib.hid rfl⟩
  case round =>
    obtain ⟨i, hi, rfl, hw⟩ := hrel
    by_cases hlt : i < 64
    · have hx := idx_lt .i64 (i : Int) (by omega) (by omega)
      rw [Int.toNat_natCast] at hx
      by_cases he : lt i = c
      · have HE := Lib.hid (wF_yes hlt he)
        have hq : (((lt i).toNat : Int) == (c.toNat : Int)) = true := by rw [he]; simp
        clear he
        go_wp2_with fail
        go_ret
        exact ⟨ret_w (by rw [← hw.out, HE.out]), rfl⟩
      · have HE := Lib.hid (wF_no hlt he)
        have hq : (((lt i).toNat : Int) == (c.toNat : Int)) = false := by rw [beq_eq_false_iff_ne]; intro h; exact he (UInt8.toNat_inj.1 (by omega))
        clear he
        go_wp2_with fail
        go_round
        case rel => exact ⟨i + 1, by omega, by go_num, Lib.hid (by rw [← HE.out, hw.out])⟩
        case measure => simp [intOf]; omega
    · obtain rfl : i = 64 := by omega
      go_wp2_with fail
      go_ret
      exact ⟨ret_w (by rw [← hw.out]; rfl), rfl⟩

theorem flt_all : ∀ (t : List UInt8) (i : Nat) (bp : Bool), flt i bp t = 0 → ∀ c ∈ t, isP c = true ∨ isL c = true
  | [], _, _, _, c, hc => by cases hc
  | a :: t, i, bp, h, c, hc => by
    unfold flt at h
    by_cases ha : fa i bp a = 0
    · rw [if_pos ha] at h
      rcases List.mem_cons.1 hc with rfl | hc
      · exact (fa_ok ha).1
      · exact flt_all t _ _ h c hc
    · rw [if_neg ha] at h; exact absurd h ha
theorem dec_fault {s : ByteArray} {k n f : Nat} {bp : Bool} {c : UInt8} (H : Hid (flt 0 false (strip s.data.toList) = flt n bp (strip (s.data.toList.drop k)))) (hd : s.data.toList.drop k = c :: s.data.toList.drop (k + 1)) (hb : blankB c = false)
    (hf : fa n bp c = f) (h0 : f ≠ 0) : dec s.data.toList = ([], f) := by
  have h : flt 0 false (strip s.data.toList) = f := by
    rw [H.out, hd, strip_no _ hb, flt, if_neg (by rw [hf]; exact h0), hf]
  unfold dec; rw [if_neg (by rw [h]; exact h0), h]
theorem flt_next {s : ByteArray} {k n : Nat} {bp : Bool} {c : UInt8} (H : Hid (flt 0 false (strip s.data.toList) = flt n bp (strip (s.data.toList.drop k)))) (hd : s.data.toList.drop k = c :: s.data.toList.drop (k + 1)) (hb : blankB c = false)
    (hf : fa n bp c = 0) : Hid (flt 0 false (strip s.data.toList) = flt (n + 1) (isP c) (strip (s.data.toList.drop (k + 1)))) := by
  refine Lib.hid ?_
  rw [H.out, hd, strip_no _ hb, flt, if_pos hf]
theorem dec_short {s : ByteArray} {n : Nat} {bp : Bool} {t : List UInt8} (H : Hid (flt 0 false (strip s.data.toList) = flt n bp t)) (ht : t = []) (h : ¬ n % 4 = 0) : dec s.data.toList = ([], 1) := by
  have h : flt 0 false (strip s.data.toList) = 1 := by rw [H.out, ht, flt, if_neg h]
  unfold dec; rw [if_neg (by rw [h]; decide), h]
theorem dec_whole {s : ByteArray} {n : Nat} {bp : Bool} {t l : List UInt8} (H : Hid (flt 0 false (strip s.data.toList) = flt n bp t)) (ht : t = []) (h : n % 4 = 0) (hl : strip s.data.toList = l) :
    dec s.data.toList = (if (rest8 (bitsOf l)).any (fun b => b != 0) then ([], 3) else (by8 (bitsOf l), 0)) ∧ ∀ c ∈ l, isP c = true ∨ isL c = true := by
  have h : flt 0 false (strip s.data.toList) = 0 := by rw [H.out, ht, flt, if_pos h]
  have h' := h
  rw [hl] at h'
  obtain ⟨d1, d2⟩ := dec_bits l h'
  refine ⟨?_, flt_all l _ _ h'⟩
  unfold dec; rw [if_pos h, hl, d1, d2]
theorem blank_iff (c : UInt8) : blankB c = true ↔ ((c.toNat : Int) = 32 ∨ (c.toNat : Int) = 9 ∨ (c.toNat : Int) = 10 ∨ (c.toNat : Int) = 13) := by
  have h : ∀ c : UInt8, blankB c = true ↔ (c = 32 ∨ c = 9 ∨ c = 10 ∨ c = 13) := all_bytes (P := fun c => blankB c = true ↔ (c = 32 ∨ c = 9 ∨ c = 10 ∨ c = 13)) (by decide +kernel)
  rw [h]
  simp only [← UInt8.toNat_inj]
  show (c.toNat = 32 ∨ c.toNat = 9 ∨ c.toNat = 10 ∨ c.toNat = 13) ↔ _
  omega
theorem num_eq {a b : Int} (h : ¬ a = b) : (a == b) = false := beq_eq_false_iff_ne.2 h
theorem bits_drop {l : List UInt8} {i : Nat} {c : UInt8} (hi : l[i]? = some c) (hc : isL c = true) : bitsOf (l.drop i) = six c ++ bitsOf (l.drop (i + 1)) := by
  have hlt := (List.getElem?_eq_some_iff.1 hi).1
  rw [List.drop_eq_getElem_cons hlt, (List.getElem?_eq_some_iff.1 hi).2, bits_yes _ hc]
theorem bits_stop {l : List UInt8} {i : Nat} {c : UInt8} (hi : l[i]? = some c) (hc : isP c = true) : bitsOf (l.drop i) = [] := by
  have hlt := (List.getElem?_eq_some_iff.1 hi).1
  rw [List.drop_eq_getElem_cons hlt, (List.getElem?_eq_some_iff.1 hi).2, isP_eq hc, bits_pad]
end Go.Proofs.YtjgfbicllgalkaaGreatDoor.Sx

namespace Go.Proofs.YtjgfbicllgalkaaGreatDoor.Sx
open Go.RowKit

theorem laidI {w : World} {base : Nat} {v : Value} {l : List Nat} {c : Nat} {x : Int} (hx : x = (c : Int)) (h : w.ownsRow base 3 1 v (l.length + 1) (icells l ++ [.int .i64 x])) : IHas w base v (l ++ [c]) := by
  subst hx; exact IHas.laid1 h
theorem drop_at' (s : ByteArray) (k : Nat) (h : k < s.size) : s.data.toList.drop k = s[k] :: s.data.toList.drop (k + 1) := by
  rw [List.drop_eq_getElem_cons (by rw [list_size]; exact h)]; rfl
theorem drop_end' (s : ByteArray) {k : Nat} (h : ¬ k < s.size) : s.data.toList.drop k = [] := List.drop_eq_nil_of_le (by rw [list_size]; omega)
theorem isPnum (c : UInt8) : ((c.toNat : Int) == 61) = isP c := by
  unfold isP
  rw [Bool.eq_iff_iff, beq_iff_eq, beq_iff_eq, ← UInt8.toNat_inj]
  show _ ↔ c.toNat = 61
  omega

set_option maxRecDepth 100000 in
set_option maxHeartbeats 4000000 in
theorem refDecode_any (s : ByteArray) (w : World) (hs : s.size ≤ 1048576) :
    Calls Tryz.prog 147 #[.string s] w fun e w' => e = .returned (.tuple #[.string ⟨(dec s.data.toList).1.toArray⟩, .int .i64 ((dec s.data.toList).2 : Int)]) ∧ Below w.heap.size w w' := by
  obtain ⟨i0, hi, hz0, hz1, hz2⟩ := info_parts Bytes.infoByte
  obtain ⟨j0, hj, hjz0, hjz1, hjz2⟩ := info_parts infoInt
  go_enter Tryz.func147, Tryz.ntmps147
  go_wp2_with fail
  go_loopw [4, 5] (fun v iv wr => ∃ (k : Nat) (l : List UInt8) (bp : Bool), k ≤ s.size ∧ iv = .int .i64 (k : Int) ∧ Hid (l ++ strip (s.data.toList.drop k) = strip s.data.toList) ∧ Hid (flt 0 false (strip s.data.toList) = flt l.length bp (strip (s.data.toList.drop k))) ∧ Hid ((l = [] ∧ bp = false) ∨ ∃ p, l[l.length - 1]? = some p ∧ bp = isP p) ∧ l.length ≤ k ∧ Bytes.Has wr w.heap.size v l ∧ Below w.heap.size w wr) (fun _ iv _ => s.size - (intOf iv).toNat)
  case atStart => exact ⟨0, [], false, Nat.zero_le _, rfl, Lib.hid (by simp), Lib.hid (by simp), Lib.hid (.inl ⟨rfl, rfl⟩), by simp, Bytes.Has.nil _ _, Below.refl _ _⟩
  case round =>
    obtain ⟨k, l, bp, hk, rfl, hl, hf, hsh, hll, hown, hbel⟩ := hrel
    have hz := hbel.size
    by_cases hlt : k < s.size
    · have hdr := drop_at' s k hlt
      obtain ⟨c, hc⟩ : ∃ c, s[k] = c := ⟨_, rfl⟩
      rw [hc] at hdr
      have hcb := c.toNat_lt
      cases hbl : blankB c
      · have hnb : ¬ ((c.toNat : Int) = 32 ∨ (c.toNat : Int) = 9 ∨ (c.toNat : Int) = 10 ∨ (c.toNat : Int) = 13) := by rw [← blank_iff, hbl]; decide
        have q32 := num_eq (a := (c.toNat : Int)) (b := 32) (by omega)
        have q9 := num_eq (a := (c.toNat : Int)) (b := 9) (by omega)
        have q10 := num_eq (a := (c.toNat : Int)) (b := 10) (by omega)
        have q13 := num_eq (a := (c.toNat : Int)) (b := 13) (by omega)
        have hx := isPnum c
        have C := Lib.hid (fun W => refWorth_any c W)
        have HA := Lib.hid (show l.length + 1 ≤ maxLen by unfold maxLen; omega)
        have HB := Lib.hid (show (l.length + 1) * 1 ≤ 140737488355328 by omega)
        have HL := Lib.hid (show (l ++ [c]) ++ strip (s.data.toList.drop (k + 1)) = strip s.data.toList by rw [← hl.out, hdr, strip_no _ hbl]; simp)
        have hfault := fun f (h : fa l.length bp c = f) (h0 : f ≠ 0) => dec_fault hf hdr hbl h h0
        have hnext := fun (h : fa l.length bp c = 0) => flt_next hf hdr hbl h
        have HX := Lib.hid hfault
        have HN := Lib.hid hnext
        have hm4 : l.length % 4 = 0 ∨ l.length % 4 = 1 ∨ l.length % 4 = 2 ∨ l.length % 4 = 3 := by omega
        clear hnb hbl hdr hfault hnext
        clear hl hf
        rcases hsh.out with ⟨rfl, rfl⟩ | ⟨p, hp, rfl⟩
        · clear hsh
          obtain ⟨sa, sc, rfl⟩ := has_shape hown
          cases hpc : isP c
          · rw [hpc] at hx
            have hx2 : ¬ (c.toNat : Int) = 61 := beq_eq_false_iff_ne.1 hx
            cases hlc : isL c
            · have hn : wI c < 0 := by unfold isL at hlc; have := of_decide_eq_false hlc; omega
              generalize wI c = z at C hn
              have HD := HX.out 3 (by unfold fa; simp [hpc, hlc]) (by decide)
              have HDD := Lib.hid HD
              clear HD hpc hlc hm4
              go_wp2_with (go_at_call 210; refine (C.out _).mono ?_; rintro e w' ⟨rfl, rfl⟩)
              go_ret2
              exact ⟨by rw [HDD.out]; rfl, hbel⟩
            · have hn : 0 ≤ wI c := by unfold isL at hlc; exact of_decide_eq_true hlc
              generalize wI c = z at C hn
              have HF := HN.out (by unfold fa; simp [hpc, hlc])
              have hA := HA.out
              have hB := HB.out
              have hown0 := Lib.hid hown
              clear hlc hm4
              go_wp2_with (first | (go_at_call 210; refine (C.out _).mono ?_; rintro e w' ⟨rfl, rfl⟩) | (at_builtin; refine wpList_append_own _ rfl _ _ 103 rfl w.heap.size 5 i0 (.int .u8 0) 1 1 Tryz.underlying103 hi hz0 hz1 hz2 rfl Bytes.one_pos _ _ _ rfl (hown.alloc _) ⟨wr.heap.size, 0, none⟩ 1 1 [.int .u8 c.toNat] rfl rfl (World.news_of_block (cs := #[.int .u8 c.toNat]) (t := 5) (fr := (0, 0)) (heap_alloc_new wr _)) (by simp [Value.oneCell']) hA hB (Bytes.base_ok' hz _) ?_; intro v' w1 hown' hgrow _))
              go_roundw
              case rel => exact ⟨k + 1, _, isP c, by omega, by go_num, HL, (by rw [List.length_append]; exact HF), Lib.hid (.inr ⟨_, by simp, rfl⟩), by simp, Bytes.Has.laid1 hown', Bytes.Has.below hown0.out hbel hz _ hgrow⟩
              case measure => simp [intOf]; omega
          · obtain rfl := isP_eq hpc
            rw [hpc] at hx
            have C61 : Hid (∀ W, Calls Tryz.prog 210 #[.int .u8 61] W fun e w' => e = .returned (.int .i64 (-1)) ∧ W = w') := Lib.hid (fun W => refWorth_any 61 W)
            clear C
            have C := C61
            clear C61 hx
            have HD := HX.out 3 (by unfold fa; simp [hpc]) (by decide)
            have HDD := Lib.hid HD
            clear HD hpc hm4
            go_wp2_with (go_at_call 210; refine (C.out _).mono ?_; rintro e w' ⟨rfl, rfl⟩)
            go_ret2
            exact ⟨by rw [HDD.out]; rfl, hbel⟩
        · clear hsh
          have hn0 : 0 < l.length := by have := (List.getElem?_eq_some_iff.1 hp).1; omega
          obtain ⟨g, cap, rfl, hcell⟩ := byte_cell hown hp
          have hb := isPnum p
          have hi1 : ((l.length : Int) - 1).toNat = l.length - 1 := by omega
          have h1 : 1 ≤ (l.length : Int) := by omega
          have h0 : 0 < (l.length : Int) := by omega
          clear hp
          cases hpc : isP c
          · rw [hpc] at hx
            have hx2 : ¬ (c.toNat : Int) = 61 := beq_eq_false_iff_ne.1 hx
            cases hlc : isL c
            · have hn : wI c < 0 := by unfold isL at hlc; have := of_decide_eq_false hlc; omega
              generalize wI c = z at C hn
              have HD := HX.out 3 (by unfold fa; simp [hpc, hlc]) (by decide)
              have HDD := Lib.hid HD
              clear HD hpc hlc hm4
              go_wp2_with (go_at_call 210; refine (C.out _).mono ?_; rintro e w' ⟨rfl, rfl⟩)
              go_ret2
              exact ⟨by rw [HDD.out]; rfl, hbel⟩
            · have hn : 0 ≤ wI c := by unfold isL at hlc; exact of_decide_eq_true hlc
              generalize wI c = z at C hn
              cases hq : isP p
              · rw [hq] at hb
                rcases hm4 with hm | hm | hm | hm
                · have hmi : (l.length : Int) % 4 = 0 := by omega
                  have HF := HN.out (by unfold fa; simp [hpc, hlc, hq])
                  have hA := HA.out
                  have hB := HB.out
                  have hown0 := Lib.hid hown
                  clear hlc hm hq
                  go_wp2_with (first | (go_at_call 210; refine (C.out _).mono ?_; rintro e w' ⟨rfl, rfl⟩) | (at_builtin; refine wpList_append_own _ rfl _ _ 103 rfl w.heap.size 5 i0 (.int .u8 0) 1 1 Tryz.underlying103 hi hz0 hz1 hz2 rfl Bytes.one_pos _ _ _ rfl (hown.alloc _) ⟨wr.heap.size, 0, none⟩ 1 1 [.int .u8 c.toNat] rfl rfl (World.news_of_block (cs := #[.int .u8 c.toNat]) (t := 5) (fr := (0, 0)) (heap_alloc_new wr _)) (by simp [Value.oneCell']) hA hB (Bytes.base_ok' hz _) ?_; intro v' w1 hown' hgrow _))
                  go_roundw
                  case rel => exact ⟨k + 1, _, isP c, by omega, by go_num, HL, (by rw [List.length_append]; exact HF), Lib.hid (.inr ⟨_, by simp, rfl⟩), by rw [List.length_append]; exact Nat.succ_le_succ hll, Bytes.Has.laid1 hown', Bytes.Has.below hown0.out hbel hz _ hgrow⟩
                  case measure => simp [intOf]; omega
                · have hmi : (l.length : Int) % 4 = 1 := by omega
                  have HF := HN.out (by unfold fa; simp [hpc, hlc, hq])
                  have hA := HA.out
                  have hB := HB.out
                  have hown0 := Lib.hid hown
                  clear hlc hm hq
                  go_wp2_with (first | (go_at_call 210; refine (C.out _).mono ?_; rintro e w' ⟨rfl, rfl⟩) | (at_builtin; refine wpList_append_own _ rfl _ _ 103 rfl w.heap.size 5 i0 (.int .u8 0) 1 1 Tryz.underlying103 hi hz0 hz1 hz2 rfl Bytes.one_pos _ _ _ rfl (hown.alloc _) ⟨wr.heap.size, 0, none⟩ 1 1 [.int .u8 c.toNat] rfl rfl (World.news_of_block (cs := #[.int .u8 c.toNat]) (t := 5) (fr := (0, 0)) (heap_alloc_new wr _)) (by simp [Value.oneCell']) hA hB (Bytes.base_ok' hz _) ?_; intro v' w1 hown' hgrow _))
                  go_roundw
                  case rel => exact ⟨k + 1, _, isP c, by omega, by go_num, HL, (by rw [List.length_append]; exact HF), Lib.hid (.inr ⟨_, by simp, rfl⟩), by rw [List.length_append]; exact Nat.succ_le_succ hll, Bytes.Has.laid1 hown', Bytes.Has.below hown0.out hbel hz _ hgrow⟩
                  case measure => simp [intOf]; omega
                · have hmi : (l.length : Int) % 4 = 2 := by omega
                  have HF := HN.out (by unfold fa; simp [hpc, hlc, hq])
                  have hA := HA.out
                  have hB := HB.out
                  have hown0 := Lib.hid hown
                  clear hlc hm hq
                  go_wp2_with (first | (go_at_call 210; refine (C.out _).mono ?_; rintro e w' ⟨rfl, rfl⟩) | (at_builtin; refine wpList_append_own _ rfl _ _ 103 rfl w.heap.size 5 i0 (.int .u8 0) 1 1 Tryz.underlying103 hi hz0 hz1 hz2 rfl Bytes.one_pos _ _ _ rfl (hown.alloc _) ⟨wr.heap.size, 0, none⟩ 1 1 [.int .u8 c.toNat] rfl rfl (World.news_of_block (cs := #[.int .u8 c.toNat]) (t := 5) (fr := (0, 0)) (heap_alloc_new wr _)) (by simp [Value.oneCell']) hA hB (Bytes.base_ok' hz _) ?_; intro v' w1 hown' hgrow _))
                  go_roundw
                  case rel => exact ⟨k + 1, _, isP c, by omega, by go_num, HL, (by rw [List.length_append]; exact HF), Lib.hid (.inr ⟨_, by simp, rfl⟩), by rw [List.length_append]; exact Nat.succ_le_succ hll, Bytes.Has.laid1 hown', Bytes.Has.below hown0.out hbel hz _ hgrow⟩
                  case measure => simp [intOf]; omega
                · have hmi : (l.length : Int) % 4 = 3 := by omega
                  have HF := HN.out (by unfold fa; simp [hpc, hlc, hq])
                  have hA := HA.out
                  have hB := HB.out
                  have hown0 := Lib.hid hown
                  clear hlc hm hq
                  go_wp2_with (first | (go_at_call 210; refine (C.out _).mono ?_; rintro e w' ⟨rfl, rfl⟩) | (at_builtin; refine wpList_append_own _ rfl _ _ 103 rfl w.heap.size 5 i0 (.int .u8 0) 1 1 Tryz.underlying103 hi hz0 hz1 hz2 rfl Bytes.one_pos _ _ _ rfl (hown.alloc _) ⟨wr.heap.size, 0, none⟩ 1 1 [.int .u8 c.toNat] rfl rfl (World.news_of_block (cs := #[.int .u8 c.toNat]) (t := 5) (fr := (0, 0)) (heap_alloc_new wr _)) (by simp [Value.oneCell']) hA hB (Bytes.base_ok' hz _) ?_; intro v' w1 hown' hgrow _))
                  go_roundw
                  case rel => exact ⟨k + 1, _, isP c, by omega, by go_num, HL, (by rw [List.length_append]; exact HF), Lib.hid (.inr ⟨_, by simp, rfl⟩), by rw [List.length_append]; exact Nat.succ_le_succ hll, Bytes.Has.laid1 hown', Bytes.Has.below hown0.out hbel hz _ hgrow⟩
                  case measure => simp [intOf]; omega
              · rw [hq] at hb
                rcases hm4 with hm | hm | hm | hm
                · have hmi : (l.length : Int) % 4 = 0 := by omega
                  have HD := HX.out 6 (by unfold fa; simp [hpc, hlc, hq, hm]) (by decide)
                  have HDD := Lib.hid HD
                  clear HD hpc hlc hm hq
                  go_wp2_with (go_at_call 210; refine (C.out _).mono ?_; rintro e w' ⟨rfl, rfl⟩)
                  go_ret2
                  exact ⟨by rw [HDD.out]; rfl, hbel⟩
                · have hmi : (l.length : Int) % 4 = 1 := by omega
                  have HD := HX.out 3 (by unfold fa; simp [hpc, hlc, hq, hm]) (by decide)
                  have HDD := Lib.hid HD
                  clear HD hpc hlc hm hq
                  go_wp2_with (go_at_call 210; refine (C.out _).mono ?_; rintro e w' ⟨rfl, rfl⟩)
                  go_ret2
                  exact ⟨by rw [HDD.out]; rfl, hbel⟩
                · have hmi : (l.length : Int) % 4 = 2 := by omega
                  have HD := HX.out 3 (by unfold fa; simp [hpc, hlc, hq, hm]) (by decide)
                  have HDD := Lib.hid HD
                  clear HD hpc hlc hm hq
                  go_wp2_with (go_at_call 210; refine (C.out _).mono ?_; rintro e w' ⟨rfl, rfl⟩)
                  go_ret2
                  exact ⟨by rw [HDD.out]; rfl, hbel⟩
                · have hmi : (l.length : Int) % 4 = 3 := by omega
                  have HD := HX.out 3 (by unfold fa; simp [hpc, hlc, hq, hm]) (by decide)
                  have HDD := Lib.hid HD
                  clear HD hpc hlc hm hq
                  go_wp2_with (go_at_call 210; refine (C.out _).mono ?_; rintro e w' ⟨rfl, rfl⟩)
                  go_ret2
                  exact ⟨by rw [HDD.out]; rfl, hbel⟩
          · obtain rfl := isP_eq hpc
            rw [hpc] at hx
            have C61 : Hid (∀ W, Calls Tryz.prog 210 #[.int .u8 61] W fun e w' => e = .returned (.int .i64 (-1)) ∧ W = w') := Lib.hid (fun W => refWorth_any 61 W)
            clear C
            have C := C61
            clear C61 hx
            cases hq : isP p
            · rw [hq] at hb
              rcases hm4 with hm | hm | hm | hm
              · have hmi : (l.length : Int) % 4 = 0 := by omega
                have HD := HX.out 3 (by unfold fa; simp [hpc, hq, hm]) (by decide)
                have HDD := Lib.hid HD
                clear HD hpc hm hq
                go_wp2_with (go_at_call 210; refine (C.out _).mono ?_; rintro e w' ⟨rfl, rfl⟩)
                go_ret2
                exact ⟨by rw [HDD.out]; rfl, hbel⟩
              · have hmi : (l.length : Int) % 4 = 1 := by omega
                have HD := HX.out 3 (by unfold fa; simp [hpc, hq, hm]) (by decide)
                have HDD := Lib.hid HD
                clear HD hpc hm hq
                go_wp2_with (go_at_call 210; refine (C.out _).mono ?_; rintro e w' ⟨rfl, rfl⟩)
                go_ret2
                exact ⟨by rw [HDD.out]; rfl, hbel⟩
              · have hmi : (l.length : Int) % 4 = 2 := by omega
                have HF := HN.out (by unfold fa; simp [hpc, hq, hm])
                have hA := HA.out
                have hB := HB.out
                have hown0 := Lib.hid hown
                clear hm hq
                go_wp2_with (first | (go_at_call 210; refine (C.out _).mono ?_; rintro e w' ⟨rfl, rfl⟩) | (at_builtin; refine wpList_append_own _ rfl _ _ 103 rfl w.heap.size 5 i0 (.int .u8 0) 1 1 Tryz.underlying103 hi hz0 hz1 hz2 rfl Bytes.one_pos _ _ _ rfl (hown.alloc _) ⟨wr.heap.size, 0, none⟩ 1 1 [.int .u8 61] rfl rfl (World.news_of_block (cs := #[.int .u8 61]) (t := 5) (fr := (0, 0)) (heap_alloc_new wr _)) (by simp [Value.oneCell']) hA hB (Bytes.base_ok' hz _) ?_; intro v' w1 hown' hgrow _))
                go_roundw
                case rel => exact ⟨k + 1, _, isP 61, by omega, by go_num, HL, (by rw [List.length_append]; exact HF), Lib.hid (.inr ⟨_, by simp, rfl⟩), by rw [List.length_append]; exact Nat.succ_le_succ hll, Bytes.Has.laid1 hown', Bytes.Has.below hown0.out hbel hz _ hgrow⟩
                case measure => simp [intOf]; omega
              · have hmi : (l.length : Int) % 4 = 3 := by omega
                have HF := HN.out (by unfold fa; simp [hpc, hq, hm])
                have hA := HA.out
                have hB := HB.out
                have hown0 := Lib.hid hown
                clear hm hq
                go_wp2_with (first | (go_at_call 210; refine (C.out _).mono ?_; rintro e w' ⟨rfl, rfl⟩) | (at_builtin; refine wpList_append_own _ rfl _ _ 103 rfl w.heap.size 5 i0 (.int .u8 0) 1 1 Tryz.underlying103 hi hz0 hz1 hz2 rfl Bytes.one_pos _ _ _ rfl (hown.alloc _) ⟨wr.heap.size, 0, none⟩ 1 1 [.int .u8 61] rfl rfl (World.news_of_block (cs := #[.int .u8 61]) (t := 5) (fr := (0, 0)) (heap_alloc_new wr _)) (by simp [Value.oneCell']) hA hB (Bytes.base_ok' hz _) ?_; intro v' w1 hown' hgrow _))
                go_roundw
                case rel => exact ⟨k + 1, _, isP 61, by omega, by go_num, HL, (by rw [List.length_append]; exact HF), Lib.hid (.inr ⟨_, by simp, rfl⟩), by rw [List.length_append]; exact Nat.succ_le_succ hll, Bytes.Has.laid1 hown', Bytes.Has.below hown0.out hbel hz _ hgrow⟩
                case measure => simp [intOf]; omega
            · rw [hq] at hb
              rcases hm4 with hm | hm | hm | hm
              · have hmi : (l.length : Int) % 4 = 0 := by omega
                have HD := HX.out 6 (by unfold fa; simp [hpc, hq, hm]) (by decide)
                have HDD := Lib.hid HD
                clear HD hpc hm hq
                go_wp2_with (go_at_call 210; refine (C.out _).mono ?_; rintro e w' ⟨rfl, rfl⟩)
                go_ret2
                exact ⟨by rw [HDD.out]; rfl, hbel⟩
              · have hmi : (l.length : Int) % 4 = 1 := by omega
                have HD := HX.out 3 (by unfold fa; simp [hpc, hq, hm]) (by decide)
                have HDD := Lib.hid HD
                clear HD hpc hm hq
                go_wp2_with (go_at_call 210; refine (C.out _).mono ?_; rintro e w' ⟨rfl, rfl⟩)
                go_ret2
                exact ⟨by rw [HDD.out]; rfl, hbel⟩
              · have hmi : (l.length : Int) % 4 = 2 := by omega
                have HF := HN.out (by unfold fa; simp [hpc, hq, hm])
                have hA := HA.out
                have hB := HB.out
                have hown0 := Lib.hid hown
                clear hm hq
                go_wp2_with (first | (go_at_call 210; refine (C.out _).mono ?_; rintro e w' ⟨rfl, rfl⟩) | (at_builtin; refine wpList_append_own _ rfl _ _ 103 rfl w.heap.size 5 i0 (.int .u8 0) 1 1 Tryz.underlying103 hi hz0 hz1 hz2 rfl Bytes.one_pos _ _ _ rfl (hown.alloc _) ⟨wr.heap.size, 0, none⟩ 1 1 [.int .u8 61] rfl rfl (World.news_of_block (cs := #[.int .u8 61]) (t := 5) (fr := (0, 0)) (heap_alloc_new wr _)) (by simp [Value.oneCell']) hA hB (Bytes.base_ok' hz _) ?_; intro v' w1 hown' hgrow _))
                go_roundw
                case rel => exact ⟨k + 1, _, isP 61, by omega, by go_num, HL, (by rw [List.length_append]; exact HF), Lib.hid (.inr ⟨_, by simp, rfl⟩), by rw [List.length_append]; exact Nat.succ_le_succ hll, Bytes.Has.laid1 hown', Bytes.Has.below hown0.out hbel hz _ hgrow⟩
                case measure => simp [intOf]; omega
              · have hmi : (l.length : Int) % 4 = 3 := by omega
                have HF := HN.out (by unfold fa; simp [hpc, hq, hm])
                have hA := HA.out
                have hB := HB.out
                have hown0 := Lib.hid hown
                clear hm hq
                go_wp2_with (first | (go_at_call 210; refine (C.out _).mono ?_; rintro e w' ⟨rfl, rfl⟩) | (at_builtin; refine wpList_append_own _ rfl _ _ 103 rfl w.heap.size 5 i0 (.int .u8 0) 1 1 Tryz.underlying103 hi hz0 hz1 hz2 rfl Bytes.one_pos _ _ _ rfl (hown.alloc _) ⟨wr.heap.size, 0, none⟩ 1 1 [.int .u8 61] rfl rfl (World.news_of_block (cs := #[.int .u8 61]) (t := 5) (fr := (0, 0)) (heap_alloc_new wr _)) (by simp [Value.oneCell']) hA hB (Bytes.base_ok' hz _) ?_; intro v' w1 hown' hgrow _))
                go_roundw
                case rel => exact ⟨k + 1, _, isP 61, by omega, by go_num, HL, (by rw [List.length_append]; exact HF), Lib.hid (.inr ⟨_, by simp, rfl⟩), by rw [List.length_append]; exact Nat.succ_le_succ hll, Bytes.Has.laid1 hown', Bytes.Has.below hown0.out hbel hz _ hgrow⟩
                case measure => simp [intOf]; omega
      · have HL := Lib.hid (show l ++ strip (s.data.toList.drop (k + 1)) = strip s.data.toList by rw [← hl.out, hdr, strip_yes _ hbl])
        have HF := Lib.hid (show flt 0 false (strip s.data.toList) = flt l.length bp (strip (s.data.toList.drop (k + 1))) by rw [hf.out, hdr, strip_yes _ hbl])
        have hbn := (blank_iff c).1 hbl
        clear hbl hdr hl hf
        rcases hbn with h | h | h | h
        · have q32 : ((c.toNat : Int) == 32) = true := by rw [h]; rfl
          clear h
          go_wp2_with fail
          go_roundw
          case rel => exact ⟨k + 1, l, bp, by omega, by go_num, HL, HF, hsh, by omega, hown, hbel⟩
          case measure => simp [intOf]; omega
        · have q32 := num_eq (a := (c.toNat : Int)) (b := 32) (by omega)
          have q9 : ((c.toNat : Int) == 9) = true := by rw [h]; rfl
          clear h
          go_wp2_with fail
          go_roundw
          case rel => exact ⟨k + 1, l, bp, by omega, by go_num, HL, HF, hsh, by omega, hown, hbel⟩
          case measure => simp [intOf]; omega
        · have q32 := num_eq (a := (c.toNat : Int)) (b := 32) (by omega)
          have q9 := num_eq (a := (c.toNat : Int)) (b := 9) (by omega)
          have q10 : ((c.toNat : Int) == 10) = true := by rw [h]; rfl
          clear h
          go_wp2_with fail
          go_roundw
          case rel => exact ⟨k + 1, l, bp, by omega, by go_num, HL, HF, hsh, by omega, hown, hbel⟩
          case measure => simp [intOf]; omega
        · have q32 := num_eq (a := (c.toNat : Int)) (b := 32) (by omega)
          have q9 := num_eq (a := (c.toNat : Int)) (b := 9) (by omega)
          have q10 := num_eq (a := (c.toNat : Int)) (b := 10) (by omega)
          have q13 : ((c.toNat : Int) == 13) = true := by rw [h]; rfl
          clear h
          go_wp2_with fail
          go_roundw
          case rel => exact ⟨k + 1, l, bp, by omega, by go_num, HL, HF, hsh, by omega, hown, hbel⟩
          case measure => simp [intOf]; omega
    · obtain rfl : k = s.size := by omega
      have hdn : strip (s.data.toList.drop s.size) = [] := by rw [drop_end' s (by omega)]; rfl
      have hls : strip s.data.toList = l := by rw [← hl.out, hdn, List.append_nil]
      obtain ⟨sa, sc, rfl⟩ := has_shape hown
      by_cases hm : l.length % 4 = 0
      · obtain ⟨wa, rfl⟩ : ∃ W, W = wr := ⟨_, rfl⟩
        obtain ⟨hd, hall⟩ := dec_whole hf hdn hm hls
        have HD := Lib.hid hd
        have HALL := Lib.hid hall
        have HB1 := Lib.hid (bits_le l)
        have HLEN := Lib.hid (bits_length l)
        have hmi : (l.length : Int) % 4 = 0 := by omega
        clear hd hall hls hdn hl hf hsh hm
        go_wp2_with fail
        clear hmi
        go_loopw [8, 9] (fun bv iv wr2 => ∃ (i : Nat) (bs : List Nat), i ≤ l.length ∧ iv = .int .i64 (i : Int) ∧ Hid (bs ++ bitsOf (l.drop i) = bitsOf l) ∧ bs.length ≤ 6 * i ∧ IHas wr2 wa.heap.size bv bs ∧ Below wa.heap.size wa wr2) (fun _ iv _ => l.length - (intOf iv).toNat)
        case atStart => exact ⟨0, [], Nat.zero_le _, rfl, Lib.hid (by simp), by simp, IHas.nil _ _, Below.refl _ _⟩
        case round =>
          obtain ⟨wr2, rfl⟩ : ∃ W, W = wr := ⟨_, rfl⟩
          obtain ⟨i, bs, hil, rfl, hbs, hbl, hown2, hb2⟩ := hrel
          have hrow2 : Bytes.Has wr2 w.heap.size (.slice sa l.length sc) l := row_stays hown rfl hb2
          by_cases hlt2 : i < l.length
          · obtain ⟨c, hci⟩ : ∃ c, l[i]? = some c := ⟨_, List.getElem?_eq_getElem hlt2⟩
            obtain ⟨g, cap, hv, hcell⟩ := byte_cell hrow2 hci
            cases hv
            have hx := isPnum c
            have hcb := c.toNat_lt
            cases hpc : isP c
            · have hlc : isL c = true := by rcases HALL.out c (List.mem_of_getElem? hci) with h | h; { rw [hpc] at h; cases h }; exact h
              rw [hpc] at hx
              have hx2 : ¬ (c.toNat : Int) = 61 := beq_eq_false_iff_ne.1 hx
              have hx3 : ((c.toNat : Int) != 61) = true := by simp [hx2]
              have hbd := bits_drop hci hlc
              have HD2 := Lib.hid (show bs ++ six c ++ bitsOf (l.drop (i + 1)) = bitsOf l by rw [← hbs.out, hbd, List.append_assoc])
              have hw := w6_lt c
              have C := Lib.hid (fun W => refWorth_any c W)
              rw [w6_of hlc] at C
              obtain ⟨z, hzz⟩ : ∃ z, w6 c = z := ⟨_, rfl⟩
              have HS := Lib.hid (show six c = [z / 32 % 2, z / 16 % 2, z / 8 % 2, z / 4 % 2, z / 2 % 2, z % 2] by rw [← hzz]; rfl)
              rw [hzz] at C hw
              have hci2 := Lib.hid hci
              clear hzz hbd hbs hci hpc hlc
              go_wp2_with fail
              go_loopw [8, 10] (fun bv kv wr3 => ∃ (j : Nat), j ≤ 6 ∧ kv = .int .i64 (5 - (j : Int)) ∧ IHas wr3 wa.heap.size bv (bs ++ (six c).take j) ∧ Below wa.heap.size wa wr3) (fun _ kv _ => (intOf kv + 1).toNat)
              case atStart => exact ⟨0, by omega, rfl, by simpa using hown2, hb2⟩
              case round =>
                obtain ⟨wr3, rfl⟩ : ∃ W, W = wr := ⟨_, rfl⟩
                obtain ⟨j, hj6, rfl, hown3, hb3⟩ := hrel
                have hz3 := hb3.size
                have hrow3 : Bytes.Has wr3 w.heap.size _ l := row_stays hown rfl hb3
                have hcell3 := World.ownsRow.cellAt hrow3 i (by omega)
                have hcell : wr3.cell? ⟨g, i, none⟩ = some (.int .u8 (c.toNat : Int)) := by
                  obtain ⟨_, _, hv, h⟩ := byte_cell hrow3 hci2.out
                  cases hv; exact h
                have hA : (bs ++ (six c).take j).length + 1 ≤ maxLen := by rw [List.length_append, List.length_take]; unfold maxLen; omega
                have hB : ((bs ++ (six c).take j).length + 1) * 8 ≤ 140737488355328 := by rw [List.length_append, List.length_take]; omega
                have hown0 := Lib.hid hown3
                clear hcell3 hrow3
                rcases (by omega : j = 0 ∨ j = 1 ∨ j = 2 ∨ j = 3 ∨ j = 4 ∨ j = 5 ∨ j = 6) with rfl | rfl | rfl | rfl | rfl | rfl | rfl
                · have HT := Lib.hid (show bs ++ (six c).take 1 = (bs ++ (six c).take 0) ++ [z / 32 % 2] by rw [HS.out]; simp)
                  go_wp2_with (first | (go_at_call 210; refine (C.out _).mono ?_; rintro e w' ⟨rfl, rfl⟩) | (at_builtin; refine wpList_append_own _ rfl _ _ 71 rfl wa.heap.size 3 j0 (.int .i64 0) 1 8 Tryz.underlying71 hj hjz0 hjz1 hjz2 rfl Bytes.one_pos _ _ _ rfl (hown3.alloc _) ⟨wr3.heap.size, 0, none⟩ 1 1 [_] rfl rfl (World.news_of_block (cs := #[_]) (t := 3) (fr := (0, 0)) (heap_alloc_new wr3 _)) (by simp [Value.oneCell']) hA hB (Bytes.base_ok' hz3 _) ?_; intro v' w1 hown' hgrow _))
                  go_roundw
                  case rel => exact ⟨1, by omega, by go_num, by rw [HT.out]; exact laidI (by omega) hown', IHas.below hown0.out hb3 hz3 _ hgrow⟩
                  case measure => simp [intOf]
                · have HT := Lib.hid (show bs ++ (six c).take 2 = (bs ++ (six c).take 1) ++ [z / 16 % 2] by rw [HS.out]; simp)
                  go_wp2_with (first | (go_at_call 210; refine (C.out _).mono ?_; rintro e w' ⟨rfl, rfl⟩) | (at_builtin; refine wpList_append_own _ rfl _ _ 71 rfl wa.heap.size 3 j0 (.int .i64 0) 1 8 Tryz.underlying71 hj hjz0 hjz1 hjz2 rfl Bytes.one_pos _ _ _ rfl (hown3.alloc _) ⟨wr3.heap.size, 0, none⟩ 1 1 [_] rfl rfl (World.news_of_block (cs := #[_]) (t := 3) (fr := (0, 0)) (heap_alloc_new wr3 _)) (by simp [Value.oneCell']) hA hB (Bytes.base_ok' hz3 _) ?_; intro v' w1 hown' hgrow _))
                  go_roundw
                  case rel => exact ⟨2, by omega, by go_num, by rw [HT.out]; exact laidI (by omega) hown', IHas.below hown0.out hb3 hz3 _ hgrow⟩
                  case measure => simp [intOf]
                · have HT := Lib.hid (show bs ++ (six c).take 3 = (bs ++ (six c).take 2) ++ [z / 8 % 2] by rw [HS.out]; simp)
                  go_wp2_with (first | (go_at_call 210; refine (C.out _).mono ?_; rintro e w' ⟨rfl, rfl⟩) | (at_builtin; refine wpList_append_own _ rfl _ _ 71 rfl wa.heap.size 3 j0 (.int .i64 0) 1 8 Tryz.underlying71 hj hjz0 hjz1 hjz2 rfl Bytes.one_pos _ _ _ rfl (hown3.alloc _) ⟨wr3.heap.size, 0, none⟩ 1 1 [_] rfl rfl (World.news_of_block (cs := #[_]) (t := 3) (fr := (0, 0)) (heap_alloc_new wr3 _)) (by simp [Value.oneCell']) hA hB (Bytes.base_ok' hz3 _) ?_; intro v' w1 hown' hgrow _))
                  go_roundw
                  case rel => exact ⟨3, by omega, by go_num, by rw [HT.out]; exact laidI (by omega) hown', IHas.below hown0.out hb3 hz3 _ hgrow⟩
                  case measure => simp [intOf]
                · have HT := Lib.hid (show bs ++ (six c).take 4 = (bs ++ (six c).take 3) ++ [z / 4 % 2] by rw [HS.out]; simp)
                  go_wp2_with (first | (go_at_call 210; refine (C.out _).mono ?_; rintro e w' ⟨rfl, rfl⟩) | (at_builtin; refine wpList_append_own _ rfl _ _ 71 rfl wa.heap.size 3 j0 (.int .i64 0) 1 8 Tryz.underlying71 hj hjz0 hjz1 hjz2 rfl Bytes.one_pos _ _ _ rfl (hown3.alloc _) ⟨wr3.heap.size, 0, none⟩ 1 1 [_] rfl rfl (World.news_of_block (cs := #[_]) (t := 3) (fr := (0, 0)) (heap_alloc_new wr3 _)) (by simp [Value.oneCell']) hA hB (Bytes.base_ok' hz3 _) ?_; intro v' w1 hown' hgrow _))
                  go_roundw
                  case rel => exact ⟨4, by omega, by go_num, by rw [HT.out]; exact laidI (by omega) hown', IHas.below hown0.out hb3 hz3 _ hgrow⟩
                  case measure => simp [intOf]
                · have HT := Lib.hid (show bs ++ (six c).take 5 = (bs ++ (six c).take 4) ++ [z / 2 % 2] by rw [HS.out]; simp)
                  go_wp2_with (first | (go_at_call 210; refine (C.out _).mono ?_; rintro e w' ⟨rfl, rfl⟩) | (at_builtin; refine wpList_append_own _ rfl _ _ 71 rfl wa.heap.size 3 j0 (.int .i64 0) 1 8 Tryz.underlying71 hj hjz0 hjz1 hjz2 rfl Bytes.one_pos _ _ _ rfl (hown3.alloc _) ⟨wr3.heap.size, 0, none⟩ 1 1 [_] rfl rfl (World.news_of_block (cs := #[_]) (t := 3) (fr := (0, 0)) (heap_alloc_new wr3 _)) (by simp [Value.oneCell']) hA hB (Bytes.base_ok' hz3 _) ?_; intro v' w1 hown' hgrow _))
                  go_roundw
                  case rel => exact ⟨5, by omega, by go_num, by rw [HT.out]; exact laidI (by omega) hown', IHas.below hown0.out hb3 hz3 _ hgrow⟩
                  case measure => simp [intOf]
                · have HT := Lib.hid (show bs ++ (six c).take 6 = (bs ++ (six c).take 5) ++ [z % 2] by rw [HS.out]; simp)
                  go_wp2_with (first | (go_at_call 210; refine (C.out _).mono ?_; rintro e w' ⟨rfl, rfl⟩) | (at_builtin; refine wpList_append_own _ rfl _ _ 71 rfl wa.heap.size 3 j0 (.int .i64 0) 1 8 Tryz.underlying71 hj hjz0 hjz1 hjz2 rfl Bytes.one_pos _ _ _ rfl (hown3.alloc _) ⟨wr3.heap.size, 0, none⟩ 1 1 [_] rfl rfl (World.news_of_block (cs := #[_]) (t := 3) (fr := (0, 0)) (heap_alloc_new wr3 _)) (by simp [Value.oneCell']) hA hB (Bytes.base_ok' hz3 _) ?_; intro v' w1 hown' hgrow _))
                  go_roundw
                  case rel => exact ⟨6, by omega, by go_num, by rw [HT.out]; exact laidI (by omega) hown', IHas.below hown0.out hb3 hz3 _ hgrow⟩
                  case measure => simp [intOf]
                · go_wp2_with fail
                  go_roundw
                  case rel => exact ⟨i + 1, _, by omega, by go_num, Lib.hid (by rw [← HD2.out, HS.out]; rfl), by rw [List.length_append, HS.out]; simp; omega, hown0.out, hb3⟩
                  case measure => simp [intOf]; omega
            · have hbd := bits_stop hci hpc
              obtain rfl : bs = bitsOf l := by rw [← hbs.out, hbd, List.append_nil]
              rw [hpc] at hx
              have hx2 : (c.toNat : Int) = 61 := beq_iff_eq.1 hx
              have hx3 : ((c.toNat : Int) != 61) = false := by simp [hx2]
              obtain ⟨bs, hbe⟩ : ∃ bs, bitsOf l = bs := ⟨_, rfl⟩
              have HD2 := HD
              have HB2 := HB1
              have HBL := Lib.hid (show bs.length ≤ 6 * l.length by rw [← hbe]; exact HLEN.out)
              rw [hbe] at hown2 HD2 HB2
              clear hci hbd hpc hbs hbl hbe
              have hbL : bs.length ≤ 6291456 := by have := HBL.out; omega
              obtain ⟨ba, bc, rfl⟩ := ihas_shape hown2
              go_wp2_with fail
              go_loopw [11, 12] (fun bv iv wr4 => ∃ (i : Nat) (out : List UInt8), i ≤ bs.length ∧ iv = .int .i64 (i : Int) ∧ Hid (out ++ by8 (bs.drop i) = by8 bs) ∧ Hid (rest8 (bs.drop i) = rest8 bs) ∧ out.length ≤ i ∧ Bytes.Has wr4 wr2.heap.size bv out ∧ Below wr2.heap.size wr2 wr4) (fun _ iv _ => bs.length - (intOf iv).toNat)
              case atStart => exact ⟨0, [], Nat.zero_le _, rfl, Lib.hid (by simp), Lib.hid (by simp), by simp, Bytes.Has.nil _ _, Below.refl _ _⟩
              case round =>
                obtain ⟨wr4, rfl⟩ : ∃ W, W = wr := ⟨_, rfl⟩
                obtain ⟨i, out, hi4, rfl, ho, hr8, hol, hown4, hb4⟩ := hrel
                have hz := hb4.size
                have hrow4 : IHas wr4 wa.heap.size (.slice ba bs.length bc) bs := row_stays hown2 rfl hb4
                by_cases h8 : i + 8 ≤ bs.length
                · have hgo : (i : Int) + 8 ≤ (bs.length : Int) := by omega
                  go_wp2_with fail
                  go_loop [13, 14] (fun nv jv => ∃ j : Nat, j ≤ 8 ∧ jv = .int .i64 (j : Int) ∧ nv = .int .i64 (val ((bs.drop i).take j) : Int)) (fun _ jv => 8 - (intOf jv).toNat)
                  case atStart => exact ⟨0, by omega, rfl, rfl⟩
                  case round =>
                    obtain ⟨j, hj8, rfl, rfl⟩ := hrel
                    by_cases hjl : j < 8
                    · obtain ⟨b, hbb⟩ : ∃ b, bs[i + j]? = some b := ⟨_, List.getElem?_eq_getElem (by omega)⟩
                      obtain ⟨gg, cc, hv, hcell⟩ := int_cell hrow4 hbb
                      cases hv
                      have hbm : b ≤ 1 := HB2.out b (List.mem_of_getElem? hbb)
                      have hdl : (bs.drop i).length = bs.length - i := List.length_drop
                      have hvl := val_lt (bs.drop i) (fun b hb => HB2.out b (List.mem_of_mem_drop hb)) j (by omega)
                      have hp8 : 2 ^ j ≤ 2 ^ 7 := Nat.pow_le_pow_right (by decide) (by omega)
                      have hvs := Lib.hid (show val ((bs.drop i).take (j + 1)) = 2 * val ((bs.drop i).take j) + b by
                        rw [List.take_succ_eq_append_getElem (by omega), val_snoc, List.getElem_drop, (List.getElem?_eq_some_iff.1 hbb).2])
                      have hvv : val ((bs.drop i).take j) < 128 := by omega
                      have hij : ((i : Int) + (j : Int)).toNat = i + j := by omega
                      have hij2 : (i : Int) + (j : Int) < (bs.length : Int) := by omega
                      clear hbb hvl hp8
                      generalize val ((bs.drop i).take j) = n at *
                      go_wp2_with fail
                      go_round
                      case rel => exact ⟨j + 1, by omega, by go_num, by rw [hvs.out]; go_num⟩
                      case measure => simp [intOf]; omega
                    · obtain rfl : j = 8 := by omega
                      have hdl : (bs.drop i).length = bs.length - i := List.length_drop
                      have hvl := val_lt (bs.drop i) (fun b hb => HB2.out b (List.mem_of_mem_drop hb)) 8 (by omega)
                      have hby := by8_yes (l := bs.drop i) (by omega)
                      have hre := rest8_yes (l := bs.drop i) (by omega)
                      rw [List.drop_drop] at hby hre
                      obtain ⟨n, hn⟩ : ∃ n, val ((bs.drop i).take 8) = n := ⟨_, rfl⟩
                      rw [hn] at hvl hby
                      rw [hn]
                      obtain ⟨c, hc⟩ : ∃ c, UInt8.ofNat n = c := ⟨_, rfl⟩
                      have hcn : c.toNat = n := by rw [← hc]; exact UInt8.toNat_ofNat_of_lt' (by show n < 256; omega)
                      rw [hc] at hby
                      have HO := Lib.hid (show (out ++ [c]) ++ by8 (bs.drop (i + 8)) = by8 bs by rw [← ho.out, hby]; simp)
                      have HR := Lib.hid (show rest8 (bs.drop (i + 8)) = rest8 bs by rw [← hr8.out, hre])
                      have hA : out.length + 1 ≤ maxLen := by unfold maxLen; have := HBL.out; omega
                      have hB : (out.length + 1) * 1 ≤ 140737488355328 := by have := HBL.out; omega
                      have hown0 := Lib.hid hown4
                      have hn256 : n < 256 := by omega
                      clear hn hc hby hre hvl hdl
                      subst hcn
                      go_wp2_with (at_builtin; refine wpList_append_own _ rfl _ _ 103 rfl wr2.heap.size 5 i0 (.int .u8 0) 1 1 Tryz.underlying103 hi hz0 hz1 hz2 rfl Bytes.one_pos _ _ _ rfl (hown4.alloc _) ⟨wr4.heap.size, 0, none⟩ 1 1 [.int .u8 c.toNat] rfl rfl (World.news_of_block (cs := #[.int .u8 c.toNat]) (t := 5) (fr := (0, 0)) (heap_alloc_new wr4 _)) (by simp [Value.oneCell']) hA hB (Bytes.base_ok' hz _) ?_; intro v' w1 hown' hgrow _)
                      go_roundw
                      case rel => exact ⟨i + 8, out ++ [c], by omega, by go_num, HO, HR, by rw [List.length_append]; show out.length + 1 ≤ i + 8; omega, Bytes.Has.laid1 hown', Bytes.Has.below hown0.out hb4 hz _ hgrow⟩
                      case measure => simp [intOf]; omega
                · have hgo : ¬ (i : Int) + 8 ≤ (bs.length : Int) := by omega
                  have HBY := Lib.hid (show out = by8 bs by rw [← ho.out, by8_no (l := bs.drop i) (by rw [List.length_drop]; omega), List.append_nil])
                  have HRE := Lib.hid (show bs.drop i = rest8 bs by rw [← hr8.out, rest8_no (l := bs.drop i) (by rw [List.length_drop]; omega)])
                  have tV := Bytes.Has.text hown4
                  rw [HBY.out] at tV
                  have HT := Lib.hid tV
                  clear tV hown4 ho hr8
                  go_wp2_with fail
                  go_loop [12] (fun iv => ∃ m : Nat, m ≤ bs.length ∧ iv = .int .i64 (m : Int) ∧ Hid ((bs.drop m).any (fun b => b != 0) = (rest8 bs).any (fun b => b != 0))) (fun iv => bs.length - (intOf iv).toNat)
                  case atStart => exact ⟨i, hi4, rfl, Lib.hid (by rw [HRE.out])⟩
                  case round =>
                    obtain ⟨m, hml, rfl, hma⟩ := hrel
                    by_cases hmm : m < bs.length
                    · obtain ⟨b, hbb⟩ : ∃ b, bs[m]? = some b := ⟨_, List.getElem?_eq_getElem hmm⟩
                      have hda : (bs.drop m).any (fun b => b != 0) = (b != 0 || (bs.drop (m + 1)).any (fun b => b != 0)) := by
                        rw [List.drop_eq_getElem_cons hmm, (List.getElem?_eq_some_iff.1 hbb).2, List.any_cons]
                      obtain ⟨gg, cc, hv, hcell⟩ := int_cell hrow4 hbb
                      cases hv
                      by_cases hb0 : b = 0
                      · subst hb0
                        have HM := Lib.hid (show (bs.drop (m + 1)).any (fun b => b != 0) = (rest8 bs).any (fun b => b != 0) by rw [← hma.out, hda]; simp)
                        clear hda hbb hma
                        go_wp2_with fail
                        go_round
                        case rel => exact ⟨m + 1, by omega, by go_num, HM⟩
                        case measure => simp [intOf]; omega
                      · have HE := Lib.hid (show dec s.data.toList = ([], 3) by rw [HD2.out, if_pos]; rw [← hma.out, hda]; simp [hb0])
                        have hbi : ¬ (b : Int) = 0 := by omega
                        clear hda hbb hma hb0
                        go_wp2_with fail
                        go_ret2
                        exact ⟨by rw [HE.out]; rfl, hbel.trans ((hb2.mono hbel.size).trans (hb4.mono (Nat.le_trans hbel.size hb2.size)))⟩
                    · have HE := Lib.hid (show dec s.data.toList = (by8 bs, 0) by
                        rw [HD2.out, if_neg]; rw [← hma.out, List.drop_eq_nil_of_le (by omega)]; simp)
                      have tV := HT.out
                      clear hma
                      go_wp2_with fail
                      go_ret2
                      exact ⟨by rw [HE.out]; rfl, hbel.trans ((hb2.mono hbel.size).trans (hb4.mono (Nat.le_trans hbel.size hb2.size)))⟩
          · obtain rfl : i = l.length := by omega
            obtain rfl : bs = bitsOf l := by rw [← hbs.out, List.drop_eq_nil_of_le (Nat.le_refl _)]; simp [bitsOf]
            obtain ⟨bs, hbe⟩ : ∃ bs, bitsOf l = bs := ⟨_, rfl⟩
            have HD2 := HD
            have HB2 := HB1
            have HBL := Lib.hid (show bs.length ≤ 6 * l.length by rw [← hbe]; exact HLEN.out)
            rw [hbe] at hown2 HD2 HB2
            clear hbs hbl hbe
            have hbL : bs.length ≤ 6291456 := by have := HBL.out; omega
            obtain ⟨ba, bc, rfl⟩ := ihas_shape hown2
            go_wp2_with fail
            go_loopw [11, 12] (fun bv iv wr4 => ∃ (i : Nat) (out : List UInt8), i ≤ bs.length ∧ iv = .int .i64 (i : Int) ∧ Hid (out ++ by8 (bs.drop i) = by8 bs) ∧ Hid (rest8 (bs.drop i) = rest8 bs) ∧ out.length ≤ i ∧ Bytes.Has wr4 wr2.heap.size bv out ∧ Below wr2.heap.size wr2 wr4) (fun _ iv _ => bs.length - (intOf iv).toNat)
            case atStart => exact ⟨0, [], Nat.zero_le _, rfl, Lib.hid (by simp), Lib.hid (by simp), by simp, Bytes.Has.nil _ _, Below.refl _ _⟩
            case round =>
              obtain ⟨wr4, rfl⟩ : ∃ W, W = wr := ⟨_, rfl⟩
              obtain ⟨i, out, hi4, rfl, ho, hr8, hol, hown4, hb4⟩ := hrel
              have hz := hb4.size
              have hrow4 : IHas wr4 wa.heap.size (.slice ba bs.length bc) bs := row_stays hown2 rfl hb4
              by_cases h8 : i + 8 ≤ bs.length
              · have hgo : (i : Int) + 8 ≤ (bs.length : Int) := by omega
                go_wp2_with fail
                go_loop [13, 14] (fun nv jv => ∃ j : Nat, j ≤ 8 ∧ jv = .int .i64 (j : Int) ∧ nv = .int .i64 (val ((bs.drop i).take j) : Int)) (fun _ jv => 8 - (intOf jv).toNat)
                case atStart => exact ⟨0, by omega, rfl, rfl⟩
                case round =>
                  obtain ⟨j, hj8, rfl, rfl⟩ := hrel
                  by_cases hjl : j < 8
                  · obtain ⟨b, hbb⟩ : ∃ b, bs[i + j]? = some b := ⟨_, List.getElem?_eq_getElem (by omega)⟩
                    obtain ⟨gg, cc, hv, hcell⟩ := int_cell hrow4 hbb
                    cases hv
                    have hbm : b ≤ 1 := HB2.out b (List.mem_of_getElem? hbb)
                    have hdl : (bs.drop i).length = bs.length - i := List.length_drop
                    have hvl := val_lt (bs.drop i) (fun b hb => HB2.out b (List.mem_of_mem_drop hb)) j (by omega)
                    have hp8 : 2 ^ j ≤ 2 ^ 7 := Nat.pow_le_pow_right (by decide) (by omega)
                    have hvs := Lib.hid (show val ((bs.drop i).take (j + 1)) = 2 * val ((bs.drop i).take j) + b by
                      rw [List.take_succ_eq_append_getElem (by omega), val_snoc, List.getElem_drop, (List.getElem?_eq_some_iff.1 hbb).2])
                    have hvv : val ((bs.drop i).take j) < 128 := by omega
                    have hij : ((i : Int) + (j : Int)).toNat = i + j := by omega
                    have hij2 : (i : Int) + (j : Int) < (bs.length : Int) := by omega
                    clear hbb hvl hp8
                    generalize val ((bs.drop i).take j) = n at *
                    go_wp2_with fail
                    go_round
                    case rel => exact ⟨j + 1, by omega, by go_num, by rw [hvs.out]; go_num⟩
                    case measure => simp [intOf]; omega
                  · obtain rfl : j = 8 := by omega
                    have hdl : (bs.drop i).length = bs.length - i := List.length_drop
                    have hvl := val_lt (bs.drop i) (fun b hb => HB2.out b (List.mem_of_mem_drop hb)) 8 (by omega)
                    have hby := by8_yes (l := bs.drop i) (by omega)
                    have hre := rest8_yes (l := bs.drop i) (by omega)
                    rw [List.drop_drop] at hby hre
                    obtain ⟨n, hn⟩ : ∃ n, val ((bs.drop i).take 8) = n := ⟨_, rfl⟩
                    rw [hn] at hvl hby
                    rw [hn]
                    obtain ⟨c, hc⟩ : ∃ c, UInt8.ofNat n = c := ⟨_, rfl⟩
                    have hcn : c.toNat = n := by rw [← hc]; exact UInt8.toNat_ofNat_of_lt' (by show n < 256; omega)
                    rw [hc] at hby
                    have HO := Lib.hid (show (out ++ [c]) ++ by8 (bs.drop (i + 8)) = by8 bs by rw [← ho.out, hby]; simp)
                    have HR := Lib.hid (show rest8 (bs.drop (i + 8)) = rest8 bs by rw [← hr8.out, hre])
                    have hA : out.length + 1 ≤ maxLen := by unfold maxLen; have := HBL.out; omega
                    have hB : (out.length + 1) * 1 ≤ 140737488355328 := by have := HBL.out; omega
                    have hown0 := Lib.hid hown4
                    have hn256 : n < 256 := by omega
                    clear hn hc hby hre hvl hdl
                    subst hcn
                    go_wp2_with (at_builtin; refine wpList_append_own _ rfl _ _ 103 rfl wr2.heap.size 5 i0 (.int .u8 0) 1 1 Tryz.underlying103 hi hz0 hz1 hz2 rfl Bytes.one_pos _ _ _ rfl (hown4.alloc _) ⟨wr4.heap.size, 0, none⟩ 1 1 [.int .u8 c.toNat] rfl rfl (World.news_of_block (cs := #[.int .u8 c.toNat]) (t := 5) (fr := (0, 0)) (heap_alloc_new wr4 _)) (by simp [Value.oneCell']) hA hB (Bytes.base_ok' hz _) ?_; intro v' w1 hown' hgrow _)
                    go_roundw
                    case rel => exact ⟨i + 8, out ++ [c], by omega, by go_num, HO, HR, by rw [List.length_append]; show out.length + 1 ≤ i + 8; omega, Bytes.Has.laid1 hown', Bytes.Has.below hown0.out hb4 hz _ hgrow⟩
                    case measure => simp [intOf]; omega
              · have hgo : ¬ (i : Int) + 8 ≤ (bs.length : Int) := by omega
                have HBY := Lib.hid (show out = by8 bs by rw [← ho.out, by8_no (l := bs.drop i) (by rw [List.length_drop]; omega), List.append_nil])
                have HRE := Lib.hid (show bs.drop i = rest8 bs by rw [← hr8.out, rest8_no (l := bs.drop i) (by rw [List.length_drop]; omega)])
                have tV := Bytes.Has.text hown4
                rw [HBY.out] at tV
                have HT := Lib.hid tV
                clear tV hown4 ho hr8
                go_wp2_with fail
                go_loop [12] (fun iv => ∃ m : Nat, m ≤ bs.length ∧ iv = .int .i64 (m : Int) ∧ Hid ((bs.drop m).any (fun b => b != 0) = (rest8 bs).any (fun b => b != 0))) (fun iv => bs.length - (intOf iv).toNat)
                case atStart => exact ⟨i, hi4, rfl, Lib.hid (by rw [HRE.out])⟩
                case round =>
                  obtain ⟨m, hml, rfl, hma⟩ := hrel
                  by_cases hmm : m < bs.length
                  · obtain ⟨b, hbb⟩ : ∃ b, bs[m]? = some b := ⟨_, List.getElem?_eq_getElem hmm⟩
                    have hda : (bs.drop m).any (fun b => b != 0) = (b != 0 || (bs.drop (m + 1)).any (fun b => b != 0)) := by
                      rw [List.drop_eq_getElem_cons hmm, (List.getElem?_eq_some_iff.1 hbb).2, List.any_cons]
                    obtain ⟨gg, cc, hv, hcell⟩ := int_cell hrow4 hbb
                    cases hv
                    by_cases hb0 : b = 0
                    · subst hb0
                      have HM := Lib.hid (show (bs.drop (m + 1)).any (fun b => b != 0) = (rest8 bs).any (fun b => b != 0) by rw [← hma.out, hda]; simp)
                      clear hda hbb hma
                      go_wp2_with fail
                      go_round
                      case rel => exact ⟨m + 1, by omega, by go_num, HM⟩
                      case measure => simp [intOf]; omega
                    · have HE := Lib.hid (show dec s.data.toList = ([], 3) by rw [HD2.out, if_pos]; rw [← hma.out, hda]; simp [hb0])
                      have hbi : ¬ (b : Int) = 0 := by omega
                      clear hda hbb hma hb0
                      go_wp2_with fail
                      go_ret2
                      exact ⟨by rw [HE.out]; rfl, hbel.trans ((hb2.mono hbel.size).trans (hb4.mono (Nat.le_trans hbel.size hb2.size)))⟩
                  · have HE := Lib.hid (show dec s.data.toList = (by8 bs, 0) by
                      rw [HD2.out, if_neg]; rw [← hma.out, List.drop_eq_nil_of_le (by omega)]; simp)
                    have tV := HT.out
                    clear hma
                    go_wp2_with fail
                    go_ret2
                    exact ⟨by rw [HE.out]; rfl, hbel.trans ((hb2.mono hbel.size).trans (hb4.mono (Nat.le_trans hbel.size hb2.size)))⟩
      · have HD := Lib.hid (dec_short hf hdn hm)
        obtain ⟨r, hr⟩ : ∃ r : Int, (l.length : Int) % 4 = r := ⟨_, rfl⟩
        have hr0 : ¬ r = 0 := by omega
        have hr1 : 0 ≤ r := by omega
        clear hm hls hdn hl hf hsh
        go_wp2_with fail
        go_ret2
        exact ⟨by rw [HD.out]; rfl, hbel⟩
end Go.Proofs.YtjgfbicllgalkaaGreatDoor.Sx
