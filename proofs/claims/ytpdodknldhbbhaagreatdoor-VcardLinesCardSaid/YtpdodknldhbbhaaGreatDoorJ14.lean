/-
sixbit.Lines is an iterator of a text's pieces: all of them in order, or a beginning of them where a round says no more. Conditions: the width is an int; the text has at most 2^47 bytes.
-/
import Derived.Test.YtpdodknldhbbhaaGreatDoorRows
import Derived.Test.YtpdodknldhbbhaaGreatDoorJ03
import Derived.RangeFuncNested
import Derived.RangeFuncBound
import Derived.RangeFuncCalls
import Derived.RangeFuncLeaves
import Derived.RangeFuncBox
import Derived.Shelf.Abstract
import Derived.Shelf.RegionOpen
import Derived.WalkKit
import Derived.OwnWalkIn
import Derived.TacticsInMore
import Derived.LoopNIn
import Derived.LoopIn
import Derived.OpenShut
import Derived.Laws.DeepStrings4
namespace Go.Proofs.YtpdodknldhbbhaaGreatDoor.Sx
open Go.RowKit Go.Shelf
attribute [local go_sem] Oper.semAt_some

/-- The two boxes that an iterator of pieces reads: the text and the width. -/
def Two (W : World) (B : Nat) (s : ByteArray) (n : Int) : Prop := Boxed W B 9 (.string s) ∧ Boxed W (B + 1) 3 (.int .i64 n)
theorem Two.alloc {W : World} {B : Nat} {s : ByteArray} {n : Int} (h : Two W B s n) (o : Obj) : Two (W.alloc o) B s n := ⟨h.1.alloc o, h.2.alloc o⟩
theorem Two.below {W W' : World} {B b : Nat} {s : ByteArray} {n : Int} (h : Two W B s n) (hb : Below b W W') (hB : B + 1 < b) : Two W' B s n := ⟨(hb.block B (by omega)).trans h.1, (hb.block (B + 1) hB).trans h.2⟩
def KeepsTwo (B : Nat) (s : ByteArray) (n : Int) (W W' : World) : Prop := Two W B s n → Two W' B s n
theorem KeepsTwo.t {B : Nat} {s : ByteArray} {n : Int} {A C D : World} (h : KeepsTwo B s n A C) (k : KeepsTwo B s n C D) : KeepsTwo B s n A D := fun hh => k (h hh)
theorem KeepsTwo.b {B : Nat} {s : ByteArray} {n : Int} (W : World) (l : Nat) (o o' : Obj) (hl : W.heap[l]? = some o) (hc : o.isCells = false) : KeepsTwo B s n W (W.putObj l o') := fun hh => by
  have hne : ∀ {D : Nat} {t : TypeId} {v : Value}, Boxed W D t v → D ≠ l := by
    rintro D t v hb rfl; unfold Boxed at hb; rw [hl] at hb; cases hb; simp [Obj.isCells] at hc
  exact ⟨(World.putObj_heap_other (hne hh.1)).trans hh.1, (World.putObj_heap_other (hne hh.2)).trans hh.2⟩

theorem lines_any (s : ByteArray) (n : Int) (w : World) :
    Calls Tryz.prog 110 #[.string s, .int .i64 n] w fun e w' => e = .returned (.func (.func 149) #[] #[.pointer (some ⟨w.heap.size, 0, none⟩), .pointer (some ⟨w.heap.size + 1, 0, none⟩)]) ∧ w' = (w.alloc (.cells #[.string s] 9)).alloc (.cells #[.int .i64 n] 3) := by
  go_enter Tryz.func110, Tryz.ntmps110
  go_wp2
  go_ret
  exact ⟨rfl, rfl⟩
theorem lines_two (s : ByteArray) (n : Int) (w : World) : Two ((w.alloc (.cells #[.string s] 9)).alloc (.cells #[.int .i64 n] 3)) w.heap.size s n :=
  ⟨(Boxed.new w _ _).alloc _, by have := Boxed.new (w.alloc (.cells #[.string s] 9)) 3 (.int .i64 n); rwa [World.size_alloc] at this⟩

theorem cut_go {k q : Nat} {t : ByteArray} {pre r : List (List UInt8)} (hk : 0 < k) (h0 : 0 < t.size) (hq : q = min k t.size) (h : pre ++ cut k t.data.toList = r) :
    (pre ++ [t.data.toList.take q]) ++ cut k (t.extract q t.size).data.toList = r := by
  have hl := list_size t
  rw [← h, ext_from, cut_step (l := t.data.toList) hk (by omega), List.append_assoc]
  by_cases e : k ≤ t.size
  · rw [show q = k by omega]; rfl
  · rw [show q = t.size by omega, ← hl, List.take_length, List.take_of_length_le (by omega), List.drop_length, List.drop_eq_nil_of_le (by omega)]; rfl
theorem ext_all (s : ByteArray) : s.extract 0 s.size = s := by apply ByteArray.ext; rw [ByteArray.data_extract]; exact Array.extract_size
theorem ext_none (s : ByteArray) : s.extract s.size s.size = ByteArray.empty := by apply ByteArray.ext; rw [ByteArray.data_extract]; simp
theorem wid_cases {n : Int} {k q z : Nat} (hk : max n 1 = (k : Int)) (hq : q = min k z) (hz : 0 < z) : (n < 1 ∧ q = 1) ∨ (n = (q : Int) ∧ 1 ≤ q ∧ q ≤ z) ∨ (((z : Int) < n) ∧ q = z) := by omega

set_option maxRecDepth 100000 in
set_option maxHeartbeats 1000000 in
theorem lines1_in (d : Nat) (hd : 1 ≤ d) (l B : Nat) (s : ByteArray) (n : Int) (Kp : World → World → Prop) (hKp : ∀ W W', Kp W W' → Two W B s n → Two W' B s n) (J Jx : List (List UInt8) → World → Prop)
    (hY : ∀ pre (x : List UInt8) W, J pre W → pre ++ [x] <+: cut (wid n) s.data.toList → YieldAt Fence.wide (d - 1) Tryz.prog l #[.string ⟨x.toArray⟩] W fun e W' =>
      (e = .returned (.bool true) ∧ J (pre ++ [x]) W' ∧ Kp W W') ∨ (e = .returned (.bool false) ∧ Jx (pre ++ [x]) W'))
    (W : World) (hB : Two W B s n) (hs : s.size ≤ 140737488355328) (hJ0 : J [] W) :
    CallsIn Fence.wide d Tryz.prog 149 #[.func (.yield l) #[] #[], .pointer (some ⟨B, 0, none⟩), .pointer (some ⟨B + 1, 0, none⟩)] W fun e W' => (∃ v, e = .returned v) ∧
      ((∃ ys, ys = cut (wid n) s.data.toList ∧ J ys W') ∨ (∃ pre, pre <+: cut (wid n) s.data.toList ∧ Jx pre W')) := by
  have HY := Lib.hid hY
  have HK := Lib.hid hKp
  clear hY hKp
  have hc := hB.1.cell
  have hmax := wid_max n
  have hk := wid_pos n
  generalize wid n = k at HY hmax hk
  refine callsIn_of_wp Tryz.func149 rfl trivial ?_ rfl
  simp only [Tryz.ntmps149, List.size_toArray, List.length_cons, List.length_nil, Nat.reduceAdd, Nat.reduceSub, Array.replicate_succ, Array.replicate_zero, List.push_toArray, List.append_toArray, List.nil_append, List.cons_append]
  gi_wp2_with fail
  clear hc
  gi_loopw [4] (fun u wr => ∃ (t : ByteArray) (pre : List (List UInt8)), u = .string t ∧ Hid (pre ++ cut k t.data.toList = cut k s.data.toList) ∧ t.size ≤ s.size ∧ Two wr B s n ∧ J pre wr) (fun u _ => match u with | .string t => t.size | _ => 0)
  case atStart => exact ⟨s, [], rfl, rfl, Nat.le_refl _, hB, hJ0⟩
  case round =>
    obtain ⟨t, pre, rfl, hp, hts, hB, hJ⟩ := hrel
    by_cases h0 : 0 < t.size
    · have hc2 := hB.2.cell
      obtain ⟨q, hq⟩ : ∃ q, q = min k t.size := ⟨_, rfl⟩
      have HP := Lib.hid (cut_go hk h0 hq hp.out)
      obtain ⟨fn, tmps, assign, body, hy, hR⟩ := HY.out pre (t.data.toList.take q) wr hJ ⟨_, HP.out⟩
      rw [← ext_to] at hy
      have hsz : (t.extract q t.size).size = t.size - q := by rw [ByteArray.size_extract]; omega
      have HSZ := Lib.hid hsz
      have hq1 : 1 ≤ q := by omega
      have hqc := wid_cases hmax hq h0
      have HM := Lib.hid hmax
      have hsne : (!t.toList.isEmpty) = true := by rw [ByteArray.toList_eq]; cases e : t.data.toList with | nil => have := list_size t; rw [e] at this; simp at this; omega | cons a r => rfl
      clear hsz hq hmax
      rcases hqc with ⟨hn, rfl⟩ | ⟨rfl, hn, hn2⟩ | ⟨hn, rfl⟩
      all_goals
        try rw [ext_all] at hy
        try rw [ext_none] at HP HSZ
        gi_wp2_with fail
        refine hR.mono ?_
        rintro e W3 (⟨rfl, hJ3, hk3⟩ | ⟨rfl, hJx3⟩)
        · clear hy hR hc2
          gi_wp2_with fail
          go_roundw
          case rel => exact ⟨_, _, rfl, HP, by have h := HSZ.out; omega, HK.out _ _ hk3 hB, hJ3⟩
          case measure => first | (show (t.extract _ t.size).size < t.size; rw [HSZ.out]; omega) | (show ByteArray.empty.size < t.size; rw [HSZ.out]; omega)
        · gi_wp2_with fail
          refine bodyPost_ret (results_none rfl _ _ _) rfl ?_
          exact ⟨⟨_, rfl⟩, .inr ⟨_, ⟨_, HP.out⟩, hJx3⟩⟩
    · have hsne : (!t.toList.isEmpty) = false := by rw [ByteArray.toList_eq, List.eq_nil_of_length_eq_zero (l := t.data.toList) (by rw [list_size]; omega)]; rfl
      have hE := Lib.hid (show pre = cut k s.data.toList by rw [← hp.out, List.eq_nil_of_length_eq_zero (l := t.data.toList) (by rw [list_size]; omega), cut_nil, List.append_nil])
      clear hmax
      gi_wp2_with fail
      go_end0
      exact ⟨⟨_, rfl⟩, .inl ⟨pre, hE.out, hJ⟩⟩

/-- .. where a round would know that it is handed a piece. -/
theorem lines_stops_mem (d : Nat) (hd : 1 ≤ d) (B : Nat) (s : ByteArray) (n : Int) (hs : s.size ≤ 140737488355328) (Kp : World → World → Prop) (hKp : ∀ W W', Kp W W' → Two W B s n → Two W' B s n) (w : World) (hB : Two w B s n) :
    SeqStopsK Fence.wide d Tryz.prog 149 #[.pointer (some ⟨B, 0, none⟩), .pointer (some ⟨B + 1, 0, none⟩)] (fun x : { x : List UInt8 // x ∈ cut (wid n) s.data.toList } => #[Value.string ⟨x.1.toArray⟩]) Kp (fun ys => ys.map (·.1) = cut (wid n) s.data.toList) (fun pre => pre.map (·.1) <+: cut (wid n) s.data.toList) (cut (wid n) s.data.toList).length w :=
  fun l J Jx W hW _ _ hY hJ0 => (lines1_in d hd l B s n Kp hKp (fun pre W => ∃ p : List { x : List UInt8 // x ∈ cut (wid n) s.data.toList }, p.map (·.1) = pre ∧ J p W) (fun pre W => ∃ p : List { x : List UInt8 // x ∈ cut (wid n) s.data.toList }, p.map (·.1) = pre ∧ Jx p W)
    (fun pre x W ⟨p, hp, hJ⟩ hpre => (hY p ⟨x, hpre.subset (by simp)⟩ W hJ (by have := hpre.length_le; rw [List.length_append, ← hp, List.length_map] at this; simp at this; omega)).mono fun e W' h => by
      rcases h with ⟨h1, h2, h3⟩ | ⟨h1, h2⟩
      · exact .inl ⟨h1, ⟨_, by rw [List.map_append, hp]; rfl, h2⟩, h3⟩
      · exact .inr ⟨h1, ⟨_, by rw [List.map_append, hp]; rfl, h2⟩⟩) W (hB.below hW hB.2.lt) hs ⟨[], rfl, hJ0⟩).mono fun e W' h => by
    obtain ⟨h0, ⟨ys, rfl, p, hp, hJ⟩ | ⟨pre, hpre, p, rfl, hJ⟩⟩ := h
    · exact ⟨h0, .inl ⟨p, hp, hJ⟩⟩
    · exact ⟨h0, .inr ⟨p, hpre, hJ⟩⟩
end Go.Proofs.YtpdodknldhbbhaaGreatDoor.Sx
