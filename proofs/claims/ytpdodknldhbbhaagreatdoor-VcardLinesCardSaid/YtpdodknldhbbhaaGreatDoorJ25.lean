/-
strings.SplitSeq at one byte: what it hands back is an iterator over the pieces of the text; its boxes are made ahead of it. Conditions: the text has at most 2^40 bytes.
-/
import Derived.Test.YtpdodknldhbbhaaGreatDoorJ23
import Derived.Test.YtpdodknldhbbhaaGreatDoorJ01
import Derived.TacticsInMore
import Derived.LoopNIn
import Derived.LoopIn
import Derived.Shelf.RegionOpen
namespace Go.Proofs.YtpdodknldhbbhaaGreatDoor.Pp
open Go.RowKit Sq
attribute [local go_sem] Oper.semAt_some

/-- A text in pieces, parted at a byte. -/
def pcs (c : UInt8) (s : ByteArray) : List ByteArray :=
  if h : s.data.toList.idxOf c < s.size then s.extract 0 (s.data.toList.idxOf c) :: pcs c (s.extract (s.data.toList.idxOf c + 1) s.size) else [s]
termination_by s.size
decreasing_by rw [ByteArray.size_extract]; omega
theorem pcs_yes {c : UInt8} {s : ByteArray} (h : s.data.toList.idxOf c < s.size) : pcs c s = s.extract 0 (s.data.toList.idxOf c) :: pcs c (s.extract (s.data.toList.idxOf c + 1) s.size) := by rw [pcs, dif_pos h]
theorem pcs_no {c : UInt8} {s : ByteArray} (h : ¬ s.data.toList.idxOf c < s.size) : pcs c s = [s] := by rw [pcs, dif_neg h]

theorem splitSeq_any (s : ByteArray) (c : UInt8) (w : World) :
    Calls Tryz.prog 182 #[.string s, .string { data := #[c] }] w fun e w' => e = .returned (.func (.func 198) #[] #[.pointer (some ⟨w.heap.size + 1, 0, none⟩), .pointer (some ⟨w.heap.size, 0, none⟩), .pointer (some ⟨w.heap.size + 2, 0, none⟩)]) ∧ Below w.heap.size w w' ∧ w'.heap.size = w.heap.size + 3 ∧ Boxed w' w.heap.size 9 (.string s) ∧ Boxed w' (w.heap.size + 1) 9 (.string { data := #[c] }) ∧ Boxed w' (w.heap.size + 2) 3 (.int .i64 0) := by
  have C : Calls Tryz.prog 192 #[.string s, .string { data := #[c] }, .int .i64 0] w fun e w' => e = .returned (.func (.func 198) #[] #[.pointer (some ⟨w.heap.size + 1, 0, none⟩), .pointer (some ⟨w.heap.size, 0, none⟩), .pointer (some ⟨w.heap.size + 2, 0, none⟩)]) ∧ w' = ((w.alloc (.cells #[.string s] 9)).alloc (.cells #[.string { data := #[c] }] 9)).alloc (.cells #[.int .i64 0] 3) := by
    go_enter Tryz.func192, Tryz.ntmps192
    go_wp2
    go_ret
    exact ⟨rfl, rfl⟩
  go_enter Tryz.func182, Tryz.ntmps182
  go_wp2_with fail
  refine C.mono ?_
  rintro e w1 ⟨rfl, rfl⟩
  go_wp2_with fail
  go_ret
  have z1 : (w.alloc (.cells #[.string s] 9)).heap.size = w.heap.size + 1 := by rw [World.size_alloc]
  have z2 : ((w.alloc (.cells #[.string s] 9)).alloc (.cells #[.string { data := #[c] }] 9)).heap.size = w.heap.size + 2 := by rw [World.size_alloc, z1]
  have b1 : Below (w.heap.size + 1) (w.alloc (.cells #[.string s] 9)) ((w.alloc (.cells #[.string s] 9)).alloc (.cells #[.string { data := #[c] }] 9)) := (Below.refl _ _).alloc (Nat.le_of_eq z1.symm) _
  have b2 : Below (w.heap.size + 2) ((w.alloc (.cells #[.string s] 9)).alloc (.cells #[.string { data := #[c] }] 9)) (((w.alloc (.cells #[.string s] 9)).alloc (.cells #[.string { data := #[c] }] 9)).alloc (.cells #[.int .i64 0] 3)) := (Below.refl _ _).alloc (Nat.le_of_eq z2.symm) _
  have n1 : Boxed (w.alloc (.cells #[.string s] 9)) w.heap.size 9 (.string s) := World.alloc_heap_new w _
  have n2 : Boxed ((w.alloc (.cells #[.string s] 9)).alloc (.cells #[.string { data := #[c] }] 9)) (w.heap.size + 1) 9 (.string { data := #[c] }) := by rw [← z1]; exact World.alloc_heap_new _ _
  have n3 : Boxed (((w.alloc (.cells #[.string s] 9)).alloc (.cells #[.string { data := #[c] }] 9)).alloc (.cells #[.int .i64 0] 3)) (w.heap.size + 2) 3 (.int .i64 0) := by rw [← z2]; exact World.alloc_heap_new _ _
  exact ⟨rfl, ((Below.refl _ _).alloc (Nat.le_refl _) _).trans ((b1.mono (by omega)).trans (b2.mono (by omega))), by rw [World.size_alloc, z2], (b2.block _ (by omega)).trans ((b1.block _ (by omega)).trans n1), (b2.block _ (by omega)).trans n2, n3⟩

theorem piece_yes {c : UInt8} {t : ByteArray} {pre all : List ByteArray} (h : t.data.toList.idxOf c < t.size) (hp : pre ++ pcs c t = all) :
    (pre ++ [t.extract 0 (t.data.toList.idxOf c)]) ++ pcs c (t.extract (t.data.toList.idxOf c + 1) t.size) = all := by
  rw [← hp, pcs_yes h, List.append_assoc]; rfl
theorem piece_no {c : UInt8} {t : ByteArray} {pre all : List ByteArray} (h : ¬ t.data.toList.idxOf c < t.size) (hp : pre ++ pcs c t = all) : pre ++ [t] = all := by rw [← hp, pcs_no h]
theorem pieces_pre {pre r all : List ByteArray} {x : ByteArray} (h : (pre ++ [x]) ++ r = all) : pre ++ [x] <+: all := ⟨r, h⟩
/-- What a piece is handed on as. -/
def encS (x : ByteArray) : Array Value := #[.string x]
/-- How much of the text is left. -/
def leftOf (b : Nat) (wr : World) : Nat := match wr.cell? ⟨b, 0, none⟩ with | some (.string t) => t.size | _ => 0
theorem leftOf_box {b : Nat} {wr : World} {t : ByteArray} (h : Boxed wr b 9 (.string t)) : leftOf b wr = t.size := by unfold leftOf; rw [h.cell]
theorem eg_split (args : Array Value) (w : World) : (callFunc 198 args).run Tryz.prog w = .ok (.enter 198 args) w := enters_of Tryz.func198 (by kernel_rfl) rfl args w

set_option maxRecDepth 100000 in
set_option maxHeartbeats 2000000 in
theorem splitSeq_so (s : ByteArray) (c : UInt8) (hs : s.size ≤ 1099511627776) (b1 b2 b3 : Nat) (w : World) (h1 : Boxed w b1 9 (.string { data := #[c] })) (h2 : Boxed w b2 9 (.string s)) (h3 : Boxed w b3 3 (.int .i64 0)) (n1 : b1 ≠ b2) (n3 : b3 ≠ b2) :
    So Tryz.prog 198 #[.pointer (some ⟨b1, 0, none⟩), .pointer (some ⟨b2, 0, none⟩), .pointer (some ⟨b3, 0, none⟩)] encS (fun k => k = b1 ∨ k = b3) (fun k => k = b2) (pcs c s) w := by
  intro y J Jx W hy hR hS hJ _ hY hJ0
  have h1 := hR.boxed (show b1 = b1 ∨ b1 = b3 from .inl rfl) h1
  have h3 := hR.boxed (show b3 = b1 ∨ b3 = b3 from .inr rfl) h3
  have h2 := hS.boxed (show b2 = b2 from rfl) h2
  have HY := Lib.hid hY
  have HJ := Lib.hid hJ
  have hbW := h2.lt
  obtain ⟨all, hall⟩ : ∃ all, pcs c s = all := ⟨_, rfl⟩
  rw [hall] at HY ⊢
  clear hY hJ hR hS
  refine (callsIn_wide (n := 5)).1 ?_
  refine callsIn_of_wp Tryz.func198 rfl trivial ?_ rfl
  simp only [Tryz.ntmps198, List.size_toArray, List.length_cons, List.length_nil, Nat.reduceAdd, Nat.reduceSub, Array.replicate_succ, Array.replicate_zero, List.push_toArray, List.append_toArray, List.nil_append, List.cons_append]
  have hc1 := h1.cell
  have HI := Lib.hid (idx_of c)
  rcases hy with ⟨l, rfl⟩ | ⟨g, ca, rfl, eg⟩
  all_goals
    gi_wp2_with fail
    clear hc1
    gi_loopw [7, 8] (fun _ _ wr => ∃ (t : ByteArray) (pre : List ByteArray), Hid (pre ++ pcs c t = all) ∧ t.size ≤ 1099511627776 ∧ Boxed wr b1 9 (.string { data := #[c] }) ∧ Boxed wr b2 9 (.string t) ∧ Boxed wr b3 3 (.int .i64 0) ∧ J pre (fun k => k = b2) wr ∧ W.heap.size ≤ wr.heap.size) (fun _ _ wr => leftOf b2 wr)
    case atStart => exact ⟨s, [], Lib.hid (by rw [List.nil_append]; exact hall), hs, h1, h2, h3, hJ0, Nat.le_refl _⟩
    case round =>
      obtain ⟨t, pre, hp, hts, h1, h2, h3, hJ, hz⟩ := hrel
      have HL := Lib.hid (leftOf_box h2)
      have hc1 := h1.cell
      have hc2 := h2.cell
      have hc3 := h3.cell
      have hf2 := h2.frozen
      have C := Lib.hid (fun W => sIndex_any c t W)
      rw [HI.out] at C
      have hlt2 := h2.lt
      have HO : Hid (∀ k, k = b2 → (k = b2 ∨ W.heap.size ≤ k) ∧ k < wr.heap.size) := Lib.hid (fun k e => ⟨.inl e, by rw [e]; exact hlt2⟩)
      by_cases hi : t.data.toList.idxOf c < t.size
      · rw [list_size, if_pos hi] at C
        have HP := Lib.hid (piece_yes hi hp.out)
        generalize t.data.toList.idxOf c = j at C HP hi
        have T := HY.out pre (t.extract 0 j) _ wr hJ HO.out hz (pieces_pre HP.out)
        unfold encS at T
        have h63 : (t.size : Int) ≤ 1099511627776 := by omega
        have hsz : (t.extract (j + 1) t.size).size < t.size := by rw [ByteArray.size_extract]; omega
        have HSZ := Lib.hid hsz
        clear hsz
        first | (obtain ⟨fn, tmps, assign, body, hy, hR⟩ := T.loop 4) | (have hR := (callsIn_wide (n := 4)).2 T.named)
        clear T
        gi_wp2_with (refine ⟨trivial, ?_⟩; gi_at_call 199; refine (callsIn_wide.2 (C.out _)).mono ?_; rintro e w1 ⟨rfl, rfl⟩)
        first | refine hR.mono ?_ | refine ⟨trivial, hR.mono ?_⟩
        rintro e W3 ⟨hS3, ⟨rfl, hJ3⟩ | ⟨rfl, hJx3⟩⟩
        · have h1 := hS3.boxed (show b1 = b2 ∨ b1 = b1 ∨ b1 = b3 from .inr (.inl rfl)) h1
          have h2 := hS3.boxed (show b2 = b2 ∨ b2 = b1 ∨ b2 = b3 from .inl rfl) h2
          have h3 := hS3.boxed (show b3 = b2 ∨ b3 = b1 ∨ b3 = b3 from .inr (.inr rfl)) h3
          have hz3 := Nat.le_trans hz hS3.size
          clear hR hc1 hc2 hc3 hf2
          try clear hy
          have hc1 := h1.cell
          have hc2 := h2.cell
          have hf2 := h2.frozen
          have hS4 : ∀ u, Stays (fun k => k ≠ b2) W3 (W3.setCell ⟨b2, 0, none⟩ u) := fun u => (Stays.refl _ _).setCell _ _ (fun h => h rfl)
          have HJ4 := Lib.hid (fun u => HJ.out _ _ (fun k => k = b2) W3 _ hJ3 (fun k e => .inl e) ((hS4 u).mono fun k hk => hk.2) (fun k e => .inl e))
          have HB1 := Lib.hid (fun u => (hS4 u).boxed (show b1 ≠ b2 from n1) h1)
          have HB3 := Lib.hid (fun u => (hS4 u).boxed (show b3 ≠ b2 from n3) h3)
          have HB2 := Lib.hid (fun u => h2.set u)
          have HZ := Lib.hid (fun u => (hS4 u).size)
          clear hS4
          gi_wp2_with fail
          go_roundw
          case rel => exact ⟨_, _, HP, by have := HSZ.out; omega, HB1.out _, HB2.out _, HB3.out _, HJ4.out _, Nat.le_trans hz3 (HZ.out _)⟩
          case measure => first | (rw [HL.out, leftOf_box (HB2.out _)]; exact HSZ.out) | (show leftOf b2 _ < leftOf b2 _; rw [HL.out, leftOf_box (HB2.out _)]; exact HSZ.out)
        · gi_wp2_with fail
          refine bodyPost_ret (results_none rfl _ _ _) rfl ?_
          exact ⟨⟨_, rfl⟩, _, fun k e => .inl e, .inr ⟨_, pieces_pre HP.out, hJx3⟩⟩
      · rw [list_size, if_neg hi] at C
        have HP := Lib.hid (piece_no hi hp.out)
        have T := HY.out pre t _ wr hJ HO.out hz ⟨[], by rw [HP.out, List.append_nil]⟩
        unfold encS at T
        clear hi
        first | (obtain ⟨fn, tmps, assign, body, hy, hR⟩ := T.loop 4) | (have hR := (callsIn_wide (n := 4)).2 T.named)
        clear T
        gi_wp2_with (refine ⟨trivial, ?_⟩; gi_at_call 199; refine (callsIn_wide.2 (C.out _)).mono ?_; rintro e w1 ⟨rfl, rfl⟩)
        first | refine hR.mono ?_ | refine ⟨trivial, hR.mono ?_⟩
        rintro e W3 ⟨hS3, ⟨rfl, hJ3⟩ | ⟨rfl, hJx3⟩⟩
        · gi_wp2_with fail
          go_end0
          exact ⟨⟨_, rfl⟩, _, fun k e => .inl e, .inl (by rw [← HP.out]; exact hJ3)⟩
        · gi_wp2_with fail
          go_end0
          exact ⟨⟨_, rfl⟩, _, fun k e => .inl e, .inr ⟨_, ⟨[], by rw [HP.out, List.append_nil]⟩, hJx3⟩⟩
end Go.Proofs.YtpdodknldhbbhaaGreatDoor.Pp
