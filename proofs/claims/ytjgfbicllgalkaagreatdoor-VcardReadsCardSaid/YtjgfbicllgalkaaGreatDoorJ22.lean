/-
A line's parameter, as the program reads it: the answer is the plain function's. Conditions: the text has at most 2^40 bytes.
-/
import Derived.Test.YtjgfbicllgalkaaGreatDoorJ20
import Derived.Test.YtjgfbicllgalkaaGreatDoorJ21
import Derived.Test.YtjgfbicllgalkaaGreatDoorJ15
import Derived.Test.YtjgfbicllgalkaaGreatDoorJ03
namespace Go.Proofs.YtjgfbicllgalkaaGreatDoor.Pp
set_option maxRecDepth 100000
open Go.RowKit

theorem pCaps_any (s : ByteArray) (w : World) (hs : s.size ≤ 140737488355328) :
    Calls Tryz.prog 81 #[.string s] w fun e w' => e = .returned (.string (upB s)) ∧ Below w.heap.size w w' := Cs.caps_any s w hs

/-- A parameter's cells in block b. -/
def QAt (w : World) (b : Nat) (n v : ByteArray) : Prop := w.heap[b]? = some (.cells #[.string n, .string v] 58 (0, 0))
section
variable {w w' : World} {b : Nat} {n v : ByteArray}
theorem QAt.lt (h : QAt w b n v) : b < w.heap.size := (Array.getElem?_eq_some_iff.1 h).1
theorem QAt.c0 (h : QAt w b n v) : w.cell? ⟨b, 0, none⟩ = some (.string n) := cell_of_row w b 0 _ _ _ h
theorem QAt.c1 (h : QAt w b n v) : w.cell? ⟨b, 1, none⟩ = some (.string v) := cell_of_row w b 1 _ _ _ h
theorem QAt.f (h : QAt w b n v) (j : Nat) : w.frozen? ⟨b, j, none⟩ = false := frozen_of_row _ _ _ _ _ h
theorem QAt.below (h : QAt w b n v) (hb : Below w.heap.size w w') : QAt w' b n v := (hb.block b h.lt).trans h
end

/-- A parameter in a piece, and whether it is right. -/
def ppar (s : ByteArray) : (ByteArray × ByteArray) × Bool :=
  if s.data.toList.idxOf 61 < s.size then ((upB (s.extract 0 (s.data.toList.idxOf 61)), s.extract (s.data.toList.idxOf 61 + 1) s.size), nameB (upB (s.extract 0 (s.data.toList.idxOf 61))) && valB (s.extract (s.data.toList.idxOf 61 + 1) s.size))
  else ((⟨#[]⟩, upB s), valB s)
set_option maxHeartbeats 1000000 in
theorem parParam_any (s : ByteArray) (w : World) (hs : s.size ≤ 1099511627776) :
    Calls Tryz.prog 280 #[.string s] w fun e w' => e = .returned (.tuple #[.agg #[.string (ppar s).1.1, .string (ppar s).1.2], .bool (ppar s).2]) ∧ Below w.heap.size w w' := by
  have hm : s.size ≤ maxLen := by unfold maxLen; omega
  have HB : Below w.heap.size w (w.alloc (.cells #[.string ⟨#[]⟩, .string ⟨#[]⟩] 58)) := (Below.refl _ _).alloc (Nat.le_refl _) _
  have HQ : QAt (w.alloc (.cells #[.string ⟨#[]⟩, .string ⟨#[]⟩] 58)) w.heap.size ⟨#[]⟩ ⟨#[]⟩ := heap_alloc_new w _
  by_cases hi : s.data.toList.idxOf 61 < s.size
  · have C := Lib.hid (fun W => scut_yes 61 s W hm (by rw [list_size]; exact hi))
    have hj1 : (s.extract 0 (s.data.toList.idxOf 61)).size ≤ 1099511627776 := by rw [ByteArray.size_extract]; omega
    have hj2 : (s.extract (s.data.toList.idxOf 61 + 1) s.size).size ≤ 1099511627776 := by rw [ByteArray.size_extract]; omega
    rw [ppar, if_pos hi]
    generalize s.extract 0 (s.data.toList.idxOf 61) = n at C hj1 ⊢
    generalize s.extract (s.data.toList.idxOf 61 + 1) s.size = v at C hj2 ⊢
    have CC := Lib.hid (fun W => pCaps_any n W (by omega))
    generalize upB n = u at CC ⊢
    have CN := Lib.hid (fun W => pName_any u W)
    have CV := Lib.hid (fun W => pVal_any v W)
    generalize nameB u = x at CN ⊢
    generalize valB v = y at CV ⊢
    clear hi hj1 hj2 hm hs
    cases x with
    | false =>
      go_enter Tryz.func280, Tryz.ntmps280
      go_wp2_with fail
      refine (C.out _).mono ?_
      rintro e w1 ⟨rfl, b1⟩
      go_wp2_with fail
      refine (CC.out _).mono ?_
      rintro e w2 ⟨rfl, b2⟩
      have HQ2 := (HQ.below b1).below b2
      have HB2 := HB.trans ((b1.trans (b2.mono b1.size)).mono HB.size)
      have q0 := HQ2.c0
      have q1 := HQ2.c1
      have s0 := HQ2.f 0
      have s1 := HQ2.f 1
      go_wp2_with fail
      refine (CN.out _).mono ?_
      rintro e w' ⟨rfl, rfl⟩
      go_wp2_with fail
      exact bodyPost_ret (v := .tuple #[.agg #[.string u, .string v], .bool false]) (by simp [results, Tryz.results280, go_sem, q0, q1]) rfl ⟨rfl, (HB2.setCell (Nat.le_refl _) _).setCell (Nat.le_refl _) _⟩
    | true =>
      go_enter Tryz.func280, Tryz.ntmps280
      go_wp2_with fail
      refine (C.out _).mono ?_
      rintro e w1 ⟨rfl, b1⟩
      go_wp2_with fail
      refine (CC.out _).mono ?_
      rintro e w2 ⟨rfl, b2⟩
      have HQ2 := (HQ.below b1).below b2
      have HB2 := HB.trans ((b1.trans (b2.mono b1.size)).mono HB.size)
      have q0 := HQ2.c0
      have q1 := HQ2.c1
      have s0 := HQ2.f 0
      have s1 := HQ2.f 1
      go_wp2_with fail
      refine (CN.out _).mono ?_
      rintro e w' ⟨rfl, rfl⟩
      go_wp2_with fail
      refine (CV.out _).mono ?_
      rintro e w' ⟨rfl, rfl⟩
      go_wp2_with fail
      exact bodyPost_ret (v := .tuple #[.agg #[.string u, .string v], .bool y]) (by simp [results, Tryz.results280, go_sem, q0, q1]) rfl ⟨rfl, (HB2.setCell (Nat.le_refl _) _).setCell (Nat.le_refl _) _⟩
  · have C := Lib.hid (fun W => scut_no 61 s W (by rw [list_size]; exact hi))
    rw [ppar, if_neg hi]
    have CC := Lib.hid (fun W => pCaps_any s W (by omega))
    generalize upB s = u at CC ⊢
    have CV := Lib.hid (fun W => pVal_any s W)
    generalize valB s = y at CV ⊢
    clear hi hm hs
    go_enter Tryz.func280, Tryz.ntmps280
    go_wp2_with fail
    refine (C.out _).mono ?_
    rintro e w1 ⟨rfl, b1⟩
    go_wp2_with fail
    refine (CC.out _).mono ?_
    rintro e w2 ⟨rfl, b2⟩
    have HQ2 := (HQ.below b1).below b2
    have HB2 := HB.trans ((b1.trans (b2.mono b1.size)).mono HB.size)
    have q0 := HQ2.c0
    have q1 := HQ2.c1
    have s0 := HQ2.f 0
    have s1 := HQ2.f 1
    go_wp2_with fail
    refine (CV.out _).mono ?_
    rintro e w' ⟨rfl, rfl⟩
    go_wp2_with fail
    exact bodyPost_ret (v := .tuple #[.agg #[.string ⟨#[]⟩, .string u], .bool y]) (by simp [results, Tryz.results280, go_sem, q0, q1]) rfl ⟨rfl, (HB2.setCell (Nat.le_refl _) _).setCell (Nat.le_refl _) _⟩
end Go.Proofs.YtjgfbicllgalkaaGreatDoor.Pp
