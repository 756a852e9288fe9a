/-
What stands ahead of a line's value, and the line, as the program reads them. Conditions: the text has at most 10000 bytes.
-/
import Derived.Test.YtccgpemcdbcjeaaDoorPpPPars
namespace Go.Proofs.YtccgpemcdbcjeaaDoor.Pp
open Go.RowKit

theorem upS (s : ByteArray) : (upB s).size = s.size := by unfold upB up; rw [← list_size]; simp
/-- Group, name, place and error of what stands ahead of the first ; -/
structure Nms where
  g : ByteArray
  n : ByteArray
  at_ : Nat
  err : Int
def nameQ (k : Nat) (g n : ByteArray) : Nms := if nameB n = false then ⟨⟨#[]⟩, ⟨#[]⟩, k - n.size, 14⟩ else ⟨g, n, 0, 0⟩
def groupQ (k : Nat) (u : ByteArray) : Nms :=
  if u.data.toList.idxOf 46 < u.size then (if nameB (u.extract 0 (u.data.toList.idxOf 46)) = false then ⟨⟨#[]⟩, ⟨#[]⟩, 0, 14⟩ else nameQ k (u.extract 0 (u.data.toList.idxOf 46)) (u.extract (u.data.toList.idxOf 46 + 1) u.size)) else nameQ k ⟨#[]⟩ u
def names (s : ByteArray) : Nms := groupQ s.size (upB s)
set_option maxHeartbeats 2000000 in
theorem parNames_any (s : ByteArray) (w : World) (hs : s.size ≤ 10000) :
    Calls Tryd.prog 23 #[.string s] w fun e w' => e = .returned (.tuple #[prV (names s).g (names s).n (.slice none 0 0) ⟨#[]⟩ (.slice none 0 0), .int .i64 ((names s).at_ : Int), .int .i64 (names s).err]) ∧ Below w.heap.size w w' := by
  have HB : Below w.heap.size w (w.alloc (.cells #[.string ⟨#[]⟩, .string ⟨#[]⟩, .slice none 0 0, .string ⟨#[]⟩, .slice none 0 0] 25)) := (Below.refl _ _).alloc (Nat.le_refl _) _
  have HZ : PrAt (w.alloc (.cells #[.string ⟨#[]⟩, .string ⟨#[]⟩, .slice none 0 0, .string ⟨#[]⟩, .slice none 0 0] 25)) w.heap.size ⟨#[]⟩ ⟨#[]⟩ (.slice none 0 0) ⟨#[]⟩ (.slice none 0 0) := heap_alloc_new w _
  have CC := Lib.hid (fun W => pCaps_any s W (by omega))
  have hu := upS s
  unfold names prV
  generalize upB s = u at CC hu ⊢
  by_cases hi : u.data.toList.idxOf 46 < u.size
  · have C := Lib.hid (fun W => scut_yes 46 u W (by unfold maxLen; omega) (by rw [list_size]; exact hi))
    rw [groupQ, if_pos hi]
    have hn : (u.extract (u.data.toList.idxOf 46 + 1) u.size).size ≤ s.size := by rw [ByteArray.size_extract]; omega
    generalize u.extract 0 (u.data.toList.idxOf 46) = g at C ⊢
    generalize u.extract (u.data.toList.idxOf 46 + 1) u.size = n at C hn ⊢
    have CG := Lib.hid (fun W => pName_any g W)
    generalize nameB g = x at CG ⊢
    clear hu hi
    cases x with
    | false =>
      rw [if_pos rfl]
      clear hs hn
      go_enter Tryd.func23, Tryd.ntmps23
      go_wp2_with fail
      refine (CC.out _).mono ?_
      rintro e w1 ⟨rfl, b1⟩
      go_wp2_with fail
      refine (C.out _).mono ?_
      rintro e w2 ⟨rfl, b2⟩
      have HZ2 := (HZ.below b1).below b2
      have HB2 := HB.trans ((b1.trans (b2.mono b1.size)).mono HB.size)
      have q0 := HZ2.c0
      have s0 := HZ2.f 0
      have q1 := HZ2.c1
      have s1 := HZ2.f 1
      have q2 := HZ2.c2
      have s2 := HZ2.f 2
      have q3 := HZ2.c3
      have s3 := HZ2.f 3
      have q4 := HZ2.c4
      have s4 := HZ2.f 4
      go_wp2_with fail
      refine (CG.out _).mono ?_
      rintro e w' ⟨rfl, rfl⟩
      go_wp2_with fail
      exact bodyPost_ret (v := .tuple #[.agg #[.string ⟨#[]⟩, .string ⟨#[]⟩, .slice none 0 0, .string ⟨#[]⟩, .slice none 0 0], .int .i64 (0 : Int), .int .i64 14]) (by simp [results, Tryd.results23, go_sem, q0, q1, q2, q3, q4]) rfl ⟨rfl, (((((HB2.setCell (Nat.le_refl _) _).setCell (Nat.le_refl _) _).setCell (Nat.le_refl _) _).setCell (Nat.le_refl _) _).setCell (Nat.le_refl _) _)⟩
    | true =>
      rw [if_neg (by simp)]
      have CN := Lib.hid (fun W => pName_any n W)
      unfold nameQ
      generalize nameB n = y at CN ⊢
      have hk : ((s.size - n.size : Nat) : Int) = (s.size : Int) - (n.size : Int) := by omega
      cases y with
      | false =>
        rw [if_pos rfl]
        simp only
        rw [hk]
        have hs1 : (s.size : Int) ≤ 10000 := by omega
        have hn1 : (n.size : Int) ≤ (s.size : Int) := by omega
        clear hs hn hk
        go_enter Tryd.func23, Tryd.ntmps23
        go_wp2_with fail
        refine (CC.out _).mono ?_
        rintro e w1 ⟨rfl, b1⟩
        go_wp2_with fail
        refine (C.out _).mono ?_
        rintro e w2 ⟨rfl, b2⟩
        have HZ2 := (HZ.below b1).below b2
        have HB2 := HB.trans ((b1.trans (b2.mono b1.size)).mono HB.size)
        have q0 := HZ2.c0
        have s0 := HZ2.f 0
        have q1 := HZ2.c1
        have s1 := HZ2.f 1
        have q2 := HZ2.c2
        have s2 := HZ2.f 2
        have q3 := HZ2.c3
        have s3 := HZ2.f 3
        have q4 := HZ2.c4
        have s4 := HZ2.f 4
        go_wp2_with fail
        refine (CG.out _).mono ?_
        rintro e w' ⟨rfl, rfl⟩
        go_wp2_with fail
        refine (CN.out _).mono ?_
        rintro e w' ⟨rfl, rfl⟩
        go_wp2_with fail
        exact bodyPost_ret (v := .tuple #[.agg #[.string ⟨#[]⟩, .string ⟨#[]⟩, .slice none 0 0, .string ⟨#[]⟩, .slice none 0 0], .int .i64 ((s.size : Int) - (n.size : Int) : Int), .int .i64 14]) (by simp [results, Tryd.results23, go_sem, q0, q1, q2, q3, q4]) rfl ⟨rfl, (((((HB2.setCell (Nat.le_refl _) _).setCell (Nat.le_refl _) _).setCell (Nat.le_refl _) _).setCell (Nat.le_refl _) _).setCell (Nat.le_refl _) _)⟩
      | true =>
        rw [if_neg (by simp)]
        clear hk hs hn
        go_enter Tryd.func23, Tryd.ntmps23
        go_wp2_with fail
        refine (CC.out _).mono ?_
        rintro e w1 ⟨rfl, b1⟩
        go_wp2_with fail
        refine (C.out _).mono ?_
        rintro e w2 ⟨rfl, b2⟩
        have HZ2 := (HZ.below b1).below b2
        have HB2 := HB.trans ((b1.trans (b2.mono b1.size)).mono HB.size)
        have q0 := HZ2.c0
        have s0 := HZ2.f 0
        have q1 := HZ2.c1
        have s1 := HZ2.f 1
        have q2 := HZ2.c2
        have s2 := HZ2.f 2
        have q3 := HZ2.c3
        have s3 := HZ2.f 3
        have q4 := HZ2.c4
        have s4 := HZ2.f 4
        go_wp2_with fail
        refine (CG.out _).mono ?_
        rintro e w' ⟨rfl, rfl⟩
        go_wp2_with fail
        refine (CN.out _).mono ?_
        rintro e w' ⟨rfl, rfl⟩
        go_wp2_with fail
        exact bodyPost_ret (v := .tuple #[.agg #[.string g, .string n, .slice none 0 0, .string ⟨#[]⟩, .slice none 0 0], .int .i64 (0 : Int), .int .i64 0]) (by simp [results, Tryd.results23, go_sem, q0, q1, q2, q3, q4]) rfl ⟨rfl, (((((HB2.setCell (Nat.le_refl _) _).setCell (Nat.le_refl _) _).setCell (Nat.le_refl _) _).setCell (Nat.le_refl _) _).setCell (Nat.le_refl _) _)⟩
  · have C := Lib.hid (fun W => scut_no 46 u W (by rw [list_size]; exact hi))
    rw [groupQ, if_neg hi]
    have hn : u.size ≤ s.size := by omega
    clear hu hi
    generalize u = n at *
    have CN := Lib.hid (fun W => pName_any n W)
    unfold nameQ
    generalize nameB n = y at CN ⊢
    have hk : ((s.size - n.size : Nat) : Int) = (s.size : Int) - (n.size : Int) := by omega
    cases y with
    | false =>
      rw [if_pos rfl]
      simp only
      rw [hk]
      have hs1 : (s.size : Int) ≤ 10000 := by omega
      have hn1 : (n.size : Int) ≤ (s.size : Int) := by omega
      clear hs hn hk
      go_enter Tryd.func23, Tryd.ntmps23
      go_wp2_with fail
      refine (CC.out _).mono ?_
      rintro e w1 ⟨rfl, b1⟩
      go_wp2_with fail
      refine (C.out _).mono ?_
      rintro e w2 ⟨rfl, b2⟩
      have HZ2 := (HZ.below b1).below b2
      have HB2 := HB.trans ((b1.trans (b2.mono b1.size)).mono HB.size)
      have q0 := HZ2.c0
      have s0 := HZ2.f 0
      have q1 := HZ2.c1
      have s1 := HZ2.f 1
      have q2 := HZ2.c2
      have s2 := HZ2.f 2
      have q3 := HZ2.c3
      have s3 := HZ2.f 3
      have q4 := HZ2.c4
      have s4 := HZ2.f 4
      go_wp2_with fail
      refine (CN.out _).mono ?_
      rintro e w' ⟨rfl, rfl⟩
      go_wp2_with fail
      exact bodyPost_ret (v := .tuple #[.agg #[.string ⟨#[]⟩, .string ⟨#[]⟩, .slice none 0 0, .string ⟨#[]⟩, .slice none 0 0], .int .i64 ((s.size : Int) - (n.size : Int) : Int), .int .i64 14]) (by simp [results, Tryd.results23, go_sem, q0, q1, q2, q3, q4]) rfl ⟨rfl, (((((HB2.setCell (Nat.le_refl _) _).setCell (Nat.le_refl _) _).setCell (Nat.le_refl _) _).setCell (Nat.le_refl _) _).setCell (Nat.le_refl _) _)⟩
    | true =>
      rw [if_neg (by simp)]
      clear hk hs hn
      go_enter Tryd.func23, Tryd.ntmps23
      go_wp2_with fail
      refine (CC.out _).mono ?_
      rintro e w1 ⟨rfl, b1⟩
      go_wp2_with fail
      refine (C.out _).mono ?_
      rintro e w2 ⟨rfl, b2⟩
      have HZ2 := (HZ.below b1).below b2
      have HB2 := HB.trans ((b1.trans (b2.mono b1.size)).mono HB.size)
      have q0 := HZ2.c0
      have s0 := HZ2.f 0
      have q1 := HZ2.c1
      have s1 := HZ2.f 1
      have q2 := HZ2.c2
      have s2 := HZ2.f 2
      have q3 := HZ2.c3
      have s3 := HZ2.f 3
      have q4 := HZ2.c4
      have s4 := HZ2.f 4
      go_wp2_with fail
      refine (CN.out _).mono ?_
      rintro e w' ⟨rfl, rfl⟩
      go_wp2_with fail
      exact bodyPost_ret (v := .tuple #[.agg #[.string ⟨#[]⟩, .string n, .slice none 0 0, .string ⟨#[]⟩, .slice none 0 0], .int .i64 (0 : Int), .int .i64 0]) (by simp [results, Tryd.results23, go_sem, q0, q1, q2, q3, q4]) rfl ⟨rfl, (((((HB2.setCell (Nat.le_refl _) _).setCell (Nat.le_refl _) _).setCell (Nat.le_refl _) _).setCell (Nat.le_refl _) _).setCell (Nat.le_refl _) _)⟩
end Go.Proofs.YtccgpemcdbcjeaaDoor.Pp
