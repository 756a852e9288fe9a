/-
A line, as the program reads it: what it hands back is what the plain function 'prs' says. Conditions: the text has at most 10000 bytes.
-/
import Derived.Test.YtccgpemcdbcjeaaDoorPpPHead
namespace Go.Proofs.YtccgpemcdbcjeaaDoor.Pp
open Go.RowKit

theorem PrAt.set4 {w : World} {b : Nat} {g n v : ByteArray} {pv av : Value} (h : PrAt w b g n pv v av) (x : Value) : PrAt (w.setCell ⟨b, 4, none⟩ x) b g n pv v x := heap_set h _
theorem pars_at (l : List ByteArray) : ∀ (a : Nat) (ps : List (ByteArray × ByteArray)), (pars a ps l).2.1 ≤ a + atOf l := by
  induction l with
  | nil => intro a ps; simp [pars]
  | cons x r ih =>
    intro a ps
    rw [pars, atOf_cons]
    split
    · show a ≤ _; omega
    · split
      · show a ≤ _; omega
      · exact Nat.le_trans (ih _ _) (by omega)
theorem pars_pcs (s : ByteArray) : (pars 0 [] (pcs 59 s)).2.1 ≤ s.size + 1 := by
  have := pars_at (pcs 59 s) 0 []
  rw [atOf_pcs] at this; omega
theorem names_at (s : ByteArray) : (names s).at_ ≤ s.size := by
  unfold names groupQ nameQ
  split
  · split
    · exact Nat.zero_le _
    · split
      · show s.size - _ ≤ _; omega
      · exact Nat.zero_le _
  · split
    · show s.size - _ ≤ _; omega
    · exact Nat.zero_le _
/-- What stands ahead of the first : -/
def hd (s : ByteArray) : Par :=
  if s.data.toList.idxOf 59 < s.size then (if (names (s.extract 0 (s.data.toList.idxOf 59))).err = 0 then
      ⟨(names (s.extract 0 (s.data.toList.idxOf 59))).g, (names (s.extract 0 (s.data.toList.idxOf 59))).n, (pars 0 [] (pcs 59 (s.extract (s.data.toList.idxOf 59 + 1) s.size))).1, ⟨#[]⟩, (s.extract 0 (s.data.toList.idxOf 59)).size + 1 + (pars 0 [] (pcs 59 (s.extract (s.data.toList.idxOf 59 + 1) s.size))).2.1, (pars 0 [] (pcs 59 (s.extract (s.data.toList.idxOf 59 + 1) s.size))).2.2⟩
    else ⟨(names (s.extract 0 (s.data.toList.idxOf 59))).g, (names (s.extract 0 (s.data.toList.idxOf 59))).n, [], ⟨#[]⟩, (names (s.extract 0 (s.data.toList.idxOf 59))).at_, (names (s.extract 0 (s.data.toList.idxOf 59))).err⟩)
  else ⟨(names s).g, (names s).n, [], ⟨#[]⟩, (names s).at_, (names s).err⟩
/-- The line. -/
def prs (s : ByteArray) : Par :=
  if s.data.toList.idxOf 58 < s.size then (if (hd (s.extract 0 (s.data.toList.idxOf 58))).err = 0 then
      (if vfE (s.extract (s.data.toList.idxOf 58 + 1) s.size) = 0 then ⟨(hd (s.extract 0 (s.data.toList.idxOf 58))).g, (hd (s.extract 0 (s.data.toList.idxOf 58))).n, (hd (s.extract 0 (s.data.toList.idxOf 58))).ps, s.extract (s.data.toList.idxOf 58 + 1) s.size, 0, 0⟩
        else errP ((s.extract 0 (s.data.toList.idxOf 58)).size + 1 + (vfA (s.extract (s.data.toList.idxOf 58 + 1) s.size)).toNat) (vfE (s.extract (s.data.toList.idxOf 58 + 1) s.size)))
    else errP (hd (s.extract 0 (s.data.toList.idxOf 58))).at_ (hd (s.extract 0 (s.data.toList.idxOf 58))).err)
  else errP s.size 1
theorem vfA_le (v : ByteArray) : 0 ≤ vfA v ∧ vfA v ≤ v.size := by
  unfold vfA idxO
  split
  · exact ⟨Int.le_refl _, by omega⟩
  · split
    · split
      · refine ⟨by omega, by omega⟩
      · omega
    · exact ⟨Int.le_refl _, by omega⟩
set_option maxHeartbeats 4000000 in
theorem parHead_any (s : ByteArray) (w : World) (hs : s.size ≤ 10000) :
    Calls Tryd.prog 14 #[.string s] w fun e w' => Told w (hd s) e w' := by
  have HB : Below w.heap.size w (w.alloc (.cells #[.string ⟨#[]⟩, .string ⟨#[]⟩, .slice none 0 0, .string ⟨#[]⟩, .slice none 0 0] 25)) := (Below.refl _ _).alloc (Nat.le_refl _) _
  have HZ : PrAt (w.alloc (.cells #[.string ⟨#[]⟩, .string ⟨#[]⟩, .slice none 0 0, .string ⟨#[]⟩, .slice none 0 0] 25)) w.heap.size ⟨#[]⟩ ⟨#[]⟩ (.slice none 0 0) ⟨#[]⟩ (.slice none 0 0) := heap_alloc_new w _
  by_cases hi : s.data.toList.idxOf 59 < s.size
  · have C := Lib.hid (fun W => scut_yes 59 s W (by unfold maxLen; omega) (by rw [list_size]; exact hi))
    rw [hd, if_pos hi]
    have hn : (s.extract 0 (s.data.toList.idxOf 59)).size ≤ 10000 := by rw [ByteArray.size_extract]; omega
    have hr : (s.extract (s.data.toList.idxOf 59 + 1) s.size).size ≤ 9999 := by rw [ByteArray.size_extract]; omega
    generalize s.extract 0 (s.data.toList.idxOf 59) = nm at C hn ⊢
    generalize s.extract (s.data.toList.idxOf 59 + 1) s.size = rest at C hr ⊢
    have CN := Lib.hid (fun W => parNames_any nm W hn)
    have CP := Lib.hid (fun W => parParams_any rest W (by omega))
    have ha2 := pars_pcs rest
    obtain ⟨⟨l, a2, r2⟩, hq⟩ : ∃ q, pars 0 [] (pcs 59 rest) = q := ⟨_, rfl⟩
    rw [hq] at CP ha2 ⊢
    generalize names nm = q at CN ⊢
    obtain ⟨g, n, a, er⟩ := q
    unfold prV at CN
    simp only at CN CP ha2 ⊢
    unfold Told prV
    clear hq hi hs
    by_cases he : er = 0
    · subst he
      rw [if_pos rfl]
      simp only
      have hh1 : (nm.size : Int) ≤ 10000 := by omega
      have hh2 : (a2 : Int) ≤ 10000 := by omega
      have hcast : ((nm.size + 1 + a2 : Nat) : Int) = (nm.size : Int) + 1 + (a2 : Int) := by omega
      rw [hcast]
      clear ha2 hr hn hcast
      go_enter Tryd.func14, Tryd.ntmps14
      go_wp2_with fail
      refine (C.out _).mono ?_
      rintro e w1 ⟨rfl, b1⟩
      go_wp2_with fail
      refine (CN.out _).mono ?_
      rintro e w2 ⟨rfl, b2⟩
      have hz12 : w.heap.size + 1 ≤ w2.heap.size := by have h1 := b1.size; have h2 := b2.size; rw [World.size_alloc] at h1; omega
      have HZ2 := (HZ.below b1).below b2
      have HB2 := HB.trans ((b1.trans (b2.mono b1.size)).mono HB.size)
      have b3 : Below w2.heap.size w2 (w2.alloc (.cells #[.string g, .string n, .slice none 0 0, .string ⟨#[]⟩, .slice none 0 0] 25)) := (Below.refl _ _).alloc (Nat.le_refl _) _
      have HZ3 := HZ2.below b3
      have HP3 : PrAt (w2.alloc (.cells #[.string g, .string n, .slice none 0 0, .string ⟨#[]⟩, .slice none 0 0] 25)) w2.heap.size g n (.slice none 0 0) ⟨#[]⟩ (.slice none 0 0) := heap_alloc_new w2 _
      have HB3 := HB2.trans (b3.mono HB2.size)
      have q0 := HZ3.c0
      have s0 := HZ3.f 0
      have q1 := HZ3.c1
      have s1 := HZ3.f 1
      have q2 := HZ3.c2
      have s2 := HZ3.f 2
      have q3 := HZ3.c3
      have s3 := HZ3.f 3
      have q4 := HZ3.c4
      have s4 := HZ3.f 4
      go_wp2_with fail
      refine (CP.out _).mono ?_
      rintro e w4 ⟨pv, rfl, hown, b4⟩
      obtain ⟨pa, pc, rfl⟩ := shapeP hown
      have HZ4 := HZ3.below b4
      have HP4 := HP3.below b4
      have HB4 := HB3.trans (b4.mono HB3.size)
      have m2 := HP4.c2
      have mf2 := HP4.f 2
      have HP5 := HP4.set2 (.slice pa l.length pc)
      have HZ5 := HZ4.other (a := ⟨w2.heap.size, 2, none⟩) (by show w.heap.size ≠ w2.heap.size; omega) (.slice pa l.length pc)
      have HB5 := HB4.setCell (p := ⟨w2.heap.size, 2, none⟩) (show w.heap.size ≤ w2.heap.size by omega) (.slice pa l.length pc)
      rw [World.size_alloc] at hown
      have HO5 := Own.set hown (a := ⟨w2.heap.size, 2, none⟩) (show w2.heap.size < w2.heap.size + 1 by omega) (.slice pa l.length pc)
      clear q0 q1 q2 q3 q4 s0 s1 s2 s3 s4
      have q0 := HZ5.c0
      have s0 := HZ5.f 0
      have q1 := HZ5.c1
      have s1 := HZ5.f 1
      have q2 := HZ5.c2
      have s2 := HZ5.f 2
      have q3 := HZ5.c3
      have s3 := HZ5.f 3
      have q4 := HZ5.c4
      have s4 := HZ5.f 4
      have p0 := HP5.c0
      have p1 := HP5.c1
      have p2 := HP5.c2
      have p3 := HP5.c3
      have p4 := HP5.c4
      go_wp2_with fail
      exact bodyPost_ret (v := .tuple #[.agg #[.string g, .string n, .slice pa l.length pc, .string ⟨#[]⟩, .slice none 0 0], .int .i64 ((nm.size : Int) + 1 + (a2 : Int)), .int .i64 r2]) (by simp [results, Tryd.results14, go_sem, q0, q1, q2, q3, q4]) rfl ⟨_, rfl, own_low (by omega) (Own.set (Own.set (Own.set (Own.set (Own.set HO5 (by show w.heap.size < _; omega) _) (by show w.heap.size < _; omega) _) (by show w.heap.size < _; omega) _) (by show w.heap.size < _; omega) _) (by show w.heap.size < _; omega) _), (((((HB5.setCell (Nat.le_refl _) _).setCell (Nat.le_refl _) _).setCell (Nat.le_refl _) _).setCell (Nat.le_refl _) _).setCell (Nat.le_refl _) _)⟩
    · have hne : (er != 0) = true := bne_iff_ne.2 he
      rw [if_neg he]
      simp only
      clear ha2 hr hn
      go_enter Tryd.func14, Tryd.ntmps14
      go_wp2_with fail
      refine (C.out _).mono ?_
      rintro e w1 ⟨rfl, b1⟩
      go_wp2_with fail
      refine (CN.out _).mono ?_
      rintro e w2 ⟨rfl, b2⟩
      have hz12 : w.heap.size + 1 ≤ w2.heap.size := by have h1 := b1.size; have h2 := b2.size; rw [World.size_alloc] at h1; omega
      have HZ2 := (HZ.below b1).below b2
      have HB2 := HB.trans ((b1.trans (b2.mono b1.size)).mono HB.size)
      have b3 : Below w2.heap.size w2 (w2.alloc (.cells #[.string g, .string n, .slice none 0 0, .string ⟨#[]⟩, .slice none 0 0] 25)) := (Below.refl _ _).alloc (Nat.le_refl _) _
      have HZ3 := HZ2.below b3
      have HP3 : PrAt (w2.alloc (.cells #[.string g, .string n, .slice none 0 0, .string ⟨#[]⟩, .slice none 0 0] 25)) w2.heap.size g n (.slice none 0 0) ⟨#[]⟩ (.slice none 0 0) := heap_alloc_new w2 _
      have HB3 := HB2.trans (b3.mono HB2.size)
      have q0 := HZ3.c0
      have s0 := HZ3.f 0
      have q1 := HZ3.c1
      have s1 := HZ3.f 1
      have q2 := HZ3.c2
      have s2 := HZ3.f 2
      have q3 := HZ3.c3
      have s3 := HZ3.f 3
      have q4 := HZ3.c4
      have s4 := HZ3.f 4
      have p0 := HP3.c0
      have p1 := HP3.c1
      have p2 := HP3.c2
      have p3 := HP3.c3
      have p4 := HP3.c4
      go_wp2_with fail
      exact bodyPost_ret (v := .tuple #[.agg #[.string g, .string n, .slice none 0 0, .string ⟨#[]⟩, .slice none 0 0], .int .i64 (a : Int), .int .i64 er]) (by simp [results, Tryd.results14, go_sem, q0, q1, q2, q3, q4]) rfl ⟨_, rfl, Own.nil _ _, (((((HB3.setCell (Nat.le_refl _) _).setCell (Nat.le_refl _) _).setCell (Nat.le_refl _) _).setCell (Nat.le_refl _) _).setCell (Nat.le_refl _) _)⟩
  · have C := Lib.hid (fun W => scut_no 59 s W (by rw [list_size]; exact hi))
    rw [hd, if_neg hi]
    have CN := Lib.hid (fun W => parNames_any s W hs)
    generalize names s = q at CN ⊢
    obtain ⟨g, n, a, er⟩ := q
    unfold prV at CN
    simp only at CN ⊢
    unfold Told prV
    simp only
    clear hi hs
    by_cases he : er = 0
    · subst he
      go_enter Tryd.func14, Tryd.ntmps14
      go_wp2_with fail
      refine (C.out _).mono ?_
      rintro e w1 ⟨rfl, b1⟩
      go_wp2_with fail
      refine (CN.out _).mono ?_
      rintro e w2 ⟨rfl, b2⟩
      have hz12 : w.heap.size + 1 ≤ w2.heap.size := by have h1 := b1.size; have h2 := b2.size; rw [World.size_alloc] at h1; omega
      have HZ2 := (HZ.below b1).below b2
      have HB2 := HB.trans ((b1.trans (b2.mono b1.size)).mono HB.size)
      have b3 : Below w2.heap.size w2 (w2.alloc (.cells #[.string g, .string n, .slice none 0 0, .string ⟨#[]⟩, .slice none 0 0] 25)) := (Below.refl _ _).alloc (Nat.le_refl _) _
      have HZ3 := HZ2.below b3
      have HP3 : PrAt (w2.alloc (.cells #[.string g, .string n, .slice none 0 0, .string ⟨#[]⟩, .slice none 0 0] 25)) w2.heap.size g n (.slice none 0 0) ⟨#[]⟩ (.slice none 0 0) := heap_alloc_new w2 _
      have HB3 := HB2.trans (b3.mono HB2.size)
      have q0 := HZ3.c0
      have s0 := HZ3.f 0
      have q1 := HZ3.c1
      have s1 := HZ3.f 1
      have q2 := HZ3.c2
      have s2 := HZ3.f 2
      have q3 := HZ3.c3
      have s3 := HZ3.f 3
      have q4 := HZ3.c4
      have s4 := HZ3.f 4
      have p0 := HP3.c0
      have p1 := HP3.c1
      have p2 := HP3.c2
      have p3 := HP3.c3
      have p4 := HP3.c4
      go_wp2_with fail
      exact bodyPost_ret (v := .tuple #[.agg #[.string g, .string n, .slice none 0 0, .string ⟨#[]⟩, .slice none 0 0], .int .i64 (a : Int), .int .i64 0]) (by simp [results, Tryd.results14, go_sem, q0, q1, q2, q3, q4]) rfl ⟨_, rfl, Own.nil _ _, (((((HB3.setCell (Nat.le_refl _) _).setCell (Nat.le_refl _) _).setCell (Nat.le_refl _) _).setCell (Nat.le_refl _) _).setCell (Nat.le_refl _) _)⟩
    · have hne : (er != 0) = true := bne_iff_ne.2 he
      go_enter Tryd.func14, Tryd.ntmps14
      go_wp2_with fail
      refine (C.out _).mono ?_
      rintro e w1 ⟨rfl, b1⟩
      go_wp2_with fail
      refine (CN.out _).mono ?_
      rintro e w2 ⟨rfl, b2⟩
      have hz12 : w.heap.size + 1 ≤ w2.heap.size := by have h1 := b1.size; have h2 := b2.size; rw [World.size_alloc] at h1; omega
      have HZ2 := (HZ.below b1).below b2
      have HB2 := HB.trans ((b1.trans (b2.mono b1.size)).mono HB.size)
      have b3 : Below w2.heap.size w2 (w2.alloc (.cells #[.string g, .string n, .slice none 0 0, .string ⟨#[]⟩, .slice none 0 0] 25)) := (Below.refl _ _).alloc (Nat.le_refl _) _
      have HZ3 := HZ2.below b3
      have HP3 : PrAt (w2.alloc (.cells #[.string g, .string n, .slice none 0 0, .string ⟨#[]⟩, .slice none 0 0] 25)) w2.heap.size g n (.slice none 0 0) ⟨#[]⟩ (.slice none 0 0) := heap_alloc_new w2 _
      have HB3 := HB2.trans (b3.mono HB2.size)
      have q0 := HZ3.c0
      have s0 := HZ3.f 0
      have q1 := HZ3.c1
      have s1 := HZ3.f 1
      have q2 := HZ3.c2
      have s2 := HZ3.f 2
      have q3 := HZ3.c3
      have s3 := HZ3.f 3
      have q4 := HZ3.c4
      have s4 := HZ3.f 4
      have p0 := HP3.c0
      have p1 := HP3.c1
      have p2 := HP3.c2
      have p3 := HP3.c3
      have p4 := HP3.c4
      go_wp2_with fail
      exact bodyPost_ret (v := .tuple #[.agg #[.string g, .string n, .slice none 0 0, .string ⟨#[]⟩, .slice none 0 0], .int .i64 (a : Int), .int .i64 er]) (by simp [results, Tryd.results14, go_sem, q0, q1, q2, q3, q4]) rfl ⟨_, rfl, Own.nil _ _, (((((HB3.setCell (Nat.le_refl _) _).setCell (Nat.le_refl _) _).setCell (Nat.le_refl _) _).setCell (Nat.le_refl _) _).setCell (Nat.le_refl _) _)⟩
set_option maxHeartbeats 4000000 in
theorem pParse_any (s : ByteArray) (w : World) (hs : s.size ≤ 10000) :
    Calls Tryd.prog 5 #[.string s] w fun e w' => Told w (prs s) e w' := by
  have HB : Below w.heap.size w (w.alloc (.cells #[.string ⟨#[]⟩, .string ⟨#[]⟩, .slice none 0 0, .string ⟨#[]⟩, .slice none 0 0] 25)) := (Below.refl _ _).alloc (Nat.le_refl _) _
  have HZ : PrAt (w.alloc (.cells #[.string ⟨#[]⟩, .string ⟨#[]⟩, .slice none 0 0, .string ⟨#[]⟩, .slice none 0 0] 25)) w.heap.size ⟨#[]⟩ ⟨#[]⟩ (.slice none 0 0) ⟨#[]⟩ (.slice none 0 0) := heap_alloc_new w _
  by_cases hi : s.data.toList.idxOf 58 < s.size
  · have C := Lib.hid (fun W => scut_yes 58 s W (by unfold maxLen; omega) (by rw [list_size]; exact hi))
    rw [prs, if_pos hi]
    have hn : (s.extract 0 (s.data.toList.idxOf 58)).size ≤ 10000 := by rw [ByteArray.size_extract]; omega
    have hr : (s.extract (s.data.toList.idxOf 58 + 1) s.size).size ≤ 10000 := by rw [ByteArray.size_extract]; omega
    generalize s.extract 0 (s.data.toList.idxOf 58) = head at C hn ⊢
    generalize s.extract (s.data.toList.idxOf 58 + 1) s.size = v at C hr ⊢
    have CH := Lib.hid (fun W => parHead_any head W hn)
    have CV := Lib.hid (fun W => pFault_any v W (by omega))
    have hva := vfA_le v
    generalize vfE v = ve at CV ⊢
    generalize vfA v = va at CV hva ⊢
    generalize hd head = q at CH ⊢
    obtain ⟨g, n, l, hv, a, er⟩ := q
    unfold Told prV at CH
    simp only at CH ⊢
    clear hi hs
    by_cases he : er = 0
    · subst he
      rw [if_pos rfl]
      by_cases hve : ve = 0
      · subst hve
        rw [if_pos rfl]
        unfold Told prV
        simp only
        clear hva hr hn
        go_enter Tryd.func5, Tryd.ntmps5
        go_wp2_with fail
        refine (C.out _).mono ?_
        rintro e w1 ⟨rfl, b1⟩
        go_wp2_with fail
        refine (CH.out _).mono ?_
        rintro e w2 ⟨pv, rfl, hown, b2⟩
        obtain ⟨pa, pc, rfl⟩ := shapeP hown
        have hz12 : w.heap.size + 1 ≤ w1.heap.size := by have h1 := b1.size; rw [World.size_alloc] at h1; omega
        have HZ2 := (HZ.below b1).below b2
        have HB2 := HB.trans ((b1.trans (b2.mono b1.size)).mono HB.size)
        have b3 : Below w2.heap.size w2 (w2.alloc (.cells #[.string g, .string n, .slice pa l.length pc, .string hv, .slice none 0 0] 25)) := (Below.refl _ _).alloc (Nat.le_refl _) _
        have HZ3 := HZ2.below b3
        have HP3 : PrAt (w2.alloc (.cells #[.string g, .string n, .slice pa l.length pc, .string hv, .slice none 0 0] 25)) w2.heap.size g n (.slice pa l.length pc) hv (.slice none 0 0) := heap_alloc_new w2 _
        have HB3 := HB2.trans (b3.mono HB2.size)
        have hown3 : Own (w2.alloc (.cells #[.string g, .string n, .slice pa l.length pc, .string hv, .slice none 0 0] 25)) w1.heap.size (.slice pa l.length pc) l := hown.below b3
        go_wp2_with fail
        refine (CV.out _).mono ?_
        rintro e w4 ⟨rfl, b4⟩
        have HZ4 := HZ3.below b4
        have HP4 := HP3.below b4
        have HB4 := HB3.trans (b4.mono HB3.size)
        have hown4 := hown3.below b4
        have b34 := b3.size
        rw [World.size_alloc] at b34
        have m3 := HP4.c3
        have mf3 := HP4.f 3
        have HP5 := HP4.set3 v
        have HZ5 := HZ4.other (a := ⟨w2.heap.size, 3, none⟩) (by show w.heap.size ≠ w2.heap.size; have := b2.size; omega) (.string v)
        have HB5 := HB4.setCell (p := ⟨w2.heap.size, 3, none⟩) (show w.heap.size ≤ w2.heap.size by have := b2.size; omega) (.string v)
        have hlt := Sq.own_lt hown
        have HO5 := Own.setNe hown4 (a := ⟨w2.heap.size, 3, none⟩) (fun k e => (hlt k e).2) (.string v)
        have q0 := HZ5.c0
        have s0 := HZ5.f 0
        have q1 := HZ5.c1
        have s1 := HZ5.f 1
        have q2 := HZ5.c2
        have s2 := HZ5.f 2
        have q3 := HZ5.c3
        have s3 := HZ5.f 3
        have q4 := HZ5.c4
        have s4 := HZ5.f 4
        have p0 := HP5.c0
        have p1 := HP5.c1
        have p2 := HP5.c2
        have p3 := HP5.c3
        have p4 := HP5.c4
        go_wp2_with fail
        exact bodyPost_ret (v := .tuple #[.agg #[.string g, .string n, .slice pa l.length pc, .string v, .slice none 0 0], .int .i64 0, .int .i64 0]) (by simp [results, Tryd.results5, go_sem, q0, q1, q2, q3, q4]) rfl ⟨.slice pa l.length pc, rfl, own_low (by omega) (Own.set (Own.set (Own.set (Own.set (Own.set HO5 (by show w.heap.size < _; omega) _) (by show w.heap.size < _; omega) _) (by show w.heap.size < _; omega) _) (by show w.heap.size < _; omega) _) (by show w.heap.size < _; omega) _), (((((HB5.setCell (Nat.le_refl _) _).setCell (Nat.le_refl _) _).setCell (Nat.le_refl _) _).setCell (Nat.le_refl _) _).setCell (Nat.le_refl _) _)⟩
      · have hne : (ve != 0) = true := bne_iff_ne.2 hve
        rw [if_neg hve]
        have hh1 : (head.size : Int) ≤ 10000 := by omega
        have hh2 : 0 ≤ va := hva.1
        have hh3 : va ≤ 10000 := by omega
        have hcast : ((head.size + 1 + va.toNat : Nat) : Int) = (head.size : Int) + 1 + va := by omega
        clear hva hr hn
        go_enter Tryd.func5, Tryd.ntmps5
        go_wp2_with fail
        refine (C.out _).mono ?_
        rintro e w1 ⟨rfl, b1⟩
        go_wp2_with fail
        refine (CH.out _).mono ?_
        rintro e w2 ⟨pv, rfl, hown, b2⟩
        obtain ⟨pa, pc, rfl⟩ := shapeP hown
        have hz12 : w.heap.size + 1 ≤ w1.heap.size := by have h1 := b1.size; rw [World.size_alloc] at h1; omega
        have HZ2 := (HZ.below b1).below b2
        have HB2 := HB.trans ((b1.trans (b2.mono b1.size)).mono HB.size)
        have b3 : Below w2.heap.size w2 (w2.alloc (.cells #[.string g, .string n, .slice pa l.length pc, .string hv, .slice none 0 0] 25)) := (Below.refl _ _).alloc (Nat.le_refl _) _
        have HZ3 := HZ2.below b3
        have HP3 : PrAt (w2.alloc (.cells #[.string g, .string n, .slice pa l.length pc, .string hv, .slice none 0 0] 25)) w2.heap.size g n (.slice pa l.length pc) hv (.slice none 0 0) := heap_alloc_new w2 _
        have HB3 := HB2.trans (b3.mono HB2.size)
        have hown3 : Own (w2.alloc (.cells #[.string g, .string n, .slice pa l.length pc, .string hv, .slice none 0 0] 25)) w1.heap.size (.slice pa l.length pc) l := hown.below b3
        go_wp2_with fail
        refine (CV.out _).mono ?_
        rintro e w4 ⟨rfl, b4⟩
        have HZ4 := HZ3.below b4
        have HP4 := HP3.below b4
        have HB4 := HB3.trans (b4.mono HB3.size)
        have hown4 := hown3.below b4
        have b34 := b3.size
        rw [World.size_alloc] at b34
        have q0 := HZ4.c0
        have s0 := HZ4.f 0
        have q1 := HZ4.c1
        have s1 := HZ4.f 1
        have q2 := HZ4.c2
        have s2 := HZ4.f 2
        have q3 := HZ4.c3
        have s3 := HZ4.f 3
        have q4 := HZ4.c4
        have s4 := HZ4.f 4
        go_wp2_with fail
        exact bodyPost_ret (v := .tuple #[.agg #[.string ⟨#[]⟩, .string ⟨#[]⟩, .slice none 0 0, .string ⟨#[]⟩, .slice none 0 0], .int .i64 ((head.size : Int) + 1 + va), .int .i64 ve]) (by simp [results, Tryd.results5, go_sem, q0, q1, q2, q3, q4]) rfl (by rw [← hcast]; exact told_err ((((((HB4.setCell (Nat.le_refl _) _).setCell (Nat.le_refl _) _).setCell (Nat.le_refl _) _).setCell (Nat.le_refl _) _).setCell (Nat.le_refl _) _)))
    · have hne : (er != 0) = true := bne_iff_ne.2 he
      rw [if_neg he]
      clear hva hr hn
      go_enter Tryd.func5, Tryd.ntmps5
      go_wp2_with fail
      refine (C.out _).mono ?_
      rintro e w1 ⟨rfl, b1⟩
      go_wp2_with fail
      refine (CH.out _).mono ?_
      rintro e w2 ⟨pv, rfl, hown, b2⟩
      obtain ⟨pa, pc, rfl⟩ := shapeP hown
      have hz12 : w.heap.size + 1 ≤ w1.heap.size := by have h1 := b1.size; rw [World.size_alloc] at h1; omega
      have HZ2 := (HZ.below b1).below b2
      have HB2 := HB.trans ((b1.trans (b2.mono b1.size)).mono HB.size)
      have b3 : Below w2.heap.size w2 (w2.alloc (.cells #[.string g, .string n, .slice pa l.length pc, .string hv, .slice none 0 0] 25)) := (Below.refl _ _).alloc (Nat.le_refl _) _
      have HZ3 := HZ2.below b3
      have HP3 : PrAt (w2.alloc (.cells #[.string g, .string n, .slice pa l.length pc, .string hv, .slice none 0 0] 25)) w2.heap.size g n (.slice pa l.length pc) hv (.slice none 0 0) := heap_alloc_new w2 _
      have HB3 := HB2.trans (b3.mono HB2.size)
      have hown3 : Own (w2.alloc (.cells #[.string g, .string n, .slice pa l.length pc, .string hv, .slice none 0 0] 25)) w1.heap.size (.slice pa l.length pc) l := hown.below b3
      have q0 := HZ3.c0
      have s0 := HZ3.f 0
      have q1 := HZ3.c1
      have s1 := HZ3.f 1
      have q2 := HZ3.c2
      have s2 := HZ3.f 2
      have q3 := HZ3.c3
      have s3 := HZ3.f 3
      have q4 := HZ3.c4
      have s4 := HZ3.f 4
      go_wp2_with fail
      exact bodyPost_ret (v := .tuple #[.agg #[.string ⟨#[]⟩, .string ⟨#[]⟩, .slice none 0 0, .string ⟨#[]⟩, .slice none 0 0], .int .i64 (a : Int), .int .i64 er]) (by simp [results, Tryd.results5, go_sem, q0, q1, q2, q3, q4]) rfl (told_err ((((((HB3.setCell (Nat.le_refl _) _).setCell (Nat.le_refl _) _).setCell (Nat.le_refl _) _).setCell (Nat.le_refl _) _).setCell (Nat.le_refl _) _)))
  · have C := Lib.hid (fun W => scut_no 58 s W (by rw [list_size]; exact hi))
    rw [prs, if_neg hi]
    clear hi
    have hs1 : (s.size : Int) ≤ 10000 := by omega
    clear hs
    go_enter Tryd.func5, Tryd.ntmps5
    go_wp2_with fail
    refine (C.out _).mono ?_
    rintro e w1 ⟨rfl, b1⟩
    have HZ1 := HZ.below b1
    have HB1 := HB.trans (b1.mono HB.size)
    have q0 := HZ1.c0
    have s0 := HZ1.f 0
    have q1 := HZ1.c1
    have s1 := HZ1.f 1
    have q2 := HZ1.c2
    have s2 := HZ1.f 2
    have q3 := HZ1.c3
    have s3 := HZ1.f 3
    have q4 := HZ1.c4
    have s4 := HZ1.f 4
    go_wp2_with fail
    exact bodyPost_ret (v := .tuple #[.agg #[.string ⟨#[]⟩, .string ⟨#[]⟩, .slice none 0 0, .string ⟨#[]⟩, .slice none 0 0], .int .i64 (s.size : Int), .int .i64 1]) (by simp [results, Tryd.results5, go_sem, q0, q1, q2, q3, q4]) rfl (told_err ((((((HB1.setCell (Nat.le_refl _) _).setCell (Nat.le_refl _) _).setCell (Nat.le_refl _) _).setCell (Nat.le_refl _) _).setCell (Nat.le_refl _) _)))
end Go.Proofs.YtccgpemcdbcjeaaDoor.Pp
