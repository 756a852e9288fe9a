/-
Texts joined in one file, each with its own conditions: A line's parameter, as the program reads it: the answer is the plain function's. Conditions: the text has at most 2^40 bytes. · What reading a line answers with no error is right, in plain words. No program in it. · Where a byte is in a text that is made of pieces; capitals said twice. No program in it.
-/
import Derived.Test.YtpdodknldhbbhaaGreatDoorJ07
import Derived.Test.YtpdodknldhbbhaaGreatDoorJ23
import Derived.Test.YtpdodknldhbbhaaGreatDoorJ19
import Derived.Test.YtpdodknldhbbhaaGreatDoorJ08
import Derived.Test.YtpdodknldhbbhaaGreatDoorJ10
namespace Go.Proofs.YtpdodknldhbbhaaGreatDoor.Pp
set_option maxRecDepth 100000
open Go.RowKit

theorem pCaps_any (s : ByteArray) (w : World) (hs : s.size ≤ 140737488355328) :
    Calls Tryz.prog 52 #[.string s] w fun e w' => e = .returned (.string (upB s)) ∧ Below w.heap.size w w' := Cs.caps_any s w hs

/-- A parameter's cells in block b. -/
def QAt (w : World) (b : Nat) (n v : ByteArray) : Prop := w.heap[b]? = some (.cells #[.string n, .string v] 66 (0, 0))
section
variable {w w' : World} {b : Nat} {n v : ByteArray}
theorem QAt.lt (h : QAt w b n v) : b < w.heap.size := (Array.getElem?_eq_some_iff.1 h).1
theorem QAt.c0 (h : QAt w b n v) : w.cell? ⟨b, 0, none⟩ = some (.string n) := cell_of_row w b 0 _ _ _ h
theorem QAt.c1 (h : QAt w b n v) : w.cell? ⟨b, 1, none⟩ = some (.string v) := cell_of_row w b 1 _ _ _ h
theorem QAt.f (h : QAt w b n v) (j : Nat) : w.frozen? ⟨b, j, none⟩ = false := frozen_of_row _ _ _ _ _ h
theorem QAt.below (h : QAt w b n v) (hb : Below w.heap.size w w') : QAt w' b n v := (hb.block b h.lt).trans h
end

/-- A parameter in a piece, and whether it is right. -/
def ppar (s : ByteArray) : (ByteArray × ByteArray) × Bool :=
  if s.data.toList.idxOf 61 < s.size then ((upB (s.extract 0 (s.data.toList.idxOf 61)), s.extract (s.data.toList.idxOf 61 + 1) s.size), nameB (upB (s.extract 0 (s.data.toList.idxOf 61))) && valB (s.extract (s.data.toList.idxOf 61 + 1) s.size))
  else ((⟨#[]⟩, upB s), valB s)
set_option maxHeartbeats 1000000 in
theorem parParam_any (s : ByteArray) (w : World) (hs : s.size ≤ 1099511627776) :
    Calls Tryz.prog 183 #[.string s] w fun e w' => e = .returned (.tuple #[.agg #[.string (ppar s).1.1, .string (ppar s).1.2], .bool (ppar s).2]) ∧ Below w.heap.size w w' := by
  have hm : s.size ≤ maxLen := by unfold maxLen; omega
  have HB : Below w.heap.size w (w.alloc (.cells #[.string ⟨#[]⟩, .string ⟨#[]⟩] 66)) := (Below.refl _ _).alloc (Nat.le_refl _) _
  have HQ : QAt (w.alloc (.cells #[.string ⟨#[]⟩, .string ⟨#[]⟩] 66)) w.heap.size ⟨#[]⟩ ⟨#[]⟩ := heap_alloc_new w _
  by_cases hi : s.data.toList.idxOf 61 < s.size
  · have C := Lib.hid (fun W => scut_yes 61 s W hm (by rw [list_size]; exact hi))
    have hj1 : (s.extract 0 (s.data.toList.idxOf 61)).size ≤ 1099511627776 := by rw [ByteArray.size_extract]; omega
    have hj2 : (s.extract (s.data.toList.idxOf 61 + 1) s.size).size ≤ 1099511627776 := by rw [ByteArray.size_extract]; omega
    rw [ppar, if_pos hi]
    generalize s.extract 0 (s.data.toList.idxOf 61) = n at C hj1 ⊢
    generalize s.extract (s.data.toList.idxOf 61 + 1) s.size = v at C hj2 ⊢
    have CC := Lib.hid (fun W => pCaps_any n W (by omega))
    generalize upB n = u at CC ⊢
    have CN := Lib.hid (fun W => pName_any u W)
    have CV := Lib.hid (fun W => pVal_any v W)
    generalize nameB u = x at CN ⊢
    generalize valB v = y at CV ⊢
    clear hi hj1 hj2 hm hs
    cases x with
    | false =>
      go_enter Tryz.func183, Tryz.ntmps183
      go_wp2_with fail
      refine (C.out _).mono ?_
      rintro e w1 ⟨rfl, b1⟩
      go_wp2_with fail
      refine (CC.out _).mono ?_
      rintro e w2 ⟨rfl, b2⟩
      have HQ2 := (HQ.below b1).below b2
      have HB2 := HB.trans ((b1.trans (b2.mono b1.size)).mono HB.size)
      have q0 := HQ2.c0
      have q1 := HQ2.c1
      have s0 := HQ2.f 0
      have s1 := HQ2.f 1
      go_wp2_with fail
      refine (CN.out _).mono ?_
      rintro e w' ⟨rfl, rfl⟩
      go_wp2_with fail
      exact bodyPost_ret (v := .tuple #[.agg #[.string u, .string v], .bool false]) (by simp [results, Tryz.results183, go_sem, q0, q1]) rfl ⟨rfl, (HB2.setCell (Nat.le_refl _) _).setCell (Nat.le_refl _) _⟩
    | true =>
      go_enter Tryz.func183, Tryz.ntmps183
      go_wp2_with fail
      refine (C.out _).mono ?_
      rintro e w1 ⟨rfl, b1⟩
      go_wp2_with fail
      refine (CC.out _).mono ?_
      rintro e w2 ⟨rfl, b2⟩
      have HQ2 := (HQ.below b1).below b2
      have HB2 := HB.trans ((b1.trans (b2.mono b1.size)).mono HB.size)
      have q0 := HQ2.c0
      have q1 := HQ2.c1
      have s0 := HQ2.f 0
      have s1 := HQ2.f 1
      go_wp2_with fail
      refine (CN.out _).mono ?_
      rintro e w' ⟨rfl, rfl⟩
      go_wp2_with fail
      refine (CV.out _).mono ?_
      rintro e w' ⟨rfl, rfl⟩
      go_wp2_with fail
      exact bodyPost_ret (v := .tuple #[.agg #[.string u, .string v], .bool y]) (by simp [results, Tryz.results183, go_sem, q0, q1]) rfl ⟨rfl, (HB2.setCell (Nat.le_refl _) _).setCell (Nat.le_refl _) _⟩
  · have C := Lib.hid (fun W => scut_no 61 s W (by rw [list_size]; exact hi))
    rw [ppar, if_neg hi]
    have CC := Lib.hid (fun W => pCaps_any s W (by omega))
    generalize upB s = u at CC ⊢
    have CV := Lib.hid (fun W => pVal_any s W)
    generalize valB s = y at CV ⊢
    clear hi hm hs
    go_enter Tryz.func183, Tryz.ntmps183
    go_wp2_with fail
    refine (C.out _).mono ?_
    rintro e w1 ⟨rfl, b1⟩
    go_wp2_with fail
    refine (CC.out _).mono ?_
    rintro e w2 ⟨rfl, b2⟩
    have HQ2 := (HQ.below b1).below b2
    have HB2 := HB.trans ((b1.trans (b2.mono b1.size)).mono HB.size)
    have q0 := HQ2.c0
    have q1 := HQ2.c1
    have s0 := HQ2.f 0
    have s1 := HQ2.f 1
    go_wp2_with fail
    refine (CV.out _).mono ?_
    rintro e w' ⟨rfl, rfl⟩
    go_wp2_with fail
    exact bodyPost_ret (v := .tuple #[.agg #[.string ⟨#[]⟩, .string u], .bool y]) (by simp [results, Tryz.results183, go_sem, q0, q1]) rfl ⟨rfl, (HB2.setCell (Nat.le_refl _) _).setCell (Nat.le_refl _) _⟩
end Go.Proofs.YtpdodknldhbbhaaGreatDoor.Pp

namespace Go.Proofs.YtpdodknldhbbhaaGreatDoor.Pp

theorem err_ne {a : Nat} {e : Int} (h : ¬ e = 0) : ¬ (errP a e).err = 0 := h
theorem goodV_of {v : ByteArray} (h : ¬ v.data.toList.findIdx oddb < v.size) : goodV v = true := by
  unfold goodV
  rw [List.all_eq_true]
  intro c hc
  cases ho : oddb c
  · rfl
  · exact absurd (by rw [← list_size]; exact List.findIdx_lt_length_of_exists ⟨c, hc, ho⟩) h
theorem tailP_ok {s : ByteArray} {z : Nat} {g n : ByteArray} {ps : List (ByteArray × ByteArray)} (he : (tailP s z g n ps).err = 0) :
    tailP s z g n ps = ⟨g, n, ps, s.extract (z + 1) s.size, 0, 0⟩ ∧ (s.extract (z + 1) s.size).size ≤ 2400 ∧ goodV (s.extract (z + 1) s.size) = true := by
  unfold tailP at he ⊢
  simp only at he ⊢
  split at he
  · exact absurd he (err_ne (by decide))
  · rename_i h1
    split at he
    · exact absurd he (err_ne (by decide))
    · rename_i h2
      rw [if_neg h1, if_neg h2]
      exact ⟨rfl, by omega, goodV_of h2⟩
/-- The parameters read, one by one: each is right. -/
theorem parsP_ok (s : ByteArray) (z : Nat) (g n : ByteArray) : ∀ (d stop : Nat) (ps : List (ByteArray × ByteArray)), z - stop ≤ d → ps.length ≤ 6 → goodPs ps = true → (parsP s z g n stop ps).err = 0 →
    (parsP s z g n stop ps).g = g ∧ (parsP s z g n stop ps).n = n ∧ (parsP s z g n stop ps).ps.length ≤ 6 ∧ goodPs (parsP s z g n stop ps).ps = true ∧ (parsP s z g n stop ps).v = s.extract (z + 1) s.size ∧ (s.extract (z + 1) s.size).size ≤ 2400 ∧ goodV (s.extract (z + 1) s.size) = true := by
  intro d
  induction d with
  | zero =>
    intro stop ps hd hp hg he
    rw [parsP, dif_neg (by omega)] at he ⊢
    obtain ⟨h1, h2, h3⟩ := tailP_ok he
    rw [h1]
    exact ⟨rfl, rfl, hp, hg, rfl, h2, h3⟩
  | succ d ih =>
    intro stop ps hd hp hg he
    rw [parsP] at he ⊢
    by_cases h : stop < z
    · rw [dif_pos h] at he ⊢
      simp only at he ⊢
      split at he
      · exact absurd he (err_ne (by decide))
      · rename_i h6
        split at he
        · exact absurd he (err_ne (by decide))
        · rename_i hq
          rw [if_neg h6, if_neg hq]
          refine ih _ _ ?_ ?_ ?_ he
          · have := find_ge (s := s) (a := stop + 1) (z := z) (c := 59); omega
          · rw [List.length_append]; simp; omega
          · unfold goodPs at hg ⊢
            rw [List.all_append, hg, Bool.true_and]
            simp only [List.all_cons, List.all_nil, Bool.and_true]
            cases hb : paramB (parOf s (stop + 1) (find s (stop + 1) z 59) (find s (stop + 1) (find s (stop + 1) z 59) 61)).1 (parOf s (stop + 1) (find s (stop + 1) z 59) (find s (stop + 1) (find s (stop + 1) z 59) 61)).2
            · exact absurd (.inl hb) hq
            · rfl
    · rw [dif_neg h] at he ⊢
      obtain ⟨h1, h2, h3⟩ := tailP_ok he
      rw [h1]
      exact ⟨rfl, rfl, hp, hg, rfl, h2, h3⟩
theorem chk_of {R : Par} (h1 : goodNames R.g R.n = true) (h2 : R.ps.length ≤ 6) (h3 : goodPs R.ps = true) (h4 : R.v.size ≤ 2400) (h5 : goodV R.v = true) : chk R.g R.n R.ps R.v 0 = 0 := by
  unfold chk
  rw [if_neg (by rw [h1]; simp), if_neg (by omega), if_neg (by rw [h3]; simp), if_neg (by omega), if_neg (by omega), if_neg (by rw [h5]; simp)]
theorem nameP_ok {s : ByteArray} {z stop a : Nat} {g : ByteArray} (hg : (decide (g.size = 0) || nameB g) = true) (he : (nameP s z stop g a).err = 0) : chk (nameP s z stop g a).g (nameP s z stop g a).n (nameP s z stop g a).ps (nameP s z stop g a).v 0 = 0 := by
  unfold nameP at he ⊢
  split at he
  · exact absurd he (err_ne (by decide))
  · rename_i hn
    rw [if_neg hn]
    obtain ⟨h1, h2, h3, h4, h5, h6, h7⟩ := parsP_ok s z g _ _ stop [] (Nat.le_refl _) (by simp) rfl he
    refine chk_of ?_ h3 h4 (by rw [h5]; exact h6) (by rw [h5]; exact h7)
    rw [h1, h2]
    unfold goodNames
    rw [hg, Bool.true_and]
    simpa using hn
/-- What is read is right. -/
theorem parse_ok {s : ByteArray} (he : (parse s).err = 0) : chk (parse s).g (parse s).n (parse s).ps (parse s).v 0 = 0 := by
  unfold parse at he ⊢
  simp only at he ⊢
  split at he
  · exact absurd he (err_ne (by decide))
  · rename_i hz
    rw [if_neg hz]
    unfold groupP at he ⊢
    simp only at he ⊢
    split at he
    · rename_i hd
      rw [if_pos hd]
      split at he
      · exact absurd he (err_ne (by decide))
      · rename_i hn
        rw [if_neg hn]
        exact nameP_ok (by simp only [Bool.not_eq_false] at hn; rw [hn, Bool.or_true]) he
    · rename_i hd
      rw [if_neg hd]
      exact nameP_ok rfl he
end Go.Proofs.YtpdodknldhbbhaaGreatDoor.Pp

namespace Go.Proofs.YtpdodknldhbbhaaGreatDoor.Pp
set_option maxRecDepth 100000
open Cs

end Go.Proofs.YtpdodknldhbbhaaGreatDoor.Pp
