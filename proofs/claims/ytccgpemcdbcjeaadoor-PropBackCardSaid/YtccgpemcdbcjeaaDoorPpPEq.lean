/-
What the program reads of a line is what the document reads: both plain functions are the same. No program in it, no conditions.
-/
import Derived.Test.YtccgpemcdbcjeaaDoorPpPParse
import Derived.Test.YtccgpemcdbcjeaaDoorPpLineMath
namespace Go.Proofs.YtccgpemcdbcjeaaDoor.Pp
open Go.RowKit Cs

theorem ext_list (s : ByteArray) (a z : Nat) : (s.extract a z).data.toList = (s.data.toList.take z).drop a := by
  rw [ByteArray.data_extract, Array.toList_extract, List.extract_eq_take_drop, List.drop_take]
theorem find_ext (s : ByteArray) (a z : Nat) (c : UInt8) : find s a z c = a + (s.extract a z).data.toList.idxOf c := by
  unfold find findN; rw [ext_list]
theorem ext_size {s : ByteArray} {a z : Nat} (hz : z ≤ s.size) : (s.extract a z).size = z - a := by rw [ByteArray.size_extract]; omega
theorem mk_of (s : ByteArray) : (⟨s.data.toList.toArray⟩ : ByteArray) = s := by apply ByteArray.ext; simp
theorem ext_of_list {s t : ByteArray} (h : s.data.toList = t.data.toList) : s = t := by rw [← mk_of s, h, mk_of]
theorem ext_ext (s : ByteArray) (a z i j : Nat) (h : a + j ≤ z) : (s.extract a z).extract i j = s.extract (a + i) (a + j) := by
  apply ext_of_list
  rw [ext_list, ext_list, ext_list, List.take_drop, List.take_take, List.drop_drop]
  rw [show min (a + j) z = a + j by omega]
theorem ext_whole (s : ByteArray) : s.extract 0 s.size = s := by
  apply ext_of_list; rw [ext_list, List.drop_zero, List.take_of_length_le (by rw [list_size]; exact Nat.le_refl _)]
theorem idx_le (s : ByteArray) (c : UInt8) : s.data.toList.idxOf c ≤ s.size := by rw [← list_size]; exact List.idxOf_le_length
theorem up_list (s : ByteArray) : (upB s).data.toList = up s.data.toList := by unfold upB; simp
theorem up_ext (s : ByteArray) (a z : Nat) : (upB s).extract a z = upB (s.extract a z) := by
  apply ext_of_list
  rw [ext_list, up_list, up_list, ext_list]
  unfold up
  rw [List.map_drop, List.map_take]
theorem cap1_dot (x : UInt8) : (cap1 x == 46) = (x == 46) := by
  by_cases h : 97 ≤ (x.toNat : Int) ∧ (x.toNat : Int) ≤ 122
  · have h2 := cap1_yes h.1 h.2
    have e1 : (cap1 x == 46) = false := beq_eq_false_iff_ne.2 (fun e => by rw [e] at h2; have : ((46 : UInt8).toNat : Int) = 46 := rfl; omega)
    have e2 : (x == 46) = false := beq_eq_false_iff_ne.2 (fun e => by subst e; have : ((46 : UInt8).toNat : Int) = 46 := rfl; omega)
    rw [e1, e2]
  · rw [cap1_no h]
theorem idx_up (l : List UInt8) : (up l).idxOf 46 = l.idxOf 46 := by
  unfold up
  induction l with
  | nil => rfl
  | cons x r ih => rw [List.map_cons, List.idxOf_cons, List.idxOf_cons, cap1_dot, ih]
theorem valc_cap (x : UInt8) : valc (cap1 x) = valc x := by
  by_cases h : 97 ≤ (x.toNat : Int) ∧ (x.toNat : Int) ≤ 122
  · have h2 := cap1_yes h.1 h.2
    unfold valc
    rw [decide_eq_true (by omega), decide_eq_true (by omega)]
  · rw [cap1_no h]
theorem valB_up (s : ByteArray) : valB (upB s) = valB s := by
  unfold valB
  rw [up_list]
  unfold up valL
  cases s.data.toList with
  | nil => rfl
  | cons c r =>
    simp only [List.map_cons]
    rw [List.length_cons, List.length_map, List.length_cons, List.all_cons, List.all_cons, valc_cap, List.all_map]
    congr 2
    exact congrArg (fun f => List.all r f) (funext fun x => valc_cap x)

theorem ppar_eq (s : ByteArray) (a t : Nat) (ht : t ≤ s.size) (ha : a ≤ t) : (ppar (s.extract a t)).1 = parOf s a t (find s a t 61) ∧
    ((ppar (s.extract a t)).2 = false ↔ (paramB (parOf s a t (find s a t 61)).1 (parOf s a t (find s a t 61)).2 = false ∨ find s a t 61 = a)) := by
  have hx := ext_size (s := s) (a := a) ht
  have hi := idx_le (s.extract a t) 61
  have hf := find_ext s a t 61
  unfold ppar parOf paramB
  rw [hf]
  generalize (s.extract a t).data.toList.idxOf 61 = i at hi
  by_cases h : i < (s.extract a t).size
  · rw [if_pos h, if_pos (by omega : a + i < t)]
    rw [ext_ext s a t 0 i (by omega), ext_ext s a t (i + 1) _ (by omega), hx, Nat.add_zero, show a + (t - a) = t by omega, ← Nat.add_assoc]
    refine ⟨rfl, ?_⟩
    simp only
    have hn : (upB (s.extract a (a + i))).size = i := by rw [upS, ext_size (by omega)]; omega
    by_cases h0 : i = 0
    · subst h0
      rw [nameB_none hn]
      simp
    · rw [decide_eq_false (by rw [hn]; exact h0), Bool.false_or]
      constructor
      · exact fun h => .inl h
      · rintro (h | h)
        · exact h
        · omega
  · rw [if_neg h, if_neg (by omega : ¬ a + i < t)]
    refine ⟨rfl, ?_⟩
    simp only
    rw [valB_up, decide_eq_true (show (⟨#[]⟩ : ByteArray).size = 0 from rfl), Bool.true_or, Bool.true_and]
    constructor
    · exact fun h => .inl h
    · rintro (h | h)
      · exact h
      · exact valB_none (by omega)

/-- The rest of a line: its parameters read, the value; or an error. -/
def goOn (s : ByteArray) (z : Nat) (g n : ByteArray) (r : List (ByteArray × ByteArray) × Nat × Int) : Par := if r.2.2 = 0 then tailP s z g n r.1 else errP r.2.1 r.2.2
theorem parsP_pars (s : ByteArray) (z : Nat) (g n : ByteArray) (hz : z ≤ s.size) : ∀ (d stop : Nat) (ps : List (ByteArray × ByteArray)), z - stop ≤ d → stop < z → parsP s z g n stop ps = goOn s z g n (pars (stop + 1) ps (pcs 59 (s.extract (stop + 1) z))) := by
  intro d
  induction d with
  | zero => intro stop ps hd hs; omega
  | succ d ih =>
    intro stop ps hd hs
    have hx := ext_size (s := s) (a := stop + 1) hz
    have hi := idx_le (s.extract (stop + 1) z) 59
    have hf := find_ext s (stop + 1) z 59
    rw [parsP, dif_pos hs]
    simp only
    by_cases h : (s.extract (stop + 1) z).data.toList.idxOf 59 < (s.extract (stop + 1) z).size
    · rw [pcs_yes h, hx, ext_ext s (stop + 1) z 0 _ (by omega), ext_ext s (stop + 1) z _ _ (by omega), Nat.add_zero, show stop + 1 + (z - (stop + 1)) = z by omega, ← Nat.add_assoc]
      rw [← hf]
      have hlt : find s (stop + 1) z 59 < z := by omega
      have hge : stop + 1 ≤ find s (stop + 1) z 59 := by omega
      obtain ⟨t, ht⟩ : ∃ t, find s (stop + 1) z 59 = t := ⟨_, rfl⟩
      rw [ht] at hlt hge ⊢
      obtain ⟨e1, e2⟩ := ppar_eq s (stop + 1) t (by omega) hge
      rw [pars, e1]
      by_cases h6 : ps.length = 6
      · rw [if_pos h6, if_pos h6]; rfl
      · rw [if_neg h6, if_neg h6]
        by_cases hb : paramB (parOf s (stop + 1) t (find s (stop + 1) t 61)).1 (parOf s (stop + 1) t (find s (stop + 1) t 61)).2 = false ∨ find s (stop + 1) t 61 = stop + 1
        · rw [if_pos hb, if_pos (e2.2 hb)]; rfl
        · rw [if_neg hb, if_neg (fun h' => hb (e2.1 h')), ih t _ (by omega) hlt, ext_size (by omega : t ≤ s.size), show stop + 1 + (t - (stop + 1)) + 1 = t + 1 by omega]
    · rw [pcs_no h]
      have ht : find s (stop + 1) z 59 = z := by omega
      rw [ht]
      obtain ⟨e1, e2⟩ := ppar_eq s (stop + 1) z hz (by omega)
      rw [pars, e1]
      by_cases h6 : ps.length = 6
      · rw [if_pos h6, if_pos h6]; rfl
      · rw [if_neg h6, if_neg h6]
        by_cases hb : paramB (parOf s (stop + 1) z (find s (stop + 1) z 61)).1 (parOf s (stop + 1) z (find s (stop + 1) z 61)).2 = false ∨ find s (stop + 1) z 61 = stop + 1
        · rw [if_pos hb, if_pos (e2.2 hb)]; rfl
        · rw [if_neg hb, if_neg (fun h' => hb (e2.1 h')), parsP, dif_neg (Nat.lt_irrefl _), pars]; rfl
/-- A place further on. -/
theorem pars_shift (b : Nat) (l : List ByteArray) : ∀ (a : Nat) (ps : List (ByteArray × ByteArray)), pars (b + a) ps l = ((pars a ps l).1, if (pars a ps l).2.2 = 0 then 0 else b + (pars a ps l).2.1, (pars a ps l).2.2) := by
  induction l with
  | nil => intro a ps; rfl
  | cons x r ih =>
    intro a ps
    rw [pars, pars]
    by_cases h6 : ps.length = 6
    · rw [if_pos h6, if_pos h6]; rfl
    · rw [if_neg h6, if_neg h6]
      by_cases hb : (ppar x).2 = false
      · rw [if_pos hb, if_pos hb]; rfl
      · rw [if_neg hb, if_neg hb, ← ih, show b + a + x.size + 1 = b + (a + x.size + 1) by omega]
theorem tail_eq (s : ByteArray) (z : Nat) (g n : ByteArray) (ps : List (ByteArray × ByteArray)) :
    (if vfE (s.extract (z + 1) s.size) = 0 then (⟨g, n, ps, s.extract (z + 1) s.size, 0, 0⟩ : Par) else errP (z + 1 + (vfA (s.extract (z + 1) s.size)).toNat) (vfE (s.extract (z + 1) s.size))) = tailP s z g n ps := by
  unfold tailP
  simp only
  generalize s.extract (z + 1) s.size = v
  unfold vfE vfA
  by_cases h : 2400 < v.size
  · rw [if_pos h, if_pos h, if_pos h, if_neg (by decide)]; rfl
  · rw [if_neg h, if_neg h, if_neg h]
    unfold idxO
    by_cases hf : v.data.toList.findIdx oddb < v.size
    · simp [hf]
    · simp [hf]
/-- What stands ahead of the first : and then the value. -/
theorem group_eq (s : ByteArray) (z : Nat) (hz : z < s.size) :
    (if (hd (s.extract 0 z)).err = 0 then tailP s z (hd (s.extract 0 z)).g (hd (s.extract 0 z)).n (hd (s.extract 0 z)).ps else errP (hd (s.extract 0 z)).at_ (hd (s.extract 0 z)).err) = groupP s z := by
  have hx := ext_size (s := s) (a := 0) (Nat.le_of_lt hz)
  have hi := idx_le (s.extract 0 z) 59
  have hf := find_ext s 0 z 59
  rw [Nat.zero_add] at hf
  unfold groupP
  simp only
  rw [hf]
  obtain ⟨stop, hs⟩ : ∃ k, (s.extract 0 z).data.toList.idxOf 59 = k := ⟨_, rfl⟩
  rw [hs] at hi ⊢
  have hsz : stop ≤ z := by omega
  -- the names
  have hN : names (s.extract 0 stop) = groupQ stop (upB (s.extract 0 stop)) := by unfold names; rw [ext_size (by omega)]; rfl
  have key : (if (names (s.extract 0 stop)).err = 0 then parsP s z (names (s.extract 0 stop)).g (names (s.extract 0 stop)).n stop [] else errP (names (s.extract 0 stop)).at_ (names (s.extract 0 stop)).err) = (if find s 0 stop 46 < stop then (if nameB (upB (s.extract 0 (find s 0 stop 46))) = false then errP 0 14 else nameP s z stop (upB (s.extract 0 (find s 0 stop 46))) (find s 0 stop 46 + 1)) else nameP s z stop ⟨#[]⟩ 0) := by
    have hd' : find s 0 stop 46 = (upB (s.extract 0 stop)).data.toList.idxOf 46 := by rw [up_list, idx_up, find_ext, Nat.zero_add]
    have hu : (upB (s.extract 0 stop)).size = stop := by rw [upS, ext_size (by omega)]; omega
    rw [hN]
    unfold groupQ
    rw [← hd', hu]
    generalize find s 0 stop 46 = d
    by_cases h : d < stop
    · rw [if_pos h, if_pos h, up_ext, up_ext, ext_ext s 0 stop 0 d (by omega), ext_ext s 0 stop (d + 1) stop (by omega)]
      simp only [Nat.zero_add]
      by_cases hg : nameB (upB (s.extract 0 d)) = false
      · rw [if_pos hg, if_pos hg]; rfl
      · rw [if_neg hg, if_neg hg]
        unfold nameQ nameP
        by_cases hn : nameB (upB (s.extract (d + 1) stop)) = false
        · rw [if_pos hn, if_pos hn]
          simp only
          rw [if_neg (by decide), upS, ext_size (by omega), show stop - (stop - (d + 1)) = d + 1 by omega]
        · rw [if_neg hn, if_neg hn]; rfl
    · rw [if_neg h, if_neg h]
      unfold nameQ nameP
      by_cases hn : nameB (upB (s.extract 0 stop)) = false
      · rw [if_pos hn, if_pos hn]
        simp only
        rw [if_neg (by decide), hu, Nat.sub_self]
      · rw [if_neg hn, if_neg hn]; rfl
  rw [← key]
  unfold hd
  rw [hs]
  by_cases h : stop < (s.extract 0 z).size
  · rw [if_pos h, hx, ext_ext s 0 z 0 stop (by omega), ext_ext s 0 z (stop + 1) _ (by omega)]
    simp only [Nat.zero_add, Nat.sub_zero]
    have hsl : stop < z := by omega
    have hss : (s.extract 0 stop).size = stop := by rw [ext_size (by omega)]; omega
    rw [hss]
    generalize names (s.extract 0 stop) = q
    by_cases he : q.err = 0
    · rw [if_pos he, if_pos he]
      simp only
      rw [parsP_pars s z q.g q.n (by omega) (z - stop) stop [] (Nat.le_refl _) hsl]
      have hp := pars_shift (stop + 1) (pcs 59 (s.extract (stop + 1) z)) 0 []
      rw [Nat.add_zero] at hp
      rw [hp]
      unfold goOn
      generalize pars 0 [] (pcs 59 (s.extract (stop + 1) z)) = r
      simp only
      by_cases hr : r.2.2 = 0
      · rw [if_pos hr, if_pos hr]
      · rw [if_neg hr, if_neg hr, if_neg hr]
    · rw [if_neg he, if_neg he]
      simp only
      rw [if_neg he]
  · rw [if_neg h]
    have hsl : stop = z := by omega
    subst hsl
    simp only
    generalize names (s.extract 0 stop) = q
    by_cases he : q.err = 0
    · rw [if_pos he, if_pos he, parsP, dif_neg (Nat.lt_irrefl _)]
    · rw [if_neg he, if_neg he]
theorem prs_eq (s : ByteArray) : prs s = parse s := by
  have hi := idx_le s 58
  have hf := find_ext s 0 s.size 58
  rw [Nat.zero_add, ext_whole] at hf
  unfold prs parse
  simp only
  rw [hf]
  by_cases h : s.data.toList.idxOf 58 < s.size
  · rw [if_pos h, if_neg (show ¬ s.data.toList.idxOf 58 = s.size by omega), ext_size (by omega : s.data.toList.idxOf 58 ≤ s.size), Nat.sub_zero, tail_eq, group_eq s _ h]
  · rw [if_neg h, if_pos (show s.data.toList.idxOf 58 = s.size by omega)]
end Go.Proofs.YtccgpemcdbcjeaaDoor.Pp
