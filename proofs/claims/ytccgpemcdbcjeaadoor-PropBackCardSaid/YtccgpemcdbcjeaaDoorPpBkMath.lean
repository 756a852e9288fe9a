/-
What is printed is read, and what is read is as long as what is printed of it: over the plain functions. No program in it, no conditions.
-/
import Derived.Test.YtccgpemcdbcjeaaDoorPpPEq
import Derived.Test.YtccgpemcdbcjeaaDoorPpPrt
import Derived.Test.YtccgpemcdbcjeaaDoorPpPCheck
namespace Go.Proofs.YtccgpemcdbcjeaaDoor.Pp
open Go.RowKit Cs

theorem app_list (a b : ByteArray) : (a ++ b).data.toList = a.data.toList ++ b.data.toList := by rw [ByteArray.data_append, Array.toList_append]
theorem app_assoc (a b c : ByteArray) : a ++ b ++ c = a ++ (b ++ c) := ByteArray.append_assoc
/-- A text parted at the byte that its beginning has not. -/
theorem cut_at {a b : ByteArray} {c : UInt8} (h : c ∉ a.data.toList) : (a ++ (⟨#[c]⟩ ++ b)).data.toList.idxOf c = a.size ∧ a.size < (a ++ (⟨#[c]⟩ ++ b)).size ∧ (a ++ (⟨#[c]⟩ ++ b)).extract 0 a.size = a ∧ (a ++ (⟨#[c]⟩ ++ b)).extract (a.size + 1) (a ++ (⟨#[c]⟩ ++ b)).size = b := by
  have hl : (a ++ (⟨#[c]⟩ ++ b)).data.toList = a.data.toList ++ (c :: b.data.toList) := by rw [app_list, app_list]; rfl
  have hs : (a ++ (⟨#[c]⟩ ++ b)).size = a.size + (1 + b.size) := by rw [ByteArray.size_append, ByteArray.size_append]; rfl
  refine ⟨?_, by omega, ?_, ?_⟩
  · rw [hl, List.idxOf_append, if_neg h, List.idxOf_cons_self, list_size, Nat.zero_add]
  · apply ext_of_list
    rw [ext_list, hl, List.drop_zero, ← list_size, List.take_left']
    rfl
  · apply ext_of_list
    rw [ext_list, hl, hs, List.take_of_length_le (by rw [List.length_append, List.length_cons, list_size, list_size]; omega), ← list_size]
    rw [show a.data.toList.length + 1 = (a.data.toList ++ [c]).length by simp, show a.data.toList ++ c :: b.data.toList = (a.data.toList ++ [c]) ++ b.data.toList by simp, List.drop_left]
theorem cut_not {a : ByteArray} {c : UInt8} (h : c ∉ a.data.toList) : ¬ a.data.toList.idxOf c < a.size := by
  rw [List.idxOf_eq_length h, list_size]; omega
theorem empty_of {a : ByteArray} (h : a.size = 0) : a = ⟨#[]⟩ := by
  apply ext_of_list
  rw [List.eq_nil_of_length_eq_zero (l := a.data.toList) (by rw [list_size]; exact h)]

theorem name_all {s : ByteArray} (h : nameB s = true) : 0 < s.size ∧ s.data.toList.all nmc = true := by
  have h0 : ¬ s.size = 0 := fun e => by rw [nameB_none e] at h; cases h
  have hl := nameB_le h
  rw [nameB_some (by omega) hl, Bool.and_eq_true] at h
  exact ⟨by omega, h.2⟩
theorem val_all {s : ByteArray} (h : valB s = true) : 0 < s.size ∧ s.data.toList.all valc = true := by
  have h0 : ¬ s.size = 0 := fun e => by rw [valB_none e] at h; cases h
  have hl := valB_le h
  rw [valB_some (by omega) hl] at h
  exact ⟨by omega, h⟩
theorem name_up {s : ByteArray} (h : nameB s = true) : upB s = s := upB_caps (by
  have := (name_all h).2
  rw [List.all_eq_true] at this ⊢
  exact fun c hc => (nmc_caps (this c hc)).1)
theorem name_no {s : ByteArray} (h : nameB s = true) {c : UInt8} (hc : c = 46 ∨ c = 58 ∨ c = 59 ∨ c = 61) : c ∉ s.data.toList := fun hm => by
  have := (name_all h).2
  rw [List.all_eq_true] at this
  have h2 := nmc_caps (this c hm)
  rcases hc with rfl | rfl | rfl | rfl
  · exact h2.2.1 rfl
  · exact h2.2.2.1 rfl
  · exact h2.2.2.2.1 rfl
  · exact h2.2.2.2.2 rfl
theorem val_no {s : ByteArray} (h : valB s = true) {c : UInt8} (hc : c = 58 ∨ c = 59 ∨ c = 61) : c ∉ s.data.toList := fun hm => by
  have := (val_all h).2
  rw [List.all_eq_true] at this
  have h2 := valc_signs (this c hm)
  rcases hc with rfl | rfl | rfl
  · exact h2.1 rfl
  · exact h2.2.1 rfl
  · exact h2.2.2 rfl

/-- A parameter as a piece. -/
def pieceB (p : ByteArray × ByteArray) : ByteArray := if p.1.size = 0 then p.2 else p.1 ++ (⟨#[61]⟩ ++ p.2)
theorem withP_eq (acc : ByteArray) (p : ByteArray × ByteArray) : withP acc p = acc ++ (⟨#[59]⟩ ++ pieceB p) := by
  unfold withP pieceB
  split
  · rw [app_assoc]
  · rw [app_assoc, app_assoc, app_assoc]
/-- All pieces, each behind its ; -/
def tailB : List (ByteArray × ByteArray) → ByteArray
  | [] => ⟨#[]⟩
  | p :: r => ⟨#[59]⟩ ++ (pieceB p ++ tailB r)
theorem app_nil (a : ByteArray) : a ++ (⟨#[]⟩ : ByteArray) = a := by apply ext_of_list; rw [app_list]; exact List.append_nil _
theorem fold_tail (ps : List (ByteArray × ByteArray)) : ∀ acc : ByteArray, ps.foldl withP acc = acc ++ tailB ps := by
  induction ps with
  | nil => intro acc; rw [List.foldl_nil, tailB, app_nil]
  | cons p r ih => intro acc; rw [List.foldl_cons, ih, withP_eq, tailB, app_assoc, app_assoc]
theorem lineB_eq (g n : ByteArray) (ps : List (ByteArray × ByteArray)) (v : ByteArray) : lineB g n ps v = (headL g n ++ tailB ps) ++ (⟨#[58]⟩ ++ v) := by unfold lineB; rw [fold_tail, app_assoc]

theorem param_parts {p : ByteArray × ByteArray} (h : paramB p.1 p.2 = true) : (p.1.size = 0 ∨ nameB p.1 = true) ∧ valB p.2 = true := by
  unfold paramB at h
  rw [Bool.and_eq_true, Bool.or_eq_true] at h
  exact ⟨h.1.imp of_decide_eq_true id, h.2⟩
theorem pieceB_no {p : ByteArray × ByteArray} (h : paramB p.1 p.2 = true) {c : UInt8} (hc : c = 58 ∨ c = 59) : c ∉ (pieceB p).data.toList := by
  obtain ⟨h1, h2⟩ := param_parts h
  have hv := val_no h2 (c := c) (by rcases hc with rfl | rfl <;> simp)
  unfold pieceB
  split
  · exact hv
  · rename_i h0
    have hn := name_no (h1.resolve_left h0) (c := c) (by rcases hc with rfl | rfl <;> simp)
    rw [app_list, app_list]
    intro hm
    rcases List.mem_append.1 hm with hm | hm
    · exact hn hm
    · rcases List.mem_append.1 hm with hm | hm
      · have : c = 61 := by simpa using hm
        subst this; rcases hc with h | h <;> cases h
      · exact hv hm
theorem ppar_piece {p : ByteArray × ByteArray} (h : paramB p.1 p.2 = true) (hcap : p.1.size = 0 → p.2.data.toList.all capb = true) : ppar (pieceB p) = (p, true) := by
  obtain ⟨h1, h2⟩ := param_parts h
  unfold pieceB
  by_cases h0 : p.1.size = 0
  · rw [if_pos h0, ppar, if_neg (cut_not (val_no h2 (by simp))), h2, upB_caps (hcap h0)]
    have : p.1 = ⟨#[]⟩ := empty_of h0
    obtain ⟨a, b⟩ := p
    simp only at this
    rw [this]
  · rw [if_neg h0]
    have hn := h1.resolve_left h0
    obtain ⟨e1, e2, e3, e4⟩ := cut_at (b := p.2) (name_no hn (c := 61) (by simp))
    rw [ppar, e1, if_pos e2, e3, e4, name_up hn, hn, h2]; rfl
theorem pcs_tail (r : List (ByteArray × ByteArray)) : ∀ p : ByteArray × ByteArray, (∀ q ∈ p :: r, paramB q.1 q.2 = true) → pcs 59 (pieceB p ++ tailB r) = (p :: r).map pieceB := by
  induction r with
  | nil =>
    intro p h
    rw [tailB, app_nil, pcs_no (cut_not (pieceB_no (h p (by simp)) (.inr rfl)))]; rfl
  | cons q r ih =>
    intro p h
    obtain ⟨e1, e2, e3, e4⟩ := cut_at (b := pieceB q ++ tailB r) (pieceB_no (h p (by simp)) (c := 59) (.inr rfl))
    rw [tailB, pcs_yes (by rw [e1]; exact e2), e1, e3, e4, ih q (fun x hx => h x (List.mem_cons_of_mem _ hx))]; rfl
theorem pars_all (l : List (ByteArray × ByteArray)) : ∀ (a : Nat) (acc : List (ByteArray × ByteArray)), acc.length + l.length ≤ 6 → (∀ p ∈ l, paramB p.1 p.2 = true ∧ (p.1.size = 0 → p.2.data.toList.all capb = true)) → pars a acc (l.map pieceB) = (acc ++ l, 0, 0) := by
  induction l with
  | nil => intro a acc _ _; rw [List.map_nil, pars, List.append_nil]
  | cons p r ih =>
    intro a acc hl h
    have hp := ppar_piece (h p (by simp)).1 (h p (by simp)).2
    rw [List.length_cons] at hl
    rw [List.map_cons, pars, hp, if_neg (by omega), if_neg (by simp), ih _ _ (by rw [List.length_append]; simp; omega) (fun q hq => h q (List.mem_cons_of_mem _ hq)), List.append_assoc]; rfl
theorem head_no {g n : ByteArray} (h : goodNames g n = true) {c : UInt8} (hc : c = 58 ∨ c = 59) : c ∉ (headL g n).data.toList := by
  unfold goodNames at h
  rw [Bool.and_eq_true, Bool.or_eq_true] at h
  have hn := name_no h.2 (c := c) (by rcases hc with rfl | rfl <;> simp)
  unfold headL
  split
  · exact hn
  · rename_i h0
    have hg := name_no (h.1.resolve_left (fun e => h0 (of_decide_eq_true e))) (c := c) (by rcases hc with rfl | rfl <;> simp)
    rw [app_list, app_list]
    intro hm
    rcases List.mem_append.1 hm with hm | hm
    · rcases List.mem_append.1 hm with hm | hm
      · exact hg hm
      · have : c = 46 := by simpa using hm
        subst this; rcases hc with h | h <;> cases h
    · exact hn hm
theorem names_head {g n : ByteArray} (h : goodNames g n = true) : names (headL g n) = ⟨g, n, 0, 0⟩ := by
  unfold goodNames at h
  rw [Bool.and_eq_true, Bool.or_eq_true] at h
  unfold names headL
  by_cases h0 : g.size = 0
  · rw [if_pos h0, name_up h.2, groupQ, if_neg (cut_not (name_no h.2 (by simp))), nameQ, if_neg (by rw [h.2]; simp), empty_of h0]
  · rw [if_neg h0]
    have hg := h.1.resolve_left (fun e => h0 (of_decide_eq_true e))
    have hu : upB (g ++ ⟨#[46]⟩ ++ n) = g ++ ⟨#[46]⟩ ++ n := upB_caps (by
      have a1 := (name_all hg).2
      have a2 := (name_all h.2).2
      rw [List.all_eq_true] at a1 a2 ⊢
      rw [app_list, app_list]
      intro c hc
      rcases List.mem_append.1 hc with hc | hc
      · rcases List.mem_append.1 hc with hc | hc
        · exact (nmc_caps (a1 c hc)).1
        · have : c = 46 := by simpa using hc
          subst this; rfl
      · exact (nmc_caps (a2 c hc)).1)
    rw [hu, app_assoc]
    obtain ⟨e1, e2, e3, e4⟩ := cut_at (b := n) (name_no hg (c := 46) (by simp))
    rw [groupQ, e1, if_pos e2, e3, e4, if_neg (by rw [hg]; simp), nameQ, if_neg (by rw [h.2]; simp)]
theorem hd_head {g n : ByteArray} {ps : List (ByteArray × ByteArray)} (h : goodNames g n = true) (hl : ps.length ≤ 6) (hp : ∀ p ∈ ps, paramB p.1 p.2 = true ∧ (p.1.size = 0 → p.2.data.toList.all capb = true)) :
    (hd (headL g n ++ tailB ps)).g = g ∧ (hd (headL g n ++ tailB ps)).n = n ∧ (hd (headL g n ++ tailB ps)).ps = ps ∧ (hd (headL g n ++ tailB ps)).err = 0 := by
  cases ps with
  | nil => rw [tailB, app_nil, hd, if_neg (cut_not (head_no h (.inr rfl))), names_head h]; exact ⟨rfl, rfl, rfl, rfl⟩
  | cons p r =>
    rw [tailB]
    obtain ⟨e1, e2, e3, e4⟩ := cut_at (b := pieceB p ++ tailB r) (head_no h (c := 59) (.inr rfl))
    rw [hd, e1, if_pos e2, e3, e4, names_head h, if_pos rfl, pcs_tail r p (fun q hq => (hp q hq).1), pars_all (p :: r) 0 [] (by simpa using hl) hp]
    exact ⟨rfl, rfl, rfl, rfl⟩
theorem tail_no {ps : List (ByteArray × ByteArray)} (hp : ∀ p ∈ ps, paramB p.1 p.2 = true) : (58 : UInt8) ∉ (tailB ps).data.toList := by
  induction ps with
  | nil => intro h; cases h
  | cons p r ih =>
    rw [tailB, app_list, app_list]
    intro hm
    rcases List.mem_append.1 hm with hm | hm
    · revert hm; decide
    · rcases List.mem_append.1 hm with hm | hm
      · exact pieceB_no (hp p (by simp)) (.inl rfl) hm
      · exact ih (fun q hq => hp q (List.mem_cons_of_mem _ hq)) hm
theorem good_all {ps : List (ByteArray × ByteArray)} (h : goodPs ps = true) : ∀ p ∈ ps, paramB p.1 p.2 = true := by
  unfold goodPs at h; rw [List.all_eq_true] at h; exact h
/-- What is printed is read. -/
theorem prs_line {g n v : ByteArray} {ps : List (ByteArray × ByteArray)} {m : Nat} (h : chk g n ps v m = 0) (hcap : ∀ p ∈ ps, p.1.size = 0 → p.2.data.toList.all capb = true) : prs (lineB g n ps v) = ⟨g, n, ps, v, 0, 0⟩ := by
  obtain ⟨h1, h2, h3, -, h5, h6⟩ := chk_ok h
  have hp := good_all h3
  obtain ⟨f1, f2, f3, f4⟩ := hd_head h1 h2 (fun p hx => ⟨hp p hx, hcap p hx⟩)
  have hno : (58 : UInt8) ∉ (headL g n ++ tailB ps).data.toList := by
    rw [app_list]
    intro hm
    rcases List.mem_append.1 hm with hm | hm
    · exact head_no h1 (.inl rfl) hm
    · exact tail_no hp hm
  obtain ⟨e1, e2, e3, e4⟩ := cut_at (b := v) hno
  have hvf : vfE v = 0 := by rw [vfE_good, if_neg (by omega), if_neg (by rw [h6]; simp)]
  rw [lineB_eq, prs, e1, if_pos e2, e3, e4, f4, if_pos rfl, hvf, if_pos rfl, f1, f2, f3]

/-- What is read has no small letters in values without a name. -/
def capsB (ps : List (ByteArray × ByteArray)) : Bool := ps.all fun p => !decide (p.1.size = 0) || p.2.data.toList.all capb
theorem caps_of {ps : List (ByteArray × ByteArray)} (h : capsB ps = true) : ∀ p ∈ ps, p.1.size = 0 → p.2.data.toList.all capb = true := by
  unfold capsB at h
  rw [List.all_eq_true] at h
  intro p hp h0
  have := h p hp
  rw [decide_eq_true h0] at this
  simpa using this
theorem pars_ok (l : List ByteArray) : ∀ (a : Nat) (acc : List (ByteArray × ByteArray)), (pars a acc l).2.2 = 0 → (pars a acc l).1 = acc ++ l.map (fun x => (ppar x).1) ∧ ∀ x ∈ l, (ppar x).2 = true := by
  induction l with
  | nil => intro a acc _; rw [pars]; simp
  | cons x r ih =>
    intro a acc h
    rw [pars] at h ⊢
    by_cases h6 : acc.length = 6
    · rw [if_pos h6] at h; cases h
    · rw [if_neg h6] at h ⊢
      by_cases hb : (ppar x).2 = false
      · rw [if_pos hb] at h; cases h
      · rw [if_neg hb] at h ⊢
        obtain ⟨e1, e2⟩ := ih _ _ h
        refine ⟨by rw [e1, List.append_assoc]; rfl, fun y hy => ?_⟩
        rcases List.mem_cons.1 hy with rfl | hy
        · simpa using hb
        · exact e2 y hy
theorem ppar_size {x : ByteArray} (h : (ppar x).2 = true) : (pieceB (ppar x).1).size = x.size := by
  unfold ppar at h ⊢
  by_cases hi : x.data.toList.idxOf 61 < x.size
  · rw [if_pos hi] at h ⊢
    simp only at h ⊢
    rw [Bool.and_eq_true] at h
    have hn := (name_all h.1).1
    rw [upS] at hn
    have e : (x.extract 0 (x.data.toList.idxOf 61)).size = x.data.toList.idxOf 61 := by rw [ext_size (by omega)]; omega
    unfold pieceB
    simp only
    rw [upS, if_neg (by omega), ByteArray.size_append, ByteArray.size_append, upS, e, ext_size (Nat.le_refl _)]
    show _ + (1 + _) = _
    omega
  · rw [if_neg hi]
    unfold pieceB
    simp only
    rw [if_pos (show (⟨#[]⟩ : ByteArray).size = 0 from rfl), upS]
theorem ppar_caps {x : ByteArray} (h : (ppar x).2 = true) : (!decide ((ppar x).1.1.size = 0) || (ppar x).1.2.data.toList.all capb) = true := by
  unfold ppar at h ⊢
  by_cases hi : x.data.toList.idxOf 61 < x.size
  · rw [if_pos hi] at h ⊢
    simp only at h ⊢
    rw [Bool.and_eq_true] at h
    have hn := (name_all h.1).1
    rw [decide_eq_false (by omega)]; rfl
  · rw [if_neg hi]
    simp only
    rw [upB_up, Bool.or_true]
theorem tail_size (l : List ByteArray) (h : ∀ x ∈ l, (ppar x).2 = true) : (tailB (l.map fun x => (ppar x).1)).size = atOf l := by
  induction l with
  | nil => rfl
  | cons x r ih =>
    rw [List.map_cons, tailB, atOf_cons, ByteArray.size_append, ByteArray.size_append, ppar_size (h x (by simp)), ih (fun y hy => h y (List.mem_cons_of_mem _ hy))]
    show 1 + _ = _
    omega
theorem names_size {s : ByteArray} (h : (names s).err = 0) : (headL (names s).g (names s).n).size = s.size := by
  have hu := upS s
  unfold names at h ⊢
  generalize upB s = u at *
  unfold groupQ at h ⊢
  by_cases hi : u.data.toList.idxOf 46 < u.size
  · rw [if_pos hi] at h ⊢
    by_cases hg : nameB (u.extract 0 (u.data.toList.idxOf 46)) = false
    · rw [if_pos hg] at h; cases h
    · rw [if_neg hg] at h ⊢
      unfold nameQ at h ⊢
      split at h
      · cases h
      · rename_i hn
        rw [if_neg hn]
        have h0 := (name_all (by simpa using hg)).1
        have e : (u.extract 0 (u.data.toList.idxOf 46)).size = u.data.toList.idxOf 46 := by rw [ext_size (by omega)]; omega
        unfold headL
        simp only
        rw [if_neg (by omega), ByteArray.size_append, ByteArray.size_append, e, ext_size (Nat.le_refl _)]
        show _ + 1 + _ = _
        omega
  · rw [if_neg hi] at h ⊢
    unfold nameQ at h ⊢
    split at h
    · cases h
    · rename_i hn
      rw [if_neg hn]
      unfold headL
      simp only
      rw [if_pos (show (⟨#[]⟩ : ByteArray).size = 0 from rfl), hu]
theorem hd_ok {s : ByteArray} (h : (hd s).err = 0) : (headL (hd s).g (hd s).n ++ tailB (hd s).ps).size = s.size ∧ capsB (hd s).ps = true := by
  unfold hd at h ⊢
  by_cases hi : s.data.toList.idxOf 59 < s.size
  · rw [if_pos hi] at h ⊢
    have e : (s.extract 0 (s.data.toList.idxOf 59)).size = s.data.toList.idxOf 59 := by rw [ext_size (by omega)]; omega
    by_cases he : (names (s.extract 0 (s.data.toList.idxOf 59))).err = 0
    · rw [if_pos he] at h ⊢
      simp only at h ⊢
      obtain ⟨e1, e2⟩ := pars_ok _ _ _ h
      rw [e1, List.nil_append, ByteArray.size_append, names_size he, e, tail_size _ e2, atOf_pcs, ext_size (Nat.le_refl _)]
      refine ⟨by omega, ?_⟩
      unfold capsB
      rw [List.all_map, List.all_eq_true]
      exact fun x hx => ppar_caps (e2 x hx)
    · rw [if_neg he] at h; exact absurd h he
  · rw [if_neg hi] at h ⊢
    simp only at h ⊢
    rw [tailB, app_nil, names_size h]
    exact ⟨rfl, rfl⟩
/-- What is read is as long as its line, and has capitals where capitals are read. -/
theorem prs_ok {s : ByteArray} (h : (prs s).err = 0) : (lineB (prs s).g (prs s).n (prs s).ps (prs s).v).size = s.size ∧ capsB (prs s).ps = true ∧ (prs s).at_ = 0 := by
  unfold prs at h ⊢
  by_cases hi : s.data.toList.idxOf 58 < s.size
  · rw [if_pos hi] at h ⊢
    have e : (s.extract 0 (s.data.toList.idxOf 58)).size = s.data.toList.idxOf 58 := by rw [ext_size (by omega)]; omega
    by_cases he : (hd (s.extract 0 (s.data.toList.idxOf 58))).err = 0
    · rw [if_pos he] at h ⊢
      obtain ⟨e1, e2⟩ := hd_ok he
      split at h
      · rename_i hv
        rw [if_pos hv]
        refine ⟨?_, e2, rfl⟩
        rw [lineB_eq, ByteArray.size_append, e1, e, ByteArray.size_append, ext_size (Nat.le_refl _)]
        show _ + (1 + _) = _
        omega
      · rename_i hv
        exact absurd h hv
    · rw [if_neg he] at h; exact absurd h he
  · rw [if_neg hi] at h; cases h
/-- What is read is right, and is read from its line as the same again, which is as long. -/
theorem prs_again {s : ByteArray} {R : Par} (hR : prs s = R) (h : R.err = 0) : chk R.g R.n R.ps R.v 0 = 0 ∧ prs (lineB R.g R.n R.ps R.v) = ⟨R.g, R.n, R.ps, R.v, 0, 0⟩ ∧ (lineB R.g R.n R.ps R.v).size = s.size := by
  subst hR
  obtain ⟨e1, e2, _⟩ := prs_ok h
  have hc : chk (prs s).g (prs s).n (prs s).ps (prs s).v 0 = 0 := by rw [prs_eq] at h ⊢; exact parse_ok h
  exact ⟨hc, prs_line hc (caps_of e2), e1⟩
theorem tail_bound (ps : List (ByteArray × ByteArray)) (h : ∀ p ∈ ps, paramB p.1 p.2 = true) : (tailB ps).size ≤ 66 * ps.length := by
  induction ps with
  | nil => exact Nat.zero_le _
  | cons p r ih =>
    have hp := param_parts (h p (by simp))
    have i := ih (fun q hq => h q (List.mem_cons_of_mem _ hq))
    have hv := valB_le hp.2
    have hn : p.1.size ≤ 32 := by
      rcases hp.1 with h0 | h0
      · omega
      · exact nameB_le h0
    have hb : (pieceB p).size ≤ 65 := by
      unfold pieceB
      split
      · omega
      · rw [ByteArray.size_append, ByteArray.size_append]; show _ + (1 + _) ≤ _; omega
    rw [tailB, ByteArray.size_append, ByteArray.size_append, List.length_cons]
    show 1 + _ ≤ _
    omega
theorem line_bound {g n v : ByteArray} {ps : List (ByteArray × ByteArray)} {m : Nat} (h : chk g n ps v m = 0) : (lineB g n ps v).size ≤ 5000 := by
  obtain ⟨h1, h2, h3, -, h5, h6⟩ := chk_ok h
  obtain ⟨g1, g2⟩ := goodNames_le h1
  have ht := tail_bound ps (good_all h3)
  have hh : (headL g n).size ≤ 65 := by
    unfold headL
    split
    · omega
    · rw [ByteArray.size_append, ByteArray.size_append]; show _ + 1 + _ ≤ _; omega
  rw [lineB_eq, ByteArray.size_append, ByteArray.size_append, ByteArray.size_append]
  show _ + (1 + _) ≤ _
  omega
end Go.Proofs.YtccgpemcdbcjeaaDoor.Pp
