/-
Join, the program's and the document's own, answers parts as a value. Conditions: the parts have at most 2^40 bytes in all, and there are at most 2^40 of them.
-/
import Derived.Test.YtbaigaenglhebaaPtAt
namespace Go.Proofs.Ytbaigaenglhebaa.Pt
open Go.RowKit Strs

theorem wr_at {x : ByteArray} {k : Nat} {acc all : List UInt8} (h : k < x.size) (hl : acc ++ wr (x.data.toList.drop k) = all) : (mk x[k] = true → ((acc ++ [92]) ++ [x[k]]) ++ wr (x.data.toList.drop (k + 1)) = all) ∧ (mk x[k] = false → (acc ++ [x[k]]) ++ wr (x.data.toList.drop (k + 1)) = all) := by
  rw [drop_at x k h] at hl
  constructor <;> intro hm <;> rw [← hl] <;> simp [wr, hm]
theorem wr_end {x : ByteArray} {k : Nat} {acc all : List UInt8} (h : ¬ k < x.size) (hl : acc ++ wr (x.data.toList.drop k) = all) : acc = all := by
  rw [drop_end x k h] at hl; simpa [wr] using hl
theorem wr_at2 {x : ByteArray} {k : Nat} {acc t all : List UInt8} (h : k < x.size) (hl : (acc ++ wr (x.data.toList.drop k)) ++ t = all) : (mk x[k] = true → (((acc ++ [92]) ++ [x[k]]) ++ wr (x.data.toList.drop (k + 1))) ++ t = all) ∧ (mk x[k] = false → ((acc ++ [x[k]]) ++ wr (x.data.toList.drop (k + 1))) ++ t = all) := by
  rw [drop_at x k h] at hl
  constructor <;> intro hm <;> rw [← hl] <;> simp [wr, hm]
theorem wr_end2 {x : ByteArray} {k : Nat} {acc t all : List UInt8} (h : ¬ k < x.size) (hl : (acc ++ wr (x.data.toList.drop k)) ++ t = all) : acc ++ t = all := by
  rw [drop_end x k h] at hl; simpa [wr] using hl
theorem two_len3 {a r t all : List UInt8} (h : (a ++ r) ++ t = all) : a.length ≤ all.length := by rw [← h]; simp
theorem mem_le : ∀ {l : List (List UInt8)} {x : List UInt8}, x ∈ l → x.length ≤ bytes l
  | y :: r, x, h => by
    rw [bytes_cons]
    rcases List.mem_cons.1 h with rfl | h
    · omega
    · have := mem_le h; omega
theorem elem_le {l : List (List UInt8)} {i : Nat} (hi : i < l.length) : l[i].length ≤ bytes l := mem_le (List.getElem_mem hi)
theorem two_len {a b r all : List UInt8} (h : (a ++ b) ++ r = all) : a.length + b.length ≤ all.length := by rw [← h]; simp

set_option maxRecDepth 100000 in
set_option maxHeartbeats 1000000 in
/-- A part, as it is written, behind a row of the caller's own. -/
theorem written_any (v : Value) (a : List UInt8) (x : ByteArray) (base : Nat) (w : World) (hb : base ≤ w.heap.size) (hown : Bytes.Has w base v a) (hsz : a.length + 2 * x.size ≤ 8796093022208) :
    Calls Try.prog 27 #[v, .string x] w fun e w' => ∃ v', e = .returned v' ∧ Bytes.Has w' base v' (a ++ wr x.data.toList) ∧ Below base w w' := by
  obtain ⟨i0, hi, hz0, hz1, hz2⟩ := info_parts Bytes.infoByte
  obtain ⟨sa, sc, rfl⟩ := Bytes.Has.shape (show w.ownsRow base 5 1 v a.length _ from hown)
  obtain ⟨all, hall⟩ : ∃ all, a ++ wr x.data.toList = all := ⟨_, rfl⟩
  have H0 := Lib.hid (show a ++ wr (x.data.toList.drop 0) = all by rw [List.drop_zero]; exact hall)
  have hlen : all.length ≤ 8796093022208 := by rw [← hall]; have := wr_length x.data.toList; rw [list_size] at this; simp; omega
  have hx40 : x.size ≤ 8796093022208 := by omega
  rw [hall]
  clear hall hsz
  go_enter Try.func27, Try.ntmps27
  go_wp2_with fail
  go_loopw [0, 8] (fun bv kv wr => ∃ (k : Nat) (b : List UInt8), kv = .int .i64 (k : Int) ∧ k ≤ x.size ∧ Hid (b ++ Pt.wr (x.data.toList.drop k) = all) ∧ Bytes.Has wr base bv b ∧ Below base w wr) (fun _ kv _ => x.size - (intOf kv).toNat)
  case atStart => exact ⟨0, a, rfl, Nat.zero_le _, H0, hown, Below.refl _ _⟩
  case round =>
    obtain ⟨k, b, rfl, hk, hp, hown, hbel⟩ := hrel
    have hz : base ≤ wr.heap.size := Nat.le_trans hb hbel.size
    by_cases hlt : k < x.size
    · have hk1 : (k : Int) < (x.size : Int) := by omega
      have CM := Lib.hid (fun W => isMarked_any x[k] W)
      obtain ⟨hm1, hm2⟩ := wr_at hlt hp.out
      cases hm : mk x[k]
      · rw [hm] at CM
        have HP := Lib.hid (hm2 hm)
        have hl := two_len HP.out
        simp only [List.length_singleton] at hl
        have hA : b.length + 1 ≤ maxLen := by unfold maxLen; omega
        have hA2 : (b.length + 1) * 1 ≤ 140737488355328 := by omega
        clear hm hm1 hm2 hl
        go_wp2_with (first
          | (go_at_call 36; refine (CM.out _).mono ?_; rintro e w' ⟨rfl, rfl⟩)
          | (at_builtin; refine wpList_append_own _ rfl _ _ 56 rfl base 5 i0 (.int .u8 0) 1 1 Try.underlying56 hi hz0 hz1 hz2 rfl (by decide) _ _ _ rfl (World.ownsRow.alloc hown _) ⟨wr.heap.size, 0, none⟩ 1 1 [.int .u8 (x[k].toNat : Int)] rfl rfl (cell_one_new _ _ _) (by simp [Value.oneCell']) hA hA2 (by simp; omega) ?_; intro v' w1 hown' hgrow _))
        go_roundw
        case rel => exact ⟨k + 1, b ++ [x[k]], by go_num, by omega, HP, Bytes.Has.laid1 hown', Bytes.Has.below hown hbel hz _ hgrow⟩
        case measure => simp [intOf]; omega
      · rw [hm] at CM
        have HP := Lib.hid (hm1 hm)
        have hl := two_len HP.out
        simp only [List.length_append, List.length_singleton] at hl
        have hA : b.length + 1 ≤ maxLen := by unfold maxLen; omega
        have hA2 : (b.length + 1) * 1 ≤ 140737488355328 := by omega
        have hB : (b ++ [(92 : UInt8)]).length + 1 ≤ maxLen := by unfold maxLen; simp; omega
        have hB2 : ((b ++ [(92 : UInt8)]).length + 1) * 1 ≤ 140737488355328 := by simp; omega
        clear hm hm1 hm2 hl
        go_wp2_with (first
          | (go_at_call 36; refine (CM.out _).mono ?_; rintro e w' ⟨rfl, rfl⟩)
          | (at_builtin; refine wpList_append_own _ rfl _ _ 56 rfl base 5 i0 (.int .u8 0) 1 1 Try.underlying56 hi hz0 hz1 hz2 rfl (by decide) _ _ _ rfl (World.ownsRow.alloc hown _) ⟨wr.heap.size, 0, none⟩ 1 1 [.int .u8 92] rfl rfl (cell_one_new _ _ _) (by simp [Value.oneCell']) hA hA2 (by simp; omega) ?_; intro v1 w1 hown1 hgrow1 _; have hh1 : Bytes.Has w1 base v1 (b ++ [92]) := Bytes.Has.laid1 hown1; have hb1 : Below base w w1 := Bytes.Has.below hown hbel hz _ hgrow1; have hz1' : base ≤ w1.heap.size := Nat.le_trans hb hb1.size)
          | (at_builtin; refine wpList_append_own _ rfl _ _ 56 rfl base 5 i0 (.int .u8 0) 1 1 Try.underlying56 hi hz0 hz1 hz2 rfl (by decide) _ _ _ rfl (World.ownsRow.alloc hh1 _) ⟨w1.heap.size, 0, none⟩ 1 1 [.int .u8 (x[k].toNat : Int)] rfl rfl (cell_one_new _ _ _) (by simp [Value.oneCell']) hB hB2 (by simp; omega) ?_; intro v2 w2 hown2 hgrow2 _))
        go_roundw
        case rel => exact ⟨k + 1, (b ++ [92]) ++ [x[k]], by go_num, by omega, HP, Bytes.Has.laid1 hown2, Bytes.Has.below hh1 hb1 (by omega) _ hgrow2⟩
        case measure => simp [intOf]; omega
    · have HE := Lib.hid (wr_end hlt hp.out)
      go_wp2_with fail
      go_ret
      exact ⟨_, rfl, by rw [← HE.out]; exact hown, hbel⟩

/-- What is still to be joined behind i parts. -/
def jrest (l : List (List UInt8)) (i : Nat) : List UInt8 := if i = 0 then jn l else tailJ (l.drop i)
theorem jrest_at {l : List (List UInt8)} {i : Nat} {acc all : List UInt8} (h : i < l.length) (hl : acc ++ jrest l i = all) : (i = 0 → (acc ++ wr l[i]) ++ jrest l (i + 1) = all) ∧ (0 < i → ((acc ++ [59]) ++ wr l[i]) ++ jrest l (i + 1) = all) := by
  unfold jrest at hl ⊢
  rw [if_neg (Nat.succ_ne_zero i)]
  constructor
  · intro h0
    subst h0
    rw [if_pos rfl] at hl
    cases l with
    | nil => simp at h
    | cons p r => rw [← hl]; simp [jn]
  · intro h0
    rw [if_neg (by omega), List.drop_eq_getElem_cons h, tailJ] at hl
    rw [← hl]; simp
theorem jrest_end {l : List (List UInt8)} {i : Nat} {acc all : List UInt8} (h : ¬ i < l.length) (hl : acc ++ jrest l i = all) : acc = all := by
  unfold jrest at hl
  by_cases h0 : i = 0
  · subst h0
    have : l = [] := List.eq_nil_of_length_eq_zero (by omega)
    subst this
    rw [if_pos rfl] at hl; simpa [jn] using hl
  · rw [if_neg h0, List.drop_eq_nil_of_le (by omega)] at hl; simpa [tailJ] using hl

set_option maxRecDepth 100000 in
set_option maxHeartbeats 1000000 in
theorem join_any (v : Value) (l : List (List UInt8)) (h1 : l.length ≤ 1099511627776) (h2 : bytes l ≤ 1099511627776) (w : World) (h : Reads w v l) :
    Calls Try.prog 18 #[v] w fun e w' => e = .returned (.string ⟨(jn l).toArray⟩) ∧ Below w.heap.size w w' := by
  obtain ⟨i0, hi, hz0, hz1, hz2⟩ := info_parts Bytes.infoByte
  obtain ⟨a, cap, rfl⟩ := h.shape
  have H := Lib.hid h
  have hlen := jn_length l
  obtain ⟨all, hall⟩ : ∃ all, jn l = all := ⟨_, rfl⟩
  have H0 := Lib.hid (show ([] : List UInt8) ++ jrest l 0 = all by rw [← hall]; rfl)
  rw [hall] at hlen ⊢
  have hall40 : all.length ≤ 3298534883328 := by omega
  have HBY := Lib.hid (fun (i : Nat) (hi : i < l.length) => Nat.le_trans (elem_le hi) h2)
  clear h hall hlen h2
  go_enter Try.func18, Try.ntmps18
  go_wp2_with fail
  go_loopw [3, 8] (fun ov iv wr => ∃ (i : Nat) (acc : List UInt8), iv = .int .i64 (i : Int) ∧ i ≤ l.length ∧ Hid (acc ++ jrest l i = all) ∧ Bytes.Has wr w.heap.size ov acc ∧ Below w.heap.size w wr) (fun _ iv _ => l.length - (intOf iv).toNat)
  case atStart => exact ⟨0, [], rfl, Nat.zero_le _, H0, Bytes.Has.nil _ _, Below.refl _ _⟩
  case round =>
    obtain ⟨i, acc, rfl, hil, hj, hown, hbel⟩ := hrel
    have hz := hbel.size
    by_cases hlt : i < l.length
    · obtain ⟨J1, J2⟩ := jrest_at hlt hj.out
      obtain ⟨_, b, o, rfl, _, hc⟩ := (H.out.keep (Nat.le_refl _) hbel).at_ i hlt
      have hx := mk_list l[i]
      have hxz := mk_size l[i]
      have hui := HBY.out i hlt
      generalize hli : l[i] = u at J1 J2 hc hx hxz hui
      have hi2 : (i : Int) < (l.length : Int) := by omega
      by_cases h0 : i = 0
      · have HJ := Lib.hid (J1 h0)
        have hal := two_len HJ.out
        have CW := Lib.hid (fun (v : Value) (W : World) (h1 : w.heap.size ≤ W.heap.size) (h2 : Bytes.Has W w.heap.size v acc) => written_any v acc ⟨u.toArray⟩ w.heap.size W h1 h2 (by rw [hxz]; omega))
        rw [hx] at CW
        have hi0 : ¬ (i : Int) > 0 := by omega
        clear J1 J2 hx hxz hli hal hj
        generalize (⟨u.toArray⟩ : ByteArray) = x at hc CW
        clear h0
        go_wp2_with (go_at_call 27; refine (CW.out _ _ hz hown).mono ?_; rintro e w1 ⟨v1, rfl, hh1, b1⟩)
        go_roundw
        case rel => exact ⟨i + 1, _, by go_num, by omega, HJ, hh1, hbel.trans b1⟩
        case measure => simp [intOf]; omega
      · have HJ := Lib.hid (J2 (by omega))
        have hal := two_len HJ.out
        simp only [List.length_append, List.length_singleton] at hal
        have CW := Lib.hid (fun (v : Value) (W : World) (h1 : w.heap.size ≤ W.heap.size) (h2 : Bytes.Has W w.heap.size v (acc ++ [59])) => written_any v (acc ++ [59]) ⟨u.toArray⟩ w.heap.size W h1 h2 (by rw [hxz]; simp; omega))
        rw [hx] at CW
        have hi0 : (i : Int) > 0 := by omega
        have hA : acc.length + 1 ≤ maxLen := by unfold maxLen; omega
        have hA2 : (acc.length + 1) * 1 ≤ 140737488355328 := by omega
        clear J1 J2 hx hxz hli hal hj
        generalize (⟨u.toArray⟩ : ByteArray) = x at hc CW
        clear h0
        go_wp2_with (first
          | (at_builtin; refine wpList_append_own _ rfl _ _ 56 rfl w.heap.size 5 i0 (.int .u8 0) 1 1 Try.underlying56 hi hz0 hz1 hz2 rfl (by decide) _ _ _ rfl (World.ownsRow.alloc hown _) ⟨wr.heap.size, 0, none⟩ 1 1 [.int .u8 59] rfl rfl (cell_one_new _ _ _) (by simp [Value.oneCell']) hA hA2 (by simp; omega) ?_; intro v1 w1 hown1 hgrow1 _; have hh1 : Bytes.Has w1 w.heap.size v1 (acc ++ [59]) := Bytes.Has.laid1 hown1; have hb1 : Below w.heap.size w w1 := Bytes.Has.below hown hbel hz _ hgrow1; have hz1' := hb1.size)
          | (go_at_call 27; refine (CW.out _ _ hz1' hh1).mono ?_; rintro e w2 ⟨v2, rfl, hh2, b2⟩))
        go_roundw
        case rel => exact ⟨i + 1, _, by go_num, by omega, HJ, hh2, hb1.trans b2⟩
        case measure => simp [intOf]; omega
    · have HE := Lib.hid (jrest_end hlt hj.out)
      have hc := hown.text
      go_wp2_with fail
      go_ret
      exact ⟨by rw [← HE.out]; rfl, hbel⟩

set_option maxRecDepth 100000 in
set_option maxHeartbeats 4000000 in
theorem refJoin_any (v : Value) (l : List (List UInt8)) (h1 : l.length ≤ 1099511627776) (h2 : bytes l ≤ 1099511627776) (w : World) (h : Reads w v l) :
    Calls Try.prog 19 #[v] w fun e w' => e = .returned (.string ⟨(jn l).toArray⟩) ∧ Below w.heap.size w w' := by
  obtain ⟨i0, hi, hz0, hz1, hz2⟩ := info_parts Bytes.infoByte
  obtain ⟨a, cap, rfl⟩ := h.shape
  have H := Lib.hid h
  have hlen := jn_length l
  obtain ⟨all, hall⟩ : ∃ all, jn l = all := ⟨_, rfl⟩
  have H0 := Lib.hid (show ([] : List UInt8) ++ jrest l 0 = all by rw [← hall]; rfl)
  rw [hall] at hlen ⊢
  have hall40 : all.length ≤ 3298534883328 := by omega
  have HBY := Lib.hid h2
  clear h hall hlen h2
  go_enter Try.func19, Try.ntmps19
  go_wp2_with fail
  go_loopw [3, 4] (fun ov iv wr => ∃ (i : Nat) (acc : List UInt8), iv = .int .i64 (i : Int) ∧ i ≤ l.length ∧ Hid (acc ++ jrest l i = all) ∧ Bytes.Has wr w.heap.size ov acc ∧ Below w.heap.size w wr) (fun _ iv _ => l.length - (intOf iv).toNat)
  case atStart => exact ⟨0, [], rfl, Nat.zero_le _, H0, Bytes.Has.nil _ _, Below.refl _ _⟩
  case round =>
    obtain ⟨i, acc, rfl, hil, hj, hown, hbel⟩ := hrel
    have hz := hbel.size
    by_cases hlt : i < l.length
    · obtain ⟨J1, J2⟩ := jrest_at hlt hj.out
      obtain ⟨_, b, o, rfl, hbw, hc0⟩ := H.out.at_ i hlt
      have HC := Lib.hid (fun (V : World) (hV : Below w.heap.size w V) => (hV.cell (p := ⟨b, o + i, none⟩) hbw).trans hc0)
      have hx := mk_list l[i]
      have hxs : (⟨l[i].toArray⟩ : ByteArray).size ≤ 1099511627776 := by rw [mk_size]; exact Nat.le_trans (elem_le hlt) HBY.out
      generalize hli : l[i] = u at J1 J2 HC hx hxs
      have hi2 : (i : Int) < (l.length : Int) := by omega
      obtain ⟨tail, htail⟩ : ∃ tail, jrest l (i + 1) = tail := ⟨_, rfl⟩
      rw [htail] at J1 J2
      have HT := Lib.hid htail
      rw [← hx] at J1 J2
      clear hx hli hc0 htail hj
      generalize (⟨u.toArray⟩ : ByteArray) = x at HC J1 J2 hxs
      have hc := HC.out wr hbel
      by_cases h0 : i = 0
      · have HJ := Lib.hid (show (acc ++ Pt.wr (x.data.toList.drop 0)) ++ tail = all by rw [List.drop_zero]; exact J1 h0)
        have hi0 : ¬ (i : Int) > 0 := by omega
        clear J1 J2 h0
        go_wp2_with fail
        go_loopw [3, 5] (fun ov kv wr => ∃ (k : Nat) (b1 : List UInt8), kv = .int .i64 (k : Int) ∧ k ≤ x.size ∧ Hid ((b1 ++ Pt.wr (x.data.toList.drop k)) ++ tail = all) ∧ Bytes.Has wr w.heap.size ov b1 ∧ Below w.heap.size w wr) (fun _ kv _ => x.size - (intOf kv).toNat)
        case atStart => exact ⟨0, acc, rfl, Nat.zero_le _, HJ, hown, hbel⟩
        case round =>
          clear hown hbel hz hc
          obtain ⟨k, b1, rfl, hk, hp, hown, hbel⟩ := hrel
          have hz := hbel.size
          have hc := HC.out wr hbel
          by_cases hlk : k < x.size
          · have hk1 : (k : Int) < (x.size : Int) := by omega
            obtain ⟨hm1, hm2⟩ := wr_at2 hlk hp.out
            by_cases c1 : x[k] = 59
            · have hm : mk x[k] = true := by rw [c1]; rfl
              have q1 : ((x[k].toNat : Int) == 59) = true := by rw [c1]; rfl
              have HP := Lib.hid (hm1 hm)
              have hl := two_len3 HP.out
              simp only [List.length_append, List.length_singleton] at hl
              have hA : b1.length + 1 ≤ maxLen := by unfold maxLen; omega
              have hA2 : (b1.length + 1) * 1 ≤ 140737488355328 := by omega
              have hB : (b1 ++ [(92 : UInt8)]).length + 1 ≤ maxLen := by unfold maxLen; simp; omega
              have hB2 : ((b1 ++ [(92 : UInt8)]).length + 1) * 1 ≤ 140737488355328 := by simp; omega
              clear hm hm1 hm2 hl c1
              go_wp2_with (first
                | (at_builtin; refine wpList_append_own _ rfl _ _ 56 rfl w.heap.size 5 i0 (.int .u8 0) 1 1 Try.underlying56 hi hz0 hz1 hz2 rfl (by decide) _ _ _ rfl (World.ownsRow.alloc hown _) ⟨wr.heap.size, 0, none⟩ 1 1 [.int .u8 92] rfl rfl (cell_one_new _ _ _) (by simp [Value.oneCell']) hA hA2 (by simp; omega) ?_; intro v1 w1 hown1 hgrow1 _; have hh1 : Bytes.Has w1 w.heap.size v1 (b1 ++ [92]) := Bytes.Has.laid1 hown1; have hb1 : Below w.heap.size w w1 := Bytes.Has.below hown hbel hz _ hgrow1; have hz1' := hb1.size)
                | (at_builtin; refine wpList_append_own _ rfl _ _ 56 rfl w.heap.size 5 i0 (.int .u8 0) 1 1 Try.underlying56 hi hz0 hz1 hz2 rfl (by decide) _ _ _ rfl (World.ownsRow.alloc hh1 _) ⟨w1.heap.size, 0, none⟩ 1 1 [.int .u8 (x[k].toNat : Int)] rfl rfl (cell_one_new _ _ _) (by simp [Value.oneCell']) hB hB2 (by simp; omega) ?_; intro v2 w2 hown2 hgrow2 _))
              go_roundw
              case rel => exact ⟨k + 1, (b1 ++ [92]) ++ [x[k]], by go_num, by omega, HP, Bytes.Has.laid1 hown2, Bytes.Has.below hh1 hb1 (by omega) _ hgrow2⟩
              case measure => simp [intOf]; omega
            · have q1 : ((x[k].toNat : Int) == 59) = false := by simp; exact fun h => c1 (UInt8.toNat_inj.1 (by show x[k].toNat = 59; omega))
              by_cases c2 : x[k] = 92
              · have hm : mk x[k] = true := by rw [c2]; rfl
                have q2 : ((x[k].toNat : Int) == 92) = true := by rw [c2]; rfl
                have HP := Lib.hid (hm1 hm)
                have hl := two_len3 HP.out
                simp only [List.length_append, List.length_singleton] at hl
                have hA : b1.length + 1 ≤ maxLen := by unfold maxLen; omega
                have hA2 : (b1.length + 1) * 1 ≤ 140737488355328 := by omega
                have hB : (b1 ++ [(92 : UInt8)]).length + 1 ≤ maxLen := by unfold maxLen; simp; omega
                have hB2 : ((b1 ++ [(92 : UInt8)]).length + 1) * 1 ≤ 140737488355328 := by simp; omega
                clear hm hm1 hm2 hl c1 c2
                go_wp2_with (first
                  | (at_builtin; refine wpList_append_own _ rfl _ _ 56 rfl w.heap.size 5 i0 (.int .u8 0) 1 1 Try.underlying56 hi hz0 hz1 hz2 rfl (by decide) _ _ _ rfl (World.ownsRow.alloc hown _) ⟨wr.heap.size, 0, none⟩ 1 1 [.int .u8 92] rfl rfl (cell_one_new _ _ _) (by simp [Value.oneCell']) hA hA2 (by simp; omega) ?_; intro v1 w1 hown1 hgrow1 _; have hh1 : Bytes.Has w1 w.heap.size v1 (b1 ++ [92]) := Bytes.Has.laid1 hown1; have hb1 : Below w.heap.size w w1 := Bytes.Has.below hown hbel hz _ hgrow1; have hz1' := hb1.size)
                  | (at_builtin; refine wpList_append_own _ rfl _ _ 56 rfl w.heap.size 5 i0 (.int .u8 0) 1 1 Try.underlying56 hi hz0 hz1 hz2 rfl (by decide) _ _ _ rfl (World.ownsRow.alloc hh1 _) ⟨w1.heap.size, 0, none⟩ 1 1 [.int .u8 (x[k].toNat : Int)] rfl rfl (cell_one_new _ _ _) (by simp [Value.oneCell']) hB hB2 (by simp; omega) ?_; intro v2 w2 hown2 hgrow2 _))
                go_roundw
                case rel => exact ⟨k + 1, (b1 ++ [92]) ++ [x[k]], by go_num, by omega, HP, Bytes.Has.laid1 hown2, Bytes.Has.below hh1 hb1 (by omega) _ hgrow2⟩
                case measure => simp [intOf]; omega
              · have hm : mk x[k] = false := by simp [mk, c1, c2]
                have q2 : ((x[k].toNat : Int) == 92) = false := by simp; exact fun h => c2 (UInt8.toNat_inj.1 (by show x[k].toNat = 92; omega))
                have HP := Lib.hid (hm2 hm)
                have hl := two_len3 HP.out
                simp only [List.length_append, List.length_singleton] at hl
                have hA : b1.length + 1 ≤ maxLen := by unfold maxLen; omega
                have hA2 : (b1.length + 1) * 1 ≤ 140737488355328 := by omega
                clear hm hm1 hm2 hl c1 c2
                go_wp2_with (at_builtin; refine wpList_append_own _ rfl _ _ 56 rfl w.heap.size 5 i0 (.int .u8 0) 1 1 Try.underlying56 hi hz0 hz1 hz2 rfl (by decide) _ _ _ rfl (World.ownsRow.alloc hown _) ⟨wr.heap.size, 0, none⟩ 1 1 [.int .u8 (x[k].toNat : Int)] rfl rfl (cell_one_new _ _ _) (by simp [Value.oneCell']) hA hA2 (by simp; omega) ?_; intro v2 w2 hown2 hgrow2 _)
                go_roundw
                case rel => exact ⟨k + 1, b1 ++ [x[k]], by go_num, by omega, HP, Bytes.Has.laid1 hown2, Bytes.Has.below hown hbel hz _ hgrow2⟩
                case measure => simp [intOf]; omega
          · have hk1 : ¬ (k : Int) < (x.size : Int) := by omega
            have HE := Lib.hid (wr_end2 hlk hp.out)
            go_wp2_with fail
            go_roundw
            case rel => exact ⟨i + 1, b1, by go_num, by omega, Lib.hid (by rw [HT.out]; exact HE.out), hown, hbel⟩
            case measure => simp [intOf]; omega
      · have HJ := Lib.hid (show ((acc ++ [59]) ++ Pt.wr (x.data.toList.drop 0)) ++ tail = all by rw [List.drop_zero]; exact J2 (by omega))
        have hi0 : (i : Int) > 0 := by omega
        have hl := two_len3 HJ.out
        simp only [List.length_append, List.length_singleton] at hl
        have hA : acc.length + 1 ≤ maxLen := by unfold maxLen; omega
        have hA2 : (acc.length + 1) * 1 ≤ 140737488355328 := by omega
        clear J1 J2 h0 hl
        go_wp2_with (at_builtin; refine wpList_append_own _ rfl _ _ 56 rfl w.heap.size 5 i0 (.int .u8 0) 1 1 Try.underlying56 hi hz0 hz1 hz2 rfl (by decide) _ _ _ rfl (World.ownsRow.alloc hown _) ⟨wr.heap.size, 0, none⟩ 1 1 [.int .u8 59] rfl rfl (cell_one_new _ _ _) (by simp [Value.oneCell']) hA hA2 (by simp; omega) ?_; intro v1 w1 hown1 hgrow1 _; have hh1 : Bytes.Has w1 w.heap.size v1 (acc ++ [59]) := Bytes.Has.laid1 hown1; have hb1 : Below w.heap.size w w1 := Bytes.Has.below hown hbel hz _ hgrow1; have hz1' := hb1.size)
        clear hA hA2
        go_loopw [3, 5] (fun ov kv wr => ∃ (k : Nat) (b1 : List UInt8), kv = .int .i64 (k : Int) ∧ k ≤ x.size ∧ Hid ((b1 ++ Pt.wr (x.data.toList.drop k)) ++ tail = all) ∧ Bytes.Has wr w.heap.size ov b1 ∧ Below w.heap.size w wr) (fun _ kv _ => x.size - (intOf kv).toNat)
        case atStart => exact ⟨0, acc ++ [59], rfl, Nat.zero_le _, HJ, hh1, hb1⟩
        case round =>
          clear hown hbel hz hc
          obtain ⟨k, b1, rfl, hk, hp, hown, hbel⟩ := hrel
          have hz := hbel.size
          have hc := HC.out wr hbel
          by_cases hlk : k < x.size
          · have hk1 : (k : Int) < (x.size : Int) := by omega
            obtain ⟨hm1, hm2⟩ := wr_at2 hlk hp.out
            by_cases c1 : x[k] = 59
            · have hm : mk x[k] = true := by rw [c1]; rfl
              have q1 : ((x[k].toNat : Int) == 59) = true := by rw [c1]; rfl
              have HP := Lib.hid (hm1 hm)
              have hl := two_len3 HP.out
              simp only [List.length_append, List.length_singleton] at hl
              have hA : b1.length + 1 ≤ maxLen := by unfold maxLen; omega
              have hA2 : (b1.length + 1) * 1 ≤ 140737488355328 := by omega
              have hB : (b1 ++ [(92 : UInt8)]).length + 1 ≤ maxLen := by unfold maxLen; simp; omega
              have hB2 : ((b1 ++ [(92 : UInt8)]).length + 1) * 1 ≤ 140737488355328 := by simp; omega
              clear hm hm1 hm2 hl c1
              go_wp2_with (first
                | (at_builtin; refine wpList_append_own _ rfl _ _ 56 rfl w.heap.size 5 i0 (.int .u8 0) 1 1 Try.underlying56 hi hz0 hz1 hz2 rfl (by decide) _ _ _ rfl (World.ownsRow.alloc hown _) ⟨wr.heap.size, 0, none⟩ 1 1 [.int .u8 92] rfl rfl (cell_one_new _ _ _) (by simp [Value.oneCell']) hA hA2 (by simp; omega) ?_; intro v1 w1 hown1 hgrow1 _; have hh1 : Bytes.Has w1 w.heap.size v1 (b1 ++ [92]) := Bytes.Has.laid1 hown1; have hb1 : Below w.heap.size w w1 := Bytes.Has.below hown hbel hz _ hgrow1; have hz1' := hb1.size)
                | (at_builtin; refine wpList_append_own _ rfl _ _ 56 rfl w.heap.size 5 i0 (.int .u8 0) 1 1 Try.underlying56 hi hz0 hz1 hz2 rfl (by decide) _ _ _ rfl (World.ownsRow.alloc hh1 _) ⟨w1.heap.size, 0, none⟩ 1 1 [.int .u8 (x[k].toNat : Int)] rfl rfl (cell_one_new _ _ _) (by simp [Value.oneCell']) hB hB2 (by simp; omega) ?_; intro v2 w2 hown2 hgrow2 _))
              go_roundw
              case rel => exact ⟨k + 1, (b1 ++ [92]) ++ [x[k]], by go_num, by omega, HP, Bytes.Has.laid1 hown2, Bytes.Has.below hh1 hb1 (by omega) _ hgrow2⟩
              case measure => simp [intOf]; omega
            · have q1 : ((x[k].toNat : Int) == 59) = false := by simp; exact fun h => c1 (UInt8.toNat_inj.1 (by show x[k].toNat = 59; omega))
              by_cases c2 : x[k] = 92
              · have hm : mk x[k] = true := by rw [c2]; rfl
                have q2 : ((x[k].toNat : Int) == 92) = true := by rw [c2]; rfl
                have HP := Lib.hid (hm1 hm)
                have hl := two_len3 HP.out
                simp only [List.length_append, List.length_singleton] at hl
                have hA : b1.length + 1 ≤ maxLen := by unfold maxLen; omega
                have hA2 : (b1.length + 1) * 1 ≤ 140737488355328 := by omega
                have hB : (b1 ++ [(92 : UInt8)]).length + 1 ≤ maxLen := by unfold maxLen; simp; omega
                have hB2 : ((b1 ++ [(92 : UInt8)]).length + 1) * 1 ≤ 140737488355328 := by simp; omega
                clear hm hm1 hm2 hl c1 c2
                go_wp2_with (first
                  | (at_builtin; refine wpList_append_own _ rfl _ _ 56 rfl w.heap.size 5 i0 (.int .u8 0) 1 1 Try.underlying56 hi hz0 hz1 hz2 rfl (by decide) _ _ _ rfl (World.ownsRow.alloc hown _) ⟨wr.heap.size, 0, none⟩ 1 1 [.int .u8 92] rfl rfl (cell_one_new _ _ _) (by simp [Value.oneCell']) hA hA2 (by simp; omega) ?_; intro v1 w1 hown1 hgrow1 _; have hh1 : Bytes.Has w1 w.heap.size v1 (b1 ++ [92]) := Bytes.Has.laid1 hown1; have hb1 : Below w.heap.size w w1 := Bytes.Has.below hown hbel hz _ hgrow1; have hz1' := hb1.size)
                  | (at_builtin; refine wpList_append_own _ rfl _ _ 56 rfl w.heap.size 5 i0 (.int .u8 0) 1 1 Try.underlying56 hi hz0 hz1 hz2 rfl (by decide) _ _ _ rfl (World.ownsRow.alloc hh1 _) ⟨w1.heap.size, 0, none⟩ 1 1 [.int .u8 (x[k].toNat : Int)] rfl rfl (cell_one_new _ _ _) (by simp [Value.oneCell']) hB hB2 (by simp; omega) ?_; intro v2 w2 hown2 hgrow2 _))
                go_roundw
                case rel => exact ⟨k + 1, (b1 ++ [92]) ++ [x[k]], by go_num, by omega, HP, Bytes.Has.laid1 hown2, Bytes.Has.below hh1 hb1 (by omega) _ hgrow2⟩
                case measure => simp [intOf]; omega
              · have hm : mk x[k] = false := by simp [mk, c1, c2]
                have q2 : ((x[k].toNat : Int) == 92) = false := by simp; exact fun h => c2 (UInt8.toNat_inj.1 (by show x[k].toNat = 92; omega))
                have HP := Lib.hid (hm2 hm)
                have hl := two_len3 HP.out
                simp only [List.length_append, List.length_singleton] at hl
                have hA : b1.length + 1 ≤ maxLen := by unfold maxLen; omega
                have hA2 : (b1.length + 1) * 1 ≤ 140737488355328 := by omega
                clear hm hm1 hm2 hl c1 c2
                go_wp2_with (at_builtin; refine wpList_append_own _ rfl _ _ 56 rfl w.heap.size 5 i0 (.int .u8 0) 1 1 Try.underlying56 hi hz0 hz1 hz2 rfl (by decide) _ _ _ rfl (World.ownsRow.alloc hown _) ⟨wr.heap.size, 0, none⟩ 1 1 [.int .u8 (x[k].toNat : Int)] rfl rfl (cell_one_new _ _ _) (by simp [Value.oneCell']) hA hA2 (by simp; omega) ?_; intro v2 w2 hown2 hgrow2 _)
                go_roundw
                case rel => exact ⟨k + 1, b1 ++ [x[k]], by go_num, by omega, HP, Bytes.Has.laid1 hown2, Bytes.Has.below hown hbel hz _ hgrow2⟩
                case measure => simp [intOf]; omega
          · have hk1 : ¬ (k : Int) < (x.size : Int) := by omega
            have HE := Lib.hid (wr_end2 hlk hp.out)
            go_wp2_with fail
            go_roundw
            case rel => exact ⟨i + 1, b1, by go_num, by omega, Lib.hid (by rw [HT.out]; exact HE.out), hown, hbel⟩
            case measure => simp [intOf]; omega
    · have HE := Lib.hid (jrest_end hlt hj.out)
      have hc := hown.text
      go_wp2_with fail
      go_ret
      exact ⟨by rw [← HE.out]; rfl, hbel⟩
end Go.Proofs.Ytbaigaenglhebaa.Pt
