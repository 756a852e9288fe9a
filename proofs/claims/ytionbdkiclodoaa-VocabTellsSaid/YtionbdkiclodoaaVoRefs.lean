/-
The document's own tokens and names are the plain functions', and both answers to namespaces. No conditions: any page, any text, any token.
-/
import Derived.Test.YtionbdkiclodoaaVoRef
namespace Go.Proofs.Ytionbdkiclodoaa.Vo
set_option maxRecDepth 100000
open Go.RowKit Strs

theorem seq_eq {x n : ByteArray} (h : x.data.toList = n.data.toList) : (x.toList == n.toList) = true := by rw [ByteArray.toList_eq, ByteArray.toList_eq, h]; simp
theorem seq_ne {x n : ByteArray} (h : ¬ x.data.toList = n.data.toList) : (x.toList == n.toList) = false := by rw [ByteArray.toList_eq, ByteArray.toList_eq]; simpa using h
theorem seq_dash {x : ByteArray} (h : x.data.toList = [45]) : (x.toList == [45]) = true := by rw [ByteArray.toList_eq, h]; rfl
theorem sne_dash {x : ByteArray} (h : ¬ x.data.toList = [45]) : (x.toList == [45]) = false := by rw [ByteArray.toList_eq]; simpa using h

theorem tokN_end (n : List UInt8) (k : Nat) (L : List (List UInt8)) (h : ¬ k < L.length) : tokN n (5 + k) (L.drop k) = 0 := by rw [List.drop_eq_nil_of_le (by omega)]; rfl
theorem tokN_hit (n : List UInt8) (k : Nat) (L : List (List UInt8)) (h : k < L.length) (hx : L[k] = n) (hn : n ≠ [45]) : tokN n (5 + k) (L.drop k) = 5 + k := by
  rw [List.drop_eq_getElem_cons h, tokN, if_pos ⟨hx, hn⟩]
theorem tokN_miss (n : List UInt8) (k : Nat) (L : List (List UInt8)) (h : k < L.length) (hx : ¬ (L[k] = n ∧ n ≠ [45])) : tokN n (5 + k) (L.drop k) = tokN n (5 + (k + 1)) (L.drop (k + 1)) := by
  rw [List.drop_eq_getElem_cons h, tokN, if_neg hx]; rfl

set_option maxHeartbeats 2000000 in
theorem refToken_any (p : Int) (n : ByteArray) (w : World) :
    Calls Try.prog 7 #[.int .i64 p, .string n] w fun e W' => e = .returned (.int .u8 (tok p n.data.toList : Int)) ∧ Below w.heap.size w W' := by
  have C := Lib.hid (fun W => refList_any p W)
  have HZ := Lib.hid (count_wds p)
  have HR := Lib.hid (tokN_tok p n.data.toList)
  generalize wds (txt p) = L at C HZ HR
  generalize tok p n.data.toList = R at HR ⊢
  go_enter Try.func7, Try.ntmps7
  go_wp2_with fail
  refine (C.out _).mono ?_
  rintro e w1 ⟨v, rfl, hS, b1⟩
  have H := Lib.hid hS.reads
  obtain ⟨a, cap, rfl⟩ := hS.reads.shape
  clear hS
  go_wp2_with fail
  go_loopw [6] (fun iv wr => ∃ i : Nat, iv = .int .i64 (i : Int) ∧ i ≤ L.length ∧ Hid (tokN n.data.toList (5 + i) (L.drop i) = R) ∧ wr = w1) (fun iv _ => L.length - (intOf iv).toNat)
  case atStart => exact ⟨0, rfl, Nat.zero_le _, HR, rfl⟩
  case round =>
    obtain ⟨i, rfl, hi, hp, rfl⟩ := hrel
    have hz := HZ.out
    by_cases hlt : i < L.length
    · obtain ⟨_, b, o, rfl, _, hc⟩ := H.out.at_ i hlt
      have hi2 : (i : Int) < (L.length : Int) := by omega
      have hk : (5 + (i : Int)) % 256 = 5 + (i : Int) := by omega
      have hx : (⟨L[i].toArray⟩ : ByteArray).data.toList = L[i] := mk_list _
      by_cases he : L[i] = n.data.toList
      · have heq := seq_eq (hx.trans he)
        by_cases hd : n.data.toList = [45]
        · have hd1 := seq_dash hd
          have HP := Lib.hid ((tokN_miss n.data.toList i L hlt (fun h => h.2 hd)).symm.trans hp.out)
          generalize (⟨L[i].toArray⟩ : ByteArray) = x at hc heq hx
          clear hx he hd
          go_wp2_with fail
          try (go_quiet (fail); go_wp2_with fail)
          go_roundw
          case rel => exact ⟨i + 1, by go_num, by omega, HP, by trivial⟩
          case measure => first | (simp [intOf]; done) | (simp [intOf]; omega)
        · have hd1 := sne_dash hd
          have HP := Lib.hid ((tokN_hit n.data.toList i L hlt he hd).symm.trans hp.out)
          generalize (⟨L[i].toArray⟩ : ByteArray) = x at hc heq hx
          clear hx he hd
          go_wp2_with fail
          try (go_quiet (fail); go_wp2_with fail)
          go_ret
          exact ⟨by rw [← HP.out]; simp, b1⟩
      · have heq := seq_ne (fun e => he (hx.symm.trans e))
        have HP := Lib.hid ((tokN_miss n.data.toList i L hlt (fun h => he h.1)).symm.trans hp.out)
        generalize (⟨L[i].toArray⟩ : ByteArray) = x at hc heq hx
        clear hx he
        go_wp2_with fail
        try (go_quiet (fail); go_wp2_with fail)
        go_roundw
        case rel => exact ⟨i + 1, by go_num, by omega, HP, by trivial⟩
        case measure => first | (simp [intOf]; done) | (simp [intOf]; omega)
    · have hi2 : ¬ (i : Int) < (L.length : Int) := by omega
      have HP := Lib.hid ((tokN_end n.data.toList i L hlt).symm.trans hp.out)
      go_wp2_with fail
      go_ret
      exact ⟨by rw [← HP.out]; rfl, b1⟩

theorem namN_low (t : Nat) (L : List (List UInt8)) (h : t < 5) : namN t 5 L = [] := by rw [namN_at, dif_neg (by omega)]
theorem namN_far (t : Nat) (L : List (List UInt8)) (h : ¬ t - 5 < L.length) : namN t 5 L = [] := by rw [namN_at, dif_neg (by omega)]
theorem namN_dash (t : Nat) (L : List (List UInt8)) (h5 : 5 ≤ t) (h : t - 5 < L.length) (hd : L[t - 5] = [45]) : namN t 5 L = [] := by rw [namN_at, dif_pos ⟨h5, h⟩, if_pos hd]
theorem namN_hit (t : Nat) (L : List (List UInt8)) (h5 : 5 ≤ t) (h : t - 5 < L.length) (hd : ¬ L[t - 5] = [45]) : namN t 5 L = L[t - 5] := by rw [namN_at, dif_pos ⟨h5, h⟩, if_neg hd]

set_option maxHeartbeats 2000000 in
theorem refName_any (p : Int) (t : Nat) (ht : t < 256) (w : World) :
    Calls Try.prog 9 #[.int .i64 p, .int .u8 (t : Int)] w fun e W' => e = .returned (.string ⟨(nam p t).toArray⟩) ∧ Below w.heap.size w W' := by
  have C := Lib.hid (fun W => refList_any p W)
  have HZ := Lib.hid (count_wds p)
  have HR := Lib.hid (namN_nam p t)
  generalize wds (txt p) = L at C HZ HR
  generalize nam p t = R at HR ⊢
  have hz := HZ.out
  by_cases h5 : t < 5
  · have hi : (t : Int) - 5 < 0 := by omega
    have HP := Lib.hid ((namN_low t L h5).symm.trans HR.out)
    go_enter Try.func9, Try.ntmps9
    go_wp2_with fail
    refine (C.out _).mono ?_
    rintro e w1 ⟨v, rfl, hS, b1⟩
    obtain ⟨a, cap, rfl⟩ := hS.reads.shape
    go_wp2_with fail
    try (go_quiet (fail); go_wp2_with fail)
    go_ret
    exact ⟨by rw [← HP.out]; rfl, b1⟩
  · have hi : ¬ (t : Int) - 5 < 0 := by omega
    by_cases hl : t - 5 < L.length
    · have hl2 : ¬ (t : Int) - 5 ≥ (L.length : Int) := by omega
      have hx : (⟨L[t - 5].toArray⟩ : ByteArray).data.toList = L[t - 5] := mk_list _
      have hn : ((t : Int) - 5).toNat = t - 5 := by omega
      have hn2 : (t : Int) - 5 < (L.length : Int) := by omega
      by_cases hd : L[t - 5] = [45]
      · have HP := Lib.hid ((namN_dash t L (by omega) hl hd).symm.trans HR.out)
        have hd1 := seq_dash (hx.trans hd)
        go_enter Try.func9, Try.ntmps9
        go_wp2_with fail
        refine (C.out _).mono ?_
        rintro e w1 ⟨v, rfl, hS, b1⟩
        obtain ⟨a, cap, rfl⟩ := hS.reads.shape
        obtain ⟨_, b, o, rfl, _, hc⟩ := hS.reads.at_ (t - 5) hl
        generalize (⟨L[t - 5].toArray⟩ : ByteArray) = x at hc hd1 hx
        clear hx hd
        go_wp2_with fail
        try (go_quiet (fail); go_wp2_with fail)
        go_ret
        exact ⟨by rw [← HP.out]; rfl, b1⟩
      · have HP := Lib.hid ((namN_hit t L (by omega) hl hd).symm.trans HR.out)
        have hd1 := sne_dash (fun e => hd (hx.symm.trans e))
        rw [← HP.out]
        have HX := Lib.hid (fun (W : World) a cap (h : Strs W w.heap.size (.slice a L.length cap) L) => h.reads.at_ (t - 5) hl)
        generalize (⟨L[t - 5].toArray⟩ : ByteArray) = x at HX hd1 hx ⊢
        clear hx hd
        go_enter Try.func9, Try.ntmps9
        go_wp2_with fail
        refine (C.out _).mono ?_
        rintro e w1 ⟨v, rfl, hS, b1⟩
        obtain ⟨a, cap, rfl⟩ := hS.reads.shape
        obtain ⟨_, b, o, rfl, _, hc⟩ := HX.out _ _ _ hS
        go_wp2_with fail
        try (go_quiet (fail); go_wp2_with fail)
        go_ret
        exact ⟨rfl, b1⟩
    · have hl2 : (t : Int) - 5 ≥ (L.length : Int) := by omega
      have HP := Lib.hid ((namN_far t L hl).symm.trans HR.out)
      go_enter Try.func9, Try.ntmps9
      go_wp2_with fail
      refine (C.out _).mono ?_
      rintro e w1 ⟨v, rfl, hS, b1⟩
      obtain ⟨a, cap, rfl⟩ := hS.reads.shape
      go_wp2_with fail
      try (go_quiet (fail); go_wp2_with fail)
      go_ret
      exact ⟨by rw [← HP.out]; rfl, b1⟩
end Go.Proofs.Ytionbdkiclodoaa.Vo
