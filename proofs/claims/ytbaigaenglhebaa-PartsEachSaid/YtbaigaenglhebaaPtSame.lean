/-
Two rows of the same texts are told to be the same; a list is told to be great, or is small. Conditions: a list has at most maxLen texts, each of at most 2^47 bytes.
-/
import Derived.Test.YtbaigaenglhebaaPtMath
import Derived.BigQuiet
import Derived.Deep.QuietTactic
namespace Go.Proofs.Ytbaigaenglhebaa.Pt
open Go.RowKit Strs

set_option maxRecDepth 100000 in
set_option maxHeartbeats 1000000 in
theorem same_any (v v' : Value) (l : List (List UInt8)) (hn : l.length ≤ maxLen) (w : World) (h : Reads w v l) (h' : Reads w v' l) :
    Calls Try.prog 17 #[v, v'] w fun e w' => e = .returned (.bool true) ∧ Below w.heap.size w w' := by
  unfold maxLen at hn
  obtain ⟨a, cap, rfl⟩ := h.shape
  obtain ⟨a', cap', rfl⟩ := h'.shape
  have H := Lib.hid h
  have H' := Lib.hid h'
  clear h h'
  go_enter Try.func17, Try.ntmps17
  go_wp2_with fail
  go_loopw [5] (fun iv wr => ∃ i : Nat, iv = .int .i64 (i : Int) ∧ i ≤ l.length ∧ Below w.heap.size w wr) (fun iv _ => l.length - (intOf iv).toNat)
  case atStart => exact ⟨0, rfl, Nat.zero_le _, Below.refl _ _⟩
  case round =>
    obtain ⟨i, rfl, hi, hbel⟩ := hrel
    by_cases hlt : i < l.length
    · obtain ⟨_, b, o, rfl, _, hc⟩ := (H.out.keep (Nat.le_refl _) hbel).at_ i hlt
      obtain ⟨_, b', o', rfl, _, hc'⟩ := (H'.out.keep (Nat.le_refl _) hbel).at_ i hlt
      generalize (⟨l[i].toArray⟩ : ByteArray) = x at hc hc'
      have hx : (x.toList == x.toList) = true := by simp
      have hi2 : (i : Int) < (l.length : Int) := by omega
      go_wp2_with fail
      go_quiet (fail)
      go_wp2_with fail
      go_roundw
      case rel => exact ⟨i + 1, by go_num, by omega, ⟨hbel.os, hbel.tape, hbel.output, hbel.size, hbel.block⟩⟩
      case measure => simp [intOf]; omega
    · go_wp2_with fail
      go_ret
      exact ⟨rfl, hbel⟩

/-- Is a list great? (n bytes and i texts have gone by.) -/
def gr : Nat → Nat → List (List UInt8) → Bool
  | _, _, [] => false
  | i, n, x :: r => if 3000 < n + x.length ∨ 300 < i then true else gr (i + 1) (n + x.length) r
theorem gr_small : ∀ (l : List (List UInt8)) (i n : Nat), n ≤ 3000 → i ≤ 301 → gr i n l = false → n + bytes l ≤ 3000 ∧ i + l.length ≤ 301
  | [], i, n, hn, hi, _ => by simp [bytes]; omega
  | x :: r, i, n, hn, hi, h => by
    unfold gr at h
    by_cases hc : 3000 < n + x.length ∨ 300 < i
    · rw [if_pos hc] at h; cases h
    · rw [if_neg hc] at h
      have := gr_small r (i + 1) (n + x.length) (by omega) (by omega) h
      rw [bytes_cons, List.length_cons]; omega
theorem gr_yes {l : List (List UInt8)} {i n : Nat} (h : i < l.length) (hc : 3000 < n + l[i].length ∨ 300 < i) : gr i n (l.drop i) = true := by
  rw [List.drop_eq_getElem_cons h, gr, if_pos hc]
theorem gr_no {l : List (List UInt8)} {i n : Nat} (h : i < l.length) (hc : ¬ (3000 < n + l[i].length ∨ 300 < i)) : gr i n (l.drop i) = gr (i + 1) (n + l[i].length) (l.drop (i + 1)) := by
  rw [List.drop_eq_getElem_cons h]; conv => lhs; rw [gr, if_neg hc]
theorem gr_end {l : List (List UInt8)} {i n : Nat} (h : ¬ i < l.length) : gr i n (l.drop i) = false := by
  rw [List.drop_eq_nil_of_le (by omega)]; rfl

set_option maxRecDepth 100000 in
set_option maxHeartbeats 1000000 in
theorem great_any (v : Value) (l : List (List UInt8)) (hb : ∀ x ∈ l, x.length ≤ 140737488355328) (w : World) (h : Reads w v l) :
    Calls Try.prog 14 #[v] w fun e w' => e = .returned (.bool (gr 0 0 l)) ∧ w = w' := by
  obtain ⟨a, cap, rfl⟩ := h.shape
  have H := Lib.hid h
  have HB := Lib.hid hb
  have H0 := Lib.hid (show gr 0 0 (l.drop 0) = gr 0 0 l by rw [List.drop_zero])
  obtain ⟨q, hq⟩ : ∃ q, gr 0 0 l = q := ⟨_, rfl⟩
  rw [hq] at H0 ⊢
  clear h hb hq
  go_enter Try.func14, Try.ntmps14
  go_wp2_with fail
  go_loopw [3, 4] (fun nv iv wr => ∃ i n : Nat, iv = .int .i64 (i : Int) ∧ nv = .int .i64 (n : Int) ∧ i ≤ l.length ∧ n ≤ 3000 ∧ Hid (gr i n (l.drop i) = q) ∧ w = wr) (fun _ iv _ => l.length - (intOf iv).toNat)
  case atStart => exact ⟨0, 0, rfl, rfl, Nat.zero_le _, Nat.zero_le _, H0, rfl⟩
  case round =>
    obtain ⟨i, n, rfl, rfl, hi, hn2, hg, rfl⟩ := hrel
    by_cases hlt : i < l.length
    · obtain ⟨_, b, o, rfl, _, hc⟩ := H.out.at_ i hlt
      have hxl := HB.out l[i] (List.getElem_mem hlt)
      have hxz := mk_size l[i]
      have hi2 : (i : Int) < (l.length : Int) := by omega
      by_cases hcc : 3000 < n + l[i].length ∨ 300 < i
      · have HE := Lib.hid (gr_yes hlt hcc)
        rw [hg.out] at HE
        have hcc' : 3000 < n + (⟨l[i].toArray⟩ : ByteArray).size ∨ 300 < i := by rw [hxz]; exact hcc
        rw [← hxz] at hxl
        clear hxz hcc hg
        generalize (⟨l[i].toArray⟩ : ByteArray) = x at hc hxl hcc'
        by_cases h1 : 3000 < n + x.size
        · have h1' : (3000 : Int) < (n : Int) + (x.size : Int) := by omega
          go_wp2_with fail
          go_ret
          exact ⟨by rw [HE.out]; rfl, rfl⟩
        · have h1' : ¬ (3000 : Int) < (n : Int) + (x.size : Int) := by omega
          have h2' : (300 : Int) < (i : Int) := by omega
          go_wp2_with fail
          go_ret
          exact ⟨by rw [HE.out]; rfl, rfl⟩
      · have HE := Lib.hid (gr_no hlt hcc)
        rw [hg.out] at HE
        have HXZ := Lib.hid hxz
        have h1' : ¬ (3000 : Int) < (n : Int) + ((⟨l[i].toArray⟩ : ByteArray).size : Int) := by rw [hxz]; omega
        have h2' : ¬ (300 : Int) < (i : Int) := by omega
        rw [← hxz] at hxl
        clear hxz hcc hg
        generalize (⟨l[i].toArray⟩ : ByteArray) = x at hc hxl h1' HXZ
        go_wp2_with fail
        go_roundw
        case rel => exact ⟨i + 1, n + l[i].length, by go_num, by rw [← HXZ.out]; go_num, by omega, by rw [← HXZ.out]; omega, Lib.hid HE.out.symm, trivial⟩
        case measure => simp [intOf]; omega
    · have HE := Lib.hid (gr_end (n := n) hlt)
      rw [hg.out] at HE
      go_wp2_with fail
      go_ret
      exact ⟨by rw [HE.out]; rfl, rfl⟩
end Go.Proofs.Ytbaigaenglhebaa.Pt
