/-
For every text, every width and every number of pieces the law SixbitLines returns true and changes nothing that was there. Conditions: the number of pieces is an int.
-/
import Derived.Test.YtijgpelgdepbaaaSxRefLines
import Derived.BigQuiet
import Derived.Deep.QuietTactic
namespace Go.Proofs.Ytijgpelgdepbaaa.Sx
open Go.RowKit

theorem strs_keep {w w' : World} {base : Nat} {v : Value} {l : List (List UInt8)} (h : Strs w base v l) (hb : Below w.heap.size w w') : Strs w' base v l := by
  refine h.kept (row := none) ⟨hb.os, hb.tape, hb.output, hb.size, fun k hk _ => hb.block k hk⟩ ?_
  cases e : v.ownBlock with
  | none => exact .inl rfl
  | some k => exact .inr (by simp)
/-- A row of pieces, laid open. -/
theorem strs_at {w : World} {base : Nat} {v : Value} {l : List (List UInt8)} (h : Strs w base v l) :
    ∃ a cap, v = .slice a l.length cap ∧ ∀ i (hi : i < l.length), ∃ g, a = some ⟨g, 0, none⟩ ∧ g < w.heap.size ∧ w.cell? ⟨g, i, none⟩ = some (.string ⟨l[i].toArray⟩) := by
  obtain ⟨hl, ⟨rfl, h0⟩ | ⟨g, cap, cur, rfl, _, hg, _, _, _, ht⟩⟩ := h
  · exact ⟨none, 0, by rw [h0], fun i hi => by omega⟩
  · refine ⟨_, cap, rfl, fun i hi => ⟨g, rfl, (Array.getElem?_eq_some_iff.1 hg).1, ?_⟩⟩
    have hn : (scells l)[i]? = some (.string ⟨l[i].toArray⟩) := by simp [scells, hi]
    rw [← ht] at hn
    have h2 := Lib.cells_of_row hg _ i _ hn
    rwa [Lib.addr_add, Nat.zero_add] at h2
theorem abc_cut : (cut (wid 2) (⟨#[97, 98, 99]⟩ : ByteArray).data.toList).take 9 = [[97, 98], [99]] := by
  rw [show wid 2 = 2 by decide, show (⟨#[97, 98, 99]⟩ : ByteArray).data.toList = [97, 98, 99] from rfl, cut_step (by decide) (by decide), cut_step (by decide) (by decide)]
  rw [show ([97, 98, 99] : List UInt8).drop 2 = [99] from rfl, show ([99] : List UInt8).drop 2 = [] from rfl, cut_nil]
  rfl

set_option maxRecDepth 100000 in
set_option maxHeartbeats 2000000 in
theorem lines_law (s : ByteArray) (n most : Int) (w : World) :
    Calls Try.prog 4 #[.string s, .int .i64 n, .int .i64 most] w fun e W' => e = .returned (.bool true) ∧ Below w.heap.size w W' := by
  by_cases hs : 2000 < s.size
  · have hs' : (2000 : Int) < (s.size : Int) := by omega
    go_enter Try.func4, Try.ntmps4
    go_wp2_with fail
    go_ret
    exact ⟨rfl, Below.refl _ _⟩
  · obtain ⟨u, hu⟩ : ∃ u : Nat, IntKind.u64.wrap most = (u : Int) := ⟨(IntKind.u64.wrap most).toNat, by rw [IntKind.wrap_u64]; omega⟩
    obtain ⟨m, hm⟩ : ∃ m : Nat, m = u % 2001 := ⟨_, rfl⟩
    have hm2 : (u : Int) % 2001 = (m : Int) := by omega
    have hm3 : m ≤ 2000 := by omega
    have CR := Lib.hid (fun W => refLines_any s n (by omega) W)
    have CP := Lib.hid (fun W => pieces_any s n m (by omega) (by omega) W)
    have CA := Lib.hid (fun W => pieces_any ⟨#[97, 98, 99]⟩ 2 9 (by decide) (by decide) W)
    rw [abc_cut, show ((9 : Nat) : Int) = 9 from rfl] at CA
    obtain ⟨C, hC⟩ : ∃ C, cut (wid n) s.data.toList = C := ⟨_, rfl⟩
    obtain ⟨R, hR⟩ : ∃ R, C.take m = R := ⟨_, rfl⟩
    rw [hC, hR] at CP
    rw [hC] at CR
    have hRl : (R.length = m ∧ m ≤ C.length) ∨ (R.length = C.length ∧ C.length < m) := by rw [← hR, List.length_take]; omega
    have hRC := Lib.hid (show ∀ i (hi : i < R.length) (hi' : i < C.length), R[i] = C[i] by subst hR; intro i hi hi'; rw [List.getElem_take])
    have hCl : C.length ≤ 2000 := by rw [← hC]; have := cut_length (wid_pos n) s.data.toList; rw [list_size] at this; omega
    clear hR hC hm
    have hRC1 : R.length ≤ C.length := by omega
    have HQ := Lib.hid (show (m ≤ C.length → ((R.length : Int) != (m : Int)) = false) ∧ (C.length < m → ((R.length : Int) != (C.length : Int)) = false) from ⟨fun h => by simp; omega, fun h => by simp; omega⟩)
    have hmC : m ≤ C.length ∨ C.length < m := by omega
    clear hRl
    rcases hmC with hmC | hmC
    all_goals
      first | have hb := HQ.out.1 hmC | have hb := HQ.out.2 hmC
      go_enter Try.func4, Try.ntmps4
      go_wp2_with fail
      refine (CR.out _).mono ?_
      rintro e w1 ⟨v1, rfl, hS1, b1⟩
      obtain ⟨a1, c1, rfl, hat1⟩ := strs_at hS1
      have HAT1 := Lib.hid hat1
      clear hat1
      go_wp2_with fail
      refine (CP.out _).mono ?_
      rintro e w2 ⟨v2, rfl, hS2, b2⟩
      obtain ⟨a2, c2, rfl, hat2⟩ := strs_at hS2
      have HAT2 := Lib.hid hat2
      clear hat2
      go_wp2_with fail
      go_loopw [10] (fun iv wr => ∃ i : Nat, iv = .int .i64 (i : Int) ∧ i ≤ R.length ∧ Below w2.heap.size w2 wr) (fun iv _ => R.length - (intOf iv).toNat)
      case atStart => exact ⟨0, rfl, Nat.zero_le _, Below.refl _ _⟩
      case round =>
        obtain ⟨i, rfl, hiR, hbel⟩ := hrel
        by_cases hlt : i < R.length
        · obtain ⟨g1, rfl, hg1, hc1⟩ := HAT1.out i (by omega)
          obtain ⟨g2, rfl, hg2, hc2⟩ := HAT2.out i hlt
          have hd1 := (hbel.cell (p := ⟨g1, i, none⟩) (by have := b2.size; show g1 < _; omega)).trans ((b2.cell (p := ⟨g1, i, none⟩) hg1).trans hc1)
          have hd2 := (hbel.cell (p := ⟨g2, i, none⟩) hg2).trans hc2
          rw [hRC.out i hlt (by omega)] at hd2
          generalize (⟨C[i].toArray⟩ : ByteArray) = x at hd1 hd2
          have hiC : i < C.length := by omega
          have hx : (x.toList == x.toList) = true := by simp
          clear hc1 hc2
          go_wp2_with fail
          go_quiet (fail)
          go_wp2_with fail
          go_roundw
          case rel => exact ⟨i + 1, by go_num, by omega, ⟨hbel.os, hbel.tape, hbel.output, hbel.size, hbel.block⟩⟩
          case measure => simp [intOf]; omega
        · go_wp2_with fail
          refine (CA.out _).mono ?_
          rintro e w3 ⟨v3, rfl, hS3, b3⟩
          obtain ⟨a3, c3, rfl, hat3⟩ := strs_at hS3
          obtain ⟨g3, rfl, hg3, hc3⟩ := hat3 0 (by decide)
          obtain ⟨g4, hg4, _, hc4⟩ := hat3 1 (by decide)
          obtain rfl : g3 = g4 := by simpa using hg4
          have hd3 : w3.cell? ⟨g3, 0, none⟩ = some (.string ⟨#[97, 98]⟩) := hc3
          have hd4 : w3.cell? ⟨g3, 1, none⟩ = some (.string ⟨#[99]⟩) := hc4
          have HB := Lib.hid (((b1.trans (b2.mono b1.size)).trans (hbel.mono (by have := b1.size; have := b2.size; omega))).trans (b3.mono (by have := b1.size; have := b2.size; have := hbel.size; omega)))
          clear hc3 hc4 hg4 hat3
          go_wp2_with fail
          go_ret
          exact ⟨rfl, HB.out⟩
end Go.Proofs.Ytijgpelgdepbaaa.Sx
