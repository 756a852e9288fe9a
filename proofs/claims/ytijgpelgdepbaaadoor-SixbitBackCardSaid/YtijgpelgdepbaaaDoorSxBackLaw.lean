/-
For every text and every width the law SixbitBack returns true and changes nothing that was there. Conditions: the width is an int; the text's length is at most maxLen.
-/
import Derived.Test.YtijgpelgdepbaaaDoorSxDec
import Derived.Test.YtijgpelgdepbaaaDoorSxPieces
import Derived.Test.YtijgpelgdepbaaaDoorSxBackMath
namespace Go.Proofs.YtijgpelgdepbaaaDoor.Sx
open Go.RowKit

theorem chain3 {a b c : World} (h : Below a.heap.size a b) (k : Below b.heap.size b c) : Below a.heap.size a c := h.trans (k.mono h.size)
/-- A row of pieces, laid open. -/
theorem strs_at {w : World} {base : Nat} {v : Value} {l : List (List UInt8)} (h : Strs w base v l) :
    ∃ a cap, v = .slice a l.length cap ∧ ∀ i (hi : i < l.length), ∃ g, a = some ⟨g, 0, none⟩ ∧ g < w.heap.size ∧ w.cell? ⟨g, i, none⟩ = some (.string ⟨l[i].toArray⟩) := by
  obtain ⟨hl, ⟨rfl, h0⟩ | ⟨g, cap, cur, rfl, _, hg, _, _, _, ht⟩⟩ := h
  · exact ⟨none, 0, by rw [h0], fun i hi => by omega⟩
  · refine ⟨_, cap, rfl, fun i hi => ⟨g, rfl, (Array.getElem?_eq_some_iff.1 hg).1, ?_⟩⟩
    have hn : (scells l)[i]? = some (.string ⟨l[i].toArray⟩) := by simp [scells, hi]
    rw [← ht] at hn
    have h2 := Lib.cells_of_row hg _ i _ hn
    rwa [Lib.addr_add, Nat.zero_add] at h2
theorem cat_lists (a b : List UInt8) : ((⟨a.toArray⟩ : ByteArray) ++ ⟨b.toArray⟩) = ⟨(a ++ b).toArray⟩ := by
  apply ByteArray.ext; simp [ByteArray.data_append]
theorem lines_next {L : List (List UInt8)} {i : Nat} (h : i < L.length) {u : ByteArray} (hu : u = ⟨(inLines (L.take i)).toArray⟩) : u ++ ⟨L[i].toArray⟩ ++ ⟨#[13, 10]⟩ = ⟨(inLines (L.take (i + 1))).toArray⟩ := by
  subst hu
  rw [cat_lists, List.take_succ_eq_append_getElem h, inLines_snoc]
  exact cat_lists (inLines (L.take i) ++ L[i]) [13, 10]
theorem ret_true {b : Bool} (h : b = true) : Ending.returned (.bool b) = .returned (.bool true) := by rw [h]
/-- What the law's calls answer. -/
theorem answers (s : ByteArray) (hs : s.size ≤ 1500) (n : Int) : ∃ (t : ByteArray) (L : List (List UInt8)), t.size = 4 * ((s.size + 2) / 3) ∧ L.length ≤ 2004 ∧ (∀ x ∈ L, x.length ≤ 2004) ∧
    (∀ w, Calls Tryd.prog 7 #[.string s] w fun e w' => e = .returned (.string t) ∧ Below w.heap.size w w') ∧
    (∀ w, Calls Tryd.prog 5 #[.string t] w fun e w' => e = .returned (.tuple #[.string s, .int .i64 0]) ∧ Below w.heap.size w w') ∧
    (∀ w, Calls Tryd.prog 8 #[.string t, .int .i64 n, .int .i64 4000] w (Told w w.heap.size L)) ∧
    (∀ w, Calls Tryd.prog 5 #[.string ⟨(inLines L).toArray⟩] w fun e w' => e = .returned (.tuple #[.string s, .int .i64 0]) ∧ Below w.heap.size w w') := by
  have hel := enc_size s.data.toList
  rw [list_size] at hel
  have htl : (⟨(enc s.data.toList).toArray⟩ : ByteArray).size = 4 * ((s.size + 2) / 3) := ulen hel
  have hss : (⟨s.data.toList.toArray⟩ : ByteArray) = s := own_text.symm
  have hcl := cut_length (wid_pos n) (enc s.data.toList)
  have hfl := cut_flat (wid_pos n) (enc s.data.toList)
  have hmem : ∀ x ∈ cut (wid n) (enc s.data.toList), x.length ≤ 2004 := fun x hx => by
    have h1 := (List.sublist_flatten_of_mem hx).length_le
    rw [hfl, hel] at h1; omega
  have hil : (inLines (cut (wid n) (enc s.data.toList))).length ≤ 68719476736 := by
    rw [inLines_length, hfl]; omega
  refine ⟨⟨(enc s.data.toList).toArray⟩, cut (wid n) (enc s.data.toList), htl, by omega, hmem, fun w => encode_any s (by omega) w, fun w => ?_, fun w => ?_, fun w => ?_⟩
  · have h := decode_any ⟨(enc s.data.toList).toArray⟩ (by omega) w
    rw [udata, dec_enc] at h
    simp only [hss] at h
    exact h
  · have h := pieces_any ⟨(enc s.data.toList).toArray⟩ n 4000 (by omega) (by decide) w
    rw [udata, List.take_of_length_le (l := cut (wid n) (enc s.data.toList)) (by omega)] at h
    exact h
  · have h := decode_any ⟨(inLines (cut (wid n) (enc s.data.toList))).toArray⟩ (by rw [ulen rfl]; exact hil) w
    rw [udata, dec_lines (wid_pos n)] at h
    simp only [hss] at h
    exact h

set_option maxRecDepth 100000 in
set_option maxHeartbeats 1600000 in
theorem back (s : ByteArray) (n : Int) (w : World) (hs : s.size ≤ maxLen) :
    Calls Tryd.prog 4 #[.string s, .int .i64 n] w fun e w' => e = .returned (.bool true) ∧ Below w.heap.size w w' := by
  unfold maxLen at hs
  by_cases hl : 1500 < s.size
  · go_enter Tryd.func4, Tryd.ntmps4
    go_wp2
    go_ret
    exact ⟨rfl, Below.refl _ _⟩
  · obtain ⟨t, L, ht, hL, hLx, C1, C2, C3, C4⟩ := answers s (by omega) n
    have C1 := Lib.hid C1
    have C2 := Lib.hid C2
    have C3 := Lib.hid C3
    have C4 := Lib.hid C4
    have HX := Lib.hid hLx
    have htb : t.size ≤ 2004 := by omega
    have HT := Lib.hid ht
    clear hLx ht
    go_enter Tryd.func4, Tryd.ntmps4
    go_wp2_with fail
    refine (C1.out _).mono ?_
    rintro e w1 ⟨rfl, b1⟩
    go_wp2_with fail
    refine (C2.out _).mono ?_
    rintro e w2 ⟨rfl, b2⟩
    go_wp2_with fail
    refine (C3.out _).mono ?_
    rintro e w3 ⟨v3, rfl, hS3, b3⟩
    have c3 := Lib.hid (chain3 (chain3 b1 b2) b3)
    obtain ⟨a3, c, rfl, hat⟩ := strs_at hS3
    have HAT := Lib.hid hat
    clear hat hS3 b1 b2 b3
    go_wp2_with fail
    go_loop [10, 11] (fun uv iv => ∃ (i : Nat) (u : ByteArray), iv = .int .i64 (i : Int) ∧ uv = .string u ∧ i ≤ L.length ∧ u.size ≤ 3000 * i ∧ Hid (u = ⟨(inLines (L.take i)).toArray⟩)) (fun _ iv => L.length - (intOf iv).toNat)
    case atStart => exact ⟨0, _, rfl, rfl, Nat.zero_le _, by decide, Lib.hid rfl⟩
    case round =>
      obtain ⟨i, u, rfl, rfl, hi, hus, hu⟩ := hrel
      by_cases hlt : i < L.length
      · obtain ⟨g, rfl, _, hcell⟩ := HAT.out i hlt
        have hx := HX.out _ (List.getElem_mem hlt)
        have HN := Lib.hid (lines_next hlt hu.out)
        have hxs : (⟨L[i].toArray⟩ : ByteArray).size ≤ 2004 := by rw [ulen rfl]; exact hx
        clear hx hu
        generalize (⟨L[i].toArray⟩ : ByteArray) = x at hcell HN hxs
        have hz1 : (u ++ x).size = u.size + x.size := ByteArray.size_append
        have hz2 : (u ++ x ++ ⟨#[13, 10]⟩).size = u.size + x.size + 2 := by rw [ByteArray.size_append, hz1]; rfl
        have HZ := Lib.hid hz2
        go_wp2_with fail
        go_round
        case rel => exact ⟨i + 1, _, by go_num, rfl, by omega, by rw [HZ.out]; omega, HN⟩
        case measure => simp [intOf]; omega
      · obtain rfl : i = L.length := by omega
        have hue := hu.out
        rw [List.take_length] at hue
        subst hue
        clear hu hus
        go_wp2_with fail
        refine (C4.out _).mono ?_
        rintro e w4 ⟨rfl, b4⟩
        have hq := HT.out
        go_wp2_with fail
        go_ret
        exact ⟨ret_true (by rw [beq_iff_eq]; omega), chain3 c3.out b4⟩
end Go.Proofs.YtijgpelgdepbaaaDoor.Sx
