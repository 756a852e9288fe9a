/-
Texts joined in one file, each with its own conditions: Bytes as letters: the program's Encode answers what the plain function 'enc' says. Conditions: the text has at most 2^36 bytes. · Bytes as letters: the document's own Encode answers what the plain function 'enc' says; whether a text is plain, the program's answer. Conditions: the text has at most 2^36 bytes.
-/
import Derived.Test.YtpdodknldhbbhaaGreatDoorJ08
import Derived.Test.YtpdodknldhbbhaaGreatDoorJ11
import Derived.Lib.AppendStr
import Derived.Laws.DeepStrings4
import Derived.Laws.Concat
namespace Go.Proofs.YtpdodknldhbbhaaGreatDoor.Qu
open Go.RowKit Fig

theorem strCells_list (l : List UInt8) : Lib.strCells ⟨l.toArray⟩ = Bytes.cells l := by
  simp [Lib.strCells, Bytes.cells]
theorem one_size (s : ByteArray) (k : Nat) (h : k < s.size) : (s.extract k (k + 1)).size = 1 := by
  rw [ByteArray.size_extract]; omega
theorem step_enc {s : ByteArray} {k : Nat} {l u : List UInt8} (h : k < s.size) (hu : unit s[k] (decide (k + 1 < s.size)) = u) (hl : l ++ enc (s.data.toList.drop k) = enc s.data.toList) :
    (l ++ u) ++ enc (s.data.toList.drop (k + 1)) = enc s.data.toList := by
  rw [List.append_assoc, ← hu, ← enc_at s k h]; exact hl
theorem end_enc {s : ByteArray} {k : Nat} {l : List UInt8} (h : ¬ k < s.size) (hl : l ++ enc (s.data.toList.drop k) = enc s.data.toList) : l = enc s.data.toList := by
  rw [drop_end s h] at hl; simpa [enc] using hl
theorem ulen {u : List UInt8} {n : Nat} (h : u.length = n) : (⟨u.toArray⟩ : ByteArray).size = n := by
  show u.toArray.size = n
  simpa using h
theorem laidS {w : World} {base : Nat} {v : Value} {l a u : List UInt8} (h : w.ownsRow base 5 1 v ((l ++ a).length + (⟨u.toArray⟩ : ByteArray).size) (Bytes.cells (l ++ a) ++ Lib.strCells ⟨u.toArray⟩)) : Bytes.Has w base v (l ++ (a ++ u)) := by
  rw [strCells_list, ulen rfl] at h
  rw [← List.append_assoc]
  exact Bytes.Has.laid rfl h
theorem retStr {a b : List UInt8} (h : a = b) : Ending.returned (.string ⟨a.toArray⟩) = .returned (.string ⟨b.toArray⟩) := by rw [h]
theorem hexOf_one (c : UInt8) : (hexOf [c]).length = 2 := by simp [hexOf]

set_option maxHeartbeats 800000 in
theorem encode_any (s : ByteArray) (w : World) (hs : s.size ≤ 68719476736) :
    Calls Tryz.prog 61 #[.string s] w fun e w' => e = .returned (.string ⟨(enc s.data.toList).toArray⟩) ∧ Below w.heap.size w w' := by
  obtain ⟨i0, hi, hz0, hz1, hz2⟩ := info_parts Bytes.infoByte
  go_enter Tryz.func61, Tryz.ntmps61
  go_wp2
  go_loopw [3, 7] (fun v i wr => ∃ (k : Nat) (l : List UInt8), k ≤ s.size ∧ i = .int .i64 k ∧ Hid (l ++ enc (s.data.toList.drop k) = enc s.data.toList) ∧ l.length ≤ 3 * k ∧ Bytes.Has wr w.heap.size v l ∧ Below w.heap.size w wr) (fun _ i _ => s.size - (intOf i).toNat)
  case atStart => exact ⟨0, [], Nat.zero_le _, rfl, Lib.hid (by simp), by simp, Bytes.Has.nil _ _, Below.refl _ _⟩
  case round =>
    obtain ⟨k, l, hk, rfl, hl, hll, hown, hbel⟩ := hrel
    by_cases hlt : k < s.size
    · have hb : s[k].toNat < 256 := s[k].toNat_lt
      have C := Lib.hid (fun W => plainAt_any s k hlt W (by omega))
      have hz := hbel.size
      have hown0 := Lib.hid hown
      have hA : l.length + 1 ≤ maxLen := by unfold maxLen; omega
      have hB : (l.length + 1) * 1 ≤ 140737488355328 := by omega
      by_cases hp : plainB s[k] (decide (k + 1 < s.size)) = true
      · have HL := Lib.hid (step_enc hlt (unit_plain hp) hl.out)
        rw [hp] at C
        clear hp
        go_wp2_with (first | (go_at_call 108; refine (C.out _).mono ?_; rintro e w' ⟨rfl, rfl⟩) | (at_builtin; refine wpList_append_own _ rfl _ _ 60 rfl w.heap.size 5 i0 (.int .u8 0) 1 1 Tryz.underlying60 hi hz0 hz1 hz2 rfl Bytes.one_pos _ _ _ rfl (hown.alloc _) ⟨wr.heap.size, 0, none⟩ 1 1 [.int .u8 s[k].toNat] rfl rfl (World.news_of_block (cs := #[.int .u8 s[k].toNat]) (t := 5) (fr := (0, 0)) (heap_alloc_new wr _)) (by simp [Value.oneCell']) hA hB (Bytes.base_ok' hz _) ?_; intro v' w1 hown' hgrow _))
        go_roundw
        case rel => exact ⟨k + 1, _, by omega, by go_num, HL, by simp; omega, Bytes.Has.laid1 hown', Bytes.Has.below hown0.out hbel hz _ hgrow⟩
        case measure => simp [intOf]; omega
      · have HL := Lib.hid (step_enc hlt (unit_not hp) hl.out)
        have hp' : plainB s[k] (decide (k + 1 < s.size)) = false := by simpa using hp
        rw [hp'] at C
        have CH := Lib.hid (fun W => hex_any (s.extract k (k + 1)) W (by rw [one_size s k hlt]; omega))
        rw [one_at s k hlt] at CH
        have hlen := hexOf_one s[k]
        generalize hexOf [s[k]] = u at CH HL hlen
        have hk1 : (k : Int) + 1 ≤ (s.size : Int) := by omega
        have hk2 : ((k : Int) + 1).toNat = k + 1 := by omega
        clear hp hp'
        go_wp2_with (first | (go_at_call 108; refine (C.out _).mono ?_; rintro e w' ⟨rfl, rfl⟩) | (at_builtin; refine wpList_append_own _ rfl _ _ 60 rfl w.heap.size 5 i0 (.int .u8 0) 1 1 Tryz.underlying60 hi hz0 hz1 hz2 rfl Bytes.one_pos _ _ _ rfl (hown.alloc _) ⟨wr.heap.size, 0, none⟩ 1 1 [.int .u8 61] rfl rfl (World.news_of_block (cs := #[.int .u8 61]) (t := 5) (fr := (0, 0)) (heap_alloc_new wr _)) (by simp [Value.oneCell']) hA hB (Bytes.base_ok' hz _) ?_; intro v' w1 hown' hgrow _) | fail)
        have hown1 : Bytes.Has w1 w.heap.size v' (l ++ [61]) := Bytes.Has.laid1 (c := 61) hown'
        have hbel1 := Bytes.Has.below hown0.out hbel hz _ hgrow
        refine (CH.out _).mono ?_
        rintro e w2 ⟨rfl, b2⟩
        have hown2 := Bytes.row_below hown1 b2
        have hbel2 : Below w.heap.size w w2 := hbel1.trans (b2.mono hbel1.size)
        have hz2' := hbel2.size
        go_wp2_with (at_builtin; refine Lib.wpList_append_own_string _ rfl _ _ 60 9 rfl w.heap.size 5 i0 Tryz.underlying60 Tryz.underlying9 hi hz0 hz1 hz2 _ _ _ rfl hown2 _ rfl (by rw [ulen hlen]; unfold maxLen; simp; omega) (by rw [ulen hlen]; simp; omega) hz2' ?_; intro v'' w3 hown3 hgrow3 _)
        go_roundw
        case rel => exact ⟨k + 1, _, by omega, by go_num, HL, by simp; omega, laidS hown3, hbel2.grown hgrow3 hz2' (fun k e => (World.ownsRow.lt hown2 k e).1)⟩
        case measure => simp [intOf]; omega
    · have hc := hown.text
      have HE := Lib.hid (end_enc hlt hl.out)
      go_wp2
      go_ret
      exact ⟨retStr HE.out, hbel⟩
end Go.Proofs.YtpdodknldhbbhaaGreatDoor.Qu

namespace Go.Proofs.YtpdodknldhbbhaaGreatDoor.Qu
set_option maxRecDepth 100000
open Go.RowKit Fig

end Go.Proofs.YtpdodknldhbbhaaGreatDoor.Qu
