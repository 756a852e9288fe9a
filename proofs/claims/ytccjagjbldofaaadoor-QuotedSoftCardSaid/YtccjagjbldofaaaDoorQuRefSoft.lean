/-
Letters in lines: the document's own Soft answers what the plain function 'softA' says. Conditions: the text has at most 2^32 bytes; the width is an int.
-/
import Derived.Test.YtccjagjbldofaaaDoorQuRefDec
import Derived.Test.YtccjagjbldofaaaDoorQuRefEnc
import Derived.Test.YtccjagjbldofaaaDoorQuSoftLoop
namespace Go.Proofs.YtccjagjbldofaaaDoor.Qu
open Go.RowKit Fig

theorem at_some {s : ByteArray} {j : Nat} (h : j < s.size) : (s.data.toList[j]? = some 61) = ((s[j].toNat : Int) = 61) := by
  have e : s.data.toList[j]? = some s[j] := by rw [List.getElem?_eq_getElem (by rw [list_size]; exact h)]; rfl
  rw [e]
  apply propext
  constructor
  · intro h; rw [Option.some.inj h]; rfl
  · intro h; rw [UInt8.toNat_inj.1 (by simp; omega : s[j].toNat = (61 : UInt8).toNat)]
theorem ref_cut {w n : Nat} {t o : ByteArray} {r : List UInt8} (hw : 4 ≤ w) (h : w < t.size) (hn : lineLen (w - 1) t.data.toList = n) (hl : o.data.toList ++ soft w t.data.toList = r) :
    (o ++ t.extract 0 n ++ ⟨#[61, 13, 10]⟩).data.toList ++ soft w (t.extract n t.size).data.toList = r := by
  have e := soft_step (l := t.data.toList) hw (by rw [list_size]; exact h)
  rw [hn] at e
  rw [ext_from, ← hl, e, ext_to]
  simp [ByteArray.data_append]

theorem retB2 {a b : ByteArray} (h : a = b) : Ending.returned (.tuple #[.string a, .int .i64 0]) = Ending.returned (.tuple #[.string b, .int .i64 0]) := by rw [h]
/-- What the counting of a line's bytes has behind k - 1 rounds. -/
def Mid (p : Nat) (l : List UInt8) (k n : Nat) : Prop := (k = 1 ∧ n = p) ∨ (k = 2 ∧ n = if l[p - 1]? = some 61 then p - 1 else p) ∨ (k = 3 ∧ n = lineLen p l)

set_option maxRecDepth 100000 in
set_option maxHeartbeats 1600000 in
theorem refSoft_in (s : ByteArray) (m : Nat) (hm4 : 4 ≤ m) (hm : m ≤ 200) (he : isEnc s.data.toList = true) (hs : s.size ≤ 4294967296) (w : World) :
    Calls Tryd.prog 9 #[.string s, .int .i64 (m : Int)] w fun e w' => e = .returned (.tuple #[.string ⟨(soft m s.data.toList).toArray⟩, .int .i64 0]) ∧ Below w.heap.size w w' := by
  have C1 := Lib.hid (fun W => refDecode_any s W (by omega))
  have C2 := Lib.hid (fun W => refEncode_any ⟨(dec s.data.toList).1.toArray⟩ W (by
    have := dec_length _ s.data.toList (Nat.le_refl _)
    rw [list_size] at this
    rw [ulen rfl]; omega))
  have hq := beq_enc (dec s.data.toList).1 s
  unfold isEnc at he
  simp only [Bool.and_eq_true, beq_iff_eq] at he
  rw [he.1] at C1
  rw [beq_iff_eq.2 he.2] at hq
  simp only [] at C2
  generalize (⟨(enc (dec s.data.toList).1).toArray⟩ : ByteArray) = v at C2 hq
  generalize (dec s.data.toList).1.toArray = x at C1 C2
  clear he
  obtain ⟨p, rfl⟩ : ∃ p, m = p + 1 := ⟨m - 1, by omega⟩
  go_enter Tryd.func9, Tryd.ntmps9
  go_wp2_with fail
  refine (C1.out _).mono ?_
  rintro e w1 ⟨rfl, b1⟩
  go_wp2_with fail
  refine (C2.out _).mono ?_
  rintro e w2 ⟨rfl, b2⟩
  go_wp2_with fail
  have hbel := b1.trans (b2.mono b1.size)
  go_loop [0, 8] (fun tv ov => ∃ (t o : ByteArray), tv = .string t ∧ ov = .string o ∧ Hid (o.data.toList ++ soft (p + 1) t.data.toList = soft (p + 1) s.data.toList) ∧ o.size + 4 * t.size ≤ 4 * s.size ∧ t.size ≤ s.size) (fun tv _ => match tv with | .string t => t.size | _ => 0)
  case atStart => exact ⟨s, ⟨#[]⟩, rfl, rfl, Lib.hid rfl, by rw [show (⟨#[]⟩ : ByteArray).size = 0 from rfl]; omega, Nat.le_refl _⟩
  case round =>
    obtain ⟨t, o, rfl, rfl, hl, hll, hts⟩ := hrel
    by_cases hlt : p + 1 < t.size
    · have a1 := at_some (s := t) (j := p - 1) (by omega)
      have a2 := at_some (s := t) (j := p - 2) (by omega)
      go_wp2_with fail
      go_loop [9, 10] (fun nv kv => ∃ (kk n : Nat), kv = .int .i64 kk ∧ nv = .int .i64 n ∧ Mid p t.data.toList kk n) (fun _ kv => 3 - (intOf kv).toNat)
      case atStart => exact ⟨1, p, rfl, by go_num, .inl ⟨rfl, rfl⟩⟩
      case round =>
        obtain ⟨kk, n, rfl, rfl, hmid⟩ := hrel
        rcases hmid with ⟨rfl, rfl⟩ | ⟨rfl, hn⟩ | ⟨rfl, hn⟩
        · by_cases h61 : (t[n - 1].toNat : Int) = 61
          · have hb : ((t[n - 1].toNat : Int) == 61) = true := by simpa using h61
            have HM := Lib.hid (show Mid n t.data.toList 2 (n - 1) from .inr (.inl ⟨rfl, by rw [if_pos (a1.mpr h61)]⟩))
            clear a1 a2 h61
            go_wp2_with fail
            go_round
            case rel => exact ⟨2, n - 1, rfl, by go_num, HM.out⟩
            case measure => simp [intOf]
          · have hb : ((t[n - 1].toNat : Int) == 61) = false := by simpa using h61
            have HM := Lib.hid (show Mid n t.data.toList 2 n from .inr (.inl ⟨rfl, by rw [if_neg (fun h => h61 (a1.mp h))]⟩))
            clear a1 a2 h61
            go_wp2_with fail
            go_round
            case rel => exact ⟨2, n, rfl, rfl, HM.out⟩
            case measure => simp [intOf]
        · by_cases h61 : (t[p - 2].toNat : Int) = 61
          · have hb : ((t[p - 2].toNat : Int) == 61) = true := by simpa using h61
            have HM := Lib.hid (show Mid p t.data.toList 3 (p - 2) from .inr (.inr ⟨rfl, by unfold lineLen; rw [if_pos (a2.mpr h61)]⟩))
            clear a1 a2 h61 hn
            go_wp2_with fail
            go_round
            case rel => exact ⟨3, p - 2, rfl, by go_num, HM.out⟩
            case measure => simp [intOf]
          · have hb : ((t[p - 2].toNat : Int) == 61) = false := by simpa using h61
            have HM := Lib.hid (show Mid p t.data.toList 3 n from .inr (.inr ⟨rfl, by unfold lineLen; rw [if_neg (fun h => h61 (a2.mp h)), hn]⟩))
            clear a1 a2 h61 hn
            go_wp2_with fail
            go_round
            case rel => exact ⟨3, n, rfl, rfl, HM.out⟩
            case measure => simp [intOf]
        · have hb := lineLen_bd t.data.toList (m := p) (by omega)
          have HL := Lib.hid (ref_cut (n := n) hm4 hlt hn.symm hl.out)
          rw [← hn] at hb
          have hnz : (n : Int) ≤ (t.size : Int) := by omega
          have hfs : (t.extract n t.size).size = t.size - n := by rw [ByteArray.size_extract]; omega
          have hft : (t.extract 0 n).size = n := by rw [ByteArray.size_extract]; omega
          clear hn a1 a2
          go_wp2_with fail
          go_round
          case rel => exact ⟨_, _, rfl, rfl, HL, by rw [hfs, ByteArray.size_append, ByteArray.size_append, hft, show (⟨#[61, 13, 10]⟩ : ByteArray).size = 3 from rfl]; omega, by rw [hfs]; omega⟩
          case measure => show (t.extract n t.size).size < t.size; rw [hfs]; omega
    · have HE := Lib.hid (show o ++ t = ⟨(soft (p + 1) s.data.toList).toArray⟩ by
        rw [← hl.out, soft_end (by rw [list_size]; exact hlt)]
        apply ByteArray.ext
        simp [ByteArray.data_append])
      go_wp2_with fail
      go_ret2
      exact ⟨retB2 HE.out, hbel⟩

set_option maxHeartbeats 800000 in
theorem refSoft_any (s : ByteArray) (n : Int) (hs : s.size ≤ 4294967296) (w : World) :
    Calls Tryd.prog 9 #[.string s, .int .i64 n] w fun e w' => e = .returned (.tuple #[.string ⟨(softA s.data.toList n).1.toArray⟩, .int .i64 ((softA s.data.toList n).2 : Int)]) ∧ Below w.heap.size w w' := by
  by_cases h4 : n < 4
  · rw [softA_low h4]
    go_enter Tryd.func9, Tryd.ntmps9
    go_wp2_with fail
    go_ret2
    exact ⟨rfl, Below.refl _ _⟩
  · by_cases h200 : 200 < n
    · rw [softA_high h200]
      go_enter Tryd.func9, Tryd.ntmps9
      go_wp2_with fail
      go_ret2
      exact ⟨rfl, Below.refl _ _⟩
    · cases he : isEnc s.data.toList
      · rw [softA_no (by omega) (by omega) he]
        have C1 := Lib.hid (fun W => refDecode_any s W (by omega))
        have C2 := Lib.hid (fun W => refEncode_any ⟨(dec s.data.toList).1.toArray⟩ W (by
          have := dec_length _ s.data.toList (Nat.le_refl _)
          rw [list_size] at this
          rw [ulen rfl]; omega))
        have hq := beq_enc (dec s.data.toList).1 s
        unfold isEnc at he
        simp only [] at C2
        generalize enc (dec s.data.toList).1 = u at C2 hq he
        generalize (dec s.data.toList).1.toArray = x at C1 C2
        generalize (dec s.data.toList).2 = q at C1 he
        rw [← hq] at he
        generalize (⟨u.toArray⟩ : ByteArray) = v at C2 he
        clear hq
        by_cases h0 : q = 0
        · subst h0
          have hq : (v.toList == s.toList) = false := by simpa using he
          clear he
          go_enter Tryd.func9, Tryd.ntmps9
          go_wp2_with fail
          refine (C1.out _).mono ?_
          rintro e w1 ⟨rfl, b1⟩
          go_wp2_with fail
          refine (C2.out _).mono ?_
          rintro e w2 ⟨rfl, b2⟩
          go_wp2_with fail
          go_ret2
          exact ⟨rfl, b1.trans (b2.mono b1.size)⟩
        · have hqb : ((q : Int) != 0) = true := by simp; omega
          have hqn : ¬ (q : Int) = 0 := by omega
          clear he h0
          go_enter Tryd.func9, Tryd.ntmps9
          go_wp2_with fail
          refine (C1.out _).mono ?_
          rintro e w1 ⟨rfl, b1⟩
          go_wp2_with fail
          go_ret2
          exact ⟨rfl, b1⟩
      · rw [softA_yes (by omega) (by omega) he]
        obtain ⟨m, rfl⟩ := Int.eq_ofNat_of_zero_le (by omega : 0 ≤ n)
        exact refSoft_in s m (by omega) (by omega) he hs w
end Go.Proofs.YtccjagjbldofaaaDoor.Qu
