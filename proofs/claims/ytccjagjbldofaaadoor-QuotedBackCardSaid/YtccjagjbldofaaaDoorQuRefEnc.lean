/-
Bytes as letters: the document's own Encode answers what the plain function 'enc' says; whether a text is plain, the program's answer. Conditions: the text has at most 2^36 bytes.
-/
import Derived.Test.YtccjagjbldofaaaDoorQuEnc
import Derived.Test.YtccjagjbldofaaaDoorFigRefHex
import Derived.Laws.Concat
namespace Go.Proofs.YtccjagjbldofaaaDoor.Qu
open Go.RowKit Fig

theorem step_cat {s b u : ByteArray} {k : Nat} {x : List UInt8} (h : k < s.size) (hu : unit s[k] (decide (k + 1 < s.size)) = x) (hx : u.data.toList = x) (hl : b.data.toList ++ enc (s.data.toList.drop k) = enc s.data.toList) :
    (b ++ u).data.toList ++ enc (s.data.toList.drop (k + 1)) = enc s.data.toList := by
  rw [ByteArray.data_append, Array.toList_append, hx]; exact step_enc h hu hl
theorem end_cat {s b : ByteArray} {k : Nat} (h : ¬ k < s.size) (hl : b.data.toList ++ enc (s.data.toList.drop k) = enc s.data.toList) : b = ⟨(enc s.data.toList).toArray⟩ := by
  have := end_enc h hl
  rw [← this]
theorem retB {a b : ByteArray} (h : a = b) : Ending.returned (.string a) = .returned (.string b) := by rw [h]

set_option maxHeartbeats 800000 in
theorem refEncode_any (s : ByteArray) (w : World) (hs : s.size ≤ 68719476736) :
    Calls Tryd.prog 19 #[.string s] w fun e w' => e = .returned (.string ⟨(enc s.data.toList).toArray⟩) ∧ Below w.heap.size w w' := by
  go_enter Tryd.func19, Tryd.ntmps19
  go_wp2
  go_loopw [3, 4] (fun v i wr => ∃ (k : Nat) (b : ByteArray), k ≤ s.size ∧ i = .int .i64 k ∧ v = .string b ∧ Hid (b.data.toList ++ enc (s.data.toList.drop k) = enc s.data.toList) ∧ b.size ≤ 3 * k ∧ Below w.heap.size w wr) (fun _ i _ => s.size - (intOf i).toNat)
  case atStart => exact ⟨0, ⟨#[]⟩, Nat.zero_le _, rfl, rfl, Lib.hid rfl, Nat.le_refl _, Below.refl _ _⟩
  case round =>
    obtain ⟨k, b, hk, rfl, rfl, hl, hll, hbel⟩ := hrel
    by_cases hlt : k < s.size
    · have C := Lib.hid (fun W => refPlain_any s k hlt W (by omega))
      have hz := hbel.size
      have hk1 : (k : Int) + 1 ≤ (s.size : Int) := by omega
      have hk2 : ((k : Int) + 1).toNat = k + 1 := by omega
      have ho := one_size s k hlt
      have hol := one_at s k hlt
      by_cases hp : plainB s[k] (decide (k + 1 < s.size)) = true
      · have HL := Lib.hid (step_cat hlt (unit_plain hp) hol hl.out)
        rw [hp] at C
        clear hp hol
        go_wp2_with (go_at_call 26; refine (C.out _).mono ?_; rintro e w' ⟨rfl, rfl⟩)
        go_roundw
        case rel => exact ⟨k + 1, _, by omega, by go_num, rfl, HL, by rw [ByteArray.size_append]; omega, hbel⟩
        case measure => simp [intOf]; omega
      · have hx : ((⟨#[61]⟩ : ByteArray) ++ ⟨(hexOf [s[k]]).toArray⟩).data.toList = [61] ++ hexOf [s[k]] := by simp [ByteArray.data_append]
        have HL := Lib.hid (step_cat hlt (unit_not hp) hx hl.out)
        rw [← ByteArray.append_assoc] at HL
        have hp' : plainB s[k] (decide (k + 1 < s.size)) = false := by simpa using hp
        rw [hp'] at C
        have CH := Lib.hid (fun W => refHex_any (s.extract k (k + 1)) W (by rw [ho]; omega))
        rw [hol] at CH
        have hlen := ulen (hexOf_one s[k])
        have hone : (⟨#[61]⟩ : ByteArray).size = 1 := rfl
        generalize (⟨(hexOf [s[k]]).toArray⟩ : ByteArray) = u at CH HL hlen
        clear hp hp' hol hx
        go_wp2_with (go_at_call 26; refine (C.out _).mono ?_; rintro e w' ⟨rfl, rfl⟩)
        refine (CH.out _).mono ?_
        rintro e w2 ⟨rfl, b2⟩
        go_wp2_with fail
        go_roundw
        case rel => exact ⟨k + 1, _, by omega, by go_num, rfl, HL, by rw [ByteArray.size_append, ByteArray.size_append]; omega, hbel.trans (b2.mono hz)⟩
        case measure => simp [intOf]; omega
    · have HE := Lib.hid (end_cat hlt hl.out)
      go_wp2
      go_ret
      exact ⟨retB HE.out, hbel⟩

set_option maxHeartbeats 800000 in
theorem plain_any (s : ByteArray) (w : World) (hs : s.size ≤ 68719476736) :
    Calls Tryd.prog 20 #[.string s] w fun e w' => e = .returned (.bool (plainAll s.data.toList)) ∧ w = w' := by
  go_enter Tryd.func20, Tryd.ntmps20
  go_wp2
  go_loop [6] (fun i => ∃ (k : Nat), k ≤ s.size ∧ i = .int .i64 k ∧ Hid (plainAll (s.data.toList.drop k) = plainAll s.data.toList)) (fun i => s.size - (intOf i).toNat)
  case atStart => exact ⟨0, Nat.zero_le _, rfl, Lib.hid (by simp)⟩
  case round =>
    obtain ⟨k, hk, rfl, hl⟩ := hrel
    by_cases hlt : k < s.size
    · have C := Lib.hid (fun W => plainAt_any s k hlt W (by omega))
      have hst := plainAll_at s k hlt
      rw [hl.out] at hst
      cases hp : plainB s[k] (decide (k + 1 < s.size))
      · rw [hp] at C hst
        have HL := Lib.hid hst
        clear hst hp
        go_wp2_with (go_at_call 21; refine (C.out _).mono ?_; rintro e w' ⟨rfl, rfl⟩)
        go_ret
        exact ⟨ret_bool (by rw [HL.out]; rfl), rfl⟩
      · rw [hp] at C hst
        have HL := Lib.hid (show plainAll (s.data.toList.drop (k + 1)) = plainAll s.data.toList by rw [hst]; rfl)
        clear hst hp
        go_wp2_with (go_at_call 21; refine (C.out _).mono ?_; rintro e w' ⟨rfl, rfl⟩)
        go_round
        case rel => exact ⟨k + 1, by omega, by go_num, HL⟩
        case measure => simp [intOf]; omega
    · have HE := Lib.hid (show plainAll s.data.toList = true by rw [← hl.out, drop_end s hlt]; rfl)
      go_wp2
      go_ret
      exact ⟨ret_bool HE.out.symm, rfl⟩
end Go.Proofs.YtccjagjbldofaaaDoor.Qu
