/-
Which bytes have a mark ahead of them; the program's part that begins at a place, and the place of its end. Conditions: the text has at most 2^40 bytes, and the place is within it.
-/
import Derived.Test.YtbaigaenglhebaaPtMath
import Derived.Test.YtbaigaenglhebaaBytes
import Derived.Laws.DeepStrings4
namespace Go.Proofs.Ytbaigaenglhebaa.Pt
open Go.RowKit Strs

theorem isMarked_any (c : UInt8) (w : World) :
    Calls Try.prog 36 #[.int .u8 (c.toNat : Int)] w fun e w' => e = .returned (.bool (mk c)) ∧ w = w' := by
  by_cases h1 : c = 59
  · subst h1
    go_enter Try.func36, Try.ntmps36
    go_wp2
    go_ret
    exact ⟨rfl, rfl⟩
  · have n1 : ((c.toNat : Int) == 59) = false := by simp; exact fun h => h1 (UInt8.toNat_inj.1 (by show c.toNat = 59; omega))
    have e1 : (c == 59) = false := by simpa using h1
    by_cases h2 : c = 92
    · subst h2
      go_enter Try.func36, Try.ntmps36
      go_wp2
      go_ret
      exact ⟨rfl, rfl⟩
    · have n2 : ((c.toNat : Int) == 92) = false := by simp; exact fun h => h2 (UInt8.toNat_inj.1 (by show c.toNat = 92; omega))
      have e2 : (c == 92) = false := by simpa using h2
      unfold mk
      rw [e1, e2]
      clear e1 e2 h1 h2
      go_enter Try.func36, Try.ntmps36
      go_wp2
      go_ret
      exact ⟨rfl, rfl⟩

theorem drop_at (t : ByteArray) (k : Nat) (h : k < t.size) : t.data.toList.drop k = t[k] :: t.data.toList.drop (k + 1) := by
  rw [List.drop_eq_getElem_cons (by rw [list_size]; exact h)]; rfl
theorem drop_end (t : ByteArray) (k : Nat) (h : ¬ k < t.size) : t.data.toList.drop k = [] := List.drop_eq_nil_of_le (by rw [list_size]; omega)

/-- The answer: a text, a place, whether all is right. -/
def ansP (r : List UInt8 × Nat × Bool) : Value := .tuple #[.string ⟨r.1.toArray⟩, .int .i64 (r.2.1 : Int), .bool r.2.2]

set_option maxRecDepth 100000 in
set_option maxHeartbeats 2000000 in
theorem partAt_any (s : ByteArray) (hs : s.size ≤ 1099511627776) (k0 : Nat) (hk0 : k0 ≤ s.size) (w : World) :
    Calls Try.prog 35 #[.string s, .int .i64 (k0 : Int)] w fun e w' => e = .returned (ansP (pa (s.data.toList.drop k0) [] k0)) ∧ Below w.heap.size w w' := by
  obtain ⟨i0, hi, hz0, hz1, hz2⟩ := info_parts Bytes.infoByte
  obtain ⟨R, hR⟩ : ∃ R, pa (s.data.toList.drop k0) [] k0 = R := ⟨_, rfl⟩
  have H0 := Lib.hid hR
  rw [hR]
  clear hR
  go_enter Try.func35, Try.ntmps35
  go_wp2_with fail
  go_loopw [1, 7] (fun kv bv wr => ∃ (k : Nat) (b : List UInt8), kv = .int .i64 (k : Int) ∧ k ≤ s.size ∧ b.length ≤ k ∧ Hid (pa (s.data.toList.drop k) b k = R) ∧ Bytes.Has wr w.heap.size bv b ∧ Below w.heap.size w wr) (fun kv _ _ => s.size - (intOf kv).toNat)
  case atStart => exact ⟨k0, [], rfl, hk0, Nat.zero_le _, H0, Bytes.Has.nil _ _, Below.refl _ _⟩
  case round =>
    obtain ⟨k, b, rfl, hk, hb, hp, hown, hbel⟩ := hrel
    have hz := hbel.size
    by_cases hlt : k < s.size
    · have hk1 : (k : Int) < (s.size : Int) := by omega
      have hat := drop_at s k hlt
      by_cases h1 : s[k] = 59
      · have HE := Lib.hid (pa_sep h1 (s.data.toList.drop (k + 1)) b k)
        rw [← hat, hp.out] at HE
        have n1 : ((s[k].toNat : Int) == 59) = true := by rw [h1]; rfl
        have n2 : (s[k].toNat : Int) = 59 := by rw [h1]; rfl
        have hc := hown.text
        clear h1 hat
        go_wp2_with fail
        go_ret3
        exact ⟨by rw [HE.out]; rfl, hbel⟩
      · have n1 : ((s[k].toNat : Int) == 59) = false := by simp; exact fun h => h1 (UInt8.toNat_inj.1 (by show s[k].toNat = 59; omega))
        have n1' : ¬ (s[k].toNat : Int) = 59 := by simpa using n1
        by_cases h2 : s[k] = 92
        · have n2 : ((s[k].toNat : Int) == 92) = true := by rw [h2]; rfl
          have n3 : (s[k].toNat : Int) = 92 := by rw [h2]; rfl
          by_cases hl : k + 1 < s.size
          · have hat2 := drop_at s (k + 1) hl
            have CM := Lib.hid (fun W => isMarked_any s[k + 1] W)
            have hi1 : ((k : Int) + 1).toNat = k + 1 := by omega
            have hl1 : ((k : Int) + 1 == (s.size : Int)) = false := by simp; omega
            have hl2 : (k : Int) + 1 < (s.size : Int) := by omega
            cases hm : mk s[k + 1]
            · have HE := Lib.hid (pa_bad h2 hm (s.data.toList.drop (k + 2)) b k)
              rw [← hat2, ← hat, hp.out] at HE
              rw [hm] at CM
              clear h1 h2 hat hat2 hm n3 n1'
              go_wp2_with (go_at_call 36; refine (CM.out _).mono ?_; rintro e w' ⟨rfl, rfl⟩)
              go_ret3
              exact ⟨by rw [HE.out]; rfl, hbel⟩
            · have HE := Lib.hid (pa_mark h2 hm (s.data.toList.drop (k + 2)) b k)
              rw [← hat2, ← hat, hp.out] at HE
              rw [hm] at CM
              clear h1 h2 hat hat2 hm n3 n1'
              go_wp2_with (first
                | (go_at_call 36; refine (CM.out _).mono ?_; rintro e w' ⟨rfl, rfl⟩)
                | (at_builtin; refine wpList_append_own _ rfl _ _ 56 rfl w.heap.size 5 i0 (.int .u8 0) 1 1 Try.underlying56 hi hz0 hz1 hz2 rfl (by decide) _ _ _ rfl (World.ownsRow.alloc hown _) ⟨wr.heap.size, 0, none⟩ 1 1 [.int .u8 (s[k + 1].toNat : Int)] rfl rfl (cell_one_new _ _ _) (by simp [Value.oneCell']) (by unfold maxLen; omega) (by omega) (by simp; omega) ?_; intro v' w1 hown' hgrow _))
              go_roundw
              case rel => exact ⟨k + 2, b ++ [s[k + 1]], by go_num, by omega, by simp; omega, Lib.hid HE.out.symm, Bytes.Has.laid1 hown', Bytes.Has.below hown hbel hz _ hgrow⟩
              case measure => simp [intOf]; omega
          · have hat2 := drop_end s (k + 1) hl
            have HE := Lib.hid (pa_last h2 b k)
            rw [hat2] at hat
            rw [← hat, hp.out] at HE
            have hl1 : ((k : Int) + 1 == (s.size : Int)) = true := by simp; omega
            have hl2 : (k : Int) + 1 = (s.size : Int) := by omega
            clear h1 h2 hat hat2 n3 n1'
            go_wp2_with fail
            go_ret3
            exact ⟨by rw [HE.out]; rfl, hbel⟩
        · have n2 : ((s[k].toNat : Int) == 92) = false := by simp; exact fun h => h2 (UInt8.toNat_inj.1 (by show s[k].toNat = 92; omega))
          have HE := Lib.hid (pa_plain h1 h2 (s.data.toList.drop (k + 1)) b k)
          rw [← hat, hp.out] at HE
          clear h1 h2 hat
          go_wp2_with (at_builtin; refine wpList_append_own _ rfl _ _ 56 rfl w.heap.size 5 i0 (.int .u8 0) 1 1 Try.underlying56 hi hz0 hz1 hz2 rfl (by decide) _ _ _ rfl (World.ownsRow.alloc hown _) ⟨wr.heap.size, 0, none⟩ 1 1 [.int .u8 (s[k].toNat : Int)] rfl rfl (cell_one_new _ _ _) (by simp [Value.oneCell']) (by unfold maxLen; omega) (by omega) (by simp; omega) ?_; intro v' w1 hown' hgrow _)
          go_roundw
          case rel => exact ⟨k + 1, b ++ [s[k]], by go_num, by omega, by simp; omega, Lib.hid HE.out.symm, Bytes.Has.laid1 hown', Bytes.Has.below hown hbel hz _ hgrow⟩
          case measure => simp [intOf]; omega
    · have hat := drop_end s k hlt
      have HE := Lib.hid (pa_nil b k)
      rw [← hat, hp.out] at HE
      have hc := hown.text
      clear hat
      go_wp2_with fail
      go_ret3
      exact ⟨by rw [HE.out]; rfl, hbel⟩
end Go.Proofs.Ytbaigaenglhebaa.Pt
