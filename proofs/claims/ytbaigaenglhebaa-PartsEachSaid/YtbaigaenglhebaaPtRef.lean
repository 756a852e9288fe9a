/-
The document's own Some and Split answer a value's parts, and the place of what is wrong. Conditions: the text has at most 2^40 bytes.
-/
import Derived.Test.YtbaigaenglhebaaPtSplit
namespace Go.Proofs.Ytbaigaenglhebaa.Pt
open Go.RowKit Strs Sq

/-- Rows of unlike elements lie apart. -/
theorem rows_apart {w : World} {b b' n n' s s' : Nat} {e e' : TypeId} {v v' : Value} {xs xs' : List Value} (h : w.ownsRow b e s v n xs) (h' : w.ownsRow b' e' s' v' n' xs') (he : e ≠ e') : ∀ g, v'.ownBlock = some g → some g ≠ v.ownBlock := by
  intro g hg hv
  rcases h.2 with ⟨rfl, _⟩ | ⟨g1, cap, cur, rfl, _, hh, _⟩
  · simp [Value.ownBlock] at hv
  · rcases h'.2 with ⟨rfl, _⟩ | ⟨g2, cap', cur', rfl, _, hh', _⟩
    · simp [Value.ownBlock] at hg
    · simp only [Value.ownBlock, Option.some.injEq] at hg hv
      subst hg; subst hv
      rw [hh] at hh'
      simp at hh'
      exact he hh'.2
theorem row_grown {w w1 : World} {b b' n n' s s' : Nat} {e e' : TypeId} {v v' : Value} {xs xs' : List Value} {o : Obj} (h : w.ownsRow b e s v n xs) (h' : w.ownsRow b' e' s' v' n' xs') (he : e ≠ e') (hg : (w.alloc o).grownBy w1 v.ownBlock) : w1.ownsRow b' e' s' v' n' xs' :=
  (((Stays.refl (fun k => v'.ownBlock = some k) w).alloc o (fun k hk => (own_lt h' k hk).2)).grown hg (fun k hk => ⟨by have := (own_lt h' k hk).2; simp; omega, rows_apart h h' he k hk⟩)).row h' (fun g e => e)

/-- The place as an answer: minus one where nothing is wrong. -/
def plc : Option Nat → Int
  | none => -1
  | some k => (k : Int)
/-- What has been gathered, and what is left. -/
def Left (s : ByteArray) (R : List (List UInt8) × Option Nat) (k : Nat) (l : List (List UInt8)) (b : List UInt8) : Prop := (l ++ (sm (s.data.toList.drop k) b k).1, (sm (s.data.toList.drop k) b k).2) = R
section left
variable {s : ByteArray} {R : List (List UInt8) × Option Nat} {k : Nat} {l : List (List UInt8)} {b : List UInt8}
theorem Left.done (h : Left s R k l b) (hk : ¬ k < s.size) : R = (l ++ [b], none) := by unfold Left at h; rw [drop_end s k hk, sm_nil] at h; exact h.symm
theorem Left.sep (h : Left s R k l b) (hk : k < s.size) (hc : s[k] = 59) : Left s R (k + 1) (l ++ [b]) [] := by
  unfold Left at h ⊢; rw [drop_at s k hk, sm_sep hc] at h; rw [← h, List.append_assoc]; rfl
theorem Left.plain (h : Left s R k l b) (hk : k < s.size) (h1 : ¬ s[k] = 59) (h2 : ¬ s[k] = 92) : Left s R (k + 1) l (b ++ [s[k]]) := by
  unfold Left at h ⊢; rw [drop_at s k hk, sm_plain h1 h2] at h; exact h
theorem Left.last (h : Left s R k l b) (hk : k < s.size) (hc : s[k] = 92) (hk2 : ¬ k + 1 < s.size) : R = (l, some k) := by
  unfold Left at h; rw [drop_at s k hk, drop_end s (k + 1) hk2, sm_last hc, List.append_nil] at h; exact h.symm
theorem Left.bad (h : Left s R k l b) (hk : k < s.size) (hc : s[k] = 92) (hk2 : k + 1 < s.size) (hm : mk s[k + 1] = false) : R = (l, some k) := by
  unfold Left at h; rw [drop_at s k hk, drop_at s (k + 1) hk2, sm_bad hc hm, List.append_nil] at h; exact h.symm
theorem Left.mark (h : Left s R k l b) (hk : k < s.size) (hc : s[k] = 92) (hk2 : k + 1 < s.size) (hm : mk s[k + 1] = true) : Left s R (k + 2) l (b ++ [s[k + 1]]) := by
  unfold Left at h ⊢; rw [drop_at s k hk, drop_at s (k + 1) hk2, sm_mark hc hm] at h; exact h
end left

/-- Parts and a place. -/
def SomeAns (w : World) (r : List (List UInt8) × Option Nat) (e : Ending) (W' : World) : Prop := ∃ v, e = .returned (.tuple #[v, .int .i64 (plc r.2)]) ∧ Strs W' w.heap.size v r.1 ∧ Below w.heap.size w W'

set_option maxRecDepth 100000 in
set_option maxHeartbeats 2000000 in
theorem refSome_any (s : ByteArray) (hs : s.size ≤ 1099511627776) (w : World) :
    Calls Try.prog 21 #[.string s] w (SomeAns w (parts s.data.toList)) := by
  obtain ⟨i0, hi, hz0, hz1, hz2⟩ := info_parts infoStr
  obtain ⟨i1, hi', hz0', hz1', hz2'⟩ := info_parts Bytes.infoByte
  obtain ⟨R, hR⟩ : ∃ R, parts s.data.toList = R := ⟨_, rfl⟩
  have H0 := Lib.hid (show Left s R 0 [] [] by unfold Left; rw [← hR, List.drop_zero]; rfl)
  rw [hR]
  clear hR
  go_enter Try.func21, Try.ntmps21
  go_wp2_with fail
  go_loopw [4, 5, 6] (fun lv bv kv wr => ∃ (k : Nat) (l : List (List UInt8)) (b : List UInt8), kv = .int .i64 (k : Int) ∧ k ≤ s.size ∧ (l.length ≤ k ∧ b.length ≤ k) ∧ Hid (Left s R k l b) ∧ wr.ownsRow w.heap.size 9 1 lv l.length (scells l) ∧ wr.ownsRow w.heap.size 5 1 bv b.length (Bytes.cells b) ∧ Below w.heap.size w wr) (fun _ _ kv _ => s.size - (intOf kv).toNat)
  case atStart => exact ⟨0, [], [], rfl, Nat.zero_le _, ⟨Nat.le_refl _, Nat.le_refl _⟩, H0, World.ownsRow_nil _ _ _ _, World.ownsRow_nil _ _ _ _, Below.refl _ _⟩
  case round =>
    obtain ⟨k, l, b, rfl, hk, ⟨hll, hbl⟩, hL, hrowL, hrowB, hbel⟩ := hrel
    have hz := hbel.size
    have hhas : Bytes.Has wr w.heap.size u5 b := hrowB
    have hcv := hhas.text
    by_cases hlt : k < s.size
    · have hk1 : (k : Int) < (s.size : Int) := by omega
      by_cases h1 : s[k] = 59
      · have HL := Lib.hid (hL.out.sep hlt h1)
        have n1 : ((s[k].toNat : Int) == 59) = true := by rw [h1]; rfl
        have hA : l.length + 1 ≤ maxLen := by unfold maxLen; omega
        have hA2 : (l.length + 1) * 16 ≤ 140737488355328 := by omega
        clear h1
        go_wp2_with (at_builtin; refine wpList_append_own _ rfl _ _ 33 rfl w.heap.size 9 i0 (.string .empty) 1 16 Try.underlying33 hi hz0 hz1 hz2 rfl (by decide) _ _ _ rfl (World.ownsRow.alloc hrowL _) ⟨wr.heap.size, 0, none⟩ 1 1 [.string ⟨b.toArray⟩] rfl rfl (cell_one_new _ _ _) (by simp [Value.oneCell']) hA hA2 (by simp; omega) ?_; intro v' w1 hown' hgrow _)
        go_roundw
        case rel => exact ⟨k + 1, l ++ [b], [], by go_num, by omega, ⟨by simp; omega, by simp⟩, HL, Strs.snoc rfl hown', World.ownsRow_nil _ _ _ _, Strs.below hrowL hbel hz _ hgrow⟩
        case measure => simp [intOf]; omega
      · have n1 : ((s[k].toNat : Int) == 59) = false := by simp; exact fun h => h1 (UInt8.toNat_inj.1 (by show s[k].toNat = 59; omega))
        have hA : b.length + 1 ≤ maxLen := by unfold maxLen; omega
        have hA2 : (b.length + 1) * 1 ≤ 140737488355328 := by omega
        by_cases h2 : s[k] = 92
        · have n2 : ((s[k].toNat : Int) == 92) = true := by rw [h2]; rfl
          have n2' : (s[k].toNat : Int) = 92 := by rw [h2]; rfl
          by_cases hl : k + 1 < s.size
          · have hl2 : (k : Int) + 1 < (s.size : Int) := by omega
            have hi1 : ((k : Int) + 1).toNat = k + 1 := by omega
            by_cases m1 : s[k + 1] = 59
            · have HL := Lib.hid (hL.out.mark hlt h2 hl (by rw [m1]; rfl))
              have q1 : ((s[k + 1].toNat : Int) == 59) = true := by rw [m1]; rfl
              clear h1 h2 m1 n2'
              go_wp2_with (at_builtin; refine wpList_append_own _ rfl _ _ 56 rfl w.heap.size 5 i1 (.int .u8 0) 1 1 Try.underlying56 hi' hz0' hz1' hz2' rfl (by decide) _ _ _ rfl (World.ownsRow.alloc hrowB _) ⟨wr.heap.size, 0, none⟩ 1 1 [.int .u8 (s[k + 1].toNat : Int)] rfl rfl (cell_one_new _ _ _) (by simp [Value.oneCell']) hA hA2 (by simp; omega) ?_; intro v' w1 hown' hgrow _)
              go_roundw
              case rel => exact ⟨k + 2, l, b ++ [s[k + 1]], by go_num, by omega, ⟨by omega, by simp; omega⟩, HL, row_grown hrowB hrowL (by decide) hgrow, Bytes.Has.laid1 hown', Bytes.Has.below hhas hbel hz _ hgrow⟩
              case measure => simp [intOf]; omega
            · have q1 : ((s[k + 1].toNat : Int) == 59) = false := by simp; exact fun h => m1 (UInt8.toNat_inj.1 (by show s[k + 1].toNat = 59; omega))
              by_cases m2 : s[k + 1] = 92
              · have HL := Lib.hid (hL.out.mark hlt h2 hl (by rw [m2]; rfl))
                have q2 : ((s[k + 1].toNat : Int) == 92) = true := by rw [m2]; rfl
                clear h1 h2 m1 m2 n2'
                go_wp2_with (at_builtin; refine wpList_append_own _ rfl _ _ 56 rfl w.heap.size 5 i1 (.int .u8 0) 1 1 Try.underlying56 hi' hz0' hz1' hz2' rfl (by decide) _ _ _ rfl (World.ownsRow.alloc hrowB _) ⟨wr.heap.size, 0, none⟩ 1 1 [.int .u8 (s[k + 1].toNat : Int)] rfl rfl (cell_one_new _ _ _) (by simp [Value.oneCell']) hA hA2 (by simp; omega) ?_; intro v' w1 hown' hgrow _)
                go_roundw
                case rel => exact ⟨k + 2, l, b ++ [s[k + 1]], by go_num, by omega, ⟨by omega, by simp; omega⟩, HL, row_grown hrowB hrowL (by decide) hgrow, Bytes.Has.laid1 hown', Bytes.Has.below hhas hbel hz _ hgrow⟩
                case measure => simp [intOf]; omega
              · have q2 : ((s[k + 1].toNat : Int) == 92) = false := by simp; exact fun h => m2 (UInt8.toNat_inj.1 (by show s[k + 1].toNat = 92; omega))
                have HE := Lib.hid (hL.out.bad hlt h2 hl (by simp [mk, m1, m2]))
                clear h1 h2 m1 m2 n2'
                go_wp2_with fail
                go_ret2
                exact ⟨_, by rw [HE.out]; rfl, by rw [HE.out]; exact hrowL, hbel⟩
          · have HE := Lib.hid (hL.out.last hlt h2 hl)
            have hl2 : ¬ (k : Int) + 1 < (s.size : Int) := by omega
            clear h1 h2 n2'
            go_wp2_with fail
            go_ret2
            exact ⟨_, by rw [HE.out]; rfl, by rw [HE.out]; exact hrowL, hbel⟩
        · have HL := Lib.hid (hL.out.plain hlt h1 h2)
          have n2 : ((s[k].toNat : Int) == 92) = false := by simp; exact fun h => h2 (UInt8.toNat_inj.1 (by show s[k].toNat = 92; omega))
          clear h1 h2
          go_wp2_with (at_builtin; refine wpList_append_own _ rfl _ _ 56 rfl w.heap.size 5 i1 (.int .u8 0) 1 1 Try.underlying56 hi' hz0' hz1' hz2' rfl (by decide) _ _ _ rfl (World.ownsRow.alloc hrowB _) ⟨wr.heap.size, 0, none⟩ 1 1 [.int .u8 (s[k].toNat : Int)] rfl rfl (cell_one_new _ _ _) (by simp [Value.oneCell']) hA hA2 (by simp; omega) ?_; intro v' w1 hown' hgrow _)
          go_roundw
          case rel => exact ⟨k + 1, l, b ++ [s[k]], by go_num, by omega, ⟨by omega, by simp; omega⟩, HL, row_grown hrowB hrowL (by decide) hgrow, Bytes.Has.laid1 hown', Bytes.Has.below hhas hbel hz _ hgrow⟩
          case measure => simp [intOf]; omega
    · have HE := Lib.hid (hL.out.done hlt)
      have hA : l.length + 1 ≤ maxLen := by unfold maxLen; omega
      have hA2 : (l.length + 1) * 16 ≤ 140737488355328 := by omega
      go_wp2_with (at_builtin; refine wpList_append_own _ rfl _ _ 33 rfl w.heap.size 9 i0 (.string .empty) 1 16 Try.underlying33 hi hz0 hz1 hz2 rfl (by decide) _ _ _ rfl (World.ownsRow.alloc hrowL _) ⟨wr.heap.size, 0, none⟩ 1 1 [.string ⟨b.toArray⟩] rfl rfl (cell_one_new _ _ _) (by simp [Value.oneCell']) hA hA2 (by simp; omega) ?_; intro v' w1 hown' hgrow _)
      go_ret2
      exact ⟨_, by rw [HE.out]; rfl, by rw [HE.out]; exact Strs.snoc rfl hown', Strs.below hrowL hbel hz _ hgrow⟩

theorem refSplit_any (s : ByteArray) (hs : s.size ≤ 1099511627776) (w : World) :
    Calls Try.prog 16 #[.string s] w (SplitAns w (splitL s.data.toList)) := by
  have C := Lib.hid (refSome_any s hs w)
  have HS : Hid (splitL s.data.toList = splitL s.data.toList) := Lib.hid rfl
  unfold splitL
  generalize parts s.data.toList = R at C ⊢
  obtain ⟨l, f⟩ := R
  clear HS
  cases f with
  | none =>
    go_enter Try.func16, Try.ntmps16
    go_wp2_with (go_at_call 21; refine C.out.mono ?_; rintro e w1 ⟨v, rfl, hS, b1⟩; unfold plc)
    go_ret3
    exact ⟨v, rfl, hS, b1⟩
  | some k =>
    have hk : (k : Int) ≥ 0 := by omega
    go_enter Try.func16, Try.ntmps16
    go_wp2_with (go_at_call 21; refine C.out.mono ?_; rintro e w1 ⟨v, rfl, hS, b1⟩; unfold plc)
    go_ret3
    exact ⟨_, rfl, Strs.nil _ _, b1⟩
end Go.Proofs.Ytbaigaenglhebaa.Pt
