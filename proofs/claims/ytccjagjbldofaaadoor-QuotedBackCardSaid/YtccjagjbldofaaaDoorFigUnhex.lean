/-
figure.Unhex answers what the plain function 'unhex' says. Conditions: the text has at most 2^40 bytes.
-/
import Derived.Test.YtccjagjbldofaaaDoorBytes
import Derived.Test.YtccjagjbldofaaaDoorFigUnhexMath
namespace Go.Proofs.YtccjagjbldofaaaDoor.Fig
open Go.RowKit

theorem ret_u8b {a b : Int} {c : Bool} (h : b = a) : Ending.returned (.tuple #[.int .u8 a, .bool c]) = .returned (.tuple #[.int .u8 b, .bool c]) := by rw [h]
theorem hexValue_yes (x : Int) (w : World) (h0 : 0 ≤ x) (h2 : x ≤ 255) (h : 0 ≤ hvI x) :
    Calls Tryd.prog 28 #[.int .u8 x] w fun e w' => e = .returned (.tuple #[.int .u8 (hvI x), .bool true]) ∧ w = w' := by
  by_cases hd : 48 ≤ x ∧ x ≤ 57
  · have H := Lib.hid (hvI_dec hd)
    clear h
    go_enter Tryd.func28, Tryd.ntmps28
    go_wp2
    go_ret2
    exact ⟨ret_u8b H.out, rfl⟩
  · by_cases ha : 65 ≤ x ∧ x ≤ 70
    · have H := Lib.hid (hvI_alpha ha)
      clear h
      go_enter Tryd.func28, Tryd.ntmps28
      go_wp2
      go_ret2
      exact ⟨ret_u8b (by rw [H.out]; omega), rfl⟩
    · rw [hvI_no hd ha] at h; omega
theorem hexValue_no (x : Int) (w : World) (h0 : 0 ≤ x) (h2 : x ≤ 255) (h : hvI x < 0) :
    Calls Tryd.prog 28 #[.int .u8 x] w fun e w' => e = .returned (.tuple #[.int .u8 0, .bool false]) ∧ w = w' := by
  have hd : ¬ (48 ≤ x ∧ x ≤ 57) := fun hd => by rw [hvI_dec hd] at h; omega
  have ha : ¬ (65 ≤ x ∧ x ≤ 70) := fun hd => by rw [hvI_alpha hd] at h; omega
  clear h
  go_enter Tryd.func28, Tryd.ntmps28
  go_wp2
  all_goals (go_ret2; exact ⟨rfl, rfl⟩)

/-- What the walk's slot for the higher half holds behind k bytes. -/
def High (s : ByteArray) (k : Nat) (h : Int) : Prop := ∀ (_ : k % 2 = 1) (hk : k - 1 < s.size), h = hv s[k - 1]
/-- The first k bytes are digits. -/
def Digs (s : ByteArray) (k : Nat) : Prop := ∀ i (_ : i < k) (hi : i < s.size), 0 ≤ hv s[i]
theorem Digs.next {s : ByteArray} {k : Nat} (h : Digs s k) (hk : k < s.size) (hc : 0 ≤ hv s[k]) : Digs s (k + 1) := fun i hi hs => by
  by_cases e : i = k
  · subst e; exact hc
  · exact h i (by omega) hs
theorem Digs.all {s : ByteArray} {k : Nat} (h : Digs s k) (hk : ¬ k < s.size) : ∀ i (hi : i < s.size), 0 ≤ hv s[i] := fun i hi => h i (by omega) hi

set_option maxHeartbeats 800000 in
theorem unhex_any (s : ByteArray) (w : World) (hs : s.size ≤ 1099511627776) :
    Calls Tryd.prog 23 #[.string s] w fun e w' => e = .returned (.tuple #[.string ⟨(unhex s.data.toList).1.toArray⟩, .int .i64 (unhex s.data.toList).2]) ∧ Below w.heap.size w w' := by
  obtain ⟨i0, hi, hz0, hz1, hz2⟩ := info_parts Bytes.infoByte
  go_enter Tryd.func23, Tryd.ntmps23
  go_wp2
  go_loopw [4, 5, 11] (fun v hg i wr => ∃ (k : Nat) (h : Int), k ≤ s.size ∧ i = .int .i64 k ∧ hg = .int .u8 h ∧ (0 ≤ h ∧ h ≤ 15) ∧ High s k h ∧ Digs s k ∧ Bytes.Has wr w.heap.size v (pairs (s.data.toList.take k)) ∧ Below w.heap.size w wr) (fun _ _ i _ => s.size - (intOf i).toNat)
  case atStart => exact ⟨0, 0, Nat.zero_le _, rfl, rfl, by omega, fun h => by omega, fun _ h => by omega, Bytes.Has.nil _ _, Below.refl _ _⟩
  case round =>
    obtain ⟨k, h, hk, rfl, rfl, ⟨hh0, hh1⟩, hH, hD, hown, hbel⟩ := hrel
    by_cases hlt : k < s.size
    · have hb : s[k].toNat < 256 := s[k].toNat_lt
      have hx2 : hv s[k] ≤ 15 := (hv_bd s[k]).2
      by_cases hx0 : 0 ≤ hv s[k]
      · have hD' := hD.next hlt hx0
        have C : Hid (∀ W : World, Calls Tryd.prog 28 #[.int .u8 (s[k].toNat : Int)] W fun e w' => e = .returned (.tuple #[.int .u8 (hv s[k]), .bool true]) ∧ W = w') := fun W =>
          hexValue_yes _ W (by omega) (by omega) hx0
        obtain ⟨x, hx⟩ : ∃ x, hv s[k] = x := ⟨_, rfl⟩
        by_cases h2 : k % 2 = 0
        · have hb2 : ((k : Int) % 2 == 0) = true := by simp; omega
          have hp := Lib.hid (tk_pairs_odd s k hlt h2)
          have hH' : High s (k + 1) x := fun _ _ => hx.symm
          rw [hx] at C hx0 hx2
          have HX := Lib.hid hx
          clear hx
          go_wp2_with (go_at_call 28; refine (C.out _).mono ?_; rintro e w' ⟨rfl, rfl⟩)
          go_roundw
          case rel => exact ⟨k + 1, x, by omega, by go_num, rfl, ⟨hx0, hx2⟩, hH', hD', by rw [hp.out]; exact hown, hbel⟩
          case measure => simp [intOf]; omega
        · have hb2 : ((k : Int) % 2 == 0) = false := by simp; omega
          obtain ⟨j, rfl⟩ : ∃ j, k = j + 1 := ⟨k - 1, by omega⟩
          have hhj : h = hv s[j] := hH (by omega) (by omega)
          have hp := tk_pairs_even s j hlt (by omega)
          rw [hx, ← hhj] at hp
          have hpo := tk_pairs_odd s j (by omega) (by omega)
          rw [← hpo] at hp
          have hlen : (pairs (s.data.toList.take (j + 1))).length ≤ s.size := by rw [pairs_length, tk_len s _ hk]; omega
          have hor := or16 h x hh0 (by omega) (by omega) (by omega)
          have hbt := byte_of (x := 16 * h + x) (by omega)
          generalize pairs (s.data.toList.take (j + 1)) = l at hown hp hlen
          have hH' : ∀ y, High s (j + 1 + 1) y := fun y e => by omega
          generalize UInt8.ofNat (16 * h + x).toNat = c at hp hbt
          rw [← hbt] at hor
          have HP := Lib.hid hp
          have hz := hbel.size
          have hA : l.length + 1 ≤ maxLen := by unfold maxLen; omega
          have hB : (l.length + 1) * 1 ≤ 140737488355328 := by omega
          rw [hx] at C hx0 hx2
          have hown0 := Lib.hid hown
          clear hp hbt hx hhj hpo hH hlen
          go_wp2_with (first | (go_at_call 28; refine (C.out _).mono ?_; rintro e w' ⟨rfl, rfl⟩) | (at_builtin; refine wpList_append_own _ rfl _ _ 31 rfl w.heap.size 5 i0 (.int .u8 0) 1 1 Tryd.underlying31 hi hz0 hz1 hz2 rfl Bytes.one_pos _ _ _ rfl (hown.alloc _) ⟨wr.heap.size, 0, none⟩ 1 1 [.int .u8 c.toNat] rfl rfl (World.news_of_block (cs := #[.int .u8 c.toNat]) (t := 5) (fr := (0, 0)) (heap_alloc_new wr _)) (by simp [Value.oneCell']) hA hB (Bytes.base_ok' hz _) ?_; intro v' w1 hown' hgrow _))
          go_roundw
          case rel => exact ⟨j + 1 + 1, h, by omega, by go_num, rfl, ⟨hh0, hh1⟩, hH' _, hD', by rw [HP.out]; exact Bytes.Has.laid1 hown', Bytes.Has.below hown0.out hbel hz _ hgrow⟩
          case measure => simp [intOf]; omega
      · have hr := Lib.hid (ux_field hlt (by omega))
        have C : Hid (∀ W : World, Calls Tryd.prog 28 #[.int .u8 (s[k].toNat : Int)] W fun e w' => e = .returned (.tuple #[.int .u8 0, .bool false]) ∧ W = w') := fun W =>
          hexValue_no _ W (by omega) (by omega) (by unfold hv at hx0; omega)
        clear hx0 hx2
        go_wp2_with (go_at_call 28; refine (C.out _).mono ?_; rintro e w' ⟨rfl, rfl⟩)
        go_ret2
        exact ⟨retS hr.out, hbel⟩
    · have hc := hown.text
      by_cases h2 : s.size % 2 = 1
      · have hr := Lib.hid (ux_short (hD.all hlt) h2)
        have hb2 : ((s.size : Int) % 2 == 1) = true := by simp; omega
        go_wp2
        go_ret2
        exact ⟨retS hr.out, hbel⟩
      · have hr := ux_ok (hD.all hlt) (by omega)
        have hb2 : ((s.size : Int) % 2 == 1) = false := by simp; omega
        rw [List.take_of_length_le (by simp; omega)] at hc
        have HR := Lib.hid hr
        clear hr
        go_wp2
        go_ret2
        exact ⟨retS HR.out, hbel⟩
end Go.Proofs.YtccjagjbldofaaaDoor.Fig
