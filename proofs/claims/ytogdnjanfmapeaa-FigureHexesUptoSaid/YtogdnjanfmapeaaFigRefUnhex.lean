/-
The document's own Unhex answers what the plain function 'unhex' says. Conditions: the text has at most 2^40 bytes.
-/
import Derived.Test.YtogdnjanfmapeaaBytes
import Derived.Test.YtogdnjanfmapeaaFigUnhexMath
import Derived.Deep.RegionHeld3
import Derived.IntWalk
namespace Go.Proofs.Ytogdnjanfmapeaa.FigR
open Go.RowKit Fig

theorem ret_i64 {a b : Int} (h : b = a) : Ending.returned (.int .i64 a) = .returned (.int .i64 b) := by rw [h]
theorem half_any (x : Int) (w : World) (h0 : 0 ≤ x) (h2 : x ≤ 255) :
    Calls Try.prog 24 #[.int .u8 x] w fun e w' => e = .returned (.int .i64 (hvI x)) ∧ w = w' := by
  by_cases hd : 48 ≤ x ∧ x ≤ 57
  · have H := Lib.hid (hvI_dec hd)
    go_enter Try.func24, Try.ntmps24
    go_wp2
    go_ret
    exact ⟨ret_i64 (by rw [H.out]), rfl⟩
  · by_cases ha : 65 ≤ x ∧ x ≤ 70
    · have H := Lib.hid (hvI_alpha ha)
      go_enter Try.func24, Try.ntmps24
      go_wp2
      go_ret
      exact ⟨ret_i64 (by rw [H.out]; omega), rfl⟩
    · have H := Lib.hid (hvI_no hd ha)
      go_enter Try.func24, Try.ntmps24
      go_wp2
      all_goals (go_ret; exact ⟨ret_i64 (by rw [H.out]), rfl⟩)

/-- The first k bytes are digits. -/
def Digs (s : ByteArray) (k : Nat) : Prop := ∀ i (_ : i < k) (hi : i < s.size), 0 ≤ hv s[i]
theorem Digs.next {s : ByteArray} {k : Nat} (h : Digs s k) (hk : k < s.size) (hc : 0 ≤ hv s[k]) : Digs s (k + 1) := fun i hi hs => by
  by_cases e : i = k
  · subst e; exact hc
  · exact h i (by omega) hs
theorem Digs.all {s : ByteArray} {k : Nat} (h : Digs s k) (hk : ¬ k < s.size) : ∀ i (hi : i < s.size), 0 ≤ hv s[i] := fun i hi => h i (by omega) hi

set_option maxHeartbeats 800000 in
theorem refUnhex_any (s : ByteArray) (w : World) (hs : s.size ≤ 1099511627776) :
    Calls Try.prog 14 #[.string s] w fun e w' => e = .returned (.tuple #[.string ⟨(unhex s.data.toList).1.toArray⟩, .int .i64 (unhex s.data.toList).2]) ∧ Below w.heap.size w w' := by
  obtain ⟨i0, hi, hz0, hz1, hz2⟩ := info_parts Bytes.infoByte
  go_enter Try.func14, Try.ntmps14
  go_wp2
  go_loop [4] (fun i => ∃ k : Nat, k ≤ s.size ∧ i = .int .i64 k ∧ Digs s k) (fun i => s.size - (intOf i).toNat)
  case atStart => exact ⟨0, Nat.zero_le _, rfl, fun _ h => by omega⟩
  case round =>
    obtain ⟨k, hk, rfl, hD⟩ := hrel
    by_cases hlt : k < s.size
    · have hb : s[k].toNat < 256 := s[k].toNat_lt
      have C : Hid (∀ W : World, Calls Try.prog 24 #[.int .u8 (s[k].toNat : Int)] W fun e w' => e = .returned (.int .i64 (hv s[k])) ∧ W = w') := fun W => half_any _ W (by omega) (by omega)
      by_cases hx0 : 0 ≤ hv s[k]
      · have hD' := hD.next hlt hx0
        generalize hv s[k] = x at C hx0
        go_wp2_with (go_at_call 24; refine (C.out _).mono ?_; rintro e w' ⟨rfl, rfl⟩)
        go_round
        case rel => exact ⟨k + 1, by omega, by go_num, hD'⟩
        case measure => simp [intOf]; omega
      · have hr := Lib.hid (ux_field hlt (by omega))
        generalize hv s[k] = x at C hx0
        go_wp2_with (go_at_call 24; refine (C.out _).mono ?_; rintro e w' ⟨rfl, rfl⟩)
        go_ret2
        exact ⟨retS hr.out, Below.refl _ _⟩
    · by_cases h2 : s.size % 2 = 1
      · have hr := Lib.hid (ux_short (hD.all hlt) h2)
        have hb2 : ((s.size : Int) % 2 == 0) = false := by simp; omega
        have hb3 : ((s.size : Int) % 2 != 0) = true := by simp; omega
        go_wp2
        go_ret2
        exact ⟨retS hr.out, Below.refl _ _⟩
      · have hr := ux_ok (hD.all hlt) (by omega)
        have HD := Lib.hid (hD.all hlt)
        have hb2 : ((s.size : Int) % 2 == 0) = true := by simp; omega
        have hb3 : ((s.size : Int) % 2 != 0) = false := by simp; omega
        have HR := Lib.hid hr
        clear hr hD
        go_wp2
        clear hlt hk
        go_loopw [5, 6] (fun v i wr => ∃ (k : Nat), k ≤ s.size ∧ k % 2 = 0 ∧ i = .int .i64 k ∧ Bytes.Has wr w.heap.size v (pairs (s.data.toList.take k)) ∧ Below w.heap.size w wr) (fun _ i _ => s.size - (intOf i).toNat)
        case atStart => exact ⟨0, Nat.zero_le _, rfl, rfl, Bytes.Has.nil _ _, Below.refl _ _⟩
        case round =>
          obtain ⟨k, hk, hk2, rfl, hown, hbel⟩ := hrel
          by_cases hlt : k + 1 < s.size
          · have hb0 : s[k].toNat < 256 := s[k].toNat_lt
            have hb1 : s[k + 1].toNat < 256 := s[k + 1].toNat_lt
            have C0 : Hid (∀ W : World, Calls Try.prog 24 #[.int .u8 (s[k].toNat : Int)] W fun e w' => e = .returned (.int .i64 (hv s[k])) ∧ W = w') := fun W => half_any _ W (by omega) (by omega)
            have C1 : Hid (∀ W : World, Calls Try.prog 24 #[.int .u8 (s[k + 1].toNat : Int)] W fun e w' => e = .returned (.int .i64 (hv s[k + 1])) ∧ W = w') := fun W => half_any _ W (by omega) (by omega)
            have x0 : 0 ≤ hv s[k] ∧ hv s[k] ≤ 15 := ⟨HD.out k (by omega), (hv_bd _).2⟩
            have y0 : 0 ≤ hv s[k + 1] ∧ hv s[k + 1] ≤ 15 := ⟨HD.out (k + 1) hlt, (hv_bd _).2⟩
            have hp := tk_pairs_even s k hlt hk2
            have hlen : (pairs (s.data.toList.take k)).length ≤ s.size := by rw [pairs_length, tk_len s _ hk]; omega
            generalize hv s[k] = x at C0 x0 hp
            generalize hv s[k + 1] = y at C1 y0 hp
            have hbt := byte_of (x := 16 * x + y) (by omega)
            generalize UInt8.ofNat (16 * x + y).toNat = c at hp hbt
            generalize pairs (s.data.toList.take k) = l at hown hp hlen
            have HP := Lib.hid hp
            have hown0 := Lib.hid hown
            have hz := hbel.size
            have hA : l.length + 1 ≤ maxLen := by unfold maxLen; omega
            have hB : (l.length + 1) * 1 ≤ 140737488355328 := by omega
            have hw1 : IntKind.i64.wrap ((k : Int) + 1) = (k : Int) + 1 := IntWalk.i64_in _ (by omega)
            have hw2 : IntKind.i64.wrap (16 * x) = 16 * x := IntWalk.i64_in _ (by clear hw1; omega)
            have hw3 : IntKind.i64.wrap (16 * x + y) = 16 * x + y := IntWalk.i64_in _ (by clear hw1 hw2; omega)
            have hw4 : IntKind.u8.wrap (16 * x + y) = (c.toNat : Int) := by rw [hbt]; exact IntWalk.u8_in _ (by clear hw1 hw2 hw3; omega)
            have hi1 : (0 : Int) ≤ (k : Int) + 1 := by clear hw1 hw2 hw3 hw4; omega
            have hi2 : (k : Int) + 1 < (s.size : Int) := by clear hw1 hw2 hw3 hw4; omega
            have hi3 : ((k : Int) + 1).toNat = k + 1 := by clear hw1 hw2 hw3 hw4; omega
            clear hp hbt hlen
            go_wp2_with fail
            go_region_held3 (fun _ => True) (exact trivial) (first | (go_at_call 24; first | ((with_reducible refine (C0.out _).mono ?_); rintro e w' ⟨rfl, rfl⟩) | ((with_reducible refine (C1.out _).mono ?_); rintro e w' ⟨rfl, rfl⟩)) | (refine step_append_lies _ (by rfl) _ _ _ (by rfl) w.heap.size 5 i0 _ 1 1 Try.underlying23 hi hz0 hz1 hz2 rfl Bytes.one_pos _ _ _ (by rfl) ((hown.alloc _).drew) ⟨wr.heap.size, 0, none⟩ 1 1 [.int .u8 c.toNat] (by rfl) (by rfl) (World.news_of_block (cs := #[.int .u8 c.toNat]) (t := 5) (fr := (0, 0)) (heap_alloc_new wr _)) (by simp [Value.oneCell']) Bytes.one_pos hA hB (Bytes.base_ok hz _) (wr.heap.size + 1) (Bytes.top_ok _) ?_; intro gg cap w1 hown1 hgrow hat hlt1))
            all_goals
              clear hw1 hw2 hw3 hw4
              go_wp2
              go_roundw
              case rel => exact ⟨k + 2, by omega, by omega, by go_num, by rw [HP.out]; exact Bytes.Has.laid1 hown1, Bytes.Has.belowD hown0.out hbel hz _ hgrow⟩
              case measure => simp [intOf]; omega
          · have hc := hown.text
            have hks : k = s.size := by
              have : ¬ s.size % 2 = 1 := h2
              omega
            subst hks
            rw [List.take_of_length_le (by simp)] at hc
            go_wp2
            go_ret2
            exact ⟨retS HR.out, hbel⟩
end Go.Proofs.Ytogdnjanfmapeaa.FigR
