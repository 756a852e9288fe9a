/-
What letters say: the document's own Decode answers what the plain function 'dec' says. Conditions: the text has at most 2^36 bytes.
-/
import Derived.Test.YtjgfbicllgalkaaGreatDoorJ05
import Derived.Test.YtjgfbicllgalkaaGreatDoorJ07
import Derived.Deep.RegionHeld3
import Derived.IntWalk
import Derived.Laws.IdiomStrings
namespace Go.Proofs.YtjgfbicllgalkaaGreatDoor.Qu
set_option maxRecDepth 100000
open Go.RowKit Fig

theorem ret_i64 {a b : Int} (h : b = a) : Ending.returned (.int .i64 a) = .returned (.int .i64 b) := by rw [h]
theorem half_low {c : UInt8} (h : ¬ (97 ≤ (c.toNat : Int) ∧ (c.toNat : Int) ≤ 102)) : half c = hvI (c.toNat : Int) := by unfold half; rw [if_neg h]; rfl
theorem half_alpha {c : UInt8} (h : 97 ≤ (c.toNat : Int) ∧ (c.toNat : Int) ≤ 102) : half c = (c.toNat : Int) - 87 := by unfold half; rw [if_pos h]
theorem refHalf_any (c : UInt8) (w : World) :
    Calls Tryz.prog 209 #[.int .u8 (c.toNat : Int)] w fun e w' => e = .returned (.int .i64 (half c)) ∧ w = w' := by
  have hb := c.toNat_lt
  by_cases ha : 97 ≤ (c.toNat : Int) ∧ (c.toNat : Int) ≤ 102
  · have H := Lib.hid (half_alpha ha)
    go_enter Tryz.func209, Tryz.ntmps209
    go_wp2
    all_goals (go_ret; exact ⟨ret_i64 (by rw [H.out]; omega), rfl⟩)
  · by_cases hd : 48 ≤ (c.toNat : Int) ∧ (c.toNat : Int) ≤ 57
    · have H := Lib.hid ((half_low ha).trans (hvI_dec hd))
      go_enter Tryz.func209, Tryz.ntmps209
      go_wp2
      all_goals (go_ret; exact ⟨ret_i64 (by rw [H.out]), rfl⟩)
    · by_cases hu : 65 ≤ (c.toNat : Int) ∧ (c.toNat : Int) ≤ 70
      · have H := Lib.hid ((half_low ha).trans (hvI_alpha hu))
        go_enter Tryz.func209, Tryz.ntmps209
        go_wp2
        all_goals (go_ret; exact ⟨ret_i64 (by rw [H.out]; omega), rfl⟩)
      · have H := Lib.hid ((half_low ha).trans (hvI_no hd hu))
        go_enter Tryz.func209, Tryz.ntmps209
        go_wp2
        all_goals (go_ret; exact ⟨ret_i64 (by rw [H.out]), rfl⟩)

theorem behind_0 {s : ByteArray} {k : Nat} (h : ¬ k + 1 < s.size) : behind (s.data.toList.drop (k + 1)) = ([], 1) := by rw [drop_end s h]; rfl
theorem behind_1 {s : ByteArray} {k : Nat} (h : k + 1 < s.size) (h' : ¬ k + 2 < s.size) : behind (s.data.toList.drop (k + 1)) = if s[k + 1] = 13 then ([], 1) else if half s[k + 1] < 0 then ([], 3) else ([], 1) := by
  rw [drop_at s (k + 1) h, drop_end s h']; rfl
theorem behind_2 {s : ByteArray} {k : Nat} (h' : k + 2 < s.size) : behind (s.data.toList.drop (k + 1)) = if s[k + 1] = 13 ∧ s[k + 2] = 10 then ([], 0) else if half s[k + 1] < 0 ∨ half s[k + 2] < 0 then ([], 3) else ([UInt8.ofNat (16 * half s[k + 1] + half s[k + 2]).toNat], 0) := by
  rw [drop_at s (k + 1) (by omega), drop_at s (k + 2) h']; rfl
theorem lit_iff (c : UInt8) : lit c = true ↔ ((c.toNat : Int) = 32 ∨ (c.toNat : Int) = 9 ∨ (33 ≤ (c.toNat : Int) ∧ (c.toNat : Int) ≤ 126 ∧ ¬ (c.toNat : Int) = 61)) := by
  unfold lit ink blank; simp; omega
theorem lit_no {c : UInt8} (h : ¬ ((c.toNat : Int) = 32 ∨ (c.toNat : Int) = 9 ∨ (33 ≤ (c.toNat : Int) ∧ (c.toNat : Int) ≤ 126 ∧ ¬ (c.toNat : Int) = 61))) : lit c = false := by
  cases e : lit c
  · rfl
  · exact absurd ((lit_iff c).1 e) h
theorem half_13 : half 13 < 0 := by decide
theorem num_ne {c d : UInt8} (h : ¬ c = d) : ¬ (c.toNat : Int) = (d.toNat : Int) := fun e => h (UInt8.toNat_inj.1 (by omega))

set_option maxHeartbeats 1600000 in
theorem refDecode_any (s : ByteArray) (w : World) (hs : s.size ≤ 68719476736) :
    Calls Tryz.prog 146 #[.string s] w fun e w' => e = .returned (.tuple #[.string ⟨(dec s.data.toList).1.toArray⟩, .int .i64 ((dec s.data.toList).2 : Int)]) ∧ Below w.heap.size w w' := by
  obtain ⟨i0, hi, hz0, hz1, hz2⟩ := info_parts Bytes.infoByte
  go_enter Tryz.func146, Tryz.ntmps146
  go_wp2
  go_loopw [4, 5] (fun v i wr => ∃ (k : Nat) (l : List UInt8), k ≤ s.size ∧ i = .int .i64 k ∧ Hid (pre l (dec (s.data.toList.drop k)) = dec s.data.toList) ∧ l.length ≤ k ∧ Bytes.Has wr w.heap.size v l ∧ Below w.heap.size w wr) (fun _ i _ => s.size - (intOf i).toNat)
  case atStart => exact ⟨0, [], Nat.zero_le _, rfl, Lib.hid (by rw [List.drop_zero]; exact pre_dec _), by simp, Bytes.Has.nil _ _, Below.refl _ _⟩
  case round =>
    obtain ⟨k, l, hk, rfl, hl, hll, hown, hbel⟩ := hrel
    by_cases hlt : k < s.size
    · have hb : s[k].toNat < 256 := s[k].toNat_lt
      have hz := hbel.size
      have hown0 := Lib.hid hown
      have hA : l.length + 1 ≤ maxLen := by unfold maxLen; omega
      have hB : (l.length + 1) * 1 ≤ 140737488355328 := by omega
      by_cases hc : s[k] = 61
      · have hlit : lit s[k] = false := by rw [hc]; decide
        have hcn : (s[k].toNat : Int) = 61 := by rw [hc]; rfl
        have i1 : (0 : Int) ≤ (k : Int) + 1 := by omega
        have i3 : ((k : Int) + 1).toNat = k + 1 := by omega
        have i4 : ((k : Int) + 2).toNat = k + 2 := by omega
        have i5 : (0 : Int) ≤ (k : Int) + 2 := by omega
        by_cases h1 : k + 1 < s.size
        · have i2 : (k : Int) + 1 < (s.size : Int) := by omega
          have hw1 : IntKind.i64.wrap ((k : Int) + 1) = (k : Int) + 1 := IntWalk.i64_in _ (by omega)
          have hxb : s[k + 1].toNat < 256 := s[k + 1].toNat_lt
          have D1 := Lib.hid (fun W => refHalf_any s[k + 1] W)
          by_cases hx : s[k + 1] = 13
          · have hxn : (s[k + 1].toNat : Int) = 13 := by rw [hx]; rfl
            have hh : half s[k + 1] < 0 := by rw [hx]; exact half_13
            rw [hxn] at D1
            by_cases h2 : k + 2 < s.size
            · have i6 : (k : Int) + 2 < (s.size : Int) := by omega
              have hyb : s[k + 2].toNat < 256 := s[k + 2].toNat_lt
              by_cases hy : s[k + 2] = 10
              · have hyn : (s[k + 2].toNat : Int) = 10 := by rw [hy]; rfl
                have HL := Lib.hid (dec_mark hlt hlit hc (by rw [behind_2 h2, if_pos ⟨hx, hy⟩]) hl.out)
                generalize half s[k + 1] = p at D1 hh
                clear hx hy
                clear hlit hc
                go_wp2_with fail
                go_region_held3 (fun _ => True) (exact trivial) ((go_at_call 209; (with_reducible refine (D1.out _).mono ?_); rintro e w' ⟨rfl, rfl⟩))
                all_goals clear hw1
                all_goals
                  go_wp2_with (fail)
                  go_roundw
                  case rel => exact ⟨k + 3, _, by omega, by go_num, HL, by simp; omega, by rw [List.append_nil]; exact hown, hbel.drew⟩
                  case measure => simp [intOf]; omega
              · have hyn := num_ne hy
                have HE := Lib.hid (dec_bad hlt hlit hc (by rw [behind_2 h2, if_neg (fun h => hy h.2), if_pos (.inl hh)]) (by decide) hl.out)
                generalize half s[k + 1] = p at D1 hh
                clear hx hy
                clear hlit hc
                go_wp2_with fail
                go_region_held3 (fun _ => True) (exact trivial) ((go_at_call 209; (with_reducible refine (D1.out _).mono ?_); rintro e w' ⟨rfl, rfl⟩))
                all_goals clear hw1
                all_goals go_wp2_with (fail)
                all_goals (go_ret2; exact ⟨retD HE.out, hbel.drew⟩)
            · have h2n : (k : Int) + 2 = (s.size : Int) := by omega
              have HE := Lib.hid (dec_bad hlt hlit hc (by rw [behind_1 h1 h2, if_pos hx]) (by decide) hl.out)
              generalize half s[k + 1] = p at D1 hh
              clear hx
              clear hlit hc
              go_wp2_with fail
              go_region_held3 (fun _ => True) (exact trivial) ((go_at_call 209; (with_reducible refine (D1.out _).mono ?_); rintro e w' ⟨rfl, rfl⟩))
              all_goals clear hw1
              all_goals go_wp2_with (fail)
              all_goals (go_ret2; exact ⟨retD HE.out, hbel.drew⟩)
          · have hxn := num_ne hx
            by_cases hh : half s[k + 1] < 0
            · have hbe : behind (s.data.toList.drop (k + 1)) = ([], 3) := by
                by_cases h2 : k + 2 < s.size
                · rw [behind_2 h2, if_neg (fun h => hx h.1), if_pos (.inl hh)]
                · rw [behind_1 h1 h2, if_neg hx, if_pos hh]
              have HE := Lib.hid (dec_bad hlt hlit hc (hbe) (by decide) hl.out)
              generalize half s[k + 1] = p at D1 hh
              clear hx hbe
              clear hlit hc
              go_wp2_with fail
              go_region_held3 (fun _ => True) (exact trivial) ((go_at_call 209; (with_reducible refine (D1.out _).mono ?_); rintro e w' ⟨rfl, rfl⟩))
              all_goals clear hw1
              all_goals go_wp2_with (fail)
              all_goals (go_ret2; exact ⟨retD HE.out, hbel.drew⟩)
            · by_cases h2 : k + 2 < s.size
              · have i6 : (k : Int) + 2 < (s.size : Int) := by omega
                have hyb : s[k + 2].toNat < 256 := s[k + 2].toNat_lt
                have D2 := Lib.hid (fun W => refHalf_any s[k + 2] W)
                by_cases hy : half s[k + 2] < 0
                · have hbe : behind (s.data.toList.drop (k + 1)) = ([], 3) := by rw [behind_2 h2, if_neg (fun h => hx h.1), if_pos (.inr hy)]
                  have HE := Lib.hid (dec_bad hlt hlit hc (hbe) (by decide) hl.out)
                  generalize half s[k + 1] = p at D1 hh
                  generalize half s[k + 2] = q at D2 hy
                  clear hx hbe
                  clear hlit hc
                  go_wp2_with fail
                  go_region_held3 (fun _ => True) (exact trivial) ((go_at_call 209; (with_reducible refine (D1.out _).mono ?_); rintro e w' ⟨rfl, rfl⟩))
                  all_goals clear hw1
                  all_goals go_wp2_with ((go_at_call 209; refine (D2.out _).mono ?_; rintro e w' ⟨rfl, rfl⟩))
                  all_goals (go_ret2; exact ⟨retD HE.out, hbel.drew⟩)
                · have hbe : behind (s.data.toList.drop (k + 1)) = ([UInt8.ofNat (16 * half s[k + 1] + half s[k + 2]).toNat], 0) := by rw [behind_2 h2, if_neg (fun h => hx h.1), if_neg (fun h => h.elim hh hy)]
                  have hp2 := (half_bd s[k + 1]).2
                  have hq2 := (half_bd s[k + 2]).2
                  have hbt := byte_of (x := 16 * half s[k + 1] + half s[k + 2]) (by omega)
                  have HL := Lib.hid (dec_mark hlt hlit hc (hbe) hl.out)
                  generalize half s[k + 1] = p at D1 hh hp2 HL hbt
                  generalize half s[k + 2] = q at D2 hy hq2 HL hbt
                  generalize UInt8.ofNat (16 * p + q).toNat = c at HL hbt
                  have HBT := Lib.hid hbt
                  clear hx hbe hbt
                  clear hlit hc
                  go_wp2_with fail
                  go_region_held3 (fun _ => True) (exact trivial) ((go_at_call 209; (with_reducible refine (D1.out _).mono ?_); rintro e w' ⟨rfl, rfl⟩))
                  all_goals clear hw1
                  all_goals
                    go_wp2_with (first | (go_at_call 209; refine (D2.out _).mono ?_; rintro e w' ⟨rfl, rfl⟩) | (at_builtin; refine wpList_append_own _ rfl _ _ 103 rfl w.heap.size 5 i0 (.int .u8 0) 1 1 Tryz.underlying103 hi hz0 hz1 hz2 rfl Bytes.one_pos _ _ _ rfl (hown.alloc _) ⟨wr.heap.size, 0, none⟩ 1 1 [.int .u8 (16 * p + q)] rfl rfl (World.news_of_block (cs := #[.int .u8 (16 * p + q)]) (t := 5) (fr := (0, 0)) (heap_alloc_new wr _)) (by simp [Value.oneCell']) hA hB (Bytes.base_ok' hz _) ?_; intro v' w1 hown' hgrow _))
                    go_roundw
                    case rel => exact ⟨k + 3, _, by omega, by go_num, HL, by simp; omega, Bytes.Has.laid1 (by rw [HBT.out]; exact hown'), Bytes.Has.belowD hown0.out hbel hz _ hgrow⟩
                    case measure => simp [intOf]; omega
              · have h2n : (k : Int) + 2 = (s.size : Int) := by omega
                have hbe : behind (s.data.toList.drop (k + 1)) = ([], 1) := by rw [behind_1 h1 h2, if_neg hx, if_neg hh]
                have HE := Lib.hid (dec_bad hlt hlit hc (hbe) (by decide) hl.out)
                generalize half s[k + 1] = p at D1 hh
                clear hx hbe
                clear hlit hc
                go_wp2_with fail
                go_region_held3 (fun _ => True) (exact trivial) ((go_at_call 209; (with_reducible refine (D1.out _).mono ?_); rintro e w' ⟨rfl, rfl⟩))
                all_goals clear hw1
                all_goals go_wp2_with (fail)
                all_goals (go_ret2; exact ⟨retD HE.out, hbel.drew⟩)
        · have h1n : (k : Int) + 1 = (s.size : Int) := by omega
          have HE := Lib.hid (dec_bad hlt hlit hc (behind_0 h1) (by decide) hl.out)
          clear hlit hc
          go_wp2_with fail
          go_ret2
          exact ⟨retD HE.out, hbel⟩
      · have n61 : ¬ (s[k].toNat : Int) = 61 := num_ne hc
        by_cases h32 : (s[k].toNat : Int) = 32
        · have b32 : ((s[k].toNat : Int) == 32) = true := by simpa using h32
          have HL := Lib.hid (dec_lit hlt ((lit_iff _).2 (.inl h32)) hl.out)
          clear h32
          clear hc
          go_wp2_with (at_builtin; refine wpList_append_own _ rfl _ _ 103 rfl w.heap.size 5 i0 (.int .u8 0) 1 1 Tryz.underlying103 hi hz0 hz1 hz2 rfl Bytes.one_pos _ _ _ rfl (hown.alloc _) ⟨wr.heap.size, 0, none⟩ 1 1 [.int .u8 s[k].toNat] rfl rfl (World.news_of_block (cs := #[.int .u8 s[k].toNat]) (t := 5) (fr := (0, 0)) (heap_alloc_new wr _)) (by simp [Value.oneCell']) hA hB (Bytes.base_ok' hz _) ?_; intro v' w1 hown' hgrow _)
          go_roundw
          case rel => exact ⟨k + 1, _, by omega, by go_num, HL, by simp; omega, Bytes.Has.laid1 hown', Bytes.Has.below hown0.out hbel hz _ hgrow⟩
          case measure => simp [intOf]; omega
        · by_cases h9 : (s[k].toNat : Int) = 9
          · have b9 : ((s[k].toNat : Int) == 9) = true := by simpa using h9
            have b32 : ((s[k].toNat : Int) == 32) = false := by simpa using h32
            have HL := Lib.hid (dec_lit hlt ((lit_iff _).2 (.inr (.inl h9))) hl.out)
            clear h9 h32
            clear hc
            go_wp2_with (at_builtin; refine wpList_append_own _ rfl _ _ 103 rfl w.heap.size 5 i0 (.int .u8 0) 1 1 Tryz.underlying103 hi hz0 hz1 hz2 rfl Bytes.one_pos _ _ _ rfl (hown.alloc _) ⟨wr.heap.size, 0, none⟩ 1 1 [.int .u8 s[k].toNat] rfl rfl (World.news_of_block (cs := #[.int .u8 s[k].toNat]) (t := 5) (fr := (0, 0)) (heap_alloc_new wr _)) (by simp [Value.oneCell']) hA hB (Bytes.base_ok' hz _) ?_; intro v' w1 hown' hgrow _)
            go_roundw
            case rel => exact ⟨k + 1, _, by omega, by go_num, HL, by simp; omega, Bytes.Has.laid1 hown', Bytes.Has.below hown0.out hbel hz _ hgrow⟩
            case measure => simp [intOf]; omega
          · have b9 : ((s[k].toNat : Int) == 9) = false := by simpa using h9
            have b32 : ((s[k].toNat : Int) == 32) = false := by simpa using h32
            by_cases h33 : (33 : Int) ≤ (s[k].toNat : Int)
            · by_cases h126 : (s[k].toNat : Int) ≤ 126
              · have h127 : (s[k].toNat : Int) < 127 := by omega
                have HL := Lib.hid (dec_lit hlt ((lit_iff _).2 (.inr (.inr ⟨h33, h126, n61⟩))) hl.out)
                clear hc
                go_wp2_with (at_builtin; refine wpList_append_own _ rfl _ _ 103 rfl w.heap.size 5 i0 (.int .u8 0) 1 1 Tryz.underlying103 hi hz0 hz1 hz2 rfl Bytes.one_pos _ _ _ rfl (hown.alloc _) ⟨wr.heap.size, 0, none⟩ 1 1 [.int .u8 s[k].toNat] rfl rfl (World.news_of_block (cs := #[.int .u8 s[k].toNat]) (t := 5) (fr := (0, 0)) (heap_alloc_new wr _)) (by simp [Value.oneCell']) hA hB (Bytes.base_ok' hz _) ?_; intro v' w1 hown' hgrow _)
                go_roundw
                case rel => exact ⟨k + 1, _, by omega, by go_num, HL, by simp; omega, Bytes.Has.laid1 hown', Bytes.Has.below hown0.out hbel hz _ hgrow⟩
                case measure => simp [intOf]; omega
              · have h127 : (126 : Int) < (s[k].toNat : Int) := by omega
                have HE := Lib.hid (dec_other hlt (lit_no (fun h => by omega)) hc hl.out)
                clear hc
                go_wp2_with fail
                go_ret2
                exact ⟨retD HE.out, hbel⟩
            · have h34 : (s[k].toNat : Int) < 33 := by omega
              have HE := Lib.hid (dec_other hlt (lit_no (fun h => by omega)) hc hl.out)
              clear hc
              go_wp2_with fail
              go_ret2
              exact ⟨retD HE.out, hbel⟩
    · have hc := hown.text
      have HE := Lib.hid (dec_end hlt hl.out)
      go_wp2
      go_ret2
      exact ⟨retD HE.out, hbel⟩
end Go.Proofs.YtjgfbicllgalkaaGreatDoor.Qu
