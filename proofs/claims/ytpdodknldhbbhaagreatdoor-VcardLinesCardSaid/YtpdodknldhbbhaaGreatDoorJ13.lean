/-
What letters say: the program's Decode answers what the plain function 'dec' says. Conditions: the text has at most 2^36 bytes; the library's tables hold what the rows list.
-/
import Derived.Test.YtpdodknldhbbhaaGreatDoorJ09
import Derived.Test.YtpdodknldhbbhaaGreatDoorJ12
namespace Go.Proofs.YtpdodknldhbbhaaGreatDoor.Qu
set_option maxRecDepth 100000
open Go.RowKit Fig

theorem cut_at (s : ByteArray) (k m : Nat) (hm : m = min (k + 3) s.size) : (s.extract (k + 1) m) = ⟨((s.data.toList.drop (k + 1)).take 2).toArray⟩ := by
  apply ByteArray.ext
  rw [ByteArray.data_extract, ← Array.toList_inj, Array.toList_extract, List.extract_eq_take_drop]
  rw [hm]
  by_cases h : k + 3 ≤ s.size
  · rw [Nat.min_eq_left h, show k + 3 - (k + 1) = 2 by omega]
  · rw [Nat.min_eq_right (by omega), List.take_of_length_le (by simp), List.take_of_length_le (by simp; omega)]

theorem laidS0 {w : World} {base : Nat} {v : Value} {l u : List UInt8} (h : w.ownsRow base 5 1 v (l.length + (⟨u.toArray⟩ : ByteArray).size) (Bytes.cells l ++ Lib.strCells ⟨u.toArray⟩)) : Bytes.Has w base v (l ++ u) := by
  rw [strCells_list, ulen rfl] at h
  exact Bytes.Has.laid rfl h

set_option maxHeartbeats 1600000 in
theorem decode_any (s : ByteArray) (w : World) (hs : s.size ≤ 68719476736) (T : Tabs w) :
    Calls Tryz.prog 156 #[.string s] w fun e w' => e = .returned (.tuple #[.string ⟨(dec s.data.toList).1.toArray⟩, .int .i64 ((dec s.data.toList).2 : Int)]) ∧ Below w.heap.size w w' := by
  obtain ⟨i0, hi, hz0, hz1, hz2⟩ := info_parts Bytes.infoByte
  go_enter Tryz.func156, Tryz.ntmps156
  go_wp2
  go_loopw [4, 5] (fun v i wr => ∃ (k : Nat) (l : List UInt8), k ≤ s.size ∧ i = .int .i64 k ∧ Hid (pre l (dec (s.data.toList.drop k)) = dec s.data.toList) ∧ l.length ≤ k ∧ Bytes.Has wr w.heap.size v l ∧ Below w.heap.size w wr) (fun _ i _ => s.size - (intOf i).toNat)
  case atStart => exact ⟨0, [], Nat.zero_le _, rfl, Lib.hid (by rw [List.drop_zero]; exact pre_dec _), by simp, Bytes.Has.nil _ _, Below.refl _ _⟩
  case round =>
    obtain ⟨k, l, hk, rfl, hl, hll, hown, hbel⟩ := hrel
    by_cases hlt : k < s.size
    · have hb : s[k].toNat < 256 := s[k].toNat_lt
      have hz := hbel.size
      have hown0 := Lib.hid hown
      by_cases hc : s[k] = 61
      · have hcb : ((s[k].toNat : Int) == 61) = true := by rw [hc]; rfl
        have hlit : lit s[k] = false := by rw [hc]; decide
        have hcut := cut_at s k (min ((k : Int) + 3) (s.size : Int)).toNat (by omega)
        have C := Lib.hid (said_any ((s.data.toList.drop (k + 1)).take 2) (by simp; omega) wr (T.below hbel))
        rw [behind_take, ← hcut] at C
        obtain ⟨⟨b, e⟩, hbe⟩ : ∃ p, behind (s.data.toList.drop (k + 1)) = p := ⟨_, rfl⟩
        have hbl : b.length ≤ 1 := by have := behind_length (s.data.toList.drop (k + 1)); rw [hbe] at this; exact this
        rw [hbe] at C
        dsimp only at C
        by_cases he : e = 0
        · subst he
          have h3 := behind_size hbe
          have HL := Lib.hid (dec_mark hlt hlit hc hbe hl.out)
          clear hlit hc hcut hbe
          go_wp2_with fail
          refine C.out.mono ?_
          rintro e w2 ⟨rfl, b2⟩
          have hown2 := Bytes.row_below hown b2
          have hbel2 : Below w.heap.size w w2 := hbel.trans (b2.mono hbel.size)
          have hz2' := hbel2.size
          go_wp2_with (at_builtin; refine Lib.wpList_append_own_string _ rfl _ _ 60 9 rfl w.heap.size 5 i0 Tryz.underlying60 Tryz.underlying9 hi hz0 hz1 hz2 _ _ _ rfl hown2 _ rfl (by rw [ulen rfl]; unfold maxLen; omega) (by rw [ulen rfl]; omega) hz2' ?_; intro v'' w3 hown3 hgrow3 _)
          go_roundw
          case rel => exact ⟨k + 3, _, by omega, by go_num, HL, by simp; omega, laidS0 hown3, hbel2.grown hgrow3 hz2' (fun k e => (World.ownsRow.lt hown2 k e).1)⟩
          case measure => simp [intOf]; omega
        · have HE := Lib.hid (dec_bad hlt hlit hc hbe he hl.out)
          have heb : ((e : Int) == 0) = false := by simp; omega
          clear hlit hc hcut hbe he
          go_wp2_with fail
          refine C.out.mono ?_
          rintro x w2 ⟨rfl, b2⟩
          go_wp2_with fail
          go_ret2
          exact ⟨retD HE.out, hbel.trans (b2.mono hbel.size)⟩
      · have hcb : ((s[k].toNat : Int) == 61) = false := by
          rw [beq_eq_false_iff_ne]; intro h; apply hc; apply UInt8.toNat_inj.1; simpa using (by omega : s[k].toNat = 61)
        have C1 := Lib.hid (fun W => isInk_any s[k] W)
        have C2 := Lib.hid (fun W => isBlank_any s[k] W)
        cases hlit : lit s[k]
        · have HE := Lib.hid (dec_other hlt hlit hc hl.out)
          have h1 : ink s[k] = false := by unfold lit at hlit; simp at hlit; exact hlit.1
          have h2 : blank s[k] = false := by unfold lit at hlit; simp at hlit; exact hlit.2
          rw [h1] at C1
          rw [h2] at C2
          clear hlit hc h1 h2
          go_wp2_with (first | (go_at_call 147; refine (C1.out _).mono ?_; rintro e w' ⟨rfl, rfl⟩) | (go_at_call 148; refine (C2.out _).mono ?_; rintro e w' ⟨rfl, rfl⟩))
          go_ret2
          exact ⟨retD HE.out, hbel⟩
        · have HL := Lib.hid (dec_lit hlt hlit hl.out)
          have hA : l.length + 1 ≤ maxLen := by unfold maxLen; omega
          have hB : (l.length + 1) * 1 ≤ 140737488355328 := by omega
          unfold lit at hlit
          generalize ink s[k] = p at C1 hlit
          generalize blank s[k] = q at C2 hlit
          clear hc
          cases p
          · have hq : q = true := by simpa using hlit
            subst hq
            clear hlit
            go_wp2_with (first | (go_at_call 147; refine (C1.out _).mono ?_; rintro e w' ⟨rfl, rfl⟩) | (go_at_call 148; refine (C2.out _).mono ?_; rintro e w' ⟨rfl, rfl⟩) | (at_builtin; refine wpList_append_own _ rfl _ _ 60 rfl w.heap.size 5 i0 (.int .u8 0) 1 1 Tryz.underlying60 hi hz0 hz1 hz2 rfl Bytes.one_pos _ _ _ rfl (hown.alloc _) ⟨wr.heap.size, 0, none⟩ 1 1 [.int .u8 s[k].toNat] rfl rfl (World.news_of_block (cs := #[.int .u8 s[k].toNat]) (t := 5) (fr := (0, 0)) (heap_alloc_new wr _)) (by simp [Value.oneCell']) hA hB (Bytes.base_ok' hz _) ?_; intro v' w1 hown' hgrow _))
            go_roundw
            case rel => exact ⟨k + 1, _, by omega, by go_num, HL, by simp; omega, Bytes.Has.laid1 hown', Bytes.Has.below hown0.out hbel hz _ hgrow⟩
            case measure => simp [intOf]; omega
          · clear hlit
            go_wp2_with (first | (go_at_call 147; refine (C1.out _).mono ?_; rintro e w' ⟨rfl, rfl⟩) | (go_at_call 148; refine (C2.out _).mono ?_; rintro e w' ⟨rfl, rfl⟩) | (at_builtin; refine wpList_append_own _ rfl _ _ 60 rfl w.heap.size 5 i0 (.int .u8 0) 1 1 Tryz.underlying60 hi hz0 hz1 hz2 rfl Bytes.one_pos _ _ _ rfl (hown.alloc _) ⟨wr.heap.size, 0, none⟩ 1 1 [.int .u8 s[k].toNat] rfl rfl (World.news_of_block (cs := #[.int .u8 s[k].toNat]) (t := 5) (fr := (0, 0)) (heap_alloc_new wr _)) (by simp [Value.oneCell']) hA hB (Bytes.base_ok' hz _) ?_; intro v' w1 hown' hgrow _))
            go_roundw
            case rel => exact ⟨k + 1, _, by omega, by go_num, HL, by simp; omega, Bytes.Has.laid1 hown', Bytes.Has.below hown0.out hbel hz _ hgrow⟩
            case measure => simp [intOf]; omega
    · have hc := hown.text
      have HE := Lib.hid (dec_end hlt hl.out)
      go_wp2
      go_ret2
      exact ⟨retD HE.out, hbel⟩
end Go.Proofs.YtpdodknldhbbhaaGreatDoor.Qu
