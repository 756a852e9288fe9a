/-
strings.IndexAny of the bytes that no value has, at any text: its answer is the plain function's. Conditions: the text has at most 2^31 bytes.
-/
import Derived.Test.YtccgpemcdbcjeaaDoorPpIdxMath
import Derived.Test.YtccgpemcdbcjeaaDoorPpRef1
import Derived.Test.YtccgpemcdbcjeaaDoorShelf
import Derived.BigQuiet
import Derived.Lib.OthersKept
namespace Go.Proofs.YtccgpemcdbcjeaaDoor.Pp
open Go.RowKit

theorem ixb_any (s : ByteArray) (c : UInt8) (w : World) :
    Calls Tryd.prog 48 #[.string s, .int .u8 (c.toNat : Int)] w fun e w' => e = .returned (.int .i64 (Lib.indexByte s.data.toList c)) ∧ w = w' :=
  (Tryd.strings_IndexByte s (c.toNat : Int) w).mono fun e w' ⟨h1, h2⟩ => ⟨by rw [h1]; congr 3; simp, h2.symm⟩
theorem validRune_any (c : Nat) (w : World) (h : c ≤ 2147483647) (hv : Utf8.valid (c : Int) = true) :
    Calls Tryd.prog 49 #[.int .i32 (c : Int)] w fun e w' => e = .returned (.bool true) ∧ w = w' := by
  unfold Utf8.valid at hv
  rw [Bool.or_eq_true, Bool.and_eq_true, Bool.and_eq_true, decide_eq_true_eq, decide_eq_true_eq, decide_eq_true_eq, decide_eq_true_eq] at hv
  rcases hv with hv | hv
  · have h1 : decide ((c : Int) < 55296) = true := decide_eq_true (by omega)
    have h2 : decide ((0 : Int) ≤ (c : Int)) = true := decide_eq_true (by omega)
    clear hv h
    go_enter Tryd.func49, Tryd.ntmps49
    go_wp2_with fail
    go_ret
    exact ⟨rfl, rfl⟩
  · have h1 : decide ((c : Int) < 55296) = false := decide_eq_false (by omega)
    have h2 : decide ((0 : Int) ≤ (c : Int)) = true := decide_eq_true (by omega)
    have h3 : decide ((57343 : Int) < (c : Int)) = true := decide_eq_true (by omega)
    have h4 : decide ((c : Int) ≤ 1114111) = true := decide_eq_true (by omega)
    clear hv h
    go_enter Tryd.func49, Tryd.ntmps49
    go_wp2_with fail
    go_ret
    exact ⟨rfl, rfl⟩
theorem odd_low : ∀ x ∈ odd3.data.toList, x.toNat < 128 := by decide
theorem odd_low1 : ∀ x ∈ (⟨#[10, 13]⟩ : ByteArray).data.toList, x.toNat < 128 := by decide

set_option maxRecDepth 100000 in
set_option maxHeartbeats 2000000 in
/-- IndexRune of a letter that is no ASCII: none of the three. -/
theorem idxRune_high (c : Nat) (w : World) (hc : 128 ≤ c) (hm : c ≤ 2147483647) (hv : Utf8.valid (c : Int) = true) :
    Calls Tryd.prog 35 #[.string odd3, .int .i32 (c : Int)] w fun e w' => e = .returned (.int .i64 (-1)) ∧ Below w.heap.size w w' := by
  have d0 : decide ((0 : Int) ≤ (c : Int)) = true := decide_eq_true (by omega)
  have d1 : decide ((c : Int) < 128) = false := decide_eq_false (by omega)
  by_cases he : c = 65533
  · subst he
    clear d0 d1 hc hm hv
    unfold odd3
    go_enter Tryd.func35, Tryd.ntmps35
    go_wp2_with fail
    go_loopw [5, 6] (fun _ _ wr => ∃ i : Nat, i ≤ 3 ∧ wr = w.iter (⟨#[0, 10, 13]⟩ : ByteArray) i) (fun _ _ wr => 3 - wr.iterPos w.heap.size)
    case atStart => exact ⟨0, by omega, rfl⟩
    case round =>
      obtain ⟨i, hi, rfl⟩ := hrel
      rcases (by omega : i = 0 ∨ i = 1 ∨ i = 2 ∨ i = 3) with rfl | rfl | rfl | rfl
      · have hnx := fun ty => run_next_ascii (P := Tryd.prog) w (⟨#[0, 10, 13]⟩ : ByteArray) 0 ty (by decide) (by decide)
        go_wp2_with fail
        go_roundw
        case rel => exact ⟨1, by omega, rfl⟩
        case measure => simp
      · have hnx := fun ty => run_next_ascii (P := Tryd.prog) w (⟨#[0, 10, 13]⟩ : ByteArray) 1 ty (by decide) (by decide)
        go_wp2_with fail
        go_roundw
        case rel => exact ⟨2, by omega, rfl⟩
        case measure => simp
      · have hnx := fun ty => run_next_ascii (P := Tryd.prog) w (⟨#[0, 10, 13]⟩ : ByteArray) 2 ty (by decide) (by decide)
        go_wp2_with fail
        go_roundw
        case rel => exact ⟨3, by omega, rfl⟩
        case measure => simp
      · have hnx := run_next_end (P := Tryd.prog) w (⟨#[0, 10, 13]⟩ : ByteArray) 3
        go_wp2_with fail
        go_ret
        exact ⟨rfl, (Below.refl _ _).alloc (Nat.le_refl _) _⟩
  · have d2 : ((c : Int) == 65533) = false := beq_eq_false_iff_ne.2 (by omega)
    have CV := Lib.hid (fun W => validRune_any c W hm hv)
    rcases encode_high c hc hv with ⟨a, b, h, hb⟩ | ⟨a, b, d, h, hb⟩ | ⟨a, b, d, x, h, hb⟩
    · have hcv : ∀ W, (convert 21 9 (.int .i32 (c : Int))).run Tryd.prog W = .ok (.string ⟨#[a, b]⟩) W := fun W => by simp [convert, Conv.intToString, go_sem, h]
      have hne : ((((⟨#[0, 10, 13]⟩ : ByteArray)[1]'(by decide : 1 < 3)).toNat : Int) != (((⟨#[a, b]⟩ : ByteArray)[1]'(by decide : 1 < 2)).toNat : Int)) = true := bne_iff_ne.2 (show ¬ (10 : Int) = (b.toNat : Int) by omega)
      have CI := Lib.hid (fun W => ixb_any ⟨#[13]⟩ ((⟨#[a, b]⟩ : ByteArray)[1]'(by decide : 1 < 2)) W)
      rw [index_high _ ((⟨#[a, b]⟩ : ByteArray)[1]'(by decide : 1 < 2)) (by decide) hb] at CI
      clear hv hc hm he h hb
      unfold odd3
      go_enter Tryd.func35, Tryd.ntmps35
      go_wp2_with fail
      refine (CV.out _).mono ?_
      rintro e w' ⟨rfl, rfl⟩
      go_wp2_with fail
      go_step3
      go_wp2_with fail
      go_loop [9, 10] (fun iv fv => iv = .int .i64 1 ∧ fv = .int .i64 0) (fun _ _ => 0)
      case atStart => exact ⟨rfl, rfl⟩
      case round =>
        obtain ⟨rfl, rfl⟩ := hrel
        go_wp2_with fail
        go_step3
        go_wp2_with fail
        go_quiet (fail)
        go_wp2_with fail
        have hw1 : IntKind.i64.wrap 2 = 2 := by decide
        have hsl : ∀ W, (Instr.slice 9 (.string ⟨#[0, 10, 13]⟩) (some (.int .i64 2)) none none).run Tryd.prog W = .ok (.string ⟨#[13]⟩) W := fun W => by simp [Instr.slice, go_sem]; first | rfl | decide
        have hsl2 : ∀ W, (Instr.slice 9 (.string ⟨#[0, 10, 13]⟩) (some (.int .i64 (IntKind.i64.wrap 2))) none none).run Tryd.prog W = .ok (.string ⟨#[13]⟩) W := fun W => by rw [hw1]; exact hsl W
        go_quiet ((go_at_call 48; exact (CI.out _).mono (fun _ _ h => ⟨h.1, _, h.2.symm⟩)))
        go_wp2_with fail
        rw [Exit.noGoto_ret]
        repeat (first | rw [Exit.noGoto_ret] | (change Exit.noGoto _ Exit.ret _ _; rw [Exit.noGoto_ret]))
        go_ret
        exact ⟨rfl, ⟨rfl, rfl, rfl, Nat.le_refl _, fun _ _ => rfl⟩⟩
    · have hcv : ∀ W, (convert 21 9 (.int .i32 (c : Int))).run Tryd.prog W = .ok (.string ⟨#[a, b, d]⟩) W := fun W => by simp [convert, Conv.intToString, go_sem, h]
      have hne : ((((⟨#[0, 10, 13]⟩ : ByteArray)[2]'(by decide : 2 < 3)).toNat : Int) != (((⟨#[a, b, d]⟩ : ByteArray)[2]'(by decide : 2 < 3)).toNat : Int)) = true := bne_iff_ne.2 (show ¬ (13 : Int) = (d.toNat : Int) by omega)
      have CI := Lib.hid (fun W => ixb_any ⟨#[]⟩ ((⟨#[a, b, d]⟩ : ByteArray)[2]'(by decide : 2 < 3)) W)
      rw [index_high _ ((⟨#[a, b, d]⟩ : ByteArray)[2]'(by decide : 2 < 3)) (by decide) hb] at CI
      clear hv hc hm he h hb
      unfold odd3
      go_enter Tryd.func35, Tryd.ntmps35
      go_wp2_with fail
      refine (CV.out _).mono ?_
      rintro e w' ⟨rfl, rfl⟩
      go_wp2_with fail
      go_step3
      go_wp2_with fail
      go_loop [9, 10] (fun iv fv => iv = .int .i64 2 ∧ fv = .int .i64 0) (fun _ _ => 0)
      case atStart => exact ⟨rfl, rfl⟩
      case round =>
        obtain ⟨rfl, rfl⟩ := hrel
        go_wp2_with fail
        go_step3
        go_wp2_with fail
        go_quiet (fail)
        go_wp2_with fail
        have hw1 : IntKind.i64.wrap 3 = 3 := by decide
        have hsl : ∀ W, (Instr.slice 9 (.string ⟨#[0, 10, 13]⟩) (some (.int .i64 3)) none none).run Tryd.prog W = .ok (.string ⟨#[]⟩) W := fun W => by simp [Instr.slice, go_sem]; first | rfl | decide
        have hsl2 : ∀ W, (Instr.slice 9 (.string ⟨#[0, 10, 13]⟩) (some (.int .i64 (IntKind.i64.wrap 3))) none none).run Tryd.prog W = .ok (.string ⟨#[]⟩) W := fun W => by rw [hw1]; exact hsl W
        go_quiet ((go_at_call 48; exact (CI.out _).mono (fun _ _ h => ⟨h.1, _, h.2.symm⟩)))
        go_wp2_with fail
        rw [Exit.noGoto_ret]
        repeat (first | rw [Exit.noGoto_ret] | (change Exit.noGoto _ Exit.ret _ _; rw [Exit.noGoto_ret]))
        go_ret
        exact ⟨rfl, ⟨rfl, rfl, rfl, Nat.le_refl _, fun _ _ => rfl⟩⟩
    · have hcv : ∀ W, (convert 21 9 (.int .i32 (c : Int))).run Tryd.prog W = .ok (.string ⟨#[a, b, d, x]⟩) W := fun W => by simp [convert, Conv.intToString, go_sem, h]
      clear hv hc hm he h hb
      unfold odd3
      go_enter Tryd.func35, Tryd.ntmps35
      go_wp2_with fail
      refine (CV.out _).mono ?_
      rintro e w' ⟨rfl, rfl⟩
      go_wp2_with fail
      go_step3
      go_wp2_with fail
      go_loop [9, 10] (fun iv fv => iv = .int .i64 3 ∧ fv = .int .i64 0) (fun _ _ => 0)
      case atStart => exact ⟨rfl, rfl⟩
      case round =>
        obtain ⟨rfl, rfl⟩ := hrel
        go_wp2_with fail
        go_ret
        exact ⟨rfl, Below.refl _ _⟩

theorem at_get {s : ByteArray} {i : Nat} (h : i < s.size) : s.get! i = s[i] := by have e := get_at s i h; rw [Nat.add_zero] at e; exact e
theorem noAny_over {s : ByteArray} {i n : Nat} (h : Lib.NoAny s.data.toList odd3.data.toList i) (hc : ∀ j, i ≤ j → j < i + n → 128 ≤ (s.get! j).toNat) : Lib.NoAny s.data.toList odd3.data.toList (i + n) := by
  intro j b hj hb
  by_cases hji : j < i
  · exact h j b hji hb
  · have hg := get_list s j b hb
    have := hc j (by omega) hj
    rw [hg] at this
    rw [odd3_has]; unfold oddb; rw [decide_eq_false (by omega)]
set_option maxRecDepth 100000 in
set_option maxHeartbeats 4000000 in
theorem idxAny_short (s : ByteArray) (w : World) (h8 : s.size ≤ 8) :
    Calls Tryd.prog 25 #[.string s, .string odd3] w fun e w' => e = .returned (.int .i64 (idxO s)) ∧ Below w.heap.size w w' := by
  have h8z : decide ((8 : Int) < (s.size : Int)) = false := decide_eq_false (by omega)
  have CA := Lib.hid (fun W => Any.strings_shouldUseASCIISet (P := Tryd.prog) (ρ := Tryd.lays153_ren) { Tryd.lays153 with } (s.size : Int) W |>.mono fun _ _ h => (And.intro h.1 h.2.symm : _ ∧ W = _))
  rw [h8z] at CA
  change Hid (∀ W, Calls Tryd.prog 36 #[.int .i64 (s.size : Int)] W fun e w' => e = .returned (.bool false) ∧ W = w') at CA
  have HZ := Lib.hid (idxO_lib s)
  have HV := Lib.hid (decode_valid s)
  have HC := Lib.hid (decode_cover s)
  have CH := Lib.hid idxRune_high
  have CLOW := Lib.hid (fun (r : Int) (W : World) h0 h1 => Any.strings_IndexRune_ascii (P := Tryd.prog) (ρ := Tryd.lays153_ren) { Tryd.lays153 with } odd3 r W h0 h1 |>.mono fun _ _ h => (And.intro h.1 h.2.symm : _ ∧ W = _))
  change Hid (∀ (r : Int) (W : World), 0 ≤ r → r < 128 → Calls Tryd.prog 35 #[.string odd3, .int .i32 r] W fun e w' => e = .returned (.int .i64 (Lib.indexByte odd3.data.toList r.toNat.toUInt8)) ∧ W = w') at CLOW
  obtain ⟨o, ho⟩ : ∃ o, odd3 = o := ⟨_, rfl⟩
  have hemp : o.toList.isEmpty = false := by rw [← ho]; exact str_some (by decide)
  have hn1 : ((o.size : Int) == 1) = false := by rw [← ho]; rfl
  have hoz : o.size = 3 := by rw [← ho]; rfl
  have HX : Hid (∀ x : UInt8, o.data.toList.contains x = decide (0 ≤ Lib.indexByte o.data.toList x)) := Lib.hid (fun x => Lib.contains_iff_indexByte o.data.toList x)
  have HN0 : Hid (∀ {i n : Nat}, Lib.NoAny s.data.toList o.data.toList i → (∀ j, i ≤ j → j < i + n → 128 ≤ (s.get! j).toNat) → Lib.NoAny s.data.toList o.data.toList (i + n)) := by rw [← ho]; exact Lib.hid (fun h h' => noAny_over h h')
  rw [ho] at CH CLOW HZ ⊢
  clear h8z ho
  go_enter Tryd.func25, Tryd.ntmps25
  go_wp2_with fail
  refine (CA.out _).mono ?_
  rintro e w' ⟨rfl, rfl⟩
  go_wp2_with fail
  go_loopw [9, 10] (fun _ _ wx => ∃ i : Nat, i ≤ s.size ∧ Hid (Lib.NoAny s.data.toList o.data.toList i) ∧ wx.heap[w.heap.size]? = some (.stringIter s i) ∧ Below w.heap.size w wx) (fun _ _ wx => s.size - wx.iterPos w.heap.size)
  case atStart => exact ⟨0, Nat.zero_le _, Lib.hid (Lib.NoAny.zero _ _), World.iter_heap _ _ _, (Below.refl _ _).alloc (Nat.le_refl _) _⟩
  case round =>
    obtain ⟨i, hi, HN, hk, hb⟩ := hrel
    have hlw := hb.size
    have hlw2 : w.heap.size < wr.heap.size := (Array.getElem?_eq_some_iff.1 hk).1
    have HKK := Lib.hid hk
    by_cases hlt : i < s.size
    · obtain ⟨x, hx⟩ : ∃ x : UInt8, s[i]'hlt = x := ⟨_, rfl⟩
      have hxl : s.data.toList[i]? = some x := by rw [← hx]; exact Lib.data_getElem? s i hlt
      have Hx := Lib.hid hxl
      have HI := Lib.hid (fun p => Lib.iterAt_heap wr w.heap.size s i p hk)
      have HB := Lib.hid (fun p => Lib.below_iterAt hb (Nat.le_refl _) s p)
      have HS := Lib.hid (fun p => Lib.iterAt_size wr w.heap.size s p)
      by_cases ha : x.toNat < 128
      · have hnx := fun ty => Lib.run_next_ascii_at (P := Tryd.prog) wr w.heap.size s i ty hk hlt (by rw [hx]; exact ha)
        rw [hx] at hnx
        have C := Lib.hid (fun W => CLOW.out (x.toNat : Int) W (by omega) (by omega))
        have hcon := HX.out x
        rw [show ((x.toNat : Int)).toNat.toUInt8 = x by simp] at C
        clear hxl hx ha hk
        cases hin : o.data.toList.contains x
        · rw [hin] at hcon
          have hl : ¬ ((0 : Int) ≤ Lib.indexByte o.data.toList x) := of_decide_eq_false hcon.symm
          have HN' := Lib.hid (Lib.NoAny.succ HN.out Hx.out hin)
          clear hcon hin
          go_wp2_with fail
          refine (C.out _).mono ?_
          rintro e w' ⟨rfl, rfl⟩
          go_wp2_with fail
          go_roundw
          case rel => exact ⟨i + 1, by omega, HN', HI.out _, HB.out _⟩
          case measure =>
            have e1 := HI.out (i + 1)
            simp only [World.iterPos]
            rw [e1, HKK.out]
            simp
            omega
        · rw [hin] at hcon
          have hl : (0 : Int) ≤ Lib.indexByte o.data.toList x := of_decide_eq_true hcon.symm
          have HE := Lib.hid (Lib.indexAny_hit HN.out Hx.out hin)
          clear hcon hin
          go_wp2_with fail
          refine (C.out _).mono ?_
          rintro e w' ⟨rfl, rfl⟩
          go_wp2_with fail
          go_ret
          exact ⟨by rw [← HZ.out, HE.out]; rfl, HB.out _⟩
      · have hnx := fun ty => Lib.run_next_any_at (P := Tryd.prog) wr w.heap.size s i ty hk hlt
        obtain ⟨hd1, hd2⟩ := decode_high s i hlt (by rw [hx]; omega)
        have hd3 := decode_le s i
        have hd4 := HV.out i
        obtain ⟨hc1, hc2⟩ := HC.out i hlt (by rw [hx]; omega)
        have HN' := Lib.hid (HN0.out HN.out hc2)
        obtain ⟨⟨c, n⟩, hcn⟩ : ∃ d, Utf8.decode s i = d := ⟨_, rfl⟩
        rw [hcn] at hnx hd1 hd2 hd3 hd4 hc1 HN'
        simp only at hnx hd1 hd2 hd3 hd4 hc1 HN'
        have C := Lib.hid (fun W => CH.out c W hd1 hd3 hd4)
        clear hxl hx ha hk hcn hc2 hd1 hd3 hd4
        go_wp2_with fail
        refine (C.out _).mono ?_
        rintro e w' ⟨rfl, b1⟩
        have hI1 := HI.out (i + n)
        have hI2 : w'.heap[w.heap.size]? = some (.stringIter s (i + n)) := (b1.block _ (by rw [HS.out]; omega)).trans hI1
        have hB2 := (HB.out (i + n)).trans (b1.mono (by rw [HS.out]; exact hlw))
        go_wp2_with fail
        go_roundw
        case rel => exact ⟨i + n, hc1, HN', hI2, hB2⟩
        case measure =>
          simp only [World.iterPos]
          rw [hI2, HKK.out]
          simp
          omega
    · obtain rfl : i = s.size := by omega
      have hnx := fun ty => Lib.run_next_end_at (P := Tryd.prog) wr w.heap.size s s.size ty hk (Nat.lt_irrefl _)
      have HE := Lib.hid (Lib.indexAny_none (by rw [list_size]; exact HN.out))
      clear hk
      go_wp2_with fail
      go_ret
      exact ⟨by rw [← HZ.out, HE.out]; rfl, hb⟩

theorem idxAny_any (s : ByteArray) (w : World) (hs : s.size ≤ 2147483648) :
    Calls Tryd.prog 25 #[.string s, .string odd3] w fun e w' => e = .returned (.int .i64 (idxO s)) ∧ Below w.heap.size w w' := by
  by_cases h8 : s.size ≤ 8
  · exact idxAny_short s w h8
  · have h116 : (Tryd.prog.info? (Tryd.lays153_ren.t 116)).map (fun i => (i.zero, i.size)) = some (some (.agg (Array.replicate 256 (.bool false))), 256) := by kernel_rfl
    refine (Any.strings_IndexAny_long (P := Tryd.prog) (ρ := Tryd.lays153_ren) { Tryd.lays153 with } (zero_of_info h116).1 (zero_of_info h116).2 s odd3 w (by decide) (by omega) (by omega) (by decide) ?_).mono ?_
    · intro j b hb
      match j with
      | 0 => obtain rfl : 0 = b := Option.some.inj hb; decide
      | 1 => obtain rfl : 10 = b := Option.some.inj hb; decide
      | 2 => obtain rfl : 13 = b := Option.some.inj hb; decide
      | j + 3 => cases hb
    · rintro e w' ⟨h1, rfl⟩
      exact ⟨by rw [h1, idxO_lib], ((Below.refl _ _).alloc (Nat.le_refl _) _).alloc (by simp) _⟩
end Go.Proofs.YtccgpemcdbcjeaaDoor.Pp
