/-
Texts joined in one file, each with its own conditions: strings.IndexAny of the bytes that no value has, at any text: its answer is the plain function's. Conditions: the text has at most 2^31 bytes. · The program's questions about parameters' values, parameters and a property's value: the answers are the plain functions'. Conditions: a property's value has at most 2^31 bytes. · What is wrong with a property, as the program says it: the answer is the plain function's. Conditions: its parameters lie where the slice says, below the caller's blocks; at most 2^40 of them. · The letter at a text's beginning, by cases of its first byte: plain arithmetic. No program in it, no conditions. · Plain functions on bytes: letters bit by bit, and that their bytes are those of the pieces of four letters. No program in it, no conditions.
-/
import Derived.Test.YtjgfbicllgalkaaGreatDoorJ13
import Derived.Test.YtjgfbicllgalkaaGreatDoorJ01
import Derived.Test.YtjgfbicllgalkaaGreatDoorShelf
import Derived.BigQuiet
import Derived.Lib.OthersKept
namespace Go.Proofs.YtjgfbicllgalkaaGreatDoor.Pp
set_option maxRecDepth 100000
open Go.RowKit

theorem ixb_any (s : ByteArray) (c : UInt8) (w : World) :
    Calls Tryz.prog 262 #[.string s, .int .u8 (c.toNat : Int)] w fun e w' => e = .returned (.int .i64 (Lib.indexByte s.data.toList c)) ∧ w = w' :=
  (Tryz.strings_IndexByte s (c.toNat : Int) w).mono fun e w' ⟨h1, h2⟩ => ⟨by rw [h1]; congr 3; simp, h2.symm⟩
theorem validRune_any (c : Nat) (w : World) (h : c ≤ 2147483647) (hv : Utf8.valid (c : Int) = true) :
    Calls Tryz.prog 278 #[.int .i32 (c : Int)] w fun e w' => e = .returned (.bool true) ∧ w = w' := by
  unfold Utf8.valid at hv
  rw [Bool.or_eq_true, Bool.and_eq_true, Bool.and_eq_true, decide_eq_true_eq, decide_eq_true_eq, decide_eq_true_eq, decide_eq_true_eq] at hv
  rcases hv with hv | hv
  · have h1 : decide ((c : Int) < 55296) = true := decide_eq_true (by omega)
    have h2 : decide ((0 : Int) ≤ (c : Int)) = true := decide_eq_true (by omega)
    clear hv h
    go_enter Tryz.func278, Tryz.ntmps278
    go_wp2_with fail
    go_ret
    exact ⟨rfl, rfl⟩
  · have h1 : decide ((c : Int) < 55296) = false := decide_eq_false (by omega)
    have h2 : decide ((0 : Int) ≤ (c : Int)) = true := decide_eq_true (by omega)
    have h3 : decide ((57343 : Int) < (c : Int)) = true := decide_eq_true (by omega)
    have h4 : decide ((c : Int) ≤ 1114111) = true := decide_eq_true (by omega)
    clear hv h
    go_enter Tryz.func278, Tryz.ntmps278
    go_wp2_with fail
    go_ret
    exact ⟨rfl, rfl⟩
theorem odd_low : ∀ x ∈ odd3.data.toList, x.toNat < 128 := by decide
theorem odd_low1 : ∀ x ∈ (⟨#[10, 13]⟩ : ByteArray).data.toList, x.toNat < 128 := by decide

set_option maxHeartbeats 2000000 in
/-- IndexRune of a letter that is no ASCII: none of the three. -/
theorem idxRune_high (c : Nat) (w : World) (hc : 128 ≤ c) (hm : c ≤ 2147483647) (hv : Utf8.valid (c : Int) = true) :
    Calls Tryz.prog 247 #[.string odd3, .int .i32 (c : Int)] w fun e w' => e = .returned (.int .i64 (-1)) ∧ Below w.heap.size w w' := by
  have d0 : decide ((0 : Int) ≤ (c : Int)) = true := decide_eq_true (by omega)
  have d1 : decide ((c : Int) < 128) = false := decide_eq_false (by omega)
  by_cases he : c = 65533
  · subst he
    clear d0 d1 hc hm hv
    unfold odd3
    go_enter Tryz.func247, Tryz.ntmps247
    go_wp2_with fail
    go_loopw [5, 6] (fun _ _ wr => ∃ i : Nat, i ≤ 3 ∧ wr = w.iter (⟨#[0, 10, 13]⟩ : ByteArray) i) (fun _ _ wr => 3 - wr.iterPos w.heap.size)
    case atStart => exact ⟨0, by omega, rfl⟩
    case round =>
      obtain ⟨i, hi, rfl⟩ := hrel
      rcases (by omega : i = 0 ∨ i = 1 ∨ i = 2 ∨ i = 3) with rfl | rfl | rfl | rfl
      · have hnx := fun ty => run_next_ascii (P := Tryz.prog) w (⟨#[0, 10, 13]⟩ : ByteArray) 0 ty (by decide) (by decide)
        go_wp2_with fail
        go_roundw
        case rel => exact ⟨1, by omega, rfl⟩
        case measure => simp
      · have hnx := fun ty => run_next_ascii (P := Tryz.prog) w (⟨#[0, 10, 13]⟩ : ByteArray) 1 ty (by decide) (by decide)
        go_wp2_with fail
        go_roundw
        case rel => exact ⟨2, by omega, rfl⟩
        case measure => simp
      · have hnx := fun ty => run_next_ascii (P := Tryz.prog) w (⟨#[0, 10, 13]⟩ : ByteArray) 2 ty (by decide) (by decide)
        go_wp2_with fail
        go_roundw
        case rel => exact ⟨3, by omega, rfl⟩
        case measure => simp
      · have hnx := run_next_end (P := Tryz.prog) w (⟨#[0, 10, 13]⟩ : ByteArray) 3
        go_wp2_with fail
        go_ret
        exact ⟨rfl, (Below.refl _ _).alloc (Nat.le_refl _) _⟩
  · have d2 : ((c : Int) == 65533) = false := beq_eq_false_iff_ne.2 (by omega)
    have CV := Lib.hid (fun W => validRune_any c W hm hv)
    rcases encode_high c hc hv with ⟨a, b, h, hb⟩ | ⟨a, b, d, h, hb⟩ | ⟨a, b, d, x, h, hb⟩
    · have hcv : ∀ W, (convert 21 9 (.int .i32 (c : Int))).run Tryz.prog W = .ok (.string ⟨#[a, b]⟩) W := fun W => by simp [convert, Conv.intToString, go_sem, h]
      have hne : ((((⟨#[0, 10, 13]⟩ : ByteArray)[1]'(by decide : 1 < 3)).toNat : Int) != (((⟨#[a, b]⟩ : ByteArray)[1]'(by decide : 1 < 2)).toNat : Int)) = true := bne_iff_ne.2 (show ¬ (10 : Int) = (b.toNat : Int) by omega)
      have CI := Lib.hid (fun W => ixb_any ⟨#[13]⟩ ((⟨#[a, b]⟩ : ByteArray)[1]'(by decide : 1 < 2)) W)
      rw [index_high _ ((⟨#[a, b]⟩ : ByteArray)[1]'(by decide : 1 < 2)) (by decide) hb] at CI
      clear hv hc hm he h hb
      unfold odd3
      go_enter Tryz.func247, Tryz.ntmps247
      go_wp2_with fail
      refine (CV.out _).mono ?_
      rintro e w' ⟨rfl, rfl⟩
      go_wp2_with fail
      go_step3
      go_wp2_with fail
      go_loop [9, 10] (fun iv fv => iv = .int .i64 1 ∧ fv = .int .i64 0) (fun _ _ => 0)
      case atStart => exact ⟨rfl, rfl⟩
      case round =>
        obtain ⟨rfl, rfl⟩ := hrel
        go_wp2_with fail
        go_step3
        go_wp2_with fail
        go_quiet (fail)
        go_wp2_with fail
        have hw1 : IntKind.i64.wrap 2 = 2 := by decide
        have hsl : ∀ W, (Instr.slice 9 (.string ⟨#[0, 10, 13]⟩) (some (.int .i64 2)) none none).run Tryz.prog W = .ok (.string ⟨#[13]⟩) W := fun W => by simp [Instr.slice, go_sem]; first | rfl | decide
        have hsl2 : ∀ W, (Instr.slice 9 (.string ⟨#[0, 10, 13]⟩) (some (.int .i64 (IntKind.i64.wrap 2))) none none).run Tryz.prog W = .ok (.string ⟨#[13]⟩) W := fun W => by rw [hw1]; exact hsl W
        go_quiet ((go_at_call 262; exact (CI.out _).mono (fun _ _ h => ⟨h.1, _, h.2.symm⟩)))
        go_wp2_with fail
        rw [Exit.noGoto_ret]
        repeat (first | rw [Exit.noGoto_ret] | (change Exit.noGoto _ Exit.ret _ _; rw [Exit.noGoto_ret]))
        go_ret
        exact ⟨rfl, ⟨rfl, rfl, rfl, Nat.le_refl _, fun _ _ => rfl⟩⟩
    · have hcv : ∀ W, (convert 21 9 (.int .i32 (c : Int))).run Tryz.prog W = .ok (.string ⟨#[a, b, d]⟩) W := fun W => by simp [convert, Conv.intToString, go_sem, h]
      have hne : ((((⟨#[0, 10, 13]⟩ : ByteArray)[2]'(by decide : 2 < 3)).toNat : Int) != (((⟨#[a, b, d]⟩ : ByteArray)[2]'(by decide : 2 < 3)).toNat : Int)) = true := bne_iff_ne.2 (show ¬ (13 : Int) = (d.toNat : Int) by omega)
      have CI := Lib.hid (fun W => ixb_any ⟨#[]⟩ ((⟨#[a, b, d]⟩ : ByteArray)[2]'(by decide : 2 < 3)) W)
      rw [index_high _ ((⟨#[a, b, d]⟩ : ByteArray)[2]'(by decide : 2 < 3)) (by decide) hb] at CI
      clear hv hc hm he h hb
      unfold odd3
      go_enter Tryz.func247, Tryz.ntmps247
      go_wp2_with fail
      refine (CV.out _).mono ?_
      rintro e w' ⟨rfl, rfl⟩
      go_wp2_with fail
      go_step3
      go_wp2_with fail
      go_loop [9, 10] (fun iv fv => iv = .int .i64 2 ∧ fv = .int .i64 0) (fun _ _ => 0)
      case atStart => exact ⟨rfl, rfl⟩
      case round =>
        obtain ⟨rfl, rfl⟩ := hrel
        go_wp2_with fail
        go_step3
        go_wp2_with fail
        go_quiet (fail)
        go_wp2_with fail
        have hw1 : IntKind.i64.wrap 3 = 3 := by decide
        have hsl : ∀ W, (Instr.slice 9 (.string ⟨#[0, 10, 13]⟩) (some (.int .i64 3)) none none).run Tryz.prog W = .ok (.string ⟨#[]⟩) W := fun W => by simp [Instr.slice, go_sem]; first | rfl | decide
        have hsl2 : ∀ W, (Instr.slice 9 (.string ⟨#[0, 10, 13]⟩) (some (.int .i64 (IntKind.i64.wrap 3))) none none).run Tryz.prog W = .ok (.string ⟨#[]⟩) W := fun W => by rw [hw1]; exact hsl W
        go_quiet ((go_at_call 262; exact (CI.out _).mono (fun _ _ h => ⟨h.1, _, h.2.symm⟩)))
        go_wp2_with fail
        rw [Exit.noGoto_ret]
        repeat (first | rw [Exit.noGoto_ret] | (change Exit.noGoto _ Exit.ret _ _; rw [Exit.noGoto_ret]))
        go_ret
        exact ⟨rfl, ⟨rfl, rfl, rfl, Nat.le_refl _, fun _ _ => rfl⟩⟩
    · have hcv : ∀ W, (convert 21 9 (.int .i32 (c : Int))).run Tryz.prog W = .ok (.string ⟨#[a, b, d, x]⟩) W := fun W => by simp [convert, Conv.intToString, go_sem, h]
      clear hv hc hm he h hb
      unfold odd3
      go_enter Tryz.func247, Tryz.ntmps247
      go_wp2_with fail
      refine (CV.out _).mono ?_
      rintro e w' ⟨rfl, rfl⟩
      go_wp2_with fail
      go_step3
      go_wp2_with fail
      go_loop [9, 10] (fun iv fv => iv = .int .i64 3 ∧ fv = .int .i64 0) (fun _ _ => 0)
      case atStart => exact ⟨rfl, rfl⟩
      case round =>
        obtain ⟨rfl, rfl⟩ := hrel
        go_wp2_with fail
        go_ret
        exact ⟨rfl, Below.refl _ _⟩

theorem at_get {s : ByteArray} {i : Nat} (h : i < s.size) : s.get! i = s[i] := by have e := get_at s i h; rw [Nat.add_zero] at e; exact e
theorem noAny_over {s : ByteArray} {i n : Nat} (h : Lib.NoAny s.data.toList odd3.data.toList i) (hc : ∀ j, i ≤ j → j < i + n → 128 ≤ (s.get! j).toNat) : Lib.NoAny s.data.toList odd3.data.toList (i + n) := by
  intro j b hj hb
  by_cases hji : j < i
  · exact h j b hji hb
  · have hg := get_list s j b hb
    have := hc j (by omega) hj
    rw [hg] at this
    rw [odd3_has]; unfold oddb; rw [decide_eq_false (by omega)]
set_option maxHeartbeats 4000000 in
theorem idxAny_short (s : ByteArray) (w : World) (h8 : s.size ≤ 8) :
    Calls Tryz.prog 228 #[.string s, .string odd3] w fun e w' => e = .returned (.int .i64 (idxO s)) ∧ Below w.heap.size w w' := by
  have h8z : decide ((8 : Int) < (s.size : Int)) = false := decide_eq_false (by omega)
  have CA := Lib.hid (fun W => Any.strings_shouldUseASCIISet (P := Tryz.prog) (ρ := Tryz.lays153_ren) { Tryz.lays153 with } (s.size : Int) W |>.mono fun _ _ h => (And.intro h.1 h.2.symm : _ ∧ W = _))
  rw [h8z] at CA
  change Hid (∀ W, Calls Tryz.prog 263 #[.int .i64 (s.size : Int)] W fun e w' => e = .returned (.bool false) ∧ W = w') at CA
  have HZ := Lib.hid (idxO_lib s)
  have HV := Lib.hid (decode_valid s)
  have HC := Lib.hid (decode_cover s)
  have CH := Lib.hid idxRune_high
  have CLOW := Lib.hid (fun (r : Int) (W : World) h0 h1 => Any.strings_IndexRune_ascii (P := Tryz.prog) (ρ := Tryz.lays153_ren) { Tryz.lays153 with } odd3 r W h0 h1 |>.mono fun _ _ h => (And.intro h.1 h.2.symm : _ ∧ W = _))
  change Hid (∀ (r : Int) (W : World), 0 ≤ r → r < 128 → Calls Tryz.prog 247 #[.string odd3, .int .i32 r] W fun e w' => e = .returned (.int .i64 (Lib.indexByte odd3.data.toList r.toNat.toUInt8)) ∧ W = w') at CLOW
  obtain ⟨o, ho⟩ : ∃ o, odd3 = o := ⟨_, rfl⟩
  have hemp : o.toList.isEmpty = false := by rw [← ho]; exact str_some (by decide)
  have hn1 : ((o.size : Int) == 1) = false := by rw [← ho]; rfl
  have hoz : o.size = 3 := by rw [← ho]; rfl
  have HX : Hid (∀ x : UInt8, o.data.toList.contains x = decide (0 ≤ Lib.indexByte o.data.toList x)) := Lib.hid (fun x => Lib.contains_iff_indexByte o.data.toList x)
  have HN0 : Hid (∀ {i n : Nat}, Lib.NoAny s.data.toList o.data.toList i → (∀ j, i ≤ j → j < i + n → 128 ≤ (s.get! j).toNat) → Lib.NoAny s.data.toList o.data.toList (i + n)) := by rw [← ho]; exact Lib.hid (fun h h' => noAny_over h h')
  rw [ho] at CH CLOW HZ ⊢
  clear h8z ho
  go_enter Tryz.func228, Tryz.ntmps228
  go_wp2_with fail
  refine (CA.out _).mono ?_
  rintro e w' ⟨rfl, rfl⟩
  go_wp2_with fail
  go_loopw [9, 10] (fun _ _ wx => ∃ i : Nat, i ≤ s.size ∧ Hid (Lib.NoAny s.data.toList o.data.toList i) ∧ wx.heap[w.heap.size]? = some (.stringIter s i) ∧ Below w.heap.size w wx) (fun _ _ wx => s.size - wx.iterPos w.heap.size)
  case atStart => exact ⟨0, Nat.zero_le _, Lib.hid (Lib.NoAny.zero _ _), World.iter_heap _ _ _, (Below.refl _ _).alloc (Nat.le_refl _) _⟩
  case round =>
    obtain ⟨i, hi, HN, hk, hb⟩ := hrel
    have hlw := hb.size
    have hlw2 : w.heap.size < wr.heap.size := (Array.getElem?_eq_some_iff.1 hk).1
    have HKK := Lib.hid hk
    by_cases hlt : i < s.size
    · obtain ⟨x, hx⟩ : ∃ x : UInt8, s[i]'hlt = x := ⟨_, rfl⟩
      have hxl : s.data.toList[i]? = some x := by rw [← hx]; exact Lib.data_getElem? s i hlt
      have Hx := Lib.hid hxl
      have HI := Lib.hid (fun p => Lib.iterAt_heap wr w.heap.size s i p hk)
      have HB := Lib.hid (fun p => Lib.below_iterAt hb (Nat.le_refl _) s p)
      have HS := Lib.hid (fun p => Lib.iterAt_size wr w.heap.size s p)
      by_cases ha : x.toNat < 128
      · have hnx := fun ty => Lib.run_next_ascii_at (P := Tryz.prog) wr w.heap.size s i ty hk hlt (by rw [hx]; exact ha)
        rw [hx] at hnx
        have C := Lib.hid (fun W => CLOW.out (x.toNat : Int) W (by omega) (by omega))
        have hcon := HX.out x
        rw [show ((x.toNat : Int)).toNat.toUInt8 = x by simp] at C
        clear hxl hx ha hk
        cases hin : o.data.toList.contains x
        · rw [hin] at hcon
          have hl : ¬ ((0 : Int) ≤ Lib.indexByte o.data.toList x) := of_decide_eq_false hcon.symm
          have HN' := Lib.hid (Lib.NoAny.succ HN.out Hx.out hin)
          clear hcon hin
          go_wp2_with fail
          refine (C.out _).mono ?_
          rintro e w' ⟨rfl, rfl⟩
          go_wp2_with fail
          go_roundw
          case rel => exact ⟨i + 1, by omega, HN', HI.out _, HB.out _⟩
          case measure =>
            have e1 := HI.out (i + 1)
            simp only [World.iterPos]
            rw [e1, HKK.out]
            simp
            omega
        · rw [hin] at hcon
          have hl : (0 : Int) ≤ Lib.indexByte o.data.toList x := of_decide_eq_true hcon.symm
          have HE := Lib.hid (Lib.indexAny_hit HN.out Hx.out hin)
          clear hcon hin
          go_wp2_with fail
          refine (C.out _).mono ?_
          rintro e w' ⟨rfl, rfl⟩
          go_wp2_with fail
          go_ret
          exact ⟨by rw [← HZ.out, HE.out]; rfl, HB.out _⟩
      · have hnx := fun ty => Lib.run_next_any_at (P := Tryz.prog) wr w.heap.size s i ty hk hlt
        obtain ⟨hd1, hd2⟩ := decode_high s i hlt (by rw [hx]; omega)
        have hd3 := decode_le s i
        have hd4 := HV.out i
        obtain ⟨hc1, hc2⟩ := HC.out i hlt (by rw [hx]; omega)
        have HN' := Lib.hid (HN0.out HN.out hc2)
        obtain ⟨⟨c, n⟩, hcn⟩ : ∃ d, Utf8.decode s i = d := ⟨_, rfl⟩
        rw [hcn] at hnx hd1 hd2 hd3 hd4 hc1 HN'
        simp only at hnx hd1 hd2 hd3 hd4 hc1 HN'
        have C := Lib.hid (fun W => CH.out c W hd1 hd3 hd4)
        clear hxl hx ha hk hcn hc2 hd1 hd3 hd4
        go_wp2_with fail
        refine (C.out _).mono ?_
        rintro e w' ⟨rfl, b1⟩
        have hI1 := HI.out (i + n)
        have hI2 : w'.heap[w.heap.size]? = some (.stringIter s (i + n)) := (b1.block _ (by rw [HS.out]; omega)).trans hI1
        have hB2 := (HB.out (i + n)).trans (b1.mono (by rw [HS.out]; exact hlw))
        go_wp2_with fail
        go_roundw
        case rel => exact ⟨i + n, hc1, HN', hI2, hB2⟩
        case measure =>
          simp only [World.iterPos]
          rw [hI2, HKK.out]
          simp
          omega
    · obtain rfl : i = s.size := by omega
      have hnx := fun ty => Lib.run_next_end_at (P := Tryz.prog) wr w.heap.size s s.size ty hk (Nat.lt_irrefl _)
      have HE := Lib.hid (Lib.indexAny_none (by rw [list_size]; exact HN.out))
      clear hk
      go_wp2_with fail
      go_ret
      exact ⟨by rw [← HZ.out, HE.out]; rfl, hb⟩

theorem idxAny_any (s : ByteArray) (w : World) (hs : s.size ≤ 2147483648) :
    Calls Tryz.prog 228 #[.string s, .string odd3] w fun e w' => e = .returned (.int .i64 (idxO s)) ∧ Below w.heap.size w w' := by
  by_cases h8 : s.size ≤ 8
  · exact idxAny_short s w h8
  · have h116 : (Tryz.prog.info? (Tryz.lays153_ren.t 116)).map (fun i => (i.zero, i.size)) = some (some (.agg (Array.replicate 256 (.bool false))), 256) := by kernel_rfl
    refine (Any.strings_IndexAny_long (P := Tryz.prog) (ρ := Tryz.lays153_ren) { Tryz.lays153 with } (zero_of_info h116).1 (zero_of_info h116).2 s odd3 w (by decide) (by omega) (by omega) (by decide) ?_).mono ?_
    · intro j b hb
      match j with
      | 0 => obtain rfl : 0 = b := Option.some.inj hb; decide
      | 1 => obtain rfl : 10 = b := Option.some.inj hb; decide
      | 2 => obtain rfl : 13 = b := Option.some.inj hb; decide
      | j + 3 => cases hb
    · rintro e w' ⟨h1, rfl⟩
      exact ⟨by rw [h1, idxO_lib], ((Below.refl _ _).alloc (Nat.le_refl _) _).alloc (by simp) _⟩
end Go.Proofs.YtjgfbicllgalkaaGreatDoor.Pp

namespace Go.Proofs.YtjgfbicllgalkaaGreatDoor.Pp
set_option maxRecDepth 100000
open Go.RowKit

/-- The bytes by which a line is parted. -/
def part3 : ByteArray := ⟨#[59, 61, 58]⟩
theorem part3_has (x : UInt8) : decide (0 ≤ Lib.indexByte part3.data.toList x) = decide ((x.toNat : Int) = 59 ∨ (x.toNat : Int) = 61 ∨ (x.toNat : Int) = 58) := by
  rw [← Lib.contains_iff_indexByte]
  unfold part3
  rw [Bool.eq_iff_iff]
  simp only [List.contains_cons, List.contains_nil, Bool.or_false, Bool.or_eq_true, beq_iff_eq, decide_eq_true_eq]
  have e : ∀ c : UInt8, x = c ↔ (x.toNat : Int) = (c.toNat : Int) := fun c => ⟨fun h => by rw [h], fun h => UInt8.toNat_inj.1 (by omega)⟩
  rw [e 59, e 61, e 58]
  rfl

set_option maxHeartbeats 1600000 in
theorem pVal_any (s : ByteArray) (w : World) :
    Calls Tryz.prog 227 #[.string s] w fun e w' => e = .returned (.bool (valB s)) ∧ w = w' := by
  by_cases hz : s.size = 0
  · rw [valB_none hz]
    have hs0 := str_none hz
    go_enter Tryz.func227, Tryz.ntmps227
    go_wp2_with fail
    go_ret
    exact ⟨rfl, rfl⟩
  have hs0 := str_some hz
  by_cases hl : 32 < (s.size : Int)
  · rw [valB_long (by omega)]
    go_enter Tryz.func227, Tryz.ntmps227
    go_wp2_with fail
    go_ret
    exact ⟨rfl, rfl⟩
  rw [valB_some (by omega) (by omega)]
  obtain ⟨r, hr⟩ : ∃ r, s.data.toList.all valc = r := ⟨_, rfl⟩
  rw [hr]
  have HE := Lib.hid (all_end (P := valc) (s := s))
  have CI := Lib.hid (fun c W => ixb_any part3 c W)
  have HP := Lib.hid part3_has
  unfold part3 at CI HP
  go_enter Tryz.func227, Tryz.ntmps227
  go_wp2_with fail
  go_loop [13] (fun iv => ∃ k : Nat, iv = .int .i64 k ∧ k ≤ s.size ∧ Hid ((s.data.toList.drop k).all valc = r)) (fun iv => s.size - (intOf iv).toNat)
  case atStart => exact ⟨0, rfl, Nat.zero_le _, Lib.hid (by rw [List.drop_zero]; exact hr)⟩
  case round =>
    obtain ⟨k, rfl, hk, HK⟩ := hrel
    clear hr
    by_cases hlt : k < s.size
    · have HN := Lib.hid (all_no (P := valc) hlt)
      have HY := Lib.hid (all_yes (P := valc) hlt)
      have C := Lib.hid (fun W => CI.out s[k] W)
      have hp := HP.out s[k]
      obtain ⟨c, hc⟩ : ∃ c : UInt8, s[k] = c := ⟨_, rfl⟩
      have hb := c.toNat_lt
      rw [hc] at HN HY C hp
      generalize Lib.indexByte _ c = z at C hp
      by_cases h1 : (c.toNat : Int) ≤ 32
      · obtain rfl : false = r := by rw [← HK.out]; exact (HN.out (by unfold valc; rw [decide_eq_false (by omega)])).symm
        clear hp
        go_wp2_with fail
        go_ret
        exact ⟨rfl, rfl⟩
      by_cases h2 : 126 < (c.toNat : Int)
      · obtain rfl : false = r := by rw [← HK.out]; exact (HN.out (by unfold valc; rw [decide_eq_false (by omega)])).symm
        clear hp
        go_wp2_with fail
        go_ret
        exact ⟨rfl, rfl⟩
      by_cases h3 : 0 ≤ z
      · rw [decide_eq_true h3] at hp
        have hp' := of_decide_eq_true hp.symm
        obtain rfl : false = r := by rw [← HK.out]; exact (HN.out (by unfold valc; rw [decide_eq_false (by omega)])).symm
        clear hp hp'
        go_wp2_with fail
        refine (C.out _).mono ?_
        rintro e w' ⟨rfl, rfl⟩
        go_wp2_with fail
        go_ret
        exact ⟨rfl, rfl⟩
      · rw [decide_eq_false h3] at hp
        have hp' := of_decide_eq_false hp.symm
        have HK' := Lib.hid ((HY.out (by unfold valc; rw [decide_eq_true (by omega)])).symm.trans HK.out)
        clear hp hp'
        go_wp2_with fail
        refine (C.out _).mono ?_
        rintro e w' ⟨rfl, rfl⟩
        go_wp2_with fail
        go_round
        case rel => exact ⟨k + 1, by go_num, by omega, HK'⟩
        case measure => simp [intOf]; omega
    · obtain rfl : k = s.size := by omega
      obtain rfl : true = r := by rw [← HK.out]; exact HE.out.symm
      go_wp2_with fail
      go_ret
      exact ⟨rfl, rfl⟩

set_option maxHeartbeats 400000 in
theorem noParam_any (n v : ByteArray) (w : World) :
    Calls Tryz.prog 173 #[.agg #[.string n, .string v]] w fun e w' => e = .returned (.bool (!paramB n v)) ∧ Below w.heap.size w w' := by
  have C1 := Lib.hid (fun W => pName_any n W)
  have C2 := Lib.hid (fun W => pVal_any v W)
  unfold paramB
  generalize nameB n = p at C1 ⊢
  generalize valB v = q at C2 ⊢
  by_cases hz : n.size = 0
  · have hs0 := str_none hz
    rw [decide_eq_true hz, Bool.true_or, Bool.true_and]
    go_enter Tryz.func173, Tryz.ntmps173
    go_wp2_with fail
    refine (C2.out _).mono ?_
    rintro e w' ⟨rfl, rfl⟩
    go_wp2_with fail
    go_ret
    exact ⟨rfl, (Below.refl _ _).alloc (Nat.le_refl _) _⟩
  · have hs0 := str_some hz
    rw [decide_eq_false hz, Bool.false_or]
    cases p with
    | false =>
      go_enter Tryz.func173, Tryz.ntmps173
      go_wp2_with fail
      refine (C1.out _).mono ?_
      rintro e w' ⟨rfl, rfl⟩
      go_wp2_with fail
      go_ret
      exact ⟨rfl, (Below.refl _ _).alloc (Nat.le_refl _) _⟩
    | true =>
      go_enter Tryz.func173, Tryz.ntmps173
      go_wp2_with fail
      refine (C1.out _).mono ?_
      rintro e w' ⟨rfl, rfl⟩
      go_wp2_with fail
      refine (C2.out _).mono ?_
      rintro e w' ⟨rfl, rfl⟩
      go_wp2_with fail
      go_ret
      exact ⟨rfl, (Below.refl _ _).alloc (Nat.le_refl _) _⟩

/-- What is wrong with a value: its place, and the number of the error. -/
def vfA (v : ByteArray) : Int := if 2400 < v.size then 0 else if 0 ≤ idxO v then idxO v else 0
def vfE (v : ByteArray) : Int := if 2400 < v.size then 8 else if 0 ≤ idxO v then 3 else 0
set_option maxHeartbeats 400000 in
theorem pFault_any (v : ByteArray) (w : World) (hv : v.size ≤ 9223372036854775807) :
    Calls Tryz.prog 174 #[.string v] w fun e w' => e = .returned (.tuple #[.int .i64 (vfA v), .int .i64 (vfE v)]) ∧ Below w.heap.size w w' := by
  by_cases h1 : 2400 < (v.size : Int)
  · rw [vfA, vfE, if_pos (by omega), if_pos (by omega)]
    go_enter Tryz.func174, Tryz.ntmps174
    go_wp2_with fail
    go_ret2
    exact ⟨rfl, Below.refl _ _⟩
  · rw [vfA, vfE, if_neg (show ¬ 2400 < v.size by omega), if_neg (show ¬ 2400 < v.size by omega)]
    have C := Lib.hid (fun W => idxAny_any v W (by omega))
    unfold odd3 at C
    generalize idxO v = z at C ⊢
    by_cases h2 : 0 ≤ z
    · rw [if_pos h2, if_pos h2]
      go_enter Tryz.func174, Tryz.ntmps174
      go_wp2_with fail
      refine (C.out _).mono ?_
      rintro e w' ⟨rfl, b1⟩
      go_wp2_with fail
      go_ret2
      exact ⟨rfl, b1⟩
    · rw [if_neg h2, if_neg h2]
      go_enter Tryz.func174, Tryz.ntmps174
      go_wp2_with fail
      refine (C.out _).mono ?_
      rintro e w' ⟨rfl, b1⟩
      go_wp2_with fail
      go_ret2
      exact ⟨rfl, b1⟩

set_option maxHeartbeats 800000 in
/-- No parameter is right, from place k on: the first that is not, or -1. -/
theorem indexFunc_any (pv : Value) (ps : List (ByteArray × ByteArray)) (w : World) (hps : Ps w w.heap.size pv ps) (hl : ps.length ≤ 1099511627776) :
    Calls Tryz.prog 175 #[pv, .func (.func 173) #[] #[]] w fun e w' => (∃ i : Int, e = .returned (.int .i64 i) ∧ decide (0 ≤ i) = !goodPs ps) ∧ Below w.heap.size w w' := by
  obtain ⟨pa, pc, rfl⟩ := hps.shape
  unfold goodPs
  obtain ⟨r, hr⟩ : ∃ r, (ps.all fun p => paramB p.1 p.2) = r := ⟨_, rfl⟩
  rw [hr]
  have CN := Lib.hid (fun n v W => noParam_any n v W)
  go_enter Tryz.func175, Tryz.ntmps175
  go_wp2_with fail
  go_loopw [8] (fun iv wr => ∃ k : Nat, k ≤ ps.length ∧ iv = .int .i64 k ∧ Below w.heap.size w wr ∧ Hid ((ps.drop k).all (fun p => paramB p.1 p.2) = r)) (fun iv _ => ps.length - (intOf iv).toNat)
  case atStart => exact ⟨0, Nat.zero_le _, rfl, Below.refl _ _, Lib.hid hr⟩
  case round =>
    obtain ⟨k, hk, rfl, hbel, HK⟩ := hrel
    clear hr
    by_cases hlt : k < ps.length
    · obtain ⟨b, o, cap, hv1, hbB, hc0, hc1⟩ := (hps.below hbel).at_ hlt
      simp only [Value.slice.injEq, true_and] at hv1
      obtain ⟨rfl, rfl⟩ := hv1
      have HN := Lib.hid (ps_no (P := fun p => paramB p.1 p.2) hlt)
      have HY := Lib.hid (ps_yes (P := fun p => paramB p.1 p.2) hlt)
      generalize ps[k] = x at hc0 hc1 HN HY
      obtain ⟨n', v'⟩ := x
      simp only at HN HY hc0 hc1
      have C := Lib.hid (fun W => CN.out n' v' W)
      cases hp : paramB n' v' <;> rw [hp] at C
      · obtain rfl : false = r := by rw [← HK.out]; exact (HN.out hp).symm
        go_wp2_with fail
        refine (C.out _).mono ?_
        rintro e w2 ⟨rfl, b2⟩
        go_wp2_with fail
        go_ret
        exact ⟨⟨_, rfl, by simp⟩, hbel.trans (b2.mono hbel.size)⟩
      · have HK' := Lib.hid ((HY.out hp).symm.trans HK.out)
        go_wp2_with fail
        refine (C.out _).mono ?_
        rintro e w2 ⟨rfl, b2⟩
        go_wp2_with fail
        go_roundw
        case rel => exact ⟨k + 1, by omega, by go_num, hbel.trans (b2.mono hbel.size), HK'⟩
        case measure => simp [intOf]; omega
    · obtain rfl : k = ps.length := by omega
      obtain rfl : true = r := by rw [← HK.out, List.drop_length]; rfl
      go_wp2_with fail
      go_ret
      exact ⟨⟨_, rfl, by simp⟩, hbel⟩
set_option maxHeartbeats 400000 in
theorem containsFunc_any (pv : Value) (ps : List (ByteArray × ByteArray)) (w : World) (hps : Ps w w.heap.size pv ps) (hl : ps.length ≤ 1099511627776) :
    Calls Tryz.prog 104 #[pv, .func (.func 173) #[] #[]] w fun e w' => e = .returned (.bool (!goodPs ps)) ∧ Below w.heap.size w w' := by
  have C := Lib.hid (indexFunc_any pv ps w hps hl)
  obtain ⟨pa, pc, rfl⟩ := hps.shape
  go_enter Tryz.func104, Tryz.ntmps104
  go_wp2_with fail
  refine C.out.mono ?_
  rintro e w2 ⟨⟨i, rfl, hi⟩, b2⟩
  have HI := Lib.hid hi
  clear hi
  go_wp2_with fail
  go_ret
  exact ⟨ret_bool HI.out, b2⟩
end Go.Proofs.YtjgfbicllgalkaaGreatDoor.Pp

namespace Go.Proofs.YtjgfbicllgalkaaGreatDoor.Pp
set_option maxRecDepth 100000
open Go.RowKit

theorem vfE_good (v : ByteArray) : vfE v = if 2400 < v.size then 8 else if goodV v = false then 3 else 0 := by
  unfold vfE
  by_cases h : 2400 < v.size
  · rw [if_pos h, if_pos h]
  · rw [if_neg h, if_neg h]
    have e : (0 ≤ idxO v) ↔ goodV v = false := by
      unfold idxO goodV
      rw [List.all_eq_false]
      by_cases hf : v.data.toList.findIdx oddb < v.size
      · rw [if_pos hf]
        refine ⟨fun _ => ?_, fun _ => by omega⟩
        have hl : v.data.toList.findIdx oddb < v.data.toList.length := by rw [list_size]; exact hf
        exact ⟨_, List.getElem_mem hl, by rw [List.findIdx_getElem (w := hl)]; simp⟩
      · rw [if_neg hf]
        refine ⟨fun h => by omega, ?_⟩
        rintro ⟨x, hx, hn⟩
        exact absurd (List.findIdx_lt_length_of_exists ⟨x, hx, by simpa using hn⟩) (by rw [list_size]; exact hf)
    by_cases h0 : 0 ≤ idxO v
    · rw [if_pos h0, if_pos (e.1 h0)]
    · rw [if_neg h0, if_neg (fun h => h0 (e.2 h))]

set_option maxHeartbeats 2000000 in
theorem pCheck_any (g n : ByteArray) (pv : Value) (v : ByteArray) (aa : Option Addr) (m ac : Nat) (ps : List (ByteArray × ByteArray)) (w : World) (hps : Ps w w.heap.size pv ps) (hl : ps.length ≤ 1099511627776) (hv : v.size ≤ 9223372036854775807) :
    Calls Tryz.prog 103 #[prV g n pv v (.slice aa m ac)] w fun e w' => e = .returned (.int .i64 (chk g n ps v m)) ∧ Below w.heap.size w w' := by
  obtain ⟨pa, pc, rfl⟩ := hps.shape
  unfold prV
  have HB : Below w.heap.size w (w.alloc (.cells #[.string g, .string n, .slice pa ps.length pc, .string v, .slice aa m ac] 56)) := (Below.refl _ _).alloc (Nat.le_refl _) _
  have HP := (hps.below HB).up HB.size
  have HA : PrAt (w.alloc (.cells #[.string g, .string n, .slice pa ps.length pc, .string v, .slice aa m ac] 56)) w.heap.size g n (.slice pa ps.length pc) v (.slice aa m ac) := heap_alloc_new w _
  have CC := Lib.hid (containsFunc_any _ ps _ HP hl)
  have CV := Lib.hid (fun W => pFault_any v W hv)
  obtain ⟨r, hr⟩ : ∃ r, chk g n ps v m = r := ⟨_, rfl⟩
  rw [hr]
  unfold chk goodNames at hr
  rw [← vfE_good v] at hr
  have C1 := Lib.hid (fun W => pName_any g W)
  have C2 := Lib.hid (fun W => pName_any n W)
  generalize nameB g = x at C1 hr
  generalize nameB n = y at C2 hr
  generalize goodPs ps = q at CC hr
  generalize vfE v = ve at CV hr
  generalize vfA v = va at CV
  clear hps HP
  by_cases hz : g.size = 0
  · have hs0 := str_none hz
    cases y with
    | false =>
      obtain rfl : 14 = r := by rw [← hr]; simp [hz]
      clear hr
      go_enter Tryz.func103, Tryz.ntmps103
      go_wp2_with fail
      refine (C2.out _).mono ?_
      rintro e w' ⟨rfl, rfl⟩
      go_wp2_with fail
      go_ret
      exact ⟨rfl, HB⟩
    | true =>
      by_cases h6 : 6 < (ps.length : Int)
      · obtain rfl : 4 = r := by rw [← hr, if_neg (by simp [hz]), if_pos (by omega)]
        clear hr
        go_enter Tryz.func103, Tryz.ntmps103
        go_wp2_with fail
        refine (C2.out _).mono ?_
        rintro e w' ⟨rfl, rfl⟩
        go_wp2_with fail
        go_ret
        exact ⟨rfl, HB⟩
      rw [if_neg (by simp [hz]), if_neg (show ¬ 6 < ps.length by omega)] at hr
      cases q with
      | false =>
        obtain rfl : 3 = r := by rw [← hr]; rfl
        clear hr
        go_enter Tryz.func103, Tryz.ntmps103
        go_wp2_with fail
        refine (C2.out _).mono ?_
        rintro e w' ⟨rfl, rfl⟩
        go_wp2_with fail
        refine CC.out.mono ?_
        rintro e w2 ⟨rfl, b2⟩
        have HA2 := HA.below b2
        have B2 := HB.trans (b2.mono HB.size)
        have k4 := HA2.c4
        have k3 := HA2.c3
        go_wp2_with fail
        go_ret
        exact ⟨rfl, B2⟩
      | true =>
        rw [if_neg (by simp)] at hr
        by_cases hm : 0 < (m : Int)
        · obtain rfl : 5 = r := by rw [← hr, if_pos (by omega)]
          clear hr
          go_enter Tryz.func103, Tryz.ntmps103
          go_wp2_with fail
          refine (C2.out _).mono ?_
          rintro e w' ⟨rfl, rfl⟩
          go_wp2_with fail
          refine CC.out.mono ?_
          rintro e w2 ⟨rfl, b2⟩
          have HA2 := HA.below b2
          have B2 := HB.trans (b2.mono HB.size)
          have k4 := HA2.c4
          have k3 := HA2.c3
          go_wp2_with fail
          go_ret
          exact ⟨rfl, B2⟩
        rw [if_neg (show ¬ 0 < m by omega)] at hr
        subst hr
        go_enter Tryz.func103, Tryz.ntmps103
        go_wp2_with fail
        refine (C2.out _).mono ?_
        rintro e w' ⟨rfl, rfl⟩
        go_wp2_with fail
        refine CC.out.mono ?_
        rintro e w2 ⟨rfl, b2⟩
        have HA2 := HA.below b2
        have B2 := HB.trans (b2.mono HB.size)
        have k4 := HA2.c4
        have k3 := HA2.c3
        go_wp2_with fail
        refine (CV.out _).mono ?_
        rintro e w3 ⟨rfl, b3⟩
        go_wp2_with fail
        go_ret
        exact ⟨rfl, B2.trans (b3.mono B2.size)⟩
  have hs0 := str_some hz
  cases x with
  | false =>
    obtain rfl : 14 = r := by rw [← hr]; simp [hz]
    clear hr
    go_enter Tryz.func103, Tryz.ntmps103
    go_wp2_with fail
    refine (C1.out _).mono ?_
    rintro e w' ⟨rfl, rfl⟩
    go_wp2_with fail
    go_ret
    exact ⟨rfl, HB⟩
  | true =>
    cases y with
    | false =>
      obtain rfl : 14 = r := by rw [← hr]; simp [hz]
      clear hr
      go_enter Tryz.func103, Tryz.ntmps103
      go_wp2_with fail
      refine (C1.out _).mono ?_
      rintro e w' ⟨rfl, rfl⟩
      go_wp2_with fail
      refine (C2.out _).mono ?_
      rintro e w' ⟨rfl, rfl⟩
      go_wp2_with fail
      go_ret
      exact ⟨rfl, HB⟩
    | true =>
      by_cases h6 : 6 < (ps.length : Int)
      · obtain rfl : 4 = r := by rw [← hr, if_neg (by simp [hz]), if_pos (by omega)]
        clear hr
        go_enter Tryz.func103, Tryz.ntmps103
        go_wp2_with fail
        refine (C1.out _).mono ?_
        rintro e w' ⟨rfl, rfl⟩
        go_wp2_with fail
        refine (C2.out _).mono ?_
        rintro e w' ⟨rfl, rfl⟩
        go_wp2_with fail
        go_ret
        exact ⟨rfl, HB⟩
      rw [if_neg (by simp [hz]), if_neg (show ¬ 6 < ps.length by omega)] at hr
      cases q with
      | false =>
        obtain rfl : 3 = r := by rw [← hr]; rfl
        clear hr
        go_enter Tryz.func103, Tryz.ntmps103
        go_wp2_with fail
        refine (C1.out _).mono ?_
        rintro e w' ⟨rfl, rfl⟩
        go_wp2_with fail
        refine (C2.out _).mono ?_
        rintro e w' ⟨rfl, rfl⟩
        go_wp2_with fail
        refine CC.out.mono ?_
        rintro e w2 ⟨rfl, b2⟩
        have HA2 := HA.below b2
        have B2 := HB.trans (b2.mono HB.size)
        have k4 := HA2.c4
        have k3 := HA2.c3
        go_wp2_with fail
        go_ret
        exact ⟨rfl, B2⟩
      | true =>
        rw [if_neg (by simp)] at hr
        by_cases hm : 0 < (m : Int)
        · obtain rfl : 5 = r := by rw [← hr, if_pos (by omega)]
          clear hr
          go_enter Tryz.func103, Tryz.ntmps103
          go_wp2_with fail
          refine (C1.out _).mono ?_
          rintro e w' ⟨rfl, rfl⟩
          go_wp2_with fail
          refine (C2.out _).mono ?_
          rintro e w' ⟨rfl, rfl⟩
          go_wp2_with fail
          refine CC.out.mono ?_
          rintro e w2 ⟨rfl, b2⟩
          have HA2 := HA.below b2
          have B2 := HB.trans (b2.mono HB.size)
          have k4 := HA2.c4
          have k3 := HA2.c3
          go_wp2_with fail
          go_ret
          exact ⟨rfl, B2⟩
        rw [if_neg (show ¬ 0 < m by omega)] at hr
        subst hr
        go_enter Tryz.func103, Tryz.ntmps103
        go_wp2_with fail
        refine (C1.out _).mono ?_
        rintro e w' ⟨rfl, rfl⟩
        go_wp2_with fail
        refine (C2.out _).mono ?_
        rintro e w' ⟨rfl, rfl⟩
        go_wp2_with fail
        refine CC.out.mono ?_
        rintro e w2 ⟨rfl, b2⟩
        have HA2 := HA.below b2
        have B2 := HB.trans (b2.mono HB.size)
        have k4 := HA2.c4
        have k3 := HA2.c3
        go_wp2_with fail
        refine (CV.out _).mono ?_
        rintro e w3 ⟨rfl, b3⟩
        go_wp2_with fail
        go_ret
        exact ⟨rfl, B2.trans (b3.mono B2.size)⟩
end Go.Proofs.YtjgfbicllgalkaaGreatDoor.Pp

namespace Go.Proofs.YtjgfbicllgalkaaGreatDoor.Cs
open Go.Lib

/-- The letter at a text's beginning, and how many bytes it has; 0: it is none. -/
def oneP (l : List UInt8) : Nat × Nat := if l = [] then (0, 0) else if bad l = true then (0, 0) else decodeL l
def oneN (n b0 b1 b2 b3 : Nat) : Nat × Nat := if (decodeN n b0 b1 b2 b3).1 = 65533 ∧ (decodeN n b0 b1 b2 b3).2 = 1 then (0, 0) else decodeN n b0 b1 b2 b3
theorem oneP_N {l : List UInt8} (h : l ≠ []) : oneP l = oneN l.length (l.getD 0 0).toNat (l.getD 1 0).toNat (l.getD 2 0).toNat (l.getD 3 0).toNat := by
  unfold oneP oneN bad
  rw [if_neg h, decodeL_N]
  simp only [decide_eq_true_eq]
theorem one0 {n b0 b1 b2 b3 : Nat} (h : b0 < 128) : oneN n b0 b1 b2 b3 = (b0, 1) := by
  unfold oneN decodeN
  rw [if_pos h, if_neg (fun e => by have : b0 = 65533 := e.1; omega)]
theorem oneX {n b0 b1 b2 b3 : Nat} (h : (128 ≤ b0 ∧ b0 < 192) ∨ (248 ≤ b0 ∧ b0 < 256)) : oneN n b0 b1 b2 b3 = (0, 0) := by
  unfold oneN
  rw [show decodeN n b0 b1 b2 b3 = (65533, 1) by unfold decodeN; rw [if_neg (by omega), if_neg (by omega), if_neg (by omega), if_neg (by omega)]]
  rfl
theorem one2 {n b0 b1 b2 b3 : Nat} (h : 192 ≤ b0 ∧ b0 < 224) (h1 : b1 < 256) :
    oneN n b0 b1 b2 b3 = if n < 2 ∨ (b1 < 128 ∨ 192 ≤ b1) ∨ 64 * (b0 % 32) + b1 % 64 < 128 then (0, 0) else (64 * (b0 % 32) + b1 % 64, 2) := by
  unfold oneN
  by_cases c : n < 2 ∨ (b1 < 128 ∨ 192 ≤ b1) ∨ 64 * (b0 % 32) + b1 % 64 < 128
  · rw [if_pos c, show decodeN n b0 b1 b2 b3 = (65533, 1) by
      unfold decodeN
      repeat' split
      all_goals first | rfl | (exfalso; omega)]
    rfl
  · rw [if_neg c, show decodeN n b0 b1 b2 b3 = (64 * (b0 % 32) + b1 % 64, 2) by
      unfold decodeN
      repeat' split
      all_goals first | (exfalso; omega) | (apply Prod.ext <;> simp only <;> omega)]
    rw [if_neg (fun e => by have := e.2; simp at this)]
theorem one3 {n b0 b1 b2 b3 : Nat} (h : 224 ≤ b0 ∧ b0 < 240) (h1 : b1 < 256) (h2 : b2 < 256) :
    oneN n b0 b1 b2 b3 = if n < 3 ∨ (b1 < 128 ∨ 192 ≤ b1) ∨ (b2 < 128 ∨ 192 ≤ b2) ∨ 64 * (64 * (b0 % 16) + b1 % 64) + b2 % 64 < 2048 ∨ (55296 ≤ 64 * (64 * (b0 % 16) + b1 % 64) + b2 % 64 ∧ 64 * (64 * (b0 % 16) + b1 % 64) + b2 % 64 < 57344) then (0, 0) else (64 * (64 * (b0 % 16) + b1 % 64) + b2 % 64, 3) := by
  unfold oneN
  by_cases c : n < 3 ∨ (b1 < 128 ∨ 192 ≤ b1) ∨ (b2 < 128 ∨ 192 ≤ b2) ∨ 64 * (64 * (b0 % 16) + b1 % 64) + b2 % 64 < 2048 ∨ (55296 ≤ 64 * (64 * (b0 % 16) + b1 % 64) + b2 % 64 ∧ 64 * (64 * (b0 % 16) + b1 % 64) + b2 % 64 < 57344)
  · rw [if_pos c, show decodeN n b0 b1 b2 b3 = (65533, 1) by
      unfold decodeN
      repeat' split
      all_goals first | rfl | (exfalso; omega)]
    rfl
  · rw [if_neg c, show decodeN n b0 b1 b2 b3 = (64 * (64 * (b0 % 16) + b1 % 64) + b2 % 64, 3) by
      unfold decodeN
      repeat' split
      all_goals first | (exfalso; omega) | (apply Prod.ext <;> simp only <;> omega)]
    rw [if_neg (fun e => by have := e.2; simp at this)]
theorem one4 {n b0 b1 b2 b3 : Nat} (h : 240 ≤ b0 ∧ b0 < 248) (h1 : b1 < 256) (h2 : b2 < 256) (h3 : b3 < 256) :
    oneN n b0 b1 b2 b3 = if n < 4 ∨ (b1 < 128 ∨ 192 ≤ b1) ∨ (b2 < 128 ∨ 192 ≤ b2) ∨ (b3 < 128 ∨ 192 ≤ b3) ∨ 64 * (64 * (64 * (b0 % 8) + b1 % 64) + b2 % 64) + b3 % 64 < 65536 ∨ 1114111 < 64 * (64 * (64 * (b0 % 8) + b1 % 64) + b2 % 64) + b3 % 64 then (0, 0) else (64 * (64 * (64 * (b0 % 8) + b1 % 64) + b2 % 64) + b3 % 64, 4) := by
  unfold oneN
  by_cases c : n < 4 ∨ (b1 < 128 ∨ 192 ≤ b1) ∨ (b2 < 128 ∨ 192 ≤ b2) ∨ (b3 < 128 ∨ 192 ≤ b3) ∨ 64 * (64 * (64 * (b0 % 8) + b1 % 64) + b2 % 64) + b3 % 64 < 65536 ∨ 1114111 < 64 * (64 * (64 * (b0 % 8) + b1 % 64) + b2 % 64) + b3 % 64
  · rw [if_pos c, show decodeN n b0 b1 b2 b3 = (65533, 1) by
      unfold decodeN
      repeat' split
      all_goals first | rfl | (exfalso; omega)]
    rfl
  · rw [if_neg c, show decodeN n b0 b1 b2 b3 = (64 * (64 * (64 * (b0 % 8) + b1 % 64) + b2 % 64) + b3 % 64, 4) by
      unfold decodeN
      repeat' split
      all_goals first | (exfalso; omega) | (apply Prod.ext <;> simp only <;> omega)]
    rw [if_neg (fun e => by have := e.2; simp at this)]
end Go.Proofs.YtjgfbicllgalkaaGreatDoor.Cs

namespace Go.Proofs.YtjgfbicllgalkaaGreatDoor.Sx
open Go.RowKit

/-- A letter's six bits. -/
def six (c : UInt8) : List Nat := [w6 c / 32 % 2, w6 c / 16 % 2, w6 c / 8 % 2, w6 c / 4 % 2, w6 c / 2 % 2, w6 c % 2]
/-- The bits of the letters ahead of a pad. -/
def bitsOf : List UInt8 → List Nat
  | [] => []
  | c :: r => if c = 61 then [] else six c ++ bitsOf r
/-- What bits are worth. -/
def val (l : List Nat) : Nat := l.foldl (fun n b => 2 * n + b) 0
/-- Bits as bytes, and those that are left. -/
def by8 (l : List Nat) : List UInt8 := if _h : 8 ≤ l.length then UInt8.ofNat (val (l.take 8)) :: by8 (l.drop 8) else []
termination_by l.length
decreasing_by rw [List.length_drop]; omega
def rest8 (l : List Nat) : List Nat := if _h : 8 ≤ l.length then rest8 (l.drop 8) else l
termination_by l.length
decreasing_by rw [List.length_drop]; omega
theorem by8_yes {l : List Nat} (h : 8 ≤ l.length) : by8 l = UInt8.ofNat (val (l.take 8)) :: by8 (l.drop 8) := by rw [by8, dif_pos h]
theorem by8_no {l : List Nat} (h : ¬ 8 ≤ l.length) : by8 l = [] := by rw [by8, dif_neg h]
theorem rest8_yes {l : List Nat} (h : 8 ≤ l.length) : rest8 l = rest8 (l.drop 8) := by rw [rest8, dif_pos h]
theorem rest8_no {l : List Nat} (h : ¬ 8 ≤ l.length) : rest8 l = l := by rw [rest8, dif_neg h]
theorem by8_cons (a b c d e f g h : Nat) (r : List Nat) : by8 (a :: b :: c :: d :: e :: f :: g :: h :: r) = UInt8.ofNat (128 * a + 64 * b + 32 * c + 16 * d + 8 * e + 4 * f + 2 * g + h) :: by8 r := by
  rw [by8_yes (by simp)]
  congr 1
  congr 1
  show 2 * (2 * (2 * (2 * (2 * (2 * (2 * (2 * 0 + a) + b) + c) + d) + e) + f) + g) + h = _
  omega
theorem rest8_cons (a b c d e f g h : Nat) (r : List Nat) : rest8 (a :: b :: c :: d :: e :: f :: g :: h :: r) = rest8 r := by
  rw [rest8_yes (by simp)]; rfl
theorem six_le (c : UInt8) : ∀ b ∈ six c, b ≤ 1 := by
  intro b hb; unfold six at hb
  simp at hb; omega
theorem bits_le : ∀ l, ∀ b ∈ bitsOf l, b ≤ 1
  | [], b, hb => by cases hb
  | c :: r, b, hb => by
    unfold bitsOf at hb
    split at hb
    · cases hb
    · rcases List.mem_append.1 hb with h | h
      · exact six_le c b h
      · exact bits_le r b h
theorem bits_length : ∀ l, (bitsOf l).length ≤ 6 * l.length
  | [] => by simp [bitsOf]
  | c :: r => by
    unfold bitsOf
    split
    · simp
    · rw [List.length_append, List.length_cons]; have := bits_length r; simp [six]; omega
theorem val_snoc (l : List Nat) (b : Nat) : val (l ++ [b]) = 2 * val l + b := by unfold val; rw [List.foldl_append]; rfl
theorem val_lt (l : List Nat) (h : ∀ b ∈ l, b ≤ 1) : ∀ j, j ≤ l.length → val (l.take j) < 2 ^ j := by
  intro j
  induction j with
  | zero => intro _; simp [val]
  | succ j ih =>
    intro hj
    rw [List.take_succ_eq_append_getElem (by omega), val_snoc, Nat.pow_succ]
    have := ih (by omega)
    have := h l[j] (List.getElem_mem _)
    omega
theorem byte_a {a b : Nat} (ha : a < 64) (hb : b < 64) : 128 * (a / 32 % 2) + 64 * (a / 16 % 2) + 32 * (a / 8 % 2) + 16 * (a / 4 % 2) + 8 * (a / 2 % 2) + 4 * (a % 2) + 2 * (b / 32 % 2) + b / 16 % 2 = a * 4 + b / 16 := by omega
theorem byte_b {b c : Nat} (hc : c < 64) : 128 * (b / 8 % 2) + 64 * (b / 4 % 2) + 32 * (b / 2 % 2) + 16 * (b % 2) + 8 * (c / 32 % 2) + 4 * (c / 16 % 2) + 2 * (c / 8 % 2) + c / 4 % 2 = b % 16 * 16 + c / 4 := by omega
theorem byte_c {c d : Nat} (hd : d < 64) : 128 * (c / 2 % 2) + 64 * (c % 2) + 32 * (d / 32 % 2) + 16 * (d / 16 % 2) + 8 * (d / 8 % 2) + 4 * (d / 4 % 2) + 2 * (d / 2 % 2) + d % 2 = c % 4 * 64 + d := by omega
theorem no_pad {c : UInt8} (h : isL c = true) : ¬ c = 61 := by rintro rfl; have := isP_not _ h; simp [isP] at this
theorem bits_yes {c : UInt8} (r : List UInt8) (h : isL c = true) : bitsOf (c :: r) = six c ++ bitsOf r := by rw [bitsOf, if_neg (no_pad h)]
theorem bits_pad (r : List UInt8) : bitsOf (61 :: r) = [] := by rw [bitsOf, if_pos rfl]
theorem ofNat_zero {n : Nat} (h : n < 256) : (UInt8.ofNat n == 0) = (n == 0) := by
  rw [Bool.eq_iff_iff, beq_iff_eq, beq_iff_eq, ← UInt8.toNat_inj, UInt8.toNat_ofNat_of_lt' h]; rfl
theorem tri_four (a b c d : UInt8) : tri [a, b, c, d] = [UInt8.ofNat (w6 a * 4 + w6 b / 16), UInt8.ofNat (w6 b % 16 * 16 + w6 c / 4), UInt8.ofNat (w6 c % 4 * 64 + w6 d)] := rfl
theorem tri_three (a b c : UInt8) : tri [a, b, c] = [UInt8.ofNat (w6 a * 4 + w6 b / 16), UInt8.ofNat (w6 b % 16 * 16 + w6 c / 4), UInt8.ofNat (w6 c % 4 * 64)] := rfl
theorem tri_two (a b : UInt8) : tri [a, b] = [UInt8.ofNat (w6 a * 4 + w6 b / 16), UInt8.ofNat (w6 b % 16 * 16), 0] := by simp [tri, gn]
theorem dec_bits : ∀ t, flt 0 false t = 0 → by8 (bitsOf t) = ((cut 4 t).map good).flatten ∧ (rest8 (bitsOf t)).any (fun b => b != 0) = (cut 4 t).any bad := by
  refine cut_induct (k := 4) (by decide) (fun _ => ?_) fun t h0 ih h => ?_
  · rw [cut_nil, show bitsOf [] = [] from rfl, by8_no (by simp), rest8_no (by simp)]; exact ⟨rfl, rfl⟩
  · obtain ⟨a, b, c, d, r, rfl, ⟨a', b', c', d', he, ha, hb, ho⟩, hr, hp⟩ := flt_group h h0
    obtain ⟨rfl, rfl, rfl, rfl⟩ : a = a' ∧ b = b' ∧ c = c' ∧ d = d' := by simpa using he
    have na := w6_lt a
    have nb := w6_lt b
    have nc := w6_lt c
    have nd := w6_lt d
    rw [cut_step (by decide) h0, show (a :: b :: c :: d :: r).drop 4 = r from rfl, show (a :: b :: c :: d :: r).take 4 = [a, b, c, d] from rfl] at *
    rw [List.map_cons, List.flatten_cons, List.any_cons]
    rcases ho with ⟨hc, hd⟩ | ⟨hc, rfl⟩ | ⟨rfl, rfl⟩
    · obtain ⟨i1, i2⟩ := ih hr
      rw [bits_yes _ ha, bits_yes _ hb, bits_yes _ hc, bits_yes _ hd]
      simp only [six, List.cons_append, List.nil_append]
      rw [by8_cons, by8_cons, by8_cons, rest8_cons, rest8_cons, rest8_cons, i1, i2, byte_a na nb, byte_b nc, byte_c nd]
      obtain ⟨g1, g2⟩ := (good_n (x := [a, b, c, d]) (by rw [said_4 hd]; exact tri_four a b c d)).2.2 (by rw [said_4 hd]; rfl)
      rw [g1, g2]
      exact ⟨rfl, rfl⟩
    · obtain rfl := hp rfl
      rw [bits_yes _ ha, bits_yes _ hb, bits_yes _ hc, bits_pad, cut_nil]
      simp only [six, List.cons_append, List.nil_append]
      rw [by8_cons, by8_cons, rest8_cons, rest8_cons, by8_no (by simp), rest8_no (by simp), byte_a na nb, byte_b nc]
      obtain ⟨g1, g2⟩ := (good_n (x := [a, b, c, 61]) (by rw [said_3 hc]; exact tri_three a b c)).2.1 (by rw [said_3 hc]; rfl)
      rw [g1, g2]
      refine ⟨rfl, ?_⟩
      rw [UInt8.toNat_ofNat_of_lt' (by show _ < 256; omega)]
      simp
      rw [Bool.eq_iff_iff]; simp; omega
    · obtain rfl := hp rfl
      rw [bits_yes _ ha, bits_yes _ hb, bits_pad, cut_nil]
      simp only [six, List.cons_append, List.nil_append]
      rw [by8_cons, rest8_cons, by8_no (by simp), rest8_no (by simp), byte_a na nb]
      obtain ⟨g1, g2⟩ := (good_n (x := [a, b, 61, 61]) (by rw [said_2 hb]; exact tri_two a b)).1 (by rw [said_2 hb]; rfl)
      rw [g1, g2]
      refine ⟨rfl, ?_⟩
      rw [UInt8.toNat_ofNat_of_lt' (by show _ < 256; omega)]
      simp
      rw [Bool.eq_iff_iff]; simp; omega
end Go.Proofs.YtjgfbicllgalkaaGreatDoor.Sx
