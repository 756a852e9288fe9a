/-
Texts joined in one file, each with its own conditions: strings.IndexAny of the bytes that no value has, at any text: its answer is the plain function's. Conditions: the text has at most 2^31 bytes. · The program's questions about parameters' values, parameters and a property's value: the answers are the plain functions'. Conditions: a property's value has at most 2^31 bytes. · What is wrong with a property, as the program says it: the answer is the plain function's. Conditions: its parameters lie where the slice says, below the caller's blocks; at most 2^40 of them. · Plain functions on bytes: letters that were written are read again, whole and in lines. No program in it, no conditions. · The letter at a text's beginning, by cases of its first byte: plain arithmetic. No program in it, no conditions. · A property's line, as the program prints it. Conditions: the parameters lie below the caller's blocks, at most 2^40 of them; the value has at most 2^40 bytes.
-/
import Derived.Test.YtpdodknldhbbhaaGreatDoorJ17
import Derived.Test.YtpdodknldhbbhaaGreatDoorJ02
import Derived.Test.YtpdodknldhbbhaaGreatDoorShelf
import Derived.BigQuiet
import Derived.Lib.OthersKept
import Derived.Test.YtpdodknldhbbhaaGreatDoorJ10
namespace Go.Proofs.YtpdodknldhbbhaaGreatDoor.Pp
set_option maxRecDepth 100000
open Go.RowKit

theorem ixb_any (s : ByteArray) (c : UInt8) (w : World) :
    Calls Tryz.prog 165 #[.string s, .int .u8 (c.toNat : Int)] w fun e w' => e = .returned (.int .i64 (Lib.indexByte s.data.toList c)) ∧ w = w' :=
  (Tryz.strings_IndexByte s (c.toNat : Int) w).mono fun e w' ⟨h1, h2⟩ => ⟨by rw [h1]; congr 3; simp, h2.symm⟩
theorem validRune_any (c : Nat) (w : World) (h : c ≤ 2147483647) (hv : Utf8.valid (c : Int) = true) :
    Calls Tryz.prog 181 #[.int .i32 (c : Int)] w fun e w' => e = .returned (.bool true) ∧ w = w' := by
  unfold Utf8.valid at hv
  rw [Bool.or_eq_true, Bool.and_eq_true, Bool.and_eq_true, decide_eq_true_eq, decide_eq_true_eq, decide_eq_true_eq, decide_eq_true_eq] at hv
  rcases hv with hv | hv
  · have h1 : decide ((c : Int) < 55296) = true := decide_eq_true (by omega)
    have h2 : decide ((0 : Int) ≤ (c : Int)) = true := decide_eq_true (by omega)
    clear hv h
    go_enter Tryz.func181, Tryz.ntmps181
    go_wp2_with fail
    go_ret
    exact ⟨rfl, rfl⟩
  · have h1 : decide ((c : Int) < 55296) = false := decide_eq_false (by omega)
    have h2 : decide ((0 : Int) ≤ (c : Int)) = true := decide_eq_true (by omega)
    have h3 : decide ((57343 : Int) < (c : Int)) = true := decide_eq_true (by omega)
    have h4 : decide ((c : Int) ≤ 1114111) = true := decide_eq_true (by omega)
    clear hv h
    go_enter Tryz.func181, Tryz.ntmps181
    go_wp2_with fail
    go_ret
    exact ⟨rfl, rfl⟩
set_option maxHeartbeats 2000000 in
/-- IndexRune of a letter that is no ASCII: none of the three. -/
theorem idxRune_high (c : Nat) (w : World) (hc : 128 ≤ c) (hm : c ≤ 2147483647) (hv : Utf8.valid (c : Int) = true) :
    Calls Tryz.prog 161 #[.string odd3, .int .i32 (c : Int)] w fun e w' => e = .returned (.int .i64 (-1)) ∧ Below w.heap.size w w' := by
  have d0 : decide ((0 : Int) ≤ (c : Int)) = true := decide_eq_true (by omega)
  have d1 : decide ((c : Int) < 128) = false := decide_eq_false (by omega)
  by_cases he : c = 65533
  · subst he
    clear d0 d1 hc hm hv
    unfold odd3
    go_enter Tryz.func161, Tryz.ntmps161
    go_wp2_with fail
    go_loopw [5, 6] (fun _ _ wr => ∃ i : Nat, i ≤ 3 ∧ wr = w.iter (⟨#[0, 10, 13]⟩ : ByteArray) i) (fun _ _ wr => 3 - wr.iterPos w.heap.size)
    case atStart => exact ⟨0, by omega, rfl⟩
    case round =>
      obtain ⟨i, hi, rfl⟩ := hrel
      rcases (by omega : i = 0 ∨ i = 1 ∨ i = 2 ∨ i = 3) with rfl | rfl | rfl | rfl
      · have hnx := fun ty => run_next_ascii (P := Tryz.prog) w (⟨#[0, 10, 13]⟩ : ByteArray) 0 ty (by decide) (by decide)
        go_wp2_with fail
        go_roundw
        case rel => exact ⟨1, by omega, rfl⟩
        case measure => simp
      · have hnx := fun ty => run_next_ascii (P := Tryz.prog) w (⟨#[0, 10, 13]⟩ : ByteArray) 1 ty (by decide) (by decide)
        go_wp2_with fail
        go_roundw
        case rel => exact ⟨2, by omega, rfl⟩
        case measure => simp
      · have hnx := fun ty => run_next_ascii (P := Tryz.prog) w (⟨#[0, 10, 13]⟩ : ByteArray) 2 ty (by decide) (by decide)
        go_wp2_with fail
        go_roundw
        case rel => exact ⟨3, by omega, rfl⟩
        case measure => simp
      · have hnx := run_next_end (P := Tryz.prog) w (⟨#[0, 10, 13]⟩ : ByteArray) 3
        go_wp2_with fail
        go_ret
        exact ⟨rfl, (Below.refl _ _).alloc (Nat.le_refl _) _⟩
  · have d2 : ((c : Int) == 65533) = false := beq_eq_false_iff_ne.2 (by omega)
    have CV := Lib.hid (fun W => validRune_any c W hm hv)
    rcases encode_high c hc hv with ⟨a, b, h, hb⟩ | ⟨a, b, d, h, hb⟩ | ⟨a, b, d, x, h, hb⟩
    · have hcv : ∀ W, (convert 21 9 (.int .i32 (c : Int))).run Tryz.prog W = .ok (.string ⟨#[a, b]⟩) W := fun W => by simp [convert, Conv.intToString, go_sem, h]
      have hne : ((((⟨#[0, 10, 13]⟩ : ByteArray)[1]'(by decide : 1 < 3)).toNat : Int) != (((⟨#[a, b]⟩ : ByteArray)[1]'(by decide : 1 < 2)).toNat : Int)) = true := bne_iff_ne.2 (show ¬ (10 : Int) = (b.toNat : Int) by omega)
      have CI := Lib.hid (fun W => ixb_any ⟨#[13]⟩ ((⟨#[a, b]⟩ : ByteArray)[1]'(by decide : 1 < 2)) W)
      rw [index_high _ ((⟨#[a, b]⟩ : ByteArray)[1]'(by decide : 1 < 2)) (by decide) hb] at CI
      clear hv hc hm he h hb
      unfold odd3
      go_enter Tryz.func161, Tryz.ntmps161
      go_wp2_with fail
      refine (CV.out _).mono ?_
      rintro e w' ⟨rfl, rfl⟩
      go_wp2_with fail
      go_step3
      go_wp2_with fail
      go_loop [9, 10] (fun iv fv => iv = .int .i64 1 ∧ fv = .int .i64 0) (fun _ _ => 0)
      case atStart => exact ⟨rfl, rfl⟩
      case round =>
        obtain ⟨rfl, rfl⟩ := hrel
        go_wp2_with fail
        go_step3
        go_wp2_with fail
        go_quiet (fail)
        go_wp2_with fail
        have hw1 : IntKind.i64.wrap 2 = 2 := by decide
        have hsl : ∀ W, (Instr.slice 9 (.string ⟨#[0, 10, 13]⟩) (some (.int .i64 2)) none none).run Tryz.prog W = .ok (.string ⟨#[13]⟩) W := fun W => by simp [Instr.slice, go_sem]; first | rfl | decide
        have hsl2 : ∀ W, (Instr.slice 9 (.string ⟨#[0, 10, 13]⟩) (some (.int .i64 (IntKind.i64.wrap 2))) none none).run Tryz.prog W = .ok (.string ⟨#[13]⟩) W := fun W => by rw [hw1]; exact hsl W
        go_quiet ((go_at_call 165; exact (CI.out _).mono (fun _ _ h => ⟨h.1, _, h.2.symm⟩)))
        go_wp2_with fail
        rw [Exit.noGoto_ret]
        repeat (first | rw [Exit.noGoto_ret] | (change Exit.noGoto _ Exit.ret _ _; rw [Exit.noGoto_ret]))
        go_ret
        exact ⟨rfl, ⟨rfl, rfl, rfl, Nat.le_refl _, fun _ _ => rfl⟩⟩
    · have hcv : ∀ W, (convert 21 9 (.int .i32 (c : Int))).run Tryz.prog W = .ok (.string ⟨#[a, b, d]⟩) W := fun W => by simp [convert, Conv.intToString, go_sem, h]
      have hne : ((((⟨#[0, 10, 13]⟩ : ByteArray)[2]'(by decide : 2 < 3)).toNat : Int) != (((⟨#[a, b, d]⟩ : ByteArray)[2]'(by decide : 2 < 3)).toNat : Int)) = true := bne_iff_ne.2 (show ¬ (13 : Int) = (d.toNat : Int) by omega)
      have CI := Lib.hid (fun W => ixb_any ⟨#[]⟩ ((⟨#[a, b, d]⟩ : ByteArray)[2]'(by decide : 2 < 3)) W)
      rw [index_high _ ((⟨#[a, b, d]⟩ : ByteArray)[2]'(by decide : 2 < 3)) (by decide) hb] at CI
      clear hv hc hm he h hb
      unfold odd3
      go_enter Tryz.func161, Tryz.ntmps161
      go_wp2_with fail
      refine (CV.out _).mono ?_
      rintro e w' ⟨rfl, rfl⟩
      go_wp2_with fail
      go_step3
      go_wp2_with fail
      go_loop [9, 10] (fun iv fv => iv = .int .i64 2 ∧ fv = .int .i64 0) (fun _ _ => 0)
      case atStart => exact ⟨rfl, rfl⟩
      case round =>
        obtain ⟨rfl, rfl⟩ := hrel
        go_wp2_with fail
        go_step3
        go_wp2_with fail
        go_quiet (fail)
        go_wp2_with fail
        have hw1 : IntKind.i64.wrap 3 = 3 := by decide
        have hsl : ∀ W, (Instr.slice 9 (.string ⟨#[0, 10, 13]⟩) (some (.int .i64 3)) none none).run Tryz.prog W = .ok (.string ⟨#[]⟩) W := fun W => by simp [Instr.slice, go_sem]; first | rfl | decide
        have hsl2 : ∀ W, (Instr.slice 9 (.string ⟨#[0, 10, 13]⟩) (some (.int .i64 (IntKind.i64.wrap 3))) none none).run Tryz.prog W = .ok (.string ⟨#[]⟩) W := fun W => by rw [hw1]; exact hsl W
        go_quiet ((go_at_call 165; exact (CI.out _).mono (fun _ _ h => ⟨h.1, _, h.2.symm⟩)))
        go_wp2_with fail
        rw [Exit.noGoto_ret]
        repeat (first | rw [Exit.noGoto_ret] | (change Exit.noGoto _ Exit.ret _ _; rw [Exit.noGoto_ret]))
        go_ret
        exact ⟨rfl, ⟨rfl, rfl, rfl, Nat.le_refl _, fun _ _ => rfl⟩⟩
    · have hcv : ∀ W, (convert 21 9 (.int .i32 (c : Int))).run Tryz.prog W = .ok (.string ⟨#[a, b, d, x]⟩) W := fun W => by simp [convert, Conv.intToString, go_sem, h]
      clear hv hc hm he h hb
      unfold odd3
      go_enter Tryz.func161, Tryz.ntmps161
      go_wp2_with fail
      refine (CV.out _).mono ?_
      rintro e w' ⟨rfl, rfl⟩
      go_wp2_with fail
      go_step3
      go_wp2_with fail
      go_loop [9, 10] (fun iv fv => iv = .int .i64 3 ∧ fv = .int .i64 0) (fun _ _ => 0)
      case atStart => exact ⟨rfl, rfl⟩
      case round =>
        obtain ⟨rfl, rfl⟩ := hrel
        go_wp2_with fail
        go_ret
        exact ⟨rfl, Below.refl _ _⟩

theorem noAny_over {s : ByteArray} {i n : Nat} (h : Lib.NoAny s.data.toList odd3.data.toList i) (hc : ∀ j, i ≤ j → j < i + n → 128 ≤ (s.get! j).toNat) : Lib.NoAny s.data.toList odd3.data.toList (i + n) := by
  intro j b hj hb
  by_cases hji : j < i
  · exact h j b hji hb
  · have hg := get_list s j b hb
    have := hc j (by omega) hj
    rw [hg] at this
    rw [odd3_has]; unfold oddb; rw [decide_eq_false (by omega)]
set_option maxHeartbeats 4000000 in
theorem idxAny_short (s : ByteArray) (w : World) (h8 : s.size ≤ 8) :
    Calls Tryz.prog 142 #[.string s, .string odd3] w fun e w' => e = .returned (.int .i64 (idxO s)) ∧ Below w.heap.size w w' := by
  have h8z : decide ((8 : Int) < (s.size : Int)) = false := decide_eq_false (by omega)
  have CA := Lib.hid (fun W => Any.strings_shouldUseASCIISet (P := Tryz.prog) (ρ := Tryz.lays153_ren) { Tryz.lays153 with } (s.size : Int) W |>.mono fun _ _ h => (And.intro h.1 h.2.symm : _ ∧ W = _))
  rw [h8z] at CA
  change Hid (∀ W, Calls Tryz.prog 166 #[.int .i64 (s.size : Int)] W fun e w' => e = .returned (.bool false) ∧ W = w') at CA
  have HZ := Lib.hid (idxO_lib s)
  have HV := Lib.hid (decode_valid s)
  have HC := Lib.hid (decode_cover s)
  have CH := Lib.hid idxRune_high
  have CLOW := Lib.hid (fun (r : Int) (W : World) h0 h1 => Any.strings_IndexRune_ascii (P := Tryz.prog) (ρ := Tryz.lays153_ren) { Tryz.lays153 with } odd3 r W h0 h1 |>.mono fun _ _ h => (And.intro h.1 h.2.symm : _ ∧ W = _))
  change Hid (∀ (r : Int) (W : World), 0 ≤ r → r < 128 → Calls Tryz.prog 161 #[.string odd3, .int .i32 r] W fun e w' => e = .returned (.int .i64 (Lib.indexByte odd3.data.toList r.toNat.toUInt8)) ∧ W = w') at CLOW
  obtain ⟨o, ho⟩ : ∃ o, odd3 = o := ⟨_, rfl⟩
  have hemp : o.toList.isEmpty = false := by rw [← ho]; exact str_some (by decide)
  have hn1 : ((o.size : Int) == 1) = false := by rw [← ho]; rfl
  have hoz : o.size = 3 := by rw [← ho]; rfl
  have HX : Hid (∀ x : UInt8, o.data.toList.contains x = decide (0 ≤ Lib.indexByte o.data.toList x)) := Lib.hid (fun x => Lib.contains_iff_indexByte o.data.toList x)
  have HN0 : Hid (∀ {i n : Nat}, Lib.NoAny s.data.toList o.data.toList i → (∀ j, i ≤ j → j < i + n → 128 ≤ (s.get! j).toNat) → Lib.NoAny s.data.toList o.data.toList (i + n)) := by rw [← ho]; exact Lib.hid (fun h h' => noAny_over h h')
  rw [ho] at CH CLOW HZ ⊢
  clear h8z ho
  go_enter Tryz.func142, Tryz.ntmps142
  go_wp2_with fail
  refine (CA.out _).mono ?_
  rintro e w' ⟨rfl, rfl⟩
  go_wp2_with fail
  go_loopw [9, 10] (fun _ _ wx => ∃ i : Nat, i ≤ s.size ∧ Hid (Lib.NoAny s.data.toList o.data.toList i) ∧ wx.heap[w.heap.size]? = some (.stringIter s i) ∧ Below w.heap.size w wx) (fun _ _ wx => s.size - wx.iterPos w.heap.size)
  case atStart => exact ⟨0, Nat.zero_le _, Lib.hid (Lib.NoAny.zero _ _), World.iter_heap _ _ _, (Below.refl _ _).alloc (Nat.le_refl _) _⟩
  case round =>
    obtain ⟨i, hi, HN, hk, hb⟩ := hrel
    have hlw := hb.size
    have hlw2 : w.heap.size < wr.heap.size := (Array.getElem?_eq_some_iff.1 hk).1
    have HKK := Lib.hid hk
    by_cases hlt : i < s.size
    · obtain ⟨x, hx⟩ : ∃ x : UInt8, s[i]'hlt = x := ⟨_, rfl⟩
      have hxl : s.data.toList[i]? = some x := by rw [← hx]; exact Lib.data_getElem? s i hlt
      have Hx := Lib.hid hxl
      have HI := Lib.hid (fun p => Lib.iterAt_heap wr w.heap.size s i p hk)
      have HB := Lib.hid (fun p => Lib.below_iterAt hb (Nat.le_refl _) s p)
      have HS := Lib.hid (fun p => Lib.iterAt_size wr w.heap.size s p)
      by_cases ha : x.toNat < 128
      · have hnx := fun ty => Lib.run_next_ascii_at (P := Tryz.prog) wr w.heap.size s i ty hk hlt (by rw [hx]; exact ha)
        rw [hx] at hnx
        have C := Lib.hid (fun W => CLOW.out (x.toNat : Int) W (by omega) (by omega))
        have hcon := HX.out x
        rw [show ((x.toNat : Int)).toNat.toUInt8 = x by simp] at C
        clear hxl hx ha hk
        cases hin : o.data.toList.contains x
        · rw [hin] at hcon
          have hl : ¬ ((0 : Int) ≤ Lib.indexByte o.data.toList x) := of_decide_eq_false hcon.symm
          have HN' := Lib.hid (Lib.NoAny.succ HN.out Hx.out hin)
          clear hcon hin
          go_wp2_with fail
          refine (C.out _).mono ?_
          rintro e w' ⟨rfl, rfl⟩
          go_wp2_with fail
          go_roundw
          case rel => exact ⟨i + 1, by omega, HN', HI.out _, HB.out _⟩
          case measure =>
            have e1 := HI.out (i + 1)
            simp only [World.iterPos]
            rw [e1, HKK.out]
            simp
            omega
        · rw [hin] at hcon
          have hl : (0 : Int) ≤ Lib.indexByte o.data.toList x := of_decide_eq_true hcon.symm
          have HE := Lib.hid (Lib.indexAny_hit HN.out Hx.out hin)
          clear hcon hin
          go_wp2_with fail
          refine (C.out _).mono ?_
          rintro e w' ⟨rfl, rfl⟩
          go_wp2_with fail
          go_ret
          exact ⟨by rw [← HZ.out, HE.out]; rfl, HB.out _⟩
      · have hnx := fun ty => Lib.run_next_any_at (P := Tryz.prog) wr w.heap.size s i ty hk hlt
        obtain ⟨hd1, hd2⟩ := decode_high s i hlt (by rw [hx]; omega)
        have hd3 := decode_le s i
        have hd4 := HV.out i
        obtain ⟨hc1, hc2⟩ := HC.out i hlt (by rw [hx]; omega)
        have HN' := Lib.hid (HN0.out HN.out hc2)
        obtain ⟨⟨c, n⟩, hcn⟩ : ∃ d, Utf8.decode s i = d := ⟨_, rfl⟩
        rw [hcn] at hnx hd1 hd2 hd3 hd4 hc1 HN'
        simp only at hnx hd1 hd2 hd3 hd4 hc1 HN'
        have C := Lib.hid (fun W => CH.out c W hd1 hd3 hd4)
        clear hxl hx ha hk hcn hc2 hd1 hd3 hd4
        go_wp2_with fail
        refine (C.out _).mono ?_
        rintro e w' ⟨rfl, b1⟩
        have hI1 := HI.out (i + n)
        have hI2 : w'.heap[w.heap.size]? = some (.stringIter s (i + n)) := (b1.block _ (by rw [HS.out]; omega)).trans hI1
        have hB2 := (HB.out (i + n)).trans (b1.mono (by rw [HS.out]; exact hlw))
        go_wp2_with fail
        go_roundw
        case rel => exact ⟨i + n, hc1, HN', hI2, hB2⟩
        case measure =>
          simp only [World.iterPos]
          rw [hI2, HKK.out]
          simp
          omega
    · obtain rfl : i = s.size := by omega
      have hnx := fun ty => Lib.run_next_end_at (P := Tryz.prog) wr w.heap.size s s.size ty hk (Nat.lt_irrefl _)
      have HE := Lib.hid (Lib.indexAny_none (by rw [list_size]; exact HN.out))
      clear hk
      go_wp2_with fail
      go_ret
      exact ⟨by rw [← HZ.out, HE.out]; rfl, hb⟩

theorem idxAny_any (s : ByteArray) (w : World) (hs : s.size ≤ 2147483648) :
    Calls Tryz.prog 142 #[.string s, .string odd3] w fun e w' => e = .returned (.int .i64 (idxO s)) ∧ Below w.heap.size w w' := by
  by_cases h8 : s.size ≤ 8
  · exact idxAny_short s w h8
  · have h116 : (Tryz.prog.info? (Tryz.lays153_ren.t 116)).map (fun i => (i.zero, i.size)) = some (some (.agg (Array.replicate 256 (.bool false))), 256) := by kernel_rfl
    refine (Any.strings_IndexAny_long (P := Tryz.prog) (ρ := Tryz.lays153_ren) { Tryz.lays153 with } (zero_of_info h116).1 (zero_of_info h116).2 s odd3 w (by decide) (by omega) (by omega) (by decide) ?_).mono ?_
    · intro j b hb
      match j with
      | 0 => obtain rfl : 0 = b := Option.some.inj hb; decide
      | 1 => obtain rfl : 10 = b := Option.some.inj hb; decide
      | 2 => obtain rfl : 13 = b := Option.some.inj hb; decide
      | j + 3 => cases hb
    · rintro e w' ⟨h1, rfl⟩
      exact ⟨by rw [h1, idxO_lib], ((Below.refl _ _).alloc (Nat.le_refl _) _).alloc (by simp) _⟩
end Go.Proofs.YtpdodknldhbbhaaGreatDoor.Pp

namespace Go.Proofs.YtpdodknldhbbhaaGreatDoor.Pp
set_option maxRecDepth 100000
open Go.RowKit

/-- The bytes by which a line is parted. -/
def part3 : ByteArray := ⟨#[59, 61, 58]⟩
theorem part3_has (x : UInt8) : decide (0 ≤ Lib.indexByte part3.data.toList x) = decide ((x.toNat : Int) = 59 ∨ (x.toNat : Int) = 61 ∨ (x.toNat : Int) = 58) := by
  rw [← Lib.contains_iff_indexByte]
  unfold part3
  rw [Bool.eq_iff_iff]
  simp only [List.contains_cons, List.contains_nil, Bool.or_false, Bool.or_eq_true, beq_iff_eq, decide_eq_true_eq]
  have e : ∀ c : UInt8, x = c ↔ (x.toNat : Int) = (c.toNat : Int) := fun c => ⟨fun h => by rw [h], fun h => UInt8.toNat_inj.1 (by omega)⟩
  rw [e 59, e 61, e 58]
  rfl

set_option maxHeartbeats 1600000 in
theorem pVal_any (s : ByteArray) (w : World) :
    Calls Tryz.prog 141 #[.string s] w fun e w' => e = .returned (.bool (valB s)) ∧ w = w' := by
  by_cases hz : s.size = 0
  · rw [valB_none hz]
    have hs0 := str_none hz
    go_enter Tryz.func141, Tryz.ntmps141
    go_wp2_with fail
    go_ret
    exact ⟨rfl, rfl⟩
  have hs0 := str_some hz
  by_cases hl : 32 < (s.size : Int)
  · rw [valB_long (by omega)]
    go_enter Tryz.func141, Tryz.ntmps141
    go_wp2_with fail
    go_ret
    exact ⟨rfl, rfl⟩
  rw [valB_some (by omega) (by omega)]
  obtain ⟨r, hr⟩ : ∃ r, s.data.toList.all valc = r := ⟨_, rfl⟩
  rw [hr]
  have HE := Lib.hid (all_end (P := valc) (s := s))
  have CI := Lib.hid (fun c W => ixb_any part3 c W)
  have HP := Lib.hid part3_has
  unfold part3 at CI HP
  go_enter Tryz.func141, Tryz.ntmps141
  go_wp2_with fail
  go_loop [13] (fun iv => ∃ k : Nat, iv = .int .i64 k ∧ k ≤ s.size ∧ Hid ((s.data.toList.drop k).all valc = r)) (fun iv => s.size - (intOf iv).toNat)
  case atStart => exact ⟨0, rfl, Nat.zero_le _, Lib.hid (by rw [List.drop_zero]; exact hr)⟩
  case round =>
    obtain ⟨k, rfl, hk, HK⟩ := hrel
    clear hr
    by_cases hlt : k < s.size
    · have HN := Lib.hid (all_no (P := valc) hlt)
      have HY := Lib.hid (all_yes (P := valc) hlt)
      have C := Lib.hid (fun W => CI.out s[k] W)
      have hp := HP.out s[k]
      obtain ⟨c, hc⟩ : ∃ c : UInt8, s[k] = c := ⟨_, rfl⟩
      have hb := c.toNat_lt
      rw [hc] at HN HY C hp
      generalize Lib.indexByte _ c = z at C hp
      by_cases h1 : (c.toNat : Int) ≤ 32
      · obtain rfl : false = r := by rw [← HK.out]; exact (HN.out (by unfold valc; rw [decide_eq_false (by omega)])).symm
        clear hp
        go_wp2_with fail
        go_ret
        exact ⟨rfl, rfl⟩
      by_cases h2 : 126 < (c.toNat : Int)
      · obtain rfl : false = r := by rw [← HK.out]; exact (HN.out (by unfold valc; rw [decide_eq_false (by omega)])).symm
        clear hp
        go_wp2_with fail
        go_ret
        exact ⟨rfl, rfl⟩
      by_cases h3 : 0 ≤ z
      · rw [decide_eq_true h3] at hp
        have hp' := of_decide_eq_true hp.symm
        obtain rfl : false = r := by rw [← HK.out]; exact (HN.out (by unfold valc; rw [decide_eq_false (by omega)])).symm
        clear hp hp'
        go_wp2_with fail
        refine (C.out _).mono ?_
        rintro e w' ⟨rfl, rfl⟩
        go_wp2_with fail
        go_ret
        exact ⟨rfl, rfl⟩
      · rw [decide_eq_false h3] at hp
        have hp' := of_decide_eq_false hp.symm
        have HK' := Lib.hid ((HY.out (by unfold valc; rw [decide_eq_true (by omega)])).symm.trans HK.out)
        clear hp hp'
        go_wp2_with fail
        refine (C.out _).mono ?_
        rintro e w' ⟨rfl, rfl⟩
        go_wp2_with fail
        go_round
        case rel => exact ⟨k + 1, by go_num, by omega, HK'⟩
        case measure => simp [intOf]; omega
    · obtain rfl : k = s.size := by omega
      obtain rfl : true = r := by rw [← HK.out]; exact HE.out.symm
      go_wp2_with fail
      go_ret
      exact ⟨rfl, rfl⟩

set_option maxHeartbeats 400000 in
theorem noParam_any (n v : ByteArray) (w : World) :
    Calls Tryz.prog 103 #[.agg #[.string n, .string v]] w fun e w' => e = .returned (.bool (!paramB n v)) ∧ Below w.heap.size w w' := by
  have C1 := Lib.hid (fun W => pName_any n W)
  have C2 := Lib.hid (fun W => pVal_any v W)
  unfold paramB
  generalize nameB n = p at C1 ⊢
  generalize valB v = q at C2 ⊢
  by_cases hz : n.size = 0
  · have hs0 := str_none hz
    rw [decide_eq_true hz, Bool.true_or, Bool.true_and]
    go_enter Tryz.func103, Tryz.ntmps103
    go_wp2_with fail
    refine (C2.out _).mono ?_
    rintro e w' ⟨rfl, rfl⟩
    go_wp2_with fail
    go_ret
    exact ⟨rfl, (Below.refl _ _).alloc (Nat.le_refl _) _⟩
  · have hs0 := str_some hz
    rw [decide_eq_false hz, Bool.false_or]
    cases p with
    | false =>
      go_enter Tryz.func103, Tryz.ntmps103
      go_wp2_with fail
      refine (C1.out _).mono ?_
      rintro e w' ⟨rfl, rfl⟩
      go_wp2_with fail
      go_ret
      exact ⟨rfl, (Below.refl _ _).alloc (Nat.le_refl _) _⟩
    | true =>
      go_enter Tryz.func103, Tryz.ntmps103
      go_wp2_with fail
      refine (C1.out _).mono ?_
      rintro e w' ⟨rfl, rfl⟩
      go_wp2_with fail
      refine (C2.out _).mono ?_
      rintro e w' ⟨rfl, rfl⟩
      go_wp2_with fail
      go_ret
      exact ⟨rfl, (Below.refl _ _).alloc (Nat.le_refl _) _⟩

/-- What is wrong with a value: its place, and the number of the error. -/
def vfA (v : ByteArray) : Int := if 2400 < v.size then 0 else if 0 ≤ idxO v then idxO v else 0
def vfE (v : ByteArray) : Int := if 2400 < v.size then 8 else if 0 ≤ idxO v then 3 else 0
set_option maxHeartbeats 400000 in
theorem pFault_any (v : ByteArray) (w : World) (hv : v.size ≤ 9223372036854775807) :
    Calls Tryz.prog 104 #[.string v] w fun e w' => e = .returned (.tuple #[.int .i64 (vfA v), .int .i64 (vfE v)]) ∧ Below w.heap.size w w' := by
  by_cases h1 : 2400 < (v.size : Int)
  · rw [vfA, vfE, if_pos (by omega), if_pos (by omega)]
    go_enter Tryz.func104, Tryz.ntmps104
    go_wp2_with fail
    go_ret2
    exact ⟨rfl, Below.refl _ _⟩
  · rw [vfA, vfE, if_neg (show ¬ 2400 < v.size by omega), if_neg (show ¬ 2400 < v.size by omega)]
    have C := Lib.hid (fun W => idxAny_any v W (by omega))
    unfold odd3 at C
    generalize idxO v = z at C ⊢
    by_cases h2 : 0 ≤ z
    · rw [if_pos h2, if_pos h2]
      go_enter Tryz.func104, Tryz.ntmps104
      go_wp2_with fail
      refine (C.out _).mono ?_
      rintro e w' ⟨rfl, b1⟩
      go_wp2_with fail
      go_ret2
      exact ⟨rfl, b1⟩
    · rw [if_neg h2, if_neg h2]
      go_enter Tryz.func104, Tryz.ntmps104
      go_wp2_with fail
      refine (C.out _).mono ?_
      rintro e w' ⟨rfl, b1⟩
      go_wp2_with fail
      go_ret2
      exact ⟨rfl, b1⟩

set_option maxHeartbeats 800000 in
/-- No parameter is right, from place k on: the first that is not, or -1. -/
theorem indexFunc_any (pv : Value) (ps : List (ByteArray × ByteArray)) (w : World) (hps : Ps w w.heap.size pv ps) (hl : ps.length ≤ 1099511627776) :
    Calls Tryz.prog 105 #[pv, .func (.func 103) #[] #[]] w fun e w' => (∃ i : Int, e = .returned (.int .i64 i) ∧ decide (0 ≤ i) = !goodPs ps) ∧ Below w.heap.size w w' := by
  obtain ⟨pa, pc, rfl⟩ := hps.shape
  unfold goodPs
  obtain ⟨r, hr⟩ : ∃ r, (ps.all fun p => paramB p.1 p.2) = r := ⟨_, rfl⟩
  rw [hr]
  have CN := Lib.hid (fun n v W => noParam_any n v W)
  go_enter Tryz.func105, Tryz.ntmps105
  go_wp2_with fail
  go_loopw [8] (fun iv wr => ∃ k : Nat, k ≤ ps.length ∧ iv = .int .i64 k ∧ Below w.heap.size w wr ∧ Hid ((ps.drop k).all (fun p => paramB p.1 p.2) = r)) (fun iv _ => ps.length - (intOf iv).toNat)
  case atStart => exact ⟨0, Nat.zero_le _, rfl, Below.refl _ _, Lib.hid hr⟩
  case round =>
    obtain ⟨k, hk, rfl, hbel, HK⟩ := hrel
    clear hr
    by_cases hlt : k < ps.length
    · obtain ⟨b, o, cap, hv1, hbB, hc0, hc1⟩ := (hps.below hbel).at_ hlt
      simp only [Value.slice.injEq, true_and] at hv1
      obtain ⟨rfl, rfl⟩ := hv1
      have HN := Lib.hid (ps_no (P := fun p => paramB p.1 p.2) hlt)
      have HY := Lib.hid (ps_yes (P := fun p => paramB p.1 p.2) hlt)
      generalize ps[k] = x at hc0 hc1 HN HY
      obtain ⟨n', v'⟩ := x
      simp only at HN HY hc0 hc1
      have C := Lib.hid (fun W => CN.out n' v' W)
      cases hp : paramB n' v' <;> rw [hp] at C
      · obtain rfl : false = r := by rw [← HK.out]; exact (HN.out hp).symm
        go_wp2_with fail
        refine (C.out _).mono ?_
        rintro e w2 ⟨rfl, b2⟩
        go_wp2_with fail
        go_ret
        exact ⟨⟨_, rfl, by simp⟩, hbel.trans (b2.mono hbel.size)⟩
      · have HK' := Lib.hid ((HY.out hp).symm.trans HK.out)
        go_wp2_with fail
        refine (C.out _).mono ?_
        rintro e w2 ⟨rfl, b2⟩
        go_wp2_with fail
        go_roundw
        case rel => exact ⟨k + 1, by omega, by go_num, hbel.trans (b2.mono hbel.size), HK'⟩
        case measure => simp [intOf]; omega
    · obtain rfl : k = ps.length := by omega
      obtain rfl : true = r := by rw [← HK.out, List.drop_length]; rfl
      go_wp2_with fail
      go_ret
      exact ⟨⟨_, rfl, by simp⟩, hbel⟩
set_option maxHeartbeats 400000 in
theorem containsFunc_any (pv : Value) (ps : List (ByteArray × ByteArray)) (w : World) (hps : Ps w w.heap.size pv ps) (hl : ps.length ≤ 1099511627776) :
    Calls Tryz.prog 56 #[pv, .func (.func 103) #[] #[]] w fun e w' => e = .returned (.bool (!goodPs ps)) ∧ Below w.heap.size w w' := by
  have C := Lib.hid (indexFunc_any pv ps w hps hl)
  obtain ⟨pa, pc, rfl⟩ := hps.shape
  go_enter Tryz.func56, Tryz.ntmps56
  go_wp2_with fail
  refine C.out.mono ?_
  rintro e w2 ⟨⟨i, rfl, hi⟩, b2⟩
  have HI := Lib.hid hi
  clear hi
  go_wp2_with fail
  go_ret
  exact ⟨ret_bool HI.out, b2⟩
end Go.Proofs.YtpdodknldhbbhaaGreatDoor.Pp

namespace Go.Proofs.YtpdodknldhbbhaaGreatDoor.Pp
set_option maxRecDepth 100000
open Go.RowKit

theorem vfE_good (v : ByteArray) : vfE v = if 2400 < v.size then 8 else if goodV v = false then 3 else 0 := by
  unfold vfE
  by_cases h : 2400 < v.size
  · rw [if_pos h, if_pos h]
  · rw [if_neg h, if_neg h]
    have e : (0 ≤ idxO v) ↔ goodV v = false := by
      unfold idxO goodV
      rw [List.all_eq_false]
      by_cases hf : v.data.toList.findIdx oddb < v.size
      · rw [if_pos hf]
        refine ⟨fun _ => ?_, fun _ => by omega⟩
        have hl : v.data.toList.findIdx oddb < v.data.toList.length := by rw [list_size]; exact hf
        exact ⟨_, List.getElem_mem hl, by rw [List.findIdx_getElem (w := hl)]; simp⟩
      · rw [if_neg hf]
        refine ⟨fun h => by omega, ?_⟩
        rintro ⟨x, hx, hn⟩
        exact absurd (List.findIdx_lt_length_of_exists ⟨x, hx, by simpa using hn⟩) (by rw [list_size]; exact hf)
    by_cases h0 : 0 ≤ idxO v
    · rw [if_pos h0, if_pos (e.1 h0)]
    · rw [if_neg h0, if_neg (fun h => h0 (e.2 h))]

set_option maxHeartbeats 2000000 in
theorem pCheck_any (g n : ByteArray) (pv : Value) (v : ByteArray) (aa : Option Addr) (m ac : Nat) (ps : List (ByteArray × ByteArray)) (w : World) (hps : Ps w w.heap.size pv ps) (hl : ps.length ≤ 1099511627776) (hv : v.size ≤ 9223372036854775807) :
    Calls Tryz.prog 55 #[prV g n pv v (.slice aa m ac)] w fun e w' => e = .returned (.int .i64 (chk g n ps v m)) ∧ Below w.heap.size w w' := by
  obtain ⟨pa, pc, rfl⟩ := hps.shape
  unfold prV
  have HB : Below w.heap.size w (w.alloc (.cells #[.string g, .string n, .slice pa ps.length pc, .string v, .slice aa m ac] 53)) := (Below.refl _ _).alloc (Nat.le_refl _) _
  have HP := (hps.below HB).up HB.size
  have HA : PrAt (w.alloc (.cells #[.string g, .string n, .slice pa ps.length pc, .string v, .slice aa m ac] 53)) w.heap.size g n (.slice pa ps.length pc) v (.slice aa m ac) := heap_alloc_new w _
  have CC := Lib.hid (containsFunc_any _ ps _ HP hl)
  have CV := Lib.hid (fun W => pFault_any v W hv)
  obtain ⟨r, hr⟩ : ∃ r, chk g n ps v m = r := ⟨_, rfl⟩
  rw [hr]
  unfold chk goodNames at hr
  rw [← vfE_good v] at hr
  have C1 := Lib.hid (fun W => pName_any g W)
  have C2 := Lib.hid (fun W => pName_any n W)
  generalize nameB g = x at C1 hr
  generalize nameB n = y at C2 hr
  generalize goodPs ps = q at CC hr
  generalize vfE v = ve at CV hr
  generalize vfA v = va at CV
  clear hps HP
  by_cases hz : g.size = 0
  · have hs0 := str_none hz
    cases y with
    | false =>
      obtain rfl : 14 = r := by rw [← hr]; simp [hz]
      clear hr
      go_enter Tryz.func55, Tryz.ntmps55
      go_wp2_with fail
      refine (C2.out _).mono ?_
      rintro e w' ⟨rfl, rfl⟩
      go_wp2_with fail
      go_ret
      exact ⟨rfl, HB⟩
    | true =>
      by_cases h6 : 6 < (ps.length : Int)
      · obtain rfl : 4 = r := by rw [← hr, if_neg (by simp [hz]), if_pos (by omega)]
        clear hr
        go_enter Tryz.func55, Tryz.ntmps55
        go_wp2_with fail
        refine (C2.out _).mono ?_
        rintro e w' ⟨rfl, rfl⟩
        go_wp2_with fail
        go_ret
        exact ⟨rfl, HB⟩
      rw [if_neg (by simp [hz]), if_neg (show ¬ 6 < ps.length by omega)] at hr
      cases q with
      | false =>
        obtain rfl : 3 = r := by rw [← hr]; rfl
        clear hr
        go_enter Tryz.func55, Tryz.ntmps55
        go_wp2_with fail
        refine (C2.out _).mono ?_
        rintro e w' ⟨rfl, rfl⟩
        go_wp2_with fail
        refine CC.out.mono ?_
        rintro e w2 ⟨rfl, b2⟩
        have HA2 := HA.below b2
        have B2 := HB.trans (b2.mono HB.size)
        have k4 := HA2.c4
        have k3 := HA2.c3
        go_wp2_with fail
        go_ret
        exact ⟨rfl, B2⟩
      | true =>
        rw [if_neg (by simp)] at hr
        by_cases hm : 0 < (m : Int)
        · obtain rfl : 5 = r := by rw [← hr, if_pos (by omega)]
          clear hr
          go_enter Tryz.func55, Tryz.ntmps55
          go_wp2_with fail
          refine (C2.out _).mono ?_
          rintro e w' ⟨rfl, rfl⟩
          go_wp2_with fail
          refine CC.out.mono ?_
          rintro e w2 ⟨rfl, b2⟩
          have HA2 := HA.below b2
          have B2 := HB.trans (b2.mono HB.size)
          have k4 := HA2.c4
          have k3 := HA2.c3
          go_wp2_with fail
          go_ret
          exact ⟨rfl, B2⟩
        rw [if_neg (show ¬ 0 < m by omega)] at hr
        subst hr
        go_enter Tryz.func55, Tryz.ntmps55
        go_wp2_with fail
        refine (C2.out _).mono ?_
        rintro e w' ⟨rfl, rfl⟩
        go_wp2_with fail
        refine CC.out.mono ?_
        rintro e w2 ⟨rfl, b2⟩
        have HA2 := HA.below b2
        have B2 := HB.trans (b2.mono HB.size)
        have k4 := HA2.c4
        have k3 := HA2.c3
        go_wp2_with fail
        refine (CV.out _).mono ?_
        rintro e w3 ⟨rfl, b3⟩
        go_wp2_with fail
        go_ret
        exact ⟨rfl, B2.trans (b3.mono B2.size)⟩
  have hs0 := str_some hz
  cases x with
  | false =>
    obtain rfl : 14 = r := by rw [← hr]; simp [hz]
    clear hr
    go_enter Tryz.func55, Tryz.ntmps55
    go_wp2_with fail
    refine (C1.out _).mono ?_
    rintro e w' ⟨rfl, rfl⟩
    go_wp2_with fail
    go_ret
    exact ⟨rfl, HB⟩
  | true =>
    cases y with
    | false =>
      obtain rfl : 14 = r := by rw [← hr]; simp [hz]
      clear hr
      go_enter Tryz.func55, Tryz.ntmps55
      go_wp2_with fail
      refine (C1.out _).mono ?_
      rintro e w' ⟨rfl, rfl⟩
      go_wp2_with fail
      refine (C2.out _).mono ?_
      rintro e w' ⟨rfl, rfl⟩
      go_wp2_with fail
      go_ret
      exact ⟨rfl, HB⟩
    | true =>
      by_cases h6 : 6 < (ps.length : Int)
      · obtain rfl : 4 = r := by rw [← hr, if_neg (by simp [hz]), if_pos (by omega)]
        clear hr
        go_enter Tryz.func55, Tryz.ntmps55
        go_wp2_with fail
        refine (C1.out _).mono ?_
        rintro e w' ⟨rfl, rfl⟩
        go_wp2_with fail
        refine (C2.out _).mono ?_
        rintro e w' ⟨rfl, rfl⟩
        go_wp2_with fail
        go_ret
        exact ⟨rfl, HB⟩
      rw [if_neg (by simp [hz]), if_neg (show ¬ 6 < ps.length by omega)] at hr
      cases q with
      | false =>
        obtain rfl : 3 = r := by rw [← hr]; rfl
        clear hr
        go_enter Tryz.func55, Tryz.ntmps55
        go_wp2_with fail
        refine (C1.out _).mono ?_
        rintro e w' ⟨rfl, rfl⟩
        go_wp2_with fail
        refine (C2.out _).mono ?_
        rintro e w' ⟨rfl, rfl⟩
        go_wp2_with fail
        refine CC.out.mono ?_
        rintro e w2 ⟨rfl, b2⟩
        have HA2 := HA.below b2
        have B2 := HB.trans (b2.mono HB.size)
        have k4 := HA2.c4
        have k3 := HA2.c3
        go_wp2_with fail
        go_ret
        exact ⟨rfl, B2⟩
      | true =>
        rw [if_neg (by simp)] at hr
        by_cases hm : 0 < (m : Int)
        · obtain rfl : 5 = r := by rw [← hr, if_pos (by omega)]
          clear hr
          go_enter Tryz.func55, Tryz.ntmps55
          go_wp2_with fail
          refine (C1.out _).mono ?_
          rintro e w' ⟨rfl, rfl⟩
          go_wp2_with fail
          refine (C2.out _).mono ?_
          rintro e w' ⟨rfl, rfl⟩
          go_wp2_with fail
          refine CC.out.mono ?_
          rintro e w2 ⟨rfl, b2⟩
          have HA2 := HA.below b2
          have B2 := HB.trans (b2.mono HB.size)
          have k4 := HA2.c4
          have k3 := HA2.c3
          go_wp2_with fail
          go_ret
          exact ⟨rfl, B2⟩
        rw [if_neg (show ¬ 0 < m by omega)] at hr
        subst hr
        go_enter Tryz.func55, Tryz.ntmps55
        go_wp2_with fail
        refine (C1.out _).mono ?_
        rintro e w' ⟨rfl, rfl⟩
        go_wp2_with fail
        refine (C2.out _).mono ?_
        rintro e w' ⟨rfl, rfl⟩
        go_wp2_with fail
        refine CC.out.mono ?_
        rintro e w2 ⟨rfl, b2⟩
        have HA2 := HA.below b2
        have B2 := HB.trans (b2.mono HB.size)
        have k4 := HA2.c4
        have k3 := HA2.c3
        go_wp2_with fail
        refine (CV.out _).mono ?_
        rintro e w3 ⟨rfl, b3⟩
        go_wp2_with fail
        go_ret
        exact ⟨rfl, B2.trans (b3.mono B2.size)⟩
end Go.Proofs.YtpdodknldhbbhaaGreatDoor.Pp

namespace Go.Proofs.YtpdodknldhbbhaaGreatDoor.Sx
open Go.RowKit

theorem enc_size (l : List UInt8) : (enc l).length = 4 * ((l.length + 2) / 3) := by rw [enc_ref, refAll_length]
end Go.Proofs.YtpdodknldhbbhaaGreatDoor.Sx

namespace Go.Proofs.YtpdodknldhbbhaaGreatDoor.Cs
open Go.Lib

/-- The letter at a text's beginning, and how many bytes it has; 0: it is none. -/
def oneP (l : List UInt8) : Nat × Nat := if l = [] then (0, 0) else if bad l = true then (0, 0) else decodeL l
end Go.Proofs.YtpdodknldhbbhaaGreatDoor.Cs

namespace Go.Proofs.YtpdodknldhbbhaaGreatDoor.Pp
set_option maxRecDepth 100000
open Go.RowKit

set_option maxHeartbeats 1000000 in
theorem pPrint_any (g n : ByteArray) (pv : Value) (v : ByteArray) (aa : Option Addr) (m ac : Nat) (ps : List (ByteArray × ByteArray)) (w : World) (hps : Ps w w.heap.size pv ps) (hl : ps.length ≤ 1099511627776) (hv : v.size ≤ 1099511627776) :
    Calls Tryz.prog 32 #[prV g n pv v (.slice aa m ac)] w fun e w' => e = .returned (.tuple #[.string (prt g n ps v (chk g n ps v m)), .int .i64 (chk g n ps v m)]) ∧ Below w.heap.size w w' := by
  obtain ⟨pa, pc, rfl⟩ := hps.shape
  have HB : Below w.heap.size w (w.alloc (.cells #[.string g, .string n, .slice pa ps.length pc, .string v, .slice aa m ac] 53)) := (Below.refl _ _).alloc (Nat.le_refl _) _
  have HP := (hps.below HB).up (B' := (w.alloc (.cells #[.string g, .string n, .slice pa ps.length pc, .string v, .slice aa m ac] 53)).heap.size) (by rw [World.size_alloc]; omega)
  have HA : PrAt (w.alloc (.cells #[.string g, .string n, .slice pa ps.length pc, .string v, .slice aa m ac] 53)) w.heap.size g n (.slice pa ps.length pc) v (.slice aa m ac) := heap_alloc_new w _
  have C := pCheck_any g n _ v aa m ac ps _ HP hl (by omega)
  unfold prV at C ⊢
  have HO := Lib.hid (chk_ok (g := g) (n := n) (ps := ps) (v := v) (m := m))
  generalize chk g n ps v m = r at C HO ⊢
  by_cases h0 : r = 0
  · subst h0
    obtain ⟨og, ol, op, -, ov, -⟩ := HO.out rfl
    obtain ⟨og1, og2⟩ := goodNames_le og
    have OP := Lib.hid (fun k (hk : k < ps.length) => goodPs_le op hk)
    clear HO og op
    rw [prt, if_pos rfl]
    obtain ⟨z, hz⟩ : ∃ z, lineB g n ps v = z := ⟨_, rfl⟩
    rw [hz]
    have HZ := Lib.hid hz
    clear hz
    by_cases hg : g.size = 0
    · have s0 := str_none hg
      have SZ : (n).size ≤ 65 + 66 * 0 := by omega
      have HH := Lib.hid (show headL g n = n by unfold headL; rw [if_pos hg])
      go_enter Tryz.func32, Tryz.ntmps32
      go_wp2_with fail
      refine C.mono ?_
      rintro e w2 ⟨rfl, b2⟩
      have HA2 := HA.below b2
      have HBB := HB.trans (b2.mono HB.size)
      have k0 := HA2.c0
      have k1 := HA2.c1
      have k2 := HA2.c2
      go_wp2_with fail
      clear k0 k1 k2
      go_loopw [5, 26] (fun uv iv wr => ∃ (i : Nat) (u : ByteArray), i ≤ ps.length ∧ iv = .int .i64 (i : Int) ∧ uv = .string u ∧ u.size ≤ 65 + 66 * i ∧ PrAt wr w.heap.size g n (.slice pa ps.length pc) v (.slice aa m ac) ∧ Below w.heap.size w wr ∧ Hid ((ps.drop i).foldl withP u ++ ⟨#[58]⟩ ++ v = z)) (fun _ iv _ => ps.length - (intOf iv).toNat)
      case atStart => exact ⟨0, _, Nat.zero_le _, rfl, rfl, SZ, HA2, HBB, Lib.hid (by rw [← HZ.out, List.drop_zero, lineB, HH.out])⟩
      case round =>
        obtain ⟨k, u, hk, rfl, rfl, hu, hcell, hbel, HK⟩ := hrel
        have k2 := hcell.c2
        have k3 := hcell.c3
        by_cases hlt : k < ps.length
        · obtain ⟨b, o, cap, hv1, hbB, hc0, hc1⟩ := (hps.below hbel).at_ hlt
          simp only [Value.slice.injEq, true_and] at hv1
          obtain ⟨rfl, rfl⟩ := hv1
          have HS := Lib.hid (fold_step hlt u)
          obtain ⟨o1, o2⟩ := OP.out k hlt
          generalize ps[k] = x at hc0 hc1 HS o1 o2
          obtain ⟨n', v'⟩ := x
          simp only at hc0 hc1 HS o1 o2
          have bq : Below wr.heap.size wr (wr.alloc (.cells #[.string n', .string v'] 66)) := (Below.refl _ _).alloc (Nat.le_refl _) _
          have hcell2 := hcell.below bq
          have hbel2 := hbel.trans (bq.mono hbel.size)
          have k2b := hcell2.c2
          have k3b := hcell2.c3
          by_cases hn : n'.size = 0
          · have e0 := str_none hn
            have HK' := Lib.hid (show (ps.drop (k + 1)).foldl withP (u ++ ⟨#[59]⟩ ++ v') ++ ⟨#[58]⟩ ++ v = z by rw [← HK.out, HS.out, withP, if_pos hn])
            have hz : (u ++ ⟨#[59]⟩ ++ v').size ≤ 65 + 66 * (k + 1) := by rw [ByteArray.size_append, ByteArray.size_append, size_1]; omega
            have HZ2 := Lib.hid hz
            clear hz
            go_wp2_with fail
            go_roundw
            case rel => exact ⟨k + 1, _, by omega, by go_num, rfl, HZ2.out, hcell2, hbel2, HK'⟩
            case measure => simp [intOf]; omega
          · have e0 := str_some hn
            have HK' := Lib.hid (show (ps.drop (k + 1)).foldl withP (u ++ ⟨#[59]⟩ ++ (n' ++ ⟨#[61]⟩) ++ v') ++ ⟨#[58]⟩ ++ v = z by rw [← HK.out, HS.out, withP, if_neg hn, ← ByteArray.append_assoc])
            have hz : (u ++ ⟨#[59]⟩ ++ (n' ++ ⟨#[61]⟩) ++ v').size ≤ 65 + 66 * (k + 1) := by rw [ByteArray.size_append, ByteArray.size_append, ByteArray.size_append, ByteArray.size_append, size_1, size_1]; omega
            have HZ2 := Lib.hid hz
            clear hz
            go_wp2_with fail
            go_roundw
            case rel => exact ⟨k + 1, _, by omega, by go_num, rfl, HZ2.out, hcell2, hbel2, HK'⟩
            case measure => simp [intOf]; omega
        · obtain rfl : k = ps.length := by omega
          have HE := Lib.hid (show u ++ ⟨#[58]⟩ ++ v = z by rw [← HK.out, List.drop_length]; rfl)
          go_wp2_with fail
          go_ret2
          exact ⟨by rw [← HE.out]; rfl, hbel⟩
    · have s0 := str_some hg
      have SZ : (g ++ ⟨#[46]⟩ ++ n).size ≤ 65 + 66 * 0 := by rw [ByteArray.size_append, ByteArray.size_append, size_1]; omega
      have HH := Lib.hid (show headL g n = g ++ ⟨#[46]⟩ ++ n by unfold headL; rw [if_neg hg])
      go_enter Tryz.func32, Tryz.ntmps32
      go_wp2_with fail
      refine C.mono ?_
      rintro e w2 ⟨rfl, b2⟩
      have HA2 := HA.below b2
      have HBB := HB.trans (b2.mono HB.size)
      have k0 := HA2.c0
      have k1 := HA2.c1
      have k2 := HA2.c2
      go_wp2_with fail
      clear k0 k1 k2
      go_loopw [5, 26] (fun uv iv wr => ∃ (i : Nat) (u : ByteArray), i ≤ ps.length ∧ iv = .int .i64 (i : Int) ∧ uv = .string u ∧ u.size ≤ 65 + 66 * i ∧ PrAt wr w.heap.size g n (.slice pa ps.length pc) v (.slice aa m ac) ∧ Below w.heap.size w wr ∧ Hid ((ps.drop i).foldl withP u ++ ⟨#[58]⟩ ++ v = z)) (fun _ iv _ => ps.length - (intOf iv).toNat)
      case atStart => exact ⟨0, _, Nat.zero_le _, rfl, rfl, SZ, HA2, HBB, Lib.hid (by rw [← HZ.out, List.drop_zero, lineB, HH.out])⟩
      case round =>
        obtain ⟨k, u, hk, rfl, rfl, hu, hcell, hbel, HK⟩ := hrel
        have k2 := hcell.c2
        have k3 := hcell.c3
        by_cases hlt : k < ps.length
        · obtain ⟨b, o, cap, hv1, hbB, hc0, hc1⟩ := (hps.below hbel).at_ hlt
          simp only [Value.slice.injEq, true_and] at hv1
          obtain ⟨rfl, rfl⟩ := hv1
          have HS := Lib.hid (fold_step hlt u)
          obtain ⟨o1, o2⟩ := OP.out k hlt
          generalize ps[k] = x at hc0 hc1 HS o1 o2
          obtain ⟨n', v'⟩ := x
          simp only at hc0 hc1 HS o1 o2
          have bq : Below wr.heap.size wr (wr.alloc (.cells #[.string n', .string v'] 66)) := (Below.refl _ _).alloc (Nat.le_refl _) _
          have hcell2 := hcell.below bq
          have hbel2 := hbel.trans (bq.mono hbel.size)
          have k2b := hcell2.c2
          have k3b := hcell2.c3
          by_cases hn : n'.size = 0
          · have e0 := str_none hn
            have HK' := Lib.hid (show (ps.drop (k + 1)).foldl withP (u ++ ⟨#[59]⟩ ++ v') ++ ⟨#[58]⟩ ++ v = z by rw [← HK.out, HS.out, withP, if_pos hn])
            have hz : (u ++ ⟨#[59]⟩ ++ v').size ≤ 65 + 66 * (k + 1) := by rw [ByteArray.size_append, ByteArray.size_append, size_1]; omega
            have HZ2 := Lib.hid hz
            clear hz
            go_wp2_with fail
            go_roundw
            case rel => exact ⟨k + 1, _, by omega, by go_num, rfl, HZ2.out, hcell2, hbel2, HK'⟩
            case measure => simp [intOf]; omega
          · have e0 := str_some hn
            have HK' := Lib.hid (show (ps.drop (k + 1)).foldl withP (u ++ ⟨#[59]⟩ ++ (n' ++ ⟨#[61]⟩) ++ v') ++ ⟨#[58]⟩ ++ v = z by rw [← HK.out, HS.out, withP, if_neg hn, ← ByteArray.append_assoc])
            have hz : (u ++ ⟨#[59]⟩ ++ (n' ++ ⟨#[61]⟩) ++ v').size ≤ 65 + 66 * (k + 1) := by rw [ByteArray.size_append, ByteArray.size_append, ByteArray.size_append, ByteArray.size_append, size_1, size_1]; omega
            have HZ2 := Lib.hid hz
            clear hz
            go_wp2_with fail
            go_roundw
            case rel => exact ⟨k + 1, _, by omega, by go_num, rfl, HZ2.out, hcell2, hbel2, HK'⟩
            case measure => simp [intOf]; omega
        · obtain rfl : k = ps.length := by omega
          have HE := Lib.hid (show u ++ ⟨#[58]⟩ ++ v = z by rw [← HK.out, List.drop_length]; rfl)
          go_wp2_with fail
          go_ret2
          exact ⟨by rw [← HE.out]; rfl, hbel⟩
  · have h0' : (r == 0) = false := by simpa using h0
    rw [prt, if_neg h0]
    go_enter Tryz.func32, Tryz.ntmps32
    go_wp2_with fail
    refine C.mono ?_
    rintro e w2 ⟨rfl, b2⟩
    go_wp2_with fail
    go_ret2
    exact ⟨rfl, HB.trans (b2.mono HB.size)⟩
end Go.Proofs.YtpdodknldhbbhaaGreatDoor.Pp
