/-
For every text and every list of reads the law MbintReads returns true and changes nothing that was there. Conditions: the lengths are at most maxLen.
-/
import Derived.Test.YtpapakkcomegnaaMbRefLoops
import Derived.Deep.RegionHeld3
import Derived.IntWalk
import Derived.Deep.CutBlock
import Derived.Deep.CutRange
namespace Go.Proofs.Ytpapakkcomegnaa.MbLaw
open Go.RowKit Mb

/-- The list of reads lies where it lay. -/
def Ops (w : World) (b o len : Nat) (K N : Nat → Int) : Prop := ∀ i, i < len → w.cell? ⟨b, o + i * 2, none⟩ = some (.int .i64 (K i)) ∧ w.cell? ⟨b, o + i * 2 + 1, none⟩ = some (.int .i64 (N i))
theorem Ops.grown {w w' : World} {a b o len : Nat} {K N : Nat → Int} (h : Ops w b o len K N) (hg : w.grownBy w' (some a)) (hne : b ≠ a) : Ops w' b o len K N :=
  fun i hi => ⟨hg.cell (h i hi).1 (by simpa using hne), hg.cell (h i hi).2 (by simpa using hne)⟩
theorem Ops.below {w w' : World} {b o len : Nat} {K N : Nat → Int} (h : Ops w b o len K N) (hb : Below b.succ w w') : Ops w' b o len K N :=
  fun i hi => ⟨(hb.cell (p := ⟨b, o + i * 2, none⟩) (Nat.lt_succ_self b)).trans (h i hi).1, (hb.cell (p := ⟨b, o + i * 2 + 1, none⟩) (Nat.lt_succ_self b)).trans (h i hi).2⟩

/-- What holds behind every call: both readers stand alike, the list lies where it lay. -/
def Fine (w wr : World) (A B : Nat) (s : ByteArray) (b o len : Nat) (K N : Nat → Int) : Prop :=
  ∃ (p : Nat) (e : Int), p ≤ s.size ∧ Rd wr A s p e ∧ Rr wr B s p e ∧ Ops wr b o len K N ∧ Below w.heap.size w wr
/-- The list and all that was there lie as they lay. -/
def Tr (w W : World) (b o len : Nat) (K N : Nat → Int) : Prop := Ops W b o len K N ∧ Below w.heap.size w W
theorem Tr.drew {w W : World} {b o len : Nat} {K N : Nat → Int} (h : Tr w W b o len K N) : Tr w W.drew b o len K N := ⟨h.1, h.2.drew⟩
theorem Tr.grown {w W W' : World} {a b o len : Nat} {K N : Nat → Int} (h : Tr w W b o len K N) (hg : W.grownBy W' (some a)) (hne : b ≠ a) (ha : w.heap.size ≤ a) : Tr w W' b o len K N :=
  ⟨h.1.grown hg hne, h.2.grown hg h.2.size (fun k e => by cases e; exact ha)⟩
theorem Tr.below {w W W' : World} {b o len : Nat} {K N : Nat → Int} (h : Tr w W b o len K N) (hb : Below W.heap.size W W') (hlt : b < w.heap.size) : Tr w W' b o len K N :=
  ⟨h.1.below (hb.mono (by have := h.2.size; omega)), h.2.trans (hb.mono h.2.size)⟩
theorem below_grown {w a c : World} {A : Nat} (h : Below w.heap.size w a) (hg : a.grownBy c (some A)) (hA : w.heap.size ≤ A) : Below w.heap.size w c :=
  h.grown hg h.size (fun k e => by cases e; exact hA)

set_option maxRecDepth 100000 in
set_option maxHeartbeats 2000000 in
theorem reads (s : ByteArray) (b o len cap : Nat) (K N : Nat → Int) (w : World) (hs : s.size ≤ maxLen) (hl : len ≤ maxLen) (hb : b < w.heap.size) (hO : Ops w b o len K N)
    (hN : ∀ i, i < len → -9223372036854775808 ≤ N i ∧ N i ≤ 9223372036854775807) :
    Calls Try.prog 4 #[.string s, .slice (some ⟨b, o, none⟩) len cap] w fun e w' => e = .returned (.bool true) ∧ Below w.heap.size w w' := by
  have hs' : s.size ≤ 9223372036854775807 := by unfold maxLen at hs; omega
  have hl' : len ≤ 9223372036854775807 := by unfold maxLen at hl; omega
  go_enter Try.func4, Try.ntmps4
  go_wp2_with fail
  refine (new_any s _).mono ?_
  rintro x w1 ⟨rfl, hA, b1⟩
  have hlt1 := hA.lt
  go_wp2_with fail
  have hB : Rr (w1.alloc (.cells #[.string s, .int .i64 0, .int .i64 0] 31)) w1.heap.size s 0 0 := heap_alloc_new w1 _
  have hA2 := hA.below ((Below.refl w1.heap.size w1).alloc (Nat.le_refl _) (.cells #[.string s, .int .i64 0, .int .i64 0] 31))
  have hbel := b1.alloc b1.size (.cells #[.string s, .int .i64 0, .int .i64 0] 31)
  have hO2 : Ops (w1.alloc (.cells #[.string s, .int .i64 0, .int .i64 0] 31)) b o len K N := hO.below (hbel.mono hb)
  have hbA : b ≠ w.heap.size := by omega
  have hbB : b ≠ w1.heap.size := by omega
  have hne : w.heap.size ≠ w1.heap.size := by omega
  have hne' : w1.heap.size ≠ w.heap.size := by omega
  go_loopw [7] (fun i wr => ∃ k p : Nat, ∃ e : Int, k ≤ len ∧ k ≤ 100 ∧ i = .int .i64 k ∧ p ≤ s.size ∧ Rd wr w.heap.size s p e ∧ Rr wr w1.heap.size s p e ∧ Ops wr b o len K N ∧ Below w.heap.size w wr) (fun i _ => 100 - (intOf i).toNat)
  case atStart => exact ⟨0, 0, 0, Nat.zero_le _, Nat.zero_le _, rfl, Nat.zero_le _, hA2, hB, hO2, hbel⟩
  case round =>
    obtain ⟨k, p, e, hk, hk100, rfl, hp, hRd, hRr, hOr, hBr⟩ := hrel
    by_cases hlt : k < len
    · by_cases h100 : k < 100
      · obtain ⟨hc0, hc1⟩ := hOr k hlt
        obtain ⟨hN0, hN1⟩ := hN k hlt
        go_upto_block 2 with fail
        go_cut [8, 9] from 19 to 128 (fun v _ wx => v = .bool true ∧ Fine w wx w.heap.size w1.heap.size s b o len K N)
        case first =>
          generalize K k = q at hc0
          generalize N k = n at hc1 hN0 hN1
          by_cases q0 : q = 0
          · subst q0
            have hle := bytOf_le (s.data.toList.drop p)
            rw [List.length_drop, len_data] at hle
            have hI := ansI_le (e := e) hp hle
            go_wp2_with fail
            refine (byte_any _ s p e _ hRd hp hs).mono ?_
            rintro x w2 ⟨rfl, hd2, g2⟩
            have hr2 := hRr.past g2 hne'
            go_wp2_with fail
            refine (rByte_any _ s p e _ hr2 hs).mono ?_
            rintro x w3 ⟨rfl, hr3, g3⟩
            have hd3 := hd2.past g3 hne
            have hf : Fine w w3 w.heap.size w1.heap.size s b o len K N := ⟨_, _, hI, hd3, hr3, (hOr.grown g2 hbA).grown g3 hbB, below_grown (below_grown hBr g2 (Nat.le_refl _)) g3 (Nat.le_of_lt hlt1)⟩
            go_wp2_with fail
            go_meet
            case rel => exact ⟨rfl, hf⟩
          · have q0' : (q == 0) = false := by simpa using q0
            by_cases q1 : q = 1
            · subst q1
              have hle := (numOf_le (s.data.toList.drop p)).1
              rw [List.length_drop, len_data] at hle
              have hI := ansI_le (e := e) hp hle
              go_wp2_with fail
              refine (number_any _ s p e _ hRd hp hs).mono ?_
              rintro x w2 ⟨rfl, hd2, g2⟩
              have hr2 := hRr.past g2 hne'
              go_wp2_with fail
              refine (rNumber_any _ s p e _ hr2 hp hs).mono ?_
              rintro x w3 ⟨rfl, hr3, g3⟩
              have hd3 := hd2.past g3 hne
              have hf : Fine w w3 w.heap.size w1.heap.size s b o len K N := ⟨_, _, hI, hd3, hr3, (hOr.grown g2 hbA).grown g3 hbB, below_grown (below_grown hBr g2 (Nat.le_refl _)) g3 (Nat.le_of_lt hlt1)⟩
              go_wp2_with fail
              go_meet
              case rel => exact ⟨rfl, hf⟩
            · have q1' : (q == 1) = false := by simpa using q1
              by_cases q2 : q = 2
              · subst q2
                have hle := takOf_le n (s.data.toList.drop p)
                rw [List.length_drop, len_data] at hle
                have hI := ansI_le (e := e) hp hle
                go_wp2_with fail
                have dRd : Rd wr.drew w.heap.size s p e := hRd
                have dRr : Rr wr.drew w1.heap.size s p e := hRr
                have dT : Tr w wr.drew b o len K N := Tr.drew ⟨hOr, hBr⟩
                have hle1 : w.heap.size ≤ w1.heap.size := Nat.le_of_lt hlt1
                have dc1 : wr.drew.cell? ⟨b, o + k * 2 + 1, none⟩ = some (.int .i64 n) := hc1
                go_region_held3 (fun W => W.cell? ⟨b, o + k * 2 + 1, none⟩ = some (.int .i64 n)) (first | exact dc1 | exact hc2) (first | (go_at_call 14; (with_reducible refine (bytes_any _ s p e n _ (by assumption) hp hs hN0 hN1).mono ?_); rintro x w2 ⟨rfl, hd2, g2⟩; have hc2 := g2.cell (by assumption : World.cell? _ ⟨b, o + k * 2 + 1, none⟩ = some (.int .i64 n)) (by simpa using hbA); have hr2 := Rr.past (by assumption) g2 hne'; have dT := Tr.grown dT g2 hbA (Nat.le_refl _)) | (go_at_call 15; (with_reducible refine (rBytes_any _ s p e n _ (by assumption) hp hs).mono ?_); rintro x w2 ⟨rfl, hr2, g2⟩; have hc2 := g2.cell (by assumption : World.cell? _ ⟨b, o + k * 2 + 1, none⟩ = some (.int .i64 n)) (by simpa using hbB); have hd2 := Rd.past (by assumption) g2 hne; have dT := Tr.grown dT g2 hbB hle1))
                all_goals
                  have hf : Fine w w2 w.heap.size w1.heap.size s b o len K N := ⟨_, _, hI, hd2, hr2, dT.1, dT.2⟩
                  go_wp2_with fail
                  go_meet
                  case rel => exact ⟨rfl, hf⟩
              · have q2' : (q == 2) = false := by simpa using q2
                by_cases q3 : q = 3
                · subst q3
                  have hle := txtOf_le (s.data.toList.drop p)
                  rw [List.length_drop, len_data] at hle
                  have hI := ansI_le (e := e) hp hle
                  go_wp2_with fail
                  refine (text_any _ s p e _ hRd hp hs).mono ?_
                  rintro x w2 ⟨rfl, hd2, g2⟩
                  have hr2 := hRr.past g2 hne'
                  go_wp2_with fail
                  refine (rText_any _ s p e _ hr2 hp hs).mono ?_
                  rintro x w3 ⟨rfl, hr3, g3⟩
                  have hd3 := hd2.past g3 hne
                  have hf : Fine w w3 w.heap.size w1.heap.size s b o len K N := ⟨_, _, hI, hd3, hr3, (hOr.grown g2 hbA).grown g3 hbB, below_grown (below_grown hBr g2 (Nat.le_refl _)) g3 (Nat.le_of_lt hlt1)⟩
                  go_wp2_with fail
                  go_meet
                  case rel => exact ⟨rfl, hf⟩
                · have q3' : (q == 3) = false := by simpa using q3
                  by_cases q4 : q = 4
                  · subst q4
                    go_wp2_with fail
                    refine (fail_any _ s p e n _ hRd).mono ?_
                    rintro x w2 ⟨rfl, hd2, g2⟩
                    have hr2 := hRr.past g2 hne'
                    go_wp2_with fail
                    refine (rFail_any _ s p e n _ hr2).mono ?_
                    rintro x w3 ⟨rfl, hr3, g3⟩
                    have hd3 := hd2.past g3 hne
                    have hf : Fine w w3 w.heap.size w1.heap.size s b o len K N := ⟨_, _, hp, hd3, hr3, (hOr.grown g2 hbA).grown g3 hbB, below_grown (below_grown hBr g2 (Nat.le_refl _)) g3 (Nat.le_of_lt hlt1)⟩
                    go_wp2_with fail
                    go_meet
                    case rel => exact ⟨rfl, hf⟩
                  · have q4' : (q == 4) = false := by simpa using q4
                    have hf : Fine w wr w.heap.size w1.heap.size s b o len K N := ⟨_, _, hp, hRd, hRr, hOr, hBr⟩
                    go_wp2_with fail
                    go_meet
                    case rel => exact ⟨rfl, hf⟩
        case rest =>
          obtain ⟨rfl, p', e', hp', hd, hr, hO', hB'⟩ := hcut
          clear hRd hRr hOr hBr hc0 hc1 hN0 hN1 hp
          have hwr : IntKind.i64.wrap ((s.size : Int) - p') = (s.size : Int) - p' := IntWalk.i64_in _ (by omega)
          go_wp2_with fail
          refine (err_any _ s p' e' _ hd).mono ?_
          rintro x w2 ⟨rfl, b2⟩
          have hd2 := hd.below b2
          have hr2 := hr.below b2
          have hT : Tr w w2 b o len K N := ⟨hO'.below (b2.mono (by have := hB'.size; omega)), hB'.trans (b2.mono hB'.size)⟩
          go_wp2_with fail
          have dd : Rd w2.drew w.heap.size s p' e' := hd2
          have dr : Rr w2.drew w1.heap.size s p' e' := hr2
          have dT := hT.drew
          have dc1 := dr.c1
          have dc2 := dr.c2
          go_region_held3 (fun W => W.cell? ⟨w1.heap.size, 1, none⟩ = some (.int .i64 (p' : Int)) ∧ W.cell? ⟨w1.heap.size, 2, none⟩ = some (.int .i64 e')) (first | exact ⟨dc1, dc2⟩ | exact ⟨hc1, hc2⟩) (first | (go_at_call 21; (with_reducible refine (at_any _ s p' e' _ (by assumption)).mono ?_); rintro x w3 ⟨rfl, b3⟩; have hr3 := Rr.below (by assumption) b3; have hd3 := Rd.below (by assumption) b3; have hc1 := hr3.c1; have hc2 := hr3.c2; have dT := Tr.below dT b3 hb) | (go_at_call 22; (with_reducible refine (left_any _ s p' e' _ (by assumption) hp').mono ?_); rintro x w3 ⟨rfl, b3⟩; have hr3 := Rr.below (by assumption) b3; have hd3 := Rd.below (by assumption) b3; have hc1 := hr3.c1; have hc2 := hr3.c2; have dT := Tr.below dT b3 hb))
          all_goals
            go_wp2_with fail
            go_roundw
            case rel => exact ⟨k + 1, p', e', by omega, by omega, by go_num, hp', hd3, hr3, dT.1, dT.2⟩
            case measure => simp [intOf]; omega
      · have hT : Tr w wr b o len K N := ⟨hOr, hBr⟩
        have hwr : IntKind.i64.wrap ((s.size : Int) - p) = (s.size : Int) - p := IntWalk.i64_in _ (by omega)
        go_wp2_with fail
        have dd : Rd wr.drew w.heap.size s p e := hRd
        have dr : Rr wr.drew w1.heap.size s p e := hRr
        have dT := hT.drew
        have dc1 := dr.c1
        go_region_held3 (fun W => W.cell? ⟨w1.heap.size, 1, none⟩ = some (.int .i64 (p : Int))) (first | exact dc1 | exact hc1) (first | (go_at_call 21; (with_reducible refine (at_any _ s p e _ (by assumption)).mono ?_); rintro x w3 ⟨rfl, b3⟩; have hr3 := Rr.below (by assumption) b3; have hd3 := Rd.below (by assumption) b3; have hc1 := hr3.c1; have dT := Tr.below dT b3 hb) | (go_at_call 22; (with_reducible refine (left_any _ s p e _ (by assumption) hp).mono ?_); rintro x w3 ⟨rfl, b3⟩; have hr3 := Rr.below (by assumption) b3; have hd3 := Rd.below (by assumption) b3; have hc1 := hr3.c1; have dT := Tr.below dT b3 hb))
        all_goals
          go_wp2_with fail
          go_ret
          exact ⟨rfl, dT.2⟩
    · have hT : Tr w wr b o len K N := ⟨hOr, hBr⟩
      have hwr : IntKind.i64.wrap ((s.size : Int) - p) = (s.size : Int) - p := IntWalk.i64_in _ (by omega)
      go_wp2_with fail
      have dd : Rd wr.drew w.heap.size s p e := hRd
      have dr : Rr wr.drew w1.heap.size s p e := hRr
      have dT := hT.drew
      have dc1 := dr.c1
      go_region_held3 (fun W => W.cell? ⟨w1.heap.size, 1, none⟩ = some (.int .i64 (p : Int))) (first | exact dc1 | exact hc1) (first | (go_at_call 21; (with_reducible refine (at_any _ s p e _ (by assumption)).mono ?_); rintro x w3 ⟨rfl, b3⟩; have hr3 := Rr.below (by assumption) b3; have hd3 := Rd.below (by assumption) b3; have hc1 := hr3.c1; have dT := Tr.below dT b3 hb) | (go_at_call 22; (with_reducible refine (left_any _ s p e _ (by assumption) hp).mono ?_); rintro x w3 ⟨rfl, b3⟩; have hr3 := Rr.below (by assumption) b3; have hd3 := Rd.below (by assumption) b3; have hc1 := hr3.c1; have dT := Tr.below dT b3 hb))
      all_goals
        go_wp2_with fail
        go_ret
        exact ⟨rfl, dT.2⟩
end Go.Proofs.Ytpapakkcomegnaa.MbLaw
