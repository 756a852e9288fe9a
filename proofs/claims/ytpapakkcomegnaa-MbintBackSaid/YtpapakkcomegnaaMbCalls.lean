/-
Every call of a reader: what it answers and how it leaves the reader. Conditions: the reader's place is within its text, the text's length is at most maxLen.
-/
import Derived.Test.YtpapakkcomegnaaMbRead
namespace Go.Proofs.Ytpapakkcomegnaa.Mb
open Go.RowKit

theorem bne_zero {f : Nat} (h : f ≠ 0) : ((f : Int) != 0) = true := by simp; omega
theorem bne_int {e : Int} (h : e ≠ 0) : (e != 0) = true := by simpa using h
theorem cast_zero_of {f : Nat} (h : f = 0) : ((f : Nat) : Int) = 0 := by rw [h]; rfl

/-- What a call of a kind with value val does: from the read's three cases. -/
theorem read_cases {α : Type} {P : Program} {g : Nat} {args : Array Value} {w : World} {b : Nat} {s : ByteArray} {i : Nat} {e : Int} {v0 : α} {val : α → Value} {R : α × Nat × Nat}
    (was : e ≠ 0 → Calls P g args w fun x w' => x = .returned (val v0) ∧ Rd w' b s i e ∧ w.grownBy w' (some b))
    (bad : e = 0 → R.2.2 ≠ 0 → Calls P g args w fun x w' => x = .returned (val v0) ∧ Rd w' b s i (R.2.2 : Nat) ∧ w.grownBy w' (some b))
    (ok : e = 0 → R.2.2 = 0 → Calls P g args w fun x w' => x = .returned (val R.1) ∧ Rd w' b s (i + R.2.1) 0 ∧ w.grownBy w' (some b)) :
    Calls P g args w fun x w' => x = .returned (val (ansV e v0 R)) ∧ Rd w' b s (ansI e i R) (ansE e R) ∧ w.grownBy w' (some b) := by
  by_cases he : e = 0
  · subst he
    by_cases hR : R.2.2 = 0
    · rw [ansV_ok hR, ansI_ok hR, ansE_zero, hR]; exact ok rfl hR
    · rw [ansV_bad hR, ansI_bad hR, ansE_zero]; exact bad rfl hR
  · rw [ansV_was he, ansI_was he, ansE_was he]; exact was he

theorem readByte_any (b : Nat) (s : ByteArray) (i : Nat) (e : Int) (w : World) (h : Rd w b s i e) (hi : i ≤ s.size) (hs : s.size ≤ maxLen) :
    Calls Try.prog 25 #[.pointer (some ⟨b, 0, none⟩), .func (.func 26) #[.pointer (some ⟨b, 0, none⟩)] #[]] w fun x w' => x = .returned (.int .u8 ((ansV e 0 (bytOf (s.data.toList.drop i)) : Nat) : Int)) ∧ Rd w' b s (ansI e i (bytOf (s.data.toList.drop i))) (ansE e (bytOf (s.data.toList.drop i))) ∧ w.grownBy w' (some b) := by
  have hle := bytOf_le (s.data.toList.drop i)
  rw [List.length_drop, len_data] at hle
  refine read_cases (val := fun v : Nat => .int .u8 (v : Int)) (fun he => readByte_was b s i e w h (bne_int he)) (fun he hR => ?_) (fun he hR => ?_)
  · subst he
    exact readByte_bad b s i w h _ _ _ (Lib.hid fun W h => byteHere_any b s i 0 W h hi) (bne_zero hR)
  · subst he
    refine readByte_ok b s i w h _ _ (by unfold maxLen at hs; omega) (Lib.hid fun W h => ?_)
    have := byteHere_any b s i 0 W h hi
    rw [cast_zero_of hR] at this
    exact this
theorem readNumber_any (b : Nat) (s : ByteArray) (i : Nat) (e : Int) (w : World) (h : Rd w b s i e) (hi : i ≤ s.size) (hs : s.size ≤ maxLen) :
    Calls Try.prog 27 #[.pointer (some ⟨b, 0, none⟩), .func (.func 28) #[.pointer (some ⟨b, 0, none⟩)] #[]] w fun x w' => x = .returned (.int .u32 ((ansV e 0 (numOf (s.data.toList.drop i)) : Nat) : Int)) ∧ Rd w' b s (ansI e i (numOf (s.data.toList.drop i))) (ansE e (numOf (s.data.toList.drop i))) ∧ w.grownBy w' (some b) := by
  have hle := (numOf_le (s.data.toList.drop i)).1
  rw [List.length_drop, len_data] at hle
  refine read_cases (val := fun v : Nat => .int .u32 (v : Int)) (fun he => readNumber_was b s i e w h (bne_int he)) (fun he hR => ?_) (fun he hR => ?_)
  · subst he
    exact readNumber_bad b s i w h _ _ _ (Lib.hid fun W h => numberHere_any b s i 0 W h hi hs) (bne_zero hR)
  · subst he
    refine readNumber_ok b s i w h _ _ (by unfold maxLen at hs; omega) (Lib.hid fun W h => ?_)
    have := numberHere_any b s i 0 W h hi hs
    rw [cast_zero_of hR] at this
    exact this
theorem readText_any (b : Nat) (s : ByteArray) (i : Nat) (e : Int) (w : World) (h : Rd w b s i e) (hi : i ≤ s.size) (hs : s.size ≤ maxLen) :
    Calls Try.prog 29 #[.pointer (some ⟨b, 0, none⟩), .func (.func 32) #[.pointer (some ⟨b, 0, none⟩)] #[]] w fun x w' => x = .returned (.string ⟨(ansV e [] (txtOf (s.data.toList.drop i))).toArray⟩) ∧ Rd w' b s (ansI e i (txtOf (s.data.toList.drop i))) (ansE e (txtOf (s.data.toList.drop i))) ∧ w.grownBy w' (some b) := by
  have hle := txtOf_le (s.data.toList.drop i)
  rw [List.length_drop, len_data] at hle
  refine read_cases (val := fun v : List UInt8 => .string ⟨v.toArray⟩) (fun he => readText_was b s i e w h (bne_int he)) (fun he hR => ?_) (fun he hR => ?_)
  · subst he
    exact readText_bad b s i w h _ _ _ (Lib.hid fun W h => textHere_any b s i 0 W h hi hs) (bne_zero hR)
  · subst he
    refine readText_ok b s i w h _ _ (by unfold maxLen at hs; omega) (Lib.hid fun W h => ?_)
    have := textHere_any b s i 0 W h hi hs
    rw [cast_zero_of hR] at this
    exact this

set_option maxHeartbeats 400000 in
theorem inBytes_any (b p q : Nat) (s : ByteArray) (i : Nat) (e n : Int) (w : World) (h : Rd w b s i e) (hi : i ≤ s.size) (hs : s.size ≤ maxLen) (h0 : -9223372036854775808 ≤ n) (h1 : n ≤ 9223372036854775807)
    (hp : w.cell? ⟨p, 0, none⟩ = some (.pointer (some ⟨b, 0, none⟩))) (hq : w.cell? ⟨q, 0, none⟩ = some (.int .i64 n)) :
    Calls Try.prog 30 #[.pointer (some ⟨p, 0, none⟩), .pointer (some ⟨q, 0, none⟩)] w fun x w' => x = .returned (.tuple #[.string ⟨(takOf n (s.data.toList.drop i)).1.toArray⟩, .int .i64 ((takOf n (s.data.toList.drop i)).2.1 : Int), .int .i64 ((takOf n (s.data.toList.drop i)).2.2 : Int)]) ∧ Below w.heap.size w w' := by
  have C := Lib.hid (fun W h => bytesHere_any b s i e n W h hi hs h0 h1)
  generalize takOf n (s.data.toList.drop i) = R at C ⊢
  go_enter Try.func30, Try.ntmps30
  go_wp2_with fail
  refine (C.out _ h).mono ?_
  rintro x w1 ⟨rfl, b1⟩
  go_wp2
  go_ret3
  exact ⟨rfl, b1⟩
theorem readBytes_any (b : Nat) (s : ByteArray) (i : Nat) (e : Int) (p q : Nat) (n : Int) (w : World) (h : Rd w b s i e) (hi : i ≤ s.size) (hs : s.size ≤ maxLen) (h0 : -9223372036854775808 ≤ n) (h1 : n ≤ 9223372036854775807)
    (hp : w.cell? ⟨p, 0, none⟩ = some (.pointer (some ⟨b, 0, none⟩))) (hq : w.cell? ⟨q, 0, none⟩ = some (.int .i64 n)) :
    Calls Try.prog 29 #[.pointer (some ⟨b, 0, none⟩), .func (.func 30) #[] #[.pointer (some ⟨p, 0, none⟩), .pointer (some ⟨q, 0, none⟩)]] w fun x w' => x = .returned (.string ⟨(ansV e [] (takOf n (s.data.toList.drop i))).toArray⟩) ∧ Rd w' b s (ansI e i (takOf n (s.data.toList.drop i))) (ansE e (takOf n (s.data.toList.drop i))) ∧ w.grownBy w' (some b) := by
  have hle := takOf_le n (s.data.toList.drop i)
  rw [List.length_drop, len_data] at hle
  refine read_cases (val := fun v : List UInt8 => .string ⟨v.toArray⟩) (fun he => readBytes_was b s i e p q n w h hp hq (bne_int he)) (fun he hR => ?_) (fun he hR => ?_)
  · subst he
    exact readBytes_bad b s i p q n w h hp hq _ _ _ (Lib.hid fun W h hp hq => inBytes_any b p q s i 0 n W h hi hs h0 h1 hp hq) (bne_zero hR)
  · subst he
    refine readBytes_ok b s i p q n w h hp hq _ _ (by unfold maxLen at hs; omega) (Lib.hid fun W h hp hq => ?_)
    have := inBytes_any b p q s i 0 n W h hi hs h0 h1 hp hq
    rw [cast_zero_of hR] at this
    exact this

set_option maxHeartbeats 400000 in
theorem byte_any (b : Nat) (s : ByteArray) (i : Nat) (e : Int) (w : World) (h : Rd w b s i e) (hi : i ≤ s.size) (hs : s.size ≤ maxLen) :
    Calls Try.prog 10 #[.pointer (some ⟨b, 0, none⟩)] w fun x w' => x = .returned (.int .u8 ((ansV e 0 (bytOf (s.data.toList.drop i)) : Nat) : Int)) ∧ Rd w' b s (ansI e i (bytOf (s.data.toList.drop i))) (ansE e (bytOf (s.data.toList.drop i))) ∧ w.grownBy w' (some b) := by
  have C := Lib.hid (readByte_any b s i e w h hi hs)
  generalize ansV e 0 (bytOf (s.data.toList.drop i)) = V at C ⊢
  generalize ansI e i (bytOf (s.data.toList.drop i)) = I at C ⊢
  generalize ansE e (bytOf (s.data.toList.drop i)) = E at C ⊢
  go_enter Try.func10, Try.ntmps10
  go_wp2_with fail
  refine C.out.mono ?_
  rintro x w1 ⟨rfl, h1, g1⟩
  go_wp2
  go_ret
  exact ⟨rfl, h1, g1⟩
set_option maxHeartbeats 400000 in
theorem number_any (b : Nat) (s : ByteArray) (i : Nat) (e : Int) (w : World) (h : Rd w b s i e) (hi : i ≤ s.size) (hs : s.size ≤ maxLen) :
    Calls Try.prog 12 #[.pointer (some ⟨b, 0, none⟩)] w fun x w' => x = .returned (.int .u32 ((ansV e 0 (numOf (s.data.toList.drop i)) : Nat) : Int)) ∧ Rd w' b s (ansI e i (numOf (s.data.toList.drop i))) (ansE e (numOf (s.data.toList.drop i))) ∧ w.grownBy w' (some b) := by
  have C := Lib.hid (readNumber_any b s i e w h hi hs)
  generalize ansV e 0 (numOf (s.data.toList.drop i)) = V at C ⊢
  generalize ansI e i (numOf (s.data.toList.drop i)) = I at C ⊢
  generalize ansE e (numOf (s.data.toList.drop i)) = E at C ⊢
  go_enter Try.func12, Try.ntmps12
  go_wp2_with fail
  refine C.out.mono ?_
  rintro x w1 ⟨rfl, h1, g1⟩
  go_wp2
  go_ret
  exact ⟨rfl, h1, g1⟩
set_option maxHeartbeats 400000 in
theorem text_any (b : Nat) (s : ByteArray) (i : Nat) (e : Int) (w : World) (h : Rd w b s i e) (hi : i ≤ s.size) (hs : s.size ≤ maxLen) :
    Calls Try.prog 16 #[.pointer (some ⟨b, 0, none⟩)] w fun x w' => x = .returned (.string ⟨(ansV e [] (txtOf (s.data.toList.drop i))).toArray⟩) ∧ Rd w' b s (ansI e i (txtOf (s.data.toList.drop i))) (ansE e (txtOf (s.data.toList.drop i))) ∧ w.grownBy w' (some b) := by
  have C := Lib.hid (readText_any b s i e w h hi hs)
  generalize ansV e [] (txtOf (s.data.toList.drop i)) = V at C ⊢
  generalize ansI e i (txtOf (s.data.toList.drop i)) = I at C ⊢
  generalize ansE e (txtOf (s.data.toList.drop i)) = E at C ⊢
  go_enter Try.func16, Try.ntmps16
  go_wp2_with fail
  refine C.out.mono ?_
  rintro x w1 ⟨rfl, h1, g1⟩
  go_wp2
  go_ret
  exact ⟨rfl, h1, g1⟩

set_option maxHeartbeats 400000 in
theorem bytes_any (b : Nat) (s : ByteArray) (i : Nat) (e n : Int) (w : World) (h : Rd w b s i e) (hi : i ≤ s.size) (hs : s.size ≤ maxLen) (h0 : -9223372036854775808 ≤ n) (h1 : n ≤ 9223372036854775807) :
    Calls Try.prog 14 #[.pointer (some ⟨b, 0, none⟩), .int .i64 n] w fun x w' => x = .returned (.string ⟨(ansV e [] (takOf n (s.data.toList.drop i))).toArray⟩) ∧ Rd w' b s (ansI e i (takOf n (s.data.toList.drop i))) (ansE e (takOf n (s.data.toList.drop i))) ∧ w.grownBy w' (some b) := by
  have C := Lib.hid (fun p q W h hp hq => readBytes_any b s i e p q n W h hi hs h0 h1 hp hq)
  generalize ansV e [] (takOf n (s.data.toList.drop i)) = V at C ⊢
  generalize ansI e i (takOf n (s.data.toList.drop i)) = I at C ⊢
  generalize ansE e (takOf n (s.data.toList.drop i)) = E at C ⊢
  have hb := ((Below.refl w.heap.size w).alloc (Nat.le_refl _) (.cells #[.pointer (some ⟨b, 0, none⟩)] 26)).alloc (by simp) (.cells #[.int .i64 n] 3)
  have hp : ((w.alloc (.cells #[.pointer (some ⟨b, 0, none⟩)] 26)).alloc (.cells #[.int .i64 n] 3)).cell? ⟨w.heap.size, 0, none⟩ = some (.pointer (some ⟨b, 0, none⟩)) := by go_simp
  have hq : ((w.alloc (.cells #[.pointer (some ⟨b, 0, none⟩)] 26)).alloc (.cells #[.int .i64 n] 3)).cell? ⟨w.heap.size + 1, 0, none⟩ = some (.int .i64 n) := by go_simp
  have C2 := Lib.hid (C.out _ _ _ (h.below hb) hp hq)
  clear hp hq C
  go_enter Try.func14, Try.ntmps14
  go_wp2_with fail
  refine C2.out.mono ?_
  rintro x w1 ⟨rfl, h1, g1⟩
  go_wp2
  go_ret
  exact ⟨rfl, h1, grown_trans (grown_below hb _) g1⟩

set_option maxHeartbeats 400000 in
theorem fail_any (b : Nat) (s : ByteArray) (i : Nat) (e f : Int) (w : World) (h : Rd w b s i e) :
    Calls Try.prog 18 #[.pointer (some ⟨b, 0, none⟩), .int .i64 f] w fun x w' => x = .returned (.tuple #[]) ∧ Rd w' b s i (if e = 0 then f else e) ∧ w.grownBy w' (some b) := by
  have c2 := h.c2
  have f2 := h.f2
  by_cases he : e = 0
  · subst he
    rw [if_pos rfl]
    go_enter Try.func18, Try.ntmps18
    go_wp2
    go_end0
    exact ⟨rfl, h.err _, grown_set (grown_refl _ _) _ _⟩
  · have hb : (e == 0) = false := by simpa using he
    rw [if_neg he]
    go_enter Try.func18, Try.ntmps18
    go_wp2
    go_end0
    exact ⟨rfl, h, grown_refl _ _⟩
end Go.Proofs.Ytpapakkcomegnaa.Mb
