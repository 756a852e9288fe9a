/-
The reads of a reader: what each answers and how it leaves the reader. Conditions: the reader's place is within its text, the text's length is at most maxLen.
-/
import Derived.Test.YtpapakkcomegnaaMbHere
import Derived.Test.YtpapakkcomegnaaMbCut
namespace Go.Proofs.Ytpapakkcomegnaa.Mb
open Go.RowKit
set_option linter.unusedVariables false

theorem Rd.at {w : World} {b : Nat} {s : ByteArray} {i : Nat} {e : Int} (h : Rd w b s i e) (j : Int) (k : Nat) (hk : j = k) : Rd (w.setCell ⟨b, 1, none⟩ (.int .i64 j)) b s k e := by
  subst hk
  unfold Rd at h ⊢
  simp only [World.setCell, Array.getElem?_modify, h, if_true, Option.map_some]
  rfl
theorem Rd.err {w : World} {b : Nat} {s : ByteArray} {i : Nat} {e : Int} (h : Rd w b s i e) (f : Int) : Rd (w.setCell ⟨b, 2, none⟩ (.int .i64 f)) b s i f := by
  unfold Rd at h ⊢
  simp only [World.setCell, Array.getElem?_modify, h, if_true, Option.map_some]
  rfl
theorem Rd.f1 {w : World} {b : Nat} {s : ByteArray} {i : Nat} {e : Int} (h : Rd w b s i e) : w.frozen? ⟨b, 1, none⟩ = false := frozen_of_row w b 1 _ _ h
theorem Rd.f2 {w : World} {b : Nat} {s : ByteArray} {i : Nat} {e : Int} (h : Rd w b s i e) : w.frozen? ⟨b, 2, none⟩ = false := frozen_of_row w b 2 _ _ h
/-- Nothing but block b may have changed. -/
theorem grown_refl (w : World) (r : Option Nat) : w.grownBy w r := ⟨rfl, rfl, rfl, Nat.le_refl _, fun _ _ _ => rfl⟩
theorem grown_below {w w' : World} (h : Below w.heap.size w w') (r : Option Nat) : w.grownBy w' r := ⟨h.os, h.tape, h.output, h.size, fun k hk _ => h.block k hk⟩
theorem grown_trans {a b c : World} {r : Option Nat} (h : a.grownBy b r) (k : b.grownBy c r) : a.grownBy c r :=
  ⟨k.os.trans h.os, k.tape.trans h.tape, k.output.trans h.output, Nat.le_trans h.size k.size, fun j hj hne => (k.block j (Nat.lt_of_lt_of_le hj h.size) hne).trans (h.block j hj hne)⟩
theorem grown_set {w w' : World} {b : Nat} (h : w.grownBy w' (some b)) (o : Nat) (v : Value) : w.grownBy (w'.setCell ⟨b, o, none⟩ v) (some b) :=
  ⟨h.os, h.tape, h.output, by simp only [World.setCell, Array.size_modify]; exact h.size, fun k hk hne => (Below.heap_setCell w' ⟨b, o, none⟩ v k (fun e => hne (by rw [e]))).trans (h.block k hk hne)⟩
/-- Another reader stays as it was. -/
theorem Rd.past {w w' : World} {a b : Nat} {s : ByteArray} {i : Nat} {e : Int} (h : Rd w a s i e) (hg : w.grownBy w' (some b)) (hne : a ≠ b) : Rd w' a s i e :=
  (hg.block a h.lt (fun x => hne (by injection x))).trans h
theorem zero_cast : ((0 : Nat) : Int) = 0 := rfl
theorem empty_mk : (⟨([] : List UInt8).toArray⟩ : ByteArray) = { data := #[] } := rfl


set_option maxHeartbeats 400000 in
theorem readByte_was (b : Nat) (s : ByteArray) (i : Nat) (e : Int) (w : World) (h : Rd w b s i e) (he : (e != 0) = true) :
    Calls Try.prog 25 #[.pointer (some ⟨b, 0, none⟩), .func (.func 26) #[.pointer (some ⟨b, 0, none⟩)] #[]] w fun x w' => x = .returned (.int .u8 ((0 : Nat) : Int)) ∧ Rd w' b s i e ∧ w.grownBy w' (some b) := by
  have c2 := h.c2
  go_enter Try.func25, Try.ntmps25
  go_wp2_with fail
  go_ret
  exact ⟨rfl, h, grown_refl _ _⟩

set_option maxHeartbeats 400000 in
theorem readByte_bad (b : Nat) (s : ByteArray) (i : Nat) (w : World) (h : Rd w b s i 0) (v : Nat) (k f : Nat) (C : Hid (∀ W, Rd W b s i 0 → Calls Try.prog 26 #[.pointer (some ⟨b, 0, none⟩)] W fun x w' => x = .returned (.tuple #[.int .u8 ((v : Nat) : Int), .int .i64 (k : Int), .int .i64 (f : Int)]) ∧ Below W.heap.size W w')) (hf : ((f : Int) != 0) = true) :
    Calls Try.prog 25 #[.pointer (some ⟨b, 0, none⟩), .func (.func 26) #[.pointer (some ⟨b, 0, none⟩)] #[]] w fun x w' => x = .returned (.int .u8 ((0 : Nat) : Int)) ∧ Rd w' b s i f ∧ w.grownBy w' (some b) := by
  have c2 := h.c2
  go_enter Try.func25, Try.ntmps25
  go_wp2_with fail
  refine (C.out _ h).mono ?_
  rintro x w1 ⟨rfl, b1⟩
  have h1 := h.below b1
  have d2 := h1.c2
  have f2 := h1.f2
  go_wp2_with fail
  go_ret
  exact ⟨rfl, h1.err _, grown_set (grown_below b1 _) _ _⟩

set_option maxHeartbeats 400000 in
theorem readByte_ok (b : Nat) (s : ByteArray) (i : Nat) (w : World) (h : Rd w b s i 0) (v : Nat) (k : Nat) (hk : i + k ≤ 9223372036854775807) (C : Hid (∀ W, Rd W b s i 0 → Calls Try.prog 26 #[.pointer (some ⟨b, 0, none⟩)] W fun x w' => x = .returned (.tuple #[.int .u8 ((v : Nat) : Int), .int .i64 (k : Int), .int .i64 0]) ∧ Below W.heap.size W w')) :
    Calls Try.prog 25 #[.pointer (some ⟨b, 0, none⟩), .func (.func 26) #[.pointer (some ⟨b, 0, none⟩)] #[]] w fun x w' => x = .returned (.int .u8 ((v : Nat) : Int)) ∧ Rd w' b s (i + k) 0 ∧ w.grownBy w' (some b) := by
  have c2 := h.c2
  go_enter Try.func25, Try.ntmps25
  go_wp2_with fail
  refine (C.out _ h).mono ?_
  rintro x w1 ⟨rfl, b1⟩
  have h1 := h.below b1
  have d1 := h1.c1
  have f1 := h1.f1
  go_wp2_with fail
  go_ret
  exact ⟨rfl, h1.at _ _ (by omega), grown_set (grown_below b1 _) _ _⟩

set_option maxHeartbeats 400000 in
theorem readNumber_was (b : Nat) (s : ByteArray) (i : Nat) (e : Int) (w : World) (h : Rd w b s i e) (he : (e != 0) = true) :
    Calls Try.prog 27 #[.pointer (some ⟨b, 0, none⟩), .func (.func 28) #[.pointer (some ⟨b, 0, none⟩)] #[]] w fun x w' => x = .returned (.int .u32 ((0 : Nat) : Int)) ∧ Rd w' b s i e ∧ w.grownBy w' (some b) := by
  have c2 := h.c2
  go_enter Try.func27, Try.ntmps27
  go_wp2_with fail
  go_ret
  exact ⟨rfl, h, grown_refl _ _⟩

set_option maxHeartbeats 400000 in
theorem readNumber_bad (b : Nat) (s : ByteArray) (i : Nat) (w : World) (h : Rd w b s i 0) (v : Nat) (k f : Nat) (C : Hid (∀ W, Rd W b s i 0 → Calls Try.prog 28 #[.pointer (some ⟨b, 0, none⟩)] W fun x w' => x = .returned (.tuple #[.int .u32 ((v : Nat) : Int), .int .i64 (k : Int), .int .i64 (f : Int)]) ∧ Below W.heap.size W w')) (hf : ((f : Int) != 0) = true) :
    Calls Try.prog 27 #[.pointer (some ⟨b, 0, none⟩), .func (.func 28) #[.pointer (some ⟨b, 0, none⟩)] #[]] w fun x w' => x = .returned (.int .u32 ((0 : Nat) : Int)) ∧ Rd w' b s i f ∧ w.grownBy w' (some b) := by
  have c2 := h.c2
  go_enter Try.func27, Try.ntmps27
  go_wp2_with fail
  refine (C.out _ h).mono ?_
  rintro x w1 ⟨rfl, b1⟩
  have h1 := h.below b1
  have d2 := h1.c2
  have f2 := h1.f2
  go_wp2_with fail
  go_ret
  exact ⟨rfl, h1.err _, grown_set (grown_below b1 _) _ _⟩

set_option maxHeartbeats 400000 in
theorem readNumber_ok (b : Nat) (s : ByteArray) (i : Nat) (w : World) (h : Rd w b s i 0) (v : Nat) (k : Nat) (hk : i + k ≤ 9223372036854775807) (C : Hid (∀ W, Rd W b s i 0 → Calls Try.prog 28 #[.pointer (some ⟨b, 0, none⟩)] W fun x w' => x = .returned (.tuple #[.int .u32 ((v : Nat) : Int), .int .i64 (k : Int), .int .i64 0]) ∧ Below W.heap.size W w')) :
    Calls Try.prog 27 #[.pointer (some ⟨b, 0, none⟩), .func (.func 28) #[.pointer (some ⟨b, 0, none⟩)] #[]] w fun x w' => x = .returned (.int .u32 ((v : Nat) : Int)) ∧ Rd w' b s (i + k) 0 ∧ w.grownBy w' (some b) := by
  have c2 := h.c2
  go_enter Try.func27, Try.ntmps27
  go_wp2_with fail
  refine (C.out _ h).mono ?_
  rintro x w1 ⟨rfl, b1⟩
  have h1 := h.below b1
  have d1 := h1.c1
  have f1 := h1.f1
  go_wp2_with fail
  go_ret
  exact ⟨rfl, h1.at _ _ (by omega), grown_set (grown_below b1 _) _ _⟩

set_option maxHeartbeats 400000 in
theorem readText_was (b : Nat) (s : ByteArray) (i : Nat) (e : Int) (w : World) (h : Rd w b s i e) (he : (e != 0) = true) :
    Calls Try.prog 29 #[.pointer (some ⟨b, 0, none⟩), .func (.func 32) #[.pointer (some ⟨b, 0, none⟩)] #[]] w fun x w' => x = .returned (.string ⟨([] : List UInt8).toArray⟩) ∧ Rd w' b s i e ∧ w.grownBy w' (some b) := by
  have c2 := h.c2
  go_enter Try.func29, Try.ntmps29
  go_wp2_with fail
  go_ret
  exact ⟨rfl, h, grown_refl _ _⟩

set_option maxHeartbeats 400000 in
theorem readText_bad (b : Nat) (s : ByteArray) (i : Nat) (w : World) (h : Rd w b s i 0) (v : List UInt8) (k f : Nat) (C : Hid (∀ W, Rd W b s i 0 → Calls Try.prog 32 #[.pointer (some ⟨b, 0, none⟩)] W fun x w' => x = .returned (.tuple #[.string ⟨(v : List UInt8).toArray⟩, .int .i64 (k : Int), .int .i64 (f : Int)]) ∧ Below W.heap.size W w')) (hf : ((f : Int) != 0) = true) :
    Calls Try.prog 29 #[.pointer (some ⟨b, 0, none⟩), .func (.func 32) #[.pointer (some ⟨b, 0, none⟩)] #[]] w fun x w' => x = .returned (.string ⟨([] : List UInt8).toArray⟩) ∧ Rd w' b s i f ∧ w.grownBy w' (some b) := by
  have c2 := h.c2
  go_enter Try.func29, Try.ntmps29
  go_wp2_with fail
  refine (C.out _ h).mono ?_
  rintro x w1 ⟨rfl, b1⟩
  have h1 := h.below b1
  have d2 := h1.c2
  have f2 := h1.f2
  go_wp2_with fail
  go_ret
  exact ⟨rfl, h1.err _, grown_set (grown_below b1 _) _ _⟩

set_option maxHeartbeats 400000 in
theorem readText_ok (b : Nat) (s : ByteArray) (i : Nat) (w : World) (h : Rd w b s i 0) (v : List UInt8) (k : Nat) (hk : i + k ≤ 9223372036854775807) (C : Hid (∀ W, Rd W b s i 0 → Calls Try.prog 32 #[.pointer (some ⟨b, 0, none⟩)] W fun x w' => x = .returned (.tuple #[.string ⟨(v : List UInt8).toArray⟩, .int .i64 (k : Int), .int .i64 0]) ∧ Below W.heap.size W w')) :
    Calls Try.prog 29 #[.pointer (some ⟨b, 0, none⟩), .func (.func 32) #[.pointer (some ⟨b, 0, none⟩)] #[]] w fun x w' => x = .returned (.string ⟨(v : List UInt8).toArray⟩) ∧ Rd w' b s (i + k) 0 ∧ w.grownBy w' (some b) := by
  have c2 := h.c2
  go_enter Try.func29, Try.ntmps29
  go_wp2_with fail
  refine (C.out _ h).mono ?_
  rintro x w1 ⟨rfl, b1⟩
  have h1 := h.below b1
  have d1 := h1.c1
  have f1 := h1.f1
  go_wp2_with fail
  go_ret
  exact ⟨rfl, h1.at _ _ (by omega), grown_set (grown_below b1 _) _ _⟩

set_option maxHeartbeats 400000 in
theorem readBytes_was (b : Nat) (s : ByteArray) (i : Nat) (e : Int) (p q : Nat) (n : Int) (w : World) (h : Rd w b s i e) (hp : w.cell? ⟨p, 0, none⟩ = some (.pointer (some ⟨b, 0, none⟩))) (hq : w.cell? ⟨q, 0, none⟩ = some (.int .i64 n)) (he : (e != 0) = true) :
    Calls Try.prog 29 #[.pointer (some ⟨b, 0, none⟩), .func (.func 30) #[] #[.pointer (some ⟨p, 0, none⟩), .pointer (some ⟨q, 0, none⟩)]] w fun x w' => x = .returned (.string ⟨([] : List UInt8).toArray⟩) ∧ Rd w' b s i e ∧ w.grownBy w' (some b) := by
  have c2 := h.c2
  go_enter Try.func29, Try.ntmps29
  go_wp2_with fail
  go_ret
  exact ⟨rfl, h, grown_refl _ _⟩

set_option maxHeartbeats 400000 in
theorem readBytes_bad (b : Nat) (s : ByteArray) (i : Nat) (p q : Nat) (n : Int) (w : World) (h : Rd w b s i 0) (hp : w.cell? ⟨p, 0, none⟩ = some (.pointer (some ⟨b, 0, none⟩))) (hq : w.cell? ⟨q, 0, none⟩ = some (.int .i64 n)) (v : List UInt8) (k f : Nat) (C : Hid (∀ W, Rd W b s i 0 → W.cell? ⟨p, 0, none⟩ = some (.pointer (some ⟨b, 0, none⟩)) → W.cell? ⟨q, 0, none⟩ = some (.int .i64 n) → Calls Try.prog 30 #[.pointer (some ⟨p, 0, none⟩), .pointer (some ⟨q, 0, none⟩)] W fun x w' => x = .returned (.tuple #[.string ⟨(v : List UInt8).toArray⟩, .int .i64 (k : Int), .int .i64 (f : Int)]) ∧ Below W.heap.size W w')) (hf : ((f : Int) != 0) = true) :
    Calls Try.prog 29 #[.pointer (some ⟨b, 0, none⟩), .func (.func 30) #[] #[.pointer (some ⟨p, 0, none⟩), .pointer (some ⟨q, 0, none⟩)]] w fun x w' => x = .returned (.string ⟨([] : List UInt8).toArray⟩) ∧ Rd w' b s i f ∧ w.grownBy w' (some b) := by
  have c2 := h.c2
  go_enter Try.func29, Try.ntmps29
  go_wp2_with fail
  refine (C.out _ h hp hq).mono ?_
  rintro x w1 ⟨rfl, b1⟩
  have h1 := h.below b1
  have d2 := h1.c2
  have f2 := h1.f2
  go_wp2_with fail
  go_ret
  exact ⟨rfl, h1.err _, grown_set (grown_below b1 _) _ _⟩

set_option maxHeartbeats 400000 in
theorem readBytes_ok (b : Nat) (s : ByteArray) (i : Nat) (p q : Nat) (n : Int) (w : World) (h : Rd w b s i 0) (hp : w.cell? ⟨p, 0, none⟩ = some (.pointer (some ⟨b, 0, none⟩))) (hq : w.cell? ⟨q, 0, none⟩ = some (.int .i64 n)) (v : List UInt8) (k : Nat) (hk : i + k ≤ 9223372036854775807) (C : Hid (∀ W, Rd W b s i 0 → W.cell? ⟨p, 0, none⟩ = some (.pointer (some ⟨b, 0, none⟩)) → W.cell? ⟨q, 0, none⟩ = some (.int .i64 n) → Calls Try.prog 30 #[.pointer (some ⟨p, 0, none⟩), .pointer (some ⟨q, 0, none⟩)] W fun x w' => x = .returned (.tuple #[.string ⟨(v : List UInt8).toArray⟩, .int .i64 (k : Int), .int .i64 0]) ∧ Below W.heap.size W w')) :
    Calls Try.prog 29 #[.pointer (some ⟨b, 0, none⟩), .func (.func 30) #[] #[.pointer (some ⟨p, 0, none⟩), .pointer (some ⟨q, 0, none⟩)]] w fun x w' => x = .returned (.string ⟨(v : List UInt8).toArray⟩) ∧ Rd w' b s (i + k) 0 ∧ w.grownBy w' (some b) := by
  have c2 := h.c2
  go_enter Try.func29, Try.ntmps29
  go_wp2_with fail
  refine (C.out _ h hp hq).mono ?_
  rintro x w1 ⟨rfl, b1⟩
  have h1 := h.below b1
  have d1 := h1.c1
  have f1 := h1.f1
  go_wp2_with fail
  go_ret
  exact ⟨rfl, h1.at _ _ (by omega), grown_set (grown_below b1 _) _ _⟩

end Go.Proofs.Ytpapakkcomegnaa.Mb
