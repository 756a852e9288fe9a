/-
The document's own reader: what each of its calls answers and how it leaves the reader. Conditions: the reader's place is within its text, the text's length is at most maxLen.
-/
import Derived.Test.YtpapakkcomegnaaMbCalls
namespace Go.Proofs.Ytpapakkcomegnaa.Mb
open Go.RowKit

/-- Block b is the document's reader of s at place i, with e wrong. -/
def Rr (w : World) (b : Nat) (s : ByteArray) (i : Nat) (e : Int) : Prop := w.heap[b]? = some (.cells #[.string s, .int .i64 i, .int .i64 e] 31 (0, 0))

theorem Rr.lt {w : World} {b : Nat} {s : ByteArray} {i : Nat} {e : Int} (h : Rr w b s i e) : b < w.heap.size := (Array.getElem?_eq_some_iff.1 h).1
theorem Rr.c0 {w : World} {b : Nat} {s : ByteArray} {i : Nat} {e : Int} (h : Rr w b s i e) : w.cell? ⟨b, 0, none⟩ = some (.string s) := cell_of_row w b 0 _ _ _ h
theorem Rr.c1 {w : World} {b : Nat} {s : ByteArray} {i : Nat} {e : Int} (h : Rr w b s i e) : w.cell? ⟨b, 1, none⟩ = some (.int .i64 i) := cell_of_row w b 1 _ _ _ h
theorem Rr.c2 {w : World} {b : Nat} {s : ByteArray} {i : Nat} {e : Int} (h : Rr w b s i e) : w.cell? ⟨b, 2, none⟩ = some (.int .i64 e) := cell_of_row w b 2 _ _ _ h
theorem Rr.below {w w' : World} {b : Nat} {s : ByteArray} {i : Nat} {e : Int} (h : Rr w b s i e) (hb : Below w.heap.size w w') : Rr w' b s i e := (hb.block b h.lt).trans h
theorem Rr.at {w : World} {b : Nat} {s : ByteArray} {i : Nat} {e : Int} (h : Rr w b s i e) (j : Int) (k : Nat) (hk : j = k) : Rr (w.setCell ⟨b, 1, none⟩ (.int .i64 j)) b s k e := by
  subst hk
  unfold Rr at h ⊢
  simp only [World.setCell, Array.getElem?_modify, h, if_true, Option.map_some]
  rfl
theorem Rr.err {w : World} {b : Nat} {s : ByteArray} {i : Nat} {e : Int} (h : Rr w b s i e) (f : Int) : Rr (w.setCell ⟨b, 2, none⟩ (.int .i64 f)) b s i f := by
  unfold Rr at h ⊢
  simp only [World.setCell, Array.getElem?_modify, h, if_true, Option.map_some]
  rfl
theorem Rr.f1 {w : World} {b : Nat} {s : ByteArray} {i : Nat} {e : Int} (h : Rr w b s i e) : w.frozen? ⟨b, 1, none⟩ = false := frozen_of_row w b 1 _ _ h
theorem Rr.f2 {w : World} {b : Nat} {s : ByteArray} {i : Nat} {e : Int} (h : Rr w b s i e) : w.frozen? ⟨b, 2, none⟩ = false := frozen_of_row w b 2 _ _ h
theorem Rr.past {w w' : World} {a b : Nat} {s : ByteArray} {i : Nat} {e : Int} (h : Rr w a s i e) (hg : w.grownBy w' (some b)) (hne : a ≠ b) : Rr w' a s i e :=
  (hg.block a h.lt (fun x => hne (by injection x))).trans h
theorem Rr.drewN {w : World} {b : Nat} {s : ByteArray} {i : Nat} {e : Int} (h : Rr w b s i e) (n : Nat) : Rr (w.drewN n) b s i e := h
theorem grown_drewN {w w' : World} {r : Option Nat} (h : w.grownBy w' r) (n : Nat) : w.grownBy (w'.drewN n) r := ⟨h.os, h.tape, h.output, h.size, h.block⟩

theorem rcases_of {α : Type} {P : Program} {g : Nat} {args : Array Value} {w : World} {b : Nat} {s : ByteArray} {i : Nat} {e : Int} {v0 : α} {val : α → Value} {R : α × Nat × Nat}
    (was : e ≠ 0 → Calls P g args w fun x w' => x = .returned (val v0) ∧ Rr w' b s i e ∧ w.grownBy w' (some b))
    (bad : e = 0 → R.2.2 ≠ 0 → Calls P g args w fun x w' => x = .returned (val v0) ∧ Rr w' b s i (R.2.2 : Nat) ∧ w.grownBy w' (some b))
    (ok : e = 0 → R.2.2 = 0 → Calls P g args w fun x w' => x = .returned (val R.1) ∧ Rr w' b s (i + R.2.1) 0 ∧ w.grownBy w' (some b)) :
    Calls P g args w fun x w' => x = .returned (val (ansV e v0 R)) ∧ Rr w' b s (ansI e i R) (ansE e R) ∧ w.grownBy w' (some b) := by
  by_cases he : e = 0
  · subst he
    by_cases hR : R.2.2 = 0
    · rw [ansV_ok hR, ansI_ok hR, ansE_zero, hR]; exact ok rfl hR
    · rw [ansV_bad hR, ansI_bad hR, ansE_zero]; exact bad rfl hR
  · rw [ansV_was he, ansI_was he, ansE_was he]; exact was he

theorem byt_at {s : ByteArray} {i : Nat} (h : i < s.size) : bytOf (s.data.toList.drop i) = (s[i].toNat, 1, 0) := by
  rw [List.drop_eq_getElem_cons (by rw [len_data]; exact h)]; rfl
theorem byt_past {s : ByteArray} {i : Nat} (h : ¬ i < s.size) : bytOf (s.data.toList.drop i) = (0, 0, 1) := by
  rw [List.drop_of_length_le (by rw [len_data]; omega)]; rfl

set_option maxHeartbeats 400000 in
theorem rByte_was (b : Nat) (s : ByteArray) (i : Nat) (e : Int) (w : World) (h : Rr w b s i e) (he : (e != 0) = true) :
    Calls Try.prog 11 #[.pointer (some ⟨b, 0, none⟩)] w fun x w' => x = .returned (.int .u8 ((0 : Nat) : Int)) ∧ Rr w' b s i e ∧ w.grownBy w' (some b) := by
  have c2 := h.c2
  go_enter Try.func11, Try.ntmps11
  go_wp2
  go_ret
  exact ⟨rfl, h, grown_refl _ _⟩
set_option maxHeartbeats 400000 in
theorem rByte_bad (b : Nat) (s : ByteArray) (i : Nat) (w : World) (h : Rr w b s i 0) (hi : s.size ≤ i) :
    Calls Try.prog 11 #[.pointer (some ⟨b, 0, none⟩)] w fun x w' => x = .returned (.int .u8 ((0 : Nat) : Int)) ∧ Rr w' b s i 1 ∧ w.grownBy w' (some b) := by
  have c0 := h.c0
  have c1 := h.c1
  have c2 := h.c2
  have f2 := h.f2
  go_enter Try.func11, Try.ntmps11
  go_wp2
  go_quiet (fail)
  go_wp2
  go_ret
  exact ⟨rfl, (h.drewN _).err _, grown_set (grown_drewN (grown_refl _ _) _) _ _⟩
set_option maxHeartbeats 400000 in
theorem rByte_ok (b : Nat) (s : ByteArray) (i : Nat) (w : World) (h : Rr w b s i 0) (hs : s.size ≤ 9223372036854775807) (hi : i < s.size) :
    Calls Try.prog 11 #[.pointer (some ⟨b, 0, none⟩)] w fun x w' => x = .returned (.int .u8 (s[i].toNat : Int)) ∧ Rr w' b s (i + 1) 0 ∧ w.grownBy w' (some b) := by
  have c0 := h.c0
  have c1 := h.c1
  have c2 := h.c2
  have f1 := h.f1
  go_enter Try.func11, Try.ntmps11
  go_wp2
  go_quiet (fail)
  go_wp2
  go_quiet (fail)
  go_wp2
  go_ret
  exact ⟨rfl, Rr.drewN ((h.drewN _).at _ _ (by omega)) _, grown_drewN (grown_set (grown_drewN (grown_refl _ _) _) _ _) _⟩

theorem rByte_any (b : Nat) (s : ByteArray) (i : Nat) (e : Int) (w : World) (h : Rr w b s i e) (hs : s.size ≤ maxLen) :
    Calls Try.prog 11 #[.pointer (some ⟨b, 0, none⟩)] w fun x w' => x = .returned (.int .u8 ((ansV e 0 (bytOf (s.data.toList.drop i)) : Nat) : Int)) ∧ Rr w' b s (ansI e i (bytOf (s.data.toList.drop i))) (ansE e (bytOf (s.data.toList.drop i))) ∧ w.grownBy w' (some b) := by
  refine rcases_of (val := fun v : Nat => .int .u8 (v : Int)) (fun he => rByte_was b s i e w h (bne_int he)) (fun he hR => ?_) (fun he hR => ?_)
  · subst he
    by_cases hi : i < s.size
    · rw [byt_at hi] at hR; exact absurd rfl hR
    · rw [byt_past hi]; exact rByte_bad b s i w h (by omega)
  · subst he
    by_cases hi : i < s.size
    · rw [byt_at hi]; exact rByte_ok b s i w h (by unfold maxLen at hs; omega) hi
    · rw [byt_past hi] at hR; exact absurd hR (by decide)

/-- Bytes. -/
theorem rBytes_was (b : Nat) (s : ByteArray) (i : Nat) (e n : Int) (w : World) (h : Rr w b s i e) (he : (e != 0) = true) :
    Calls Try.prog 15 #[.pointer (some ⟨b, 0, none⟩), .int .i64 n] w fun x w' => x = .returned (.string ⟨([] : List UInt8).toArray⟩) ∧ Rr w' b s i e ∧ w.grownBy w' (some b) := by
  have c2 := h.c2
  go_enter Try.func15, Try.ntmps15
  go_wp2
  go_ret
  exact ⟨rfl, h, grown_refl _ _⟩
set_option maxHeartbeats 400000 in
theorem rBytes_neg (b : Nat) (s : ByteArray) (i : Nat) (n : Int) (w : World) (h : Rr w b s i 0) (hn : n < 0) :
    Calls Try.prog 15 #[.pointer (some ⟨b, 0, none⟩), .int .i64 n] w fun x w' => x = .returned (.string ⟨([] : List UInt8).toArray⟩) ∧ Rr w' b s i 2 ∧ w.grownBy w' (some b) := by
  have c2 := h.c2
  have f2 := h.f2
  go_enter Try.func15, Try.ntmps15
  go_wp2
  go_ret
  exact ⟨rfl, h.err _, grown_set (grown_refl _ _) _ _⟩
set_option maxHeartbeats 400000 in
theorem rBytes_short (b : Nat) (s : ByteArray) (i m : Nat) (w : World) (h : Rr w b s i 0) (hi : i ≤ s.size) (hs : s.size ≤ 9223372036854775807) (hm : (s.size : Int) - i < m) :
    Calls Try.prog 15 #[.pointer (some ⟨b, 0, none⟩), .int .i64 m] w fun x w' => x = .returned (.string ⟨([] : List UInt8).toArray⟩) ∧ Rr w' b s i 1 ∧ w.grownBy w' (some b) := by
  have c0 := h.c0
  have c1 := h.c1
  have c2 := h.c2
  have f2 := h.f2
  go_enter Try.func15, Try.ntmps15
  go_wp2
  go_quiet (fail)
  go_wp2
  go_ret
  exact ⟨rfl, (h.drewN _).err _, grown_set (grown_drewN (grown_refl _ _) _) _ _⟩
set_option maxHeartbeats 400000 in
theorem rBytes_ok (b : Nat) (s : ByteArray) (i m : Nat) (w : World) (h : Rr w b s i 0) (hi : i ≤ s.size) (hs : s.size ≤ 9223372036854775807) (hm : (m : Int) ≤ (s.size : Int) - i) :
    Calls Try.prog 15 #[.pointer (some ⟨b, 0, none⟩), .int .i64 m] w fun x w' => x = .returned (.string (s.extract i (i + m))) ∧ Rr w' b s (i + m) 0 ∧ w.grownBy w' (some b) := by
  have c0 := h.c0
  have c1 := h.c1
  have c2 := h.c2
  have f1 := h.f1
  have q1 : (0 : Int) ≤ (i : Int) + m := by omega
  have q2 : (i : Int) + m ≤ s.size := by omega
  have q3 : (i : Int) ≤ (i : Int) + m := by omega
  have q4 : ((i : Int) + m).toNat = i + m := by omega
  go_enter Try.func15, Try.ntmps15
  go_wp2
  go_quiet (fail)
  go_wp2
  go_quiet (fail)
  go_wp2
  go_ret
  exact ⟨rfl, Rr.drewN ((h.drewN _).at _ _ (by omega)) _, grown_drewN (grown_set (grown_drewN (grown_refl _ _) _) _ _) _⟩

theorem rBytes_any (b : Nat) (s : ByteArray) (i : Nat) (e n : Int) (w : World) (h : Rr w b s i e) (hi : i ≤ s.size) (hs : s.size ≤ maxLen) :
    Calls Try.prog 15 #[.pointer (some ⟨b, 0, none⟩), .int .i64 n] w fun x w' => x = .returned (.string ⟨(ansV e [] (takOf n (s.data.toList.drop i))).toArray⟩) ∧ Rr w' b s (ansI e i (takOf n (s.data.toList.drop i))) (ansE e (takOf n (s.data.toList.drop i))) ∧ w.grownBy w' (some b) := by
  unfold maxLen at hs
  refine rcases_of (val := fun v : List UInt8 => .string ⟨v.toArray⟩) (fun he => rBytes_was b s i e n w h (bne_int he)) (fun he hR => ?_) (fun he hR => ?_)
  all_goals subst he
  all_goals by_cases hn : n < 0
  · rw [tak_neg hn]; exact rBytes_neg b s i n w h hn
  · by_cases hl : (((s.data.toList.drop i).length : Nat) : Int) < n
    · rw [tak_short (by omega) hl]
      obtain ⟨m, rfl⟩ := Int.eq_ofNat_of_zero_le (show 0 ≤ n by omega)
      exact rBytes_short b s i m w h hi (by omega) (by rw [List.length_drop, len_data] at hl; omega)
    · rw [tak_ok (by omega) (by omega)] at hR; exact absurd rfl hR
  · rw [tak_neg hn] at hR; exact absurd hR (by decide)
  · by_cases hl : (((s.data.toList.drop i).length : Nat) : Int) < n
    · rw [tak_short (by omega) hl] at hR; exact absurd hR (by decide)
    · rw [tak_ok (by omega) (by omega)]
      rw [List.length_drop, len_data] at hl
      obtain ⟨m, rfl⟩ := Int.eq_ofNat_of_zero_le (show 0 ≤ n by omega)
      have := rBytes_ok b s i m w h hi (by omega) (by omega)
      have hx : s.extract i (i + m) = ⟨((s.data.toList.drop i).take m).toArray⟩ := str_of (by rw [ext_data]; simp)
      rw [hx] at this
      exact this

set_option maxHeartbeats 400000 in
theorem rFail_any (b : Nat) (s : ByteArray) (i : Nat) (e f : Int) (w : World) (h : Rr w b s i e) :
    Calls Try.prog 19 #[.pointer (some ⟨b, 0, none⟩), .int .i64 f] w fun x w' => x = .returned (.tuple #[]) ∧ Rr w' b s i (if e = 0 then f else e) ∧ w.grownBy w' (some b) := by
  have c2 := h.c2
  have f2 := h.f2
  by_cases he : e = 0
  · subst he
    rw [if_pos rfl]
    go_enter Try.func19, Try.ntmps19
    go_wp2
    go_end0
    exact ⟨rfl, h.err _, grown_set (grown_refl _ _) _ _⟩
  · have hb : (e == 0) = false := by simpa using he
    rw [if_neg he]
    go_enter Try.func19, Try.ntmps19
    go_wp2
    go_end0
    exact ⟨rfl, h, grown_refl _ _⟩
end Go.Proofs.Ytpapakkcomegnaa.Mb
