/-
The document's reader of a card's lines: the next line that counts. Conditions: at most 2^40 lines, each of at most 2^47 bytes.
-/
import Derived.Test.YtjgfbicllgalkaaGreatDoorJ02
import Derived.Deep.LoopGhost
import Derived.BigQuiet
namespace Go.Proofs.YtjgfbicllgalkaaGreatDoor.Vc
open Go.RowKit Pp

/-- The next line, and what is left behind it. -/
def nextL (any : Bool) : List (Nat × ByteArray) → Option ((Nat × ByteArray) × List (Nat × ByteArray))
  | [] => none
  | x :: r => if (any || !blank x.2.data.toList) = true then some (x, r) else nextL any r
/-- What it answers. -/
def nextAns (any : Bool) (l : List (Nat × ByteArray)) : Ending :=
  match nextL any l with
  | none => .returned (.tuple #[.string ⟨#[]⟩, .int .i64 0, .bool false])
  | some (x, _) => .returned (.tuple #[.string x.2, .int .i64 (x.1 : Int), .bool true])
/-- What is left. -/
def nextRest (any : Bool) (l : List (Nat × ByteArray)) : List (Nat × ByteArray) :=
  match nextL any l with
  | none => []
  | some (_, r) => r
theorem next_yes {any : Bool} {l : List (Nat × ByteArray)} {k : Nat} (h : k < l.length) (hb : (any || !blank l[k].2.data.toList) = true) : nextL any (l.drop k) = some (l[k], l.drop (k + 1)) := by
  rw [List.drop_eq_getElem_cons h, nextL, if_pos hb]
theorem next_no {any : Bool} {l : List (Nat × ByteArray)} {k : Nat} (h : k < l.length) (hb : (any || !blank l[k].2.data.toList) = false) : nextL any (l.drop k) = nextL any (l.drop (k + 1)) := by
  rw [List.drop_eq_getElem_cons h, nextL, if_neg (by rw [hb]; simp)]

/-- Block b is a reader at place i. -/
def Rdr (w : World) (b : Nat) (nv lv : Value) (i : Nat) : Prop := w.heap[b]? = some (.cells #[nv, lv, .int .i64 (i : Int)] 77 (0, 0))
section
variable {w w' : World} {b i : Nat} {nv lv : Value}
theorem Rdr.lt (h : Rdr w b nv lv i) : b < w.heap.size := (Array.getElem?_eq_some_iff.1 h).1
theorem Rdr.c0 (h : Rdr w b nv lv i) : w.cell? ⟨b, 0, none⟩ = some nv := cell_of_row w b 0 _ _ _ h
theorem Rdr.c1 (h : Rdr w b nv lv i) : w.cell? ⟨b, 1, none⟩ = some lv := cell_of_row w b 1 _ _ _ h
theorem Rdr.c2 (h : Rdr w b nv lv i) : w.cell? ⟨b, 2, none⟩ = some (.int .i64 (i : Int)) := cell_of_row w b 2 _ _ _ h
theorem Rdr.f2 (h : Rdr w b nv lv i) : w.frozen? ⟨b, 2, none⟩ = false := frozen_of_row w b 2 _ _ h
theorem Rdr.set (h : Rdr w b nv lv i) {j : Int} {k : Nat} (hk : j = k) : Rdr (w.setCell ⟨b, 2, none⟩ (.int .i64 j)) b nv lv k := by
  subst hk
  unfold Rdr at h ⊢
  simp only [World.setCell, Array.getElem?_modify, h, if_true, Option.map_some]
  rfl
end
/-- The lines, with their numbers, in two rows below block b. -/
def LsAt (w : World) (b : Nat) (nv lv : Value) (l : List (Nat × ByteArray)) : Prop :=
  ∃ na nc la lc, nv = .slice na l.length nc ∧ lv = .slice la l.length lc ∧ ∀ k (h : k < l.length), ∃ nb no lb lo, na = some ⟨nb, no, none⟩ ∧ la = some ⟨lb, lo, none⟩ ∧ nb < b ∧ lb < b ∧ w.cell? ⟨nb, no + k, none⟩ = some (.int .i64 (l[k].1 : Int)) ∧ w.cell? ⟨lb, lo + k, none⟩ = some (.string l[k].2)
theorem grown_cell {w w' : World} {b : Nat} (h : w.grownBy w' (some b)) (hb : b ≤ w.heap.size) {k o : Nat} (hk : k < b) : w'.cell? ⟨k, o, none⟩ = w.cell? ⟨k, o, none⟩ := by
  unfold World.cell?
  rw [h.block k (by omega) (by intro e; injection e with e; omega)]
theorem LsAt.grown {w w' : World} {b : Nat} {nv lv : Value} {l : List (Nat × ByteArray)} (h : LsAt w b nv lv l) (hg : w.grownBy w' (some b)) (hb : b ≤ w.heap.size) : LsAt w' b nv lv l := by
  obtain ⟨na, nc, la, lc, h1, h2, h3⟩ := h
  refine ⟨na, nc, la, lc, h1, h2, fun k hk => ?_⟩
  obtain ⟨nb, no, lb, lo, e1, e2, l1, l2, c1, c2⟩ := h3 k hk
  exact ⟨nb, no, lb, lo, e1, e2, l1, l2, (grown_cell hg hb l1).trans c1, (grown_cell hg hb l2).trans c2⟩
theorem grown_same (w : World) (r : Option Nat) : w.grownBy w r := ⟨rfl, rfl, rfl, Nat.le_refl _, fun _ _ _ => rfl⟩
theorem grown_put {w w' : World} {b : Nat} (h : w.grownBy w' (some b)) (o : Nat) (v : Value) : w.grownBy (w'.setCell ⟨b, o, none⟩ v) (some b) :=
  ⟨h.os, h.tape, h.output, by simp only [World.setCell, Array.size_modify]; exact h.size, fun k hk hne => (Below.heap_setCell w' ⟨b, o, none⟩ v k (fun e => hne (by rw [e]))).trans (h.block k hk hne)⟩
theorem grown_drew {w w' : World} {r : Option Nat} (h : w.grownBy w' r) : w.grownBy w'.drew r := ⟨h.os, h.tape, h.output, h.size, h.block⟩

set_option maxHeartbeats 2000000 in
theorem refNext_any (any : Bool) (l : List (Nat × ByteArray)) (b i : Nat) (nv lv : Value) (w : World) (hr : Rdr w b nv lv i) (hls : LsAt w b nv lv l) (hi : i ≤ l.length) (hl : l.length ≤ 1099511627776) (hs : ∀ x ∈ l, x.2.size ≤ 140737488355328) :
    Calls Tryz.prog 51 #[.pointer (some ⟨b, 0, none⟩), .bool any] w fun e w' => e = nextAns any (l.drop i) ∧ (∃ j, j ≤ l.length ∧ Rdr w' b nv lv j ∧ l.drop j = nextRest any (l.drop i)) ∧ w.grownBy w' (some b) := by
  obtain ⟨na, nc, la, lc, rfl, rfl, hcs⟩ := hls
  unfold nextAns nextRest
  obtain ⟨R, hR⟩ : ∃ R, nextL any (l.drop i) = R := ⟨_, rfl⟩
  rw [hR]
  have HS := Lib.hid hs
  have HC := Lib.hid hcs
  have H0 := Lib.hid hr
  have HR := Lib.hid hR
  have hbw := hr.lt
  clear hs hcs hR hr
  go_enter Tryz.func51, Tryz.ntmps51
  go_wp2_with fail
  go_loopg [] (l.length - i) (fun gk wr => ∃ k : Nat, gk = l.length - k ∧ k ≤ l.length ∧ Rdr wr b (.slice na l.length nc) (.slice la l.length lc) k ∧ w.grownBy wr (some b) ∧ Hid (nextL any (l.drop k) = R))
  case atStart => exact ⟨i, rfl, hi, H0.out, grown_same _ _, HR⟩
  case round =>
    clear HR H0 hi
    obtain ⟨k, hgk, hk, hrd, hg, HK⟩ := hrel
    have k0 := hrd.c0
    have k1 := hrd.c1
    have k2 := hrd.c2
    have kf := hrd.f2
    have hbr := hrd.lt
    by_cases hlt : k < l.length
    · have hlz : (k : Int) < (l.length : Int) := by omega
      have hd1 : decide ((k : Int) < (l.length : Int)) = true := decide_eq_true hlz
      obtain ⟨nb, no, lb, lo, rfl, rfl, hnb, hlb, hn, hs⟩ := HC.out k hlt
      have hnr := (grown_cell hg (by omega) hnb).trans hn
      have hsr := (grown_cell hg (by omega) hlb).trans hs
      have HN := Lib.hid (next_no (any := any) hlt)
      have HY := Lib.hid (next_yes (any := any) hlt)
      have hsz := HS.out _ (List.getElem_mem hlt)
      generalize l[k] = x at hn hs hnr hsr HN HY hsz
      obtain ⟨xn, xs⟩ := x
      simp only at HN HY hn hs hnr hsr hsz
      have HF := Lib.hid (fun q => show Rdr ((wr.drewN q).setCell ⟨b, 2, none⟩ (.int .i64 ((k : Int) + 1))) b _ _ (k + 1) ∧ w.grownBy ((wr.drewN q).setCell ⟨b, 2, none⟩ (.int .i64 ((k : Int) + 1))) (some b) from
        ⟨Rdr.set (w := wr.drewN q) hrd (by omega), grown_put (w' := wr.drewN q) ⟨hg.os, hg.tape, hg.output, hg.size, hg.block⟩ 2 _⟩)
      have hkk : (k : Int) + 1 - 1 = (k : Int) := by omega
      have CB := Lib.hid (fun W => blank_any xs hsz W)
      have HNS := Lib.hid (And.intro hn hs)
      clear hn hs hsz hrd hg
      cases any
      · cases hbl : blank xs.data.toList
        · rw [hbl] at CB
          obtain rfl : _ = R := (HY.out (by rw [hbl]; rfl)).symm.trans HK.out
          clear hbl HN HY
          go_wp2_with fail
          go_quiet (fail)
          go_wp2_with fail
          obtain ⟨W1, hW1⟩ : ∃ W1, (wr.drewN nq).setCell ⟨b, 2, none⟩ (.int .i64 ((k : Int) + 1)) = W1 := ⟨_, rfl⟩
          have hF := HF.out nq
          rw [hW1] at hF ⊢
          have q0 := hF.1.c0
          have q1 := hF.1.c1
          have q2 : W1.cell? ⟨b, 2, none⟩ = some (.int .i64 ((k : Int) + 1)) := hF.1.c2
          have qn := (grown_cell hF.2 (Nat.le_of_lt hbw) hnb).trans HNS.out.1
          have qs := (grown_cell hF.2 (Nat.le_of_lt hbw) hlb).trans HNS.out.2
          have hbW := hF.1.lt
          have HG := Lib.hid hF
          clear hF hW1 HF HNS k0 k1 k2 kf hnr hsr
          go_quiet ((go_at_call 87; exact (CB.out _).mono (fun _ _ h => ⟨h.1, _, h.2.symm⟩)))
          go_wp2_with fail
          go_quiet (fail)
          go_wp2_with fail
          go_ret3
          exact ⟨rfl, ⟨k + 1, hlt, (show Rdr (W1.drewN _) b _ _ (k + 1) from HG.out.1), rfl⟩, ⟨HG.out.2.os, HG.out.2.tape, HG.out.2.output, HG.out.2.size, HG.out.2.block⟩⟩
        · rw [hbl] at CB
          have HK' := Lib.hid ((HN.out (by rw [hbl]; rfl)).symm.trans HK.out)
          clear hbl HN HY
          go_wp2_with fail
          go_quiet (fail)
          go_wp2_with fail
          obtain ⟨W1, hW1⟩ : ∃ W1, (wr.drewN nq).setCell ⟨b, 2, none⟩ (.int .i64 ((k : Int) + 1)) = W1 := ⟨_, rfl⟩
          have hF := HF.out nq
          rw [hW1] at hF ⊢
          have q0 := hF.1.c0
          have q1 := hF.1.c1
          have q2 : W1.cell? ⟨b, 2, none⟩ = some (.int .i64 ((k : Int) + 1)) := hF.1.c2
          have qn := (grown_cell hF.2 (Nat.le_of_lt hbw) hnb).trans HNS.out.1
          have qs := (grown_cell hF.2 (Nat.le_of_lt hbw) hlb).trans HNS.out.2
          have hbW := hF.1.lt
          have HG := Lib.hid hF
          clear hF hW1 HF HNS k0 k1 k2 kf hnr hsr
          go_quiet ((go_at_call 87; exact (CB.out _).mono (fun _ _ h => ⟨h.1, _, h.2.symm⟩)))
          go_wp2_with fail
          go_roundg (l.length - (k + 1))
          case measure => omega
          case rel => exact ⟨k + 1, rfl, hlt, HG.out.1, ⟨HG.out.2.os, HG.out.2.tape, HG.out.2.output, HG.out.2.size, HG.out.2.block⟩, HK'⟩
      · obtain rfl : _ = R := (HY.out rfl).symm.trans HK.out
        clear HN HY CB
        go_wp2_with fail
        go_quiet (fail)
        go_wp2_with fail
        obtain ⟨W1, hW1⟩ : ∃ W1, (wr.drewN nq).setCell ⟨b, 2, none⟩ (.int .i64 ((k : Int) + 1)) = W1 := ⟨_, rfl⟩
        have hF := HF.out nq
        rw [hW1] at hF ⊢
        have q0 := hF.1.c0
        have q1 := hF.1.c1
        have q2 : W1.cell? ⟨b, 2, none⟩ = some (.int .i64 ((k : Int) + 1)) := hF.1.c2
        have qn := (grown_cell hF.2 (Nat.le_of_lt hbw) hnb).trans HNS.out.1
        have qs := (grown_cell hF.2 (Nat.le_of_lt hbw) hlb).trans HNS.out.2
        have hbW := hF.1.lt
        have HG := Lib.hid hF
        clear hF hW1 HF HNS k0 k1 k2 kf hnr hsr
        go_quiet (fail)
        go_wp2_with fail
        go_quiet (fail)
        go_wp2_with fail
        go_ret3
        exact ⟨rfl, ⟨k + 1, hlt, (show Rdr (W1.drewN _) b _ _ (k + 1) from HG.out.1), rfl⟩, ⟨HG.out.2.os, HG.out.2.tape, HG.out.2.output, HG.out.2.size, HG.out.2.block⟩⟩
    · obtain rfl : k = l.length := by omega
      have hlz : ¬ (l.length : Int) < (l.length : Int) := by omega
      have hd1 : decide ((l.length : Int) < (l.length : Int)) = false := decide_eq_false hlz
      obtain rfl : none = R := by rw [← HK.out, List.drop_length]; rfl
      go_wp2_with fail
      go_quiet (fail)
      go_wp2_with fail
      go_ret3
      exact ⟨rfl, ⟨l.length, Nat.le_refl _, (show Rdr (wr.drewN _) b _ _ l.length from hrd), by simp⟩, ⟨hg.os, hg.tape, hg.output, hg.size, hg.block⟩⟩
end Go.Proofs.YtjgfbicllgalkaaGreatDoor.Vc
