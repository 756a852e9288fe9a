/-
Texts joined in one file, each with its own conditions: slices.Concat of two lists of parameters is one list of all of them, in a row of the call's own. Conditions: at most 1000 parameters in each, below the caller's blocks. · The program's lines of a card in which nothing is wrong are the plain ones. Conditions: the card lies below the caller's blocks; at most 24 properties in a card, 4 parameters and 600 bytes in a property, one card in a property, three cards within one another; the library's tables. · The program's lines of a card in which nothing is wrong are the plain ones, however many cards lie within one another. Conditions: as for three of them; 10^8 lines. · The program's Print, whatever Deep's maps of places say. Conditions: the card lies unfrozen below the caller's blocks; it is not too much to be asked; the library's tables. · works(): Print and Parse work at one card at all. Conditions: the library's tables. · The statement on lines holds, whatever Deep's maps of places say. Conditions: the card lies unfrozen below the caller's blocks; the library's tables.
-/
import Derived.Test.YtpdodknldhbbhaaGreatDoorJ07
import Derived.Test.YtpdodknldhbbhaaGreatDoorJ22
import Derived.Lib.AppendZeros
import Derived.Laws.OwnMore
import Derived.Deep.AppendLies
import Derived.Test.YtpdodknldhbbhaaGreatDoorJ30
import Derived.Test.YtpdodknldhbbhaaGreatDoorJ19
import Derived.Test.YtpdodknldhbbhaaGreatDoorJ29
import Derived.Test.YtpdodknldhbbhaaGreatDoorJ20
import Derived.Deep.RegionHeld3
import Derived.Test.YtpdodknldhbbhaaGreatDoorJ06
import Derived.Test.YtpdodknldhbbhaaGreatDoorJ32
import Derived.Test.YtpdodknldhbbhaaGreatDoorJ33
import Derived.Test.YtpdodknldhbbhaaGreatDoorJ04
namespace Go.Proofs.YtpdodknldhbbhaaGreatDoor.Vc
set_option maxRecDepth 100000
open Go.RowKit Pp

theorem row_made (w : World) (n : Nat) (hn : n ≤ 100000) : ∃ cap, grownCap w n 0 66 = cap ∧ n ≤ cap ∧ cap ≤ maxLen ∧ Pp.Own (w.drew.alloc (.cells (Builtin.zeroCells (Value.agg #[.string .empty, .string .empty]).cells n ++ Builtin.zeroCells (Value.agg #[.string .empty, .string .empty]).cells (cap - n)) 66)) w.heap.size (.slice (some ⟨w.heap.size, 0, none⟩) 0 cap) [] := by
  have h1 := grownCap_ge w n 0 66
  have h2 := grownCap_le_maxLen w n 0 66 (by unfold maxLen; omega)
  refine ⟨_, rfl, h1, h2, ?_⟩
  exact World.ownsRow_made (e := 66) (size := 2) w.drew _ _ (base := w.heap.size) (Nat.le_refl _) h2 (by
    rw [Array.size_append, size_zeroCells, size_zeroCells]
    show n * 2 + (grownCap w n 0 66 - n) * 2 = _
    omega)

/-- append of a number of noughts, by its run. -/
theorem list_run2 {P : Program} {ops : Array Oper} {rest : List Oper} {o : Oper} {a : Act} {w w' : World} {Q : Exit → Act → World → Prop} (hgd : o.guard = none) (s x : Operand) (t tn : TypeId)
    (ho : o.op = .call { callee := .builtin .append, args := #[s, x], argTypes := #[t, tn] }) (v xv v' : Value) (hs : a.eval s = v) (hx : a.eval x = xv) (hr : ∀ ty, (Builtin.append_ #[t, tn] ty #[v, xv]).run P w = .ok v' w') (h : wpList P ops Q rest (a.put o.dst v') w') :
    wpList P ops Q (o :: rest) a w := by
  refine wpList_plain hgd fun K hK => ?_
  unfold Oper.wp execOp
  simp only [ho, resolve, invoke, builtin, Sem.run_bind, Sem.run_pure, Result.andThen_ok, List.map_toArray, List.map_cons, List.map_nil, hs, hx, hr]
  exact hK _ _ h
set_option maxHeartbeats 1000000 in
theorem grow_any (n : Nat) (hn : n ≤ 100000) (w : World) :
    Calls Tryz.prog 65 #[.slice none 0 0, .int .i64 (n : Int)] w fun e w' => ∃ v, e = .returned v ∧ Pp.Own w' w.heap.size v [] ∧ Below w.heap.size w w' := by
  have h0 : ¬ (n : Int) < 0 := by omega
  by_cases hz : n = 0
  · subst hz
    go_enter Tryz.func65, Tryz.ntmps65
    go_wp2_with fail
    go_ret
    exact ⟨_, rfl, Own.nil _ _, Below.refl _ _⟩
  · have hp : (0 : Int) < (n : Int) := by omega
    obtain ⟨i0, hi, hz0, hz1, hz2⟩ := info_parts infoP
    obtain ⟨cap, hcap, hc1, hc2, hown⟩ := row_made w n hn
    have hrz : ∀ ty, (Builtin.append_ #[51, 3] ty #[.slice none 0 0, .int .i64 (n : Int)]).run Tryz.prog w = .ok (.slice (some ⟨w.heap.size, 0, none⟩) n cap) (w.drew.alloc (.cells (Builtin.zeroCells (Value.agg #[.string .empty, .string .empty]).cells n ++ Builtin.zeroCells (Value.agg #[.string .empty, .string .empty]).cells (cap - n)) 66)) := fun ty => by
      have h := Lib.run_append_nil_zeros w 51 3 ty 66 i0 (.agg #[.string .empty, .string .empty]) .i64 .i64 Tryz.underlying51 Tryz.underlying3 hi hz0 n (by omega) (by rw [hz1]; decide) (by omega) (by rw [hz2]; omega)
      rw [hcap] at h
      exact h
    have hcn : (n : Int) ≤ (cap : Int) := by omega
    have HB : Hid (Below w.heap.size w (w.drew.alloc (.cells (Builtin.zeroCells (Value.agg #[.string .empty, .string .empty]).cells n ++ Builtin.zeroCells (Value.agg #[.string .empty, .string .empty]).cells (cap - n)) 66))) := Lib.hid (((Below.refl _ _).drew).alloc (Nat.le_refl _) _)
    have HO := Lib.hid hown
    have HRZ := Lib.hid hrz
    clear hown hcap hi hz0 hz1 hz2 hz hrz
    go_enter Tryz.func65, Tryz.ntmps65
    go_wp2_with (at_builtin; refine list_run2 rfl _ _ _ _ rfl _ _ _ rfl rfl HRZ.out ?_)
    go_ret
    exact ⟨_, rfl, HO.out, HB.out⟩

/-- Parameters behind others in a row of the call's own. -/
theorem Own.joined {w : World} {base m : Nat} {v : Value} {l p : List (ByteArray × ByteArray)} (hm : m = p.length) (h : w.ownsRow base 66 2 v (l.length + m) (pcells l ++ pcells p)) : Pp.Own w base v (l ++ p) := by
  subst hm
  unfold Pp.Own; rw [pcells_append, List.length_append]; exact h

/-- append of parameters, nil or not, onto a row of the call's own. -/
theorem append_ps (base : Nat) (lv v : Value) (l p : List (ByteArray × ByteArray)) (w : World) (hown : Pp.Own w base lv l) (h : Ps w w.heap.size v p) (hl : l.length ≤ 1000) (hp : p.length ≤ 1000) (hb : base ≤ w.heap.size) :
    ∃ v' w', (∀ ty, (Builtin.append_ #[51, 51] ty #[lv, v]).run Tryz.prog w = .ok v' w') ∧ Pp.Own w' base v' (l ++ p) ∧ Below base w w' := by
  obtain ⟨i0, hi, hz0, hz1, hz2⟩ := info_parts infoP
  rcases h.src with ⟨rfl, rfl⟩ | ⟨ad, pc, rfl, hsrc⟩
  · exact ⟨lv, w, fun ty => run_append_owned_none (P := Tryz.prog) (w := w) base 51 ty 66 i0 2 Tryz.underlying51 hi lv _ _ hown, by rw [List.append_nil]; exact hown, Below.refl _ _⟩
  · obtain ⟨v', w', hrun, r1, r2, _⟩ := run_append_own (P := Tryz.prog) (ty := 66) w base 51 66 i0 (.agg #[.string .empty, .string .empty]) 2 32 Tryz.underlying51 hi hz0 hz1 hz2 rfl (by decide) lv _ _ hown ad p.length pc (pcells p) (pcells_length p) hsrc (pcells_one (l := p)) (by unfold maxLen; omega) (by omega) hb
    refine ⟨v', w', fun ty => ?_, Own.joined rfl r1, (Below.refl _ _).grown r2 hb (fun k e => (World.ownsRow.lt hown k e).1)⟩
    rw [← hrun]
    rfl

set_option maxHeartbeats 4000000 in
theorem concat_any (v1 v2 : Value) (p1 p2 : List (ByteArray × ByteArray)) (G : Nat) (w : World) (hg0 : w.cell? ⟨G, 0, none⟩ = some v1) (hg1 : w.cell? ⟨G, 1, none⟩ = some v2) (h1 : Ps w w.heap.size v1 p1) (h2 : Ps w w.heap.size v2 p2) (hl1 : p1.length ≤ 1000) (hl2 : p2.length ≤ 1000) :
    Calls Tryz.prog 33 #[.slice (some ⟨G, 0, none⟩) 2 2] w fun e w' => ∃ v', e = .returned v' ∧ Ps w' w'.heap.size v' (p1 ++ p2) ∧ Below w.heap.size w w' := by
  obtain ⟨a1, c1, rfl⟩ := h1.shape
  obtain ⟨a2, c2, rfl⟩ := h2.shape
  obtain ⟨i0, hi, hz0, hz1, hz2⟩ := info_parts infoP
  have hGB : G < w.heap.size := World.block_lt_of_cell? w _ hg0
  have CG := Lib.hid (grow_any (p1.length + p2.length) (by omega) w)
  have HP := Lib.hid (And.intro h1 h2)
  clear h1 h2
  go_enter Tryz.func33, Tryz.ntmps33
  go_wp2_with fail
  go_loopw [3, 11] (fun nv iv wr => ∃ k n : Nat, k ≤ 2 ∧ iv = .int .i64 (k : Int) ∧ nv = .int .i64 (n : Int) ∧ w = wr ∧ Hid ((k = 0 → n = 0) ∧ (k = 1 → n = p1.length) ∧ (k = 2 → n = p1.length + p2.length))) (fun _ iv _ => 2 - (intOf iv).toNat)
  case atStart => exact ⟨0, 0, by omega, rfl, rfl, rfl, Lib.hid ⟨fun _ => rfl, fun h => by omega, fun h => by omega⟩⟩
  case round =>
    obtain ⟨k, n, hk, rfl, rfl, rfl, hn⟩ := hrel
    obtain rfl | rfl | rfl : k = 0 ∨ k = 1 ∨ k = 2 := by omega
    · obtain rfl : n = 0 := hn.out.1 rfl
      have hp : ¬ (p1.length : Int) < 0 := by omega
      clear hn hk
      go_wp2_with fail
      go_roundw
      case rel => exact ⟨1, p1.length, by omega, by go_num, by go_num, trivial, Lib.hid ⟨fun h => by omega, fun _ => rfl, fun h => by omega⟩⟩
      case measure => simp [intOf]
    · obtain rfl : n = p1.length := hn.out.2.1 rfl
      have hw : IntKind.i64.wrap ((p1.length : Int) + (p2.length : Int)) = (p1.length : Int) + (p2.length : Int) := IntWalk.i64_in _ (by omega)
      have hp : ¬ (p1.length : Int) + (p2.length : Int) < 0 := by omega
      clear hn hk
      go_wp2_with fail
      go_roundw
      case rel => exact ⟨2, p1.length + p2.length, by omega, by go_num, by go_num, trivial, Lib.hid ⟨fun h => by omega, fun h => by omega, fun _ => rfl⟩⟩
      case measure => simp [intOf]
    · obtain rfl : n = p1.length + p2.length := hn.out.2.2 rfl
      clear hn hk
      go_wp2_with fail
      refine CG.out.mono ?_
      rintro e w1 ⟨gv, rfl, hown, hb1⟩
      obtain ⟨ga, gc, rfl⟩ := shapeP hown
      have HO := Lib.hid hown
      have HB := Lib.hid hb1
      clear hown hb1 CG
      go_wp2_with fail
      go_loopw [6, 27] (fun lv iv wr => ∃ (k : Nat) (l : List (ByteArray × ByteArray)), k ≤ 2 ∧ iv = .int .i64 (k : Int) ∧ Pp.Own wr w.heap.size lv l ∧ Below w.heap.size w wr ∧ Hid ((k = 0 → l = []) ∧ (k = 1 → l = p1) ∧ (k = 2 → l = p1 ++ p2))) (fun _ iv _ => 2 - (intOf iv).toNat)
      case atStart => exact ⟨0, [], by omega, rfl, HO.out, HB.out, Lib.hid ⟨fun _ => rfl, fun h => by omega, fun h => by omega⟩⟩
      case round =>
        clear HO HB
        obtain ⟨k, l, hk, rfl, hown, hbel, hn⟩ := hrel
        have e0 := (hbel.cell (p := ⟨G, 0, none⟩) hGB).trans hg0
        have e1 := (hbel.cell (p := ⟨G, 1, none⟩) hGB).trans hg1
        obtain ⟨la, lc, rfl⟩ := shapeP hown
        have hsz := hbel.size
        obtain rfl | rfl | rfl : k = 0 ∨ k = 1 ∨ k = 2 := by omega
        · obtain rfl : l = [] := hn.out.1 rfl
          obtain ⟨v2, w2, hrun, ho2, b2⟩ := append_ps w.heap.size _ _ _ _ wr hown ((HP.out.1.below hbel).up hsz) (by simp) hl1 hsz
          have HRUN := Lib.hid hrun
          have HO := Lib.hid ho2
          have HB := Lib.hid (hbel.trans b2)
          clear hn hk hrun ho2 b2 hown hbel
          go_wp2_with (at_builtin; refine list_run2 rfl _ _ _ _ rfl _ _ _ rfl rfl HRUN.out ?_)
          go_roundw
          case rel => exact ⟨1, [] ++ p1, by omega, by go_num, HO.out, HB.out, Lib.hid ⟨fun h => by omega, fun _ => rfl, fun h => by omega⟩⟩
          case measure => simp [intOf]
        · obtain rfl : l = p1 := hn.out.2.1 rfl
          obtain ⟨v2, w2, hrun, ho2, b2⟩ := append_ps w.heap.size _ _ _ _ wr hown ((HP.out.2.below hbel).up hsz) hl1 hl2 hsz
          have HRUN := Lib.hid hrun
          have HO := Lib.hid ho2
          have HB := Lib.hid (hbel.trans b2)
          clear hn hk hrun ho2 b2 hown hbel
          go_wp2_with (at_builtin; refine list_run2 rfl _ _ _ _ rfl _ _ _ rfl rfl HRUN.out ?_)
          go_roundw
          case rel => exact ⟨2, l ++ p2, by omega, by go_num, HO.out, HB.out, Lib.hid ⟨fun h => by omega, fun h => by omega, fun _ => rfl⟩⟩
          case measure => simp [intOf]
        · obtain rfl : l = p1 ++ p2 := hn.out.2.2 rfl
          have HO := Lib.hid hown.ps
          have HB := Lib.hid hbel
          clear hn hk hown hbel
          go_wp2_with fail
          go_ret
          exact ⟨_, rfl, HO.out, HB.out⟩
end Go.Proofs.YtpdodknldhbbhaaGreatDoor.Vc

namespace Go.Proofs.YtpdodknldhbbhaaGreatDoor.Vc
set_option maxRecDepth 100000
open Go.RowKit Pp

/-- .. with a property's box at Z. -/
structure Lq (w W : World) (Z : Nat) (sv lv : Value) (acc : List (List UInt8)) (g n : ByteArray) (pv : Value) (v : ByteArray) (av : Value) : Prop where
  l : Ls w W sv lv acc
  p : PrAt W Z g n pv v av
section
variable {w W W' : World} {Z : Nat} {sv lv pv av : Value} {acc : List (List UInt8)} {g n v : ByteArray}
theorem Lq.below (h : Lq w W Z sv lv acc g n pv v av) (hb : Below W.heap.size W W') : Lq w W' Z sv lv acc g n pv v av := ⟨h.l.below hb, h.p.below hb⟩
theorem Lq.cells (h : Lq w W Z sv lv acc g n pv v av) : W.cell? ⟨Z, 0, none⟩ = some (.string g) ∧ W.cell? ⟨Z, 1, none⟩ = some (.string n) ∧ W.cell? ⟨Z, 2, none⟩ = some pv := ⟨h.p.c0, h.p.c1, h.p.c2⟩
/-- More lines behind them. -/
theorem Lq.app {lv' : Value} {fl : List (List UInt8)} {m : Nat} (h : Lq w W Z sv lv acc g n pv v av) (hz : ∀ k, lv.ownBlock = some k → k ≠ Z) (hm : m = fl.length) (hown : W'.ownsRow (w.heap.size + 1) 9 1 lv' (acc.length + m) (Strs.scells acc ++ Strs.scells fl)) (hg : W.grownBy W' lv.ownBlock) : Lq w W' Z sv lv' (acc ++ fl) g n pv v av :=
  ⟨h.l.app hm hown hg, (hg.block Z h.p.lt (fun e => hz Z e.symm rfl)).trans h.p⟩
end
/-- A row of two lists of parameters. -/
theorem two_rows (W : World) (u x : Value) : ((W.alloc (.cells #[u, x] 51)).drew.cell? ⟨W.heap.size, 0, none⟩ = some u ∧ (W.alloc (.cells #[u, x] 51)).drew.cell? ⟨W.heap.size, 1, none⟩ = some x) ∧ Below W.heap.size W (W.alloc (.cells #[u, x] 51)).drew := by
  have hZ := heap_alloc_new W (.cells #[u, x] 51)
  exact ⟨⟨cell_of_row _ _ 0 _ _ _ hZ, cell_of_row _ _ 1 _ _ _ hZ⟩, ((Below.refl _ _).alloc (Nat.le_refl _) _).drew⟩

end Go.Proofs.YtpdodknldhbbhaaGreatDoor.Vc

namespace Go.Proofs.YtpdodknldhbbhaaGreatDoor.Vc
set_option maxRecDepth 100000
open Go.RowKit Pp

set_option maxHeartbeats 32000000 in
theorem progLinesD_card : ∀ (d : Nat) (k : Nat) (t : Crd) (sv : Value) (w : World), (linesC d t).length ≤ 100000000 → Vm.Nice Okp d t → CAt w w.heap.size k t sv → Cs.Tabs w →
    Calls Tryz.prog 20 #[.agg #[sv]] w (Ln.Texts w (linesC d t)) := by
  intro d
  induction d with
  | zero => intro k t sv w _ h; exact h.elim
  | succ d ih =>
    intro k t sv w hd3 hnice hca0 T
    obtain ⟨j0, hj, hy0, hy1, hy2⟩ := info_parts Strs.infoStr
    have hlen := hd3
    obtain ⟨c⟩ := t
    obtain ⟨k, rfl⟩ : ∃ k', k = k' + 1 := by cases k with | zero => exact hca0.elim | succ k => exact ⟨k, rfl⟩
    have hfit : c.length ≤ 24 ∧ ∀ p ∈ c, Okp p.1 ∧ p.2.length ≤ 1 ∧ ∀ a ∈ p.2, Vm.Nice Okp d a := hnice
    have hca : PlAt w w.heap.size (CAt w w.heap.size k) c sv := hca0
    have hln : linesC (d + 1) (.node c) = begL :: verL :: tailC (linesC d) c := rfl
    rw [hln] at hlen ⊢
    clear hnice hca0 hln
    obtain ⟨a, cp, rfl⟩ := hca.len
    obtain ⟨R, hR⟩ : ∃ R, begL :: verL :: tailC (linesC d) c = R := ⟨_, rfl⟩
    rw [hR] at hlen ⊢
    have hL0 : Ls w ((w.alloc (.cells #[.slice a c.length cp] 24)).alloc (.cells #[.string ⟨#[66, 69, 71, 73, 78, 58, 86, 67, 65, 82, 68]⟩, .string ⟨#[86, 69, 82, 83, 73, 79, 78, 58, 50, 46, 49]⟩] 9)) (.slice a c.length cp) (.slice (some ⟨w.heap.size + 1, 0, none⟩) 2 2) [begL, verL] := by
      have z1 : (w.alloc (.cells #[.slice a c.length cp] 24)).heap.size = w.heap.size + 1 := World.size_alloc _ _
      have hY := heap_alloc_new (w.alloc (.cells #[.slice a c.length cp] 24)) (.cells #[.string ⟨#[66, 69, 71, 73, 78, 58, 86, 67, 65, 82, 68]⟩, .string ⟨#[86, 69, 82, 83, 73, 79, 78, 58, 50, 46, 49]⟩] 9)
      rw [z1] at hY
      refine ⟨?_, ⟨by simp [Strs.scells], .inr ⟨w.heap.size + 1, 2, _, rfl, Nat.le_refl _, hY, by decide, by decide, rfl, rfl⟩⟩, ((Below.refl _ _).alloc (Nat.le_refl _) _).alloc (by omega) _, by rw [World.size_alloc, z1]; omega⟩
      exact (((Below.refl (w.heap.size + 1) _).alloc (Nat.le_of_eq z1.symm) _).block w.heap.size (by omega)).trans (Boxed.new w _ _)
    have IH := Lib.hid (fun t k sv w h0 h1 h2 h3 => ih k t sv w h0 h1 h2 h3)
    have HTB : Hid (∀ W, Below w.heap.size w W → Cs.Tabs W) := Lib.hid (fun W h => T.below h (Nat.le_refl _))
    have HC := Lib.hid hca
    have HFIT := Lib.hid hfit
    have HR := Lib.hid hR
    have HLEN : Hid (R.length ≤ 100000000) := Lib.hid hlen
    have HL0 := Lib.hid hL0
    have hcl : c.length ≤ 24 := hfit.1
    have hc0 := hL0.c.cell
    clear ih hca hfit hR hlen hL0 hd3 T
    go_enter Tryz.func20, Tryz.ntmps20
    go_wp2_with fail
    go_loopw [3, 16] (fun lv iv wr => ∃ (i : Nat) (acc : List (List UInt8)), i ≤ c.length ∧ iv = .int .i64 (i : Int) ∧ Hid (acc ++ tailC (linesC d) (c.drop i) = R) ∧ Ls w wr (.slice a c.length cp) lv acc) (fun _ iv _ => c.length - (intOf iv).toNat)
    case atStart => exact ⟨0, [begL, verL], Nat.zero_le _, rfl, Lib.hid (by rw [List.drop_zero]; exact HR.out), HL0.out⟩
    case round =>
      clear HR HL0 hc0
      obtain ⟨i, acc, hi2, rfl, hd, hls⟩ := hrel
      obtain ⟨la, lc, rfl, -⟩ := Ln.strs_at hls.l
      by_cases hlt : i < c.length
      · have hltz : (i : Int) < (c.length : Int) := by omega
        obtain ⟨b, o, pv, av, rfl, hbw, q0, q1, q2, q3, q4, hps, hag⟩ := HC.out.at_ hlt
        have HD := Lib.hid (by have h := hd.out; rw [tail_at hlt] at h; exact h)
        have hpo := HFIT.out.2 _ (List.getElem_mem hlt)
        generalize c[i] = y at q0 q1 q2 q3 q4 hps hag HD hpo
        obtain ⟨⟨g, n, ps, v⟩, gs⟩ := y
        simp only at q0 q1 q2 q3 hps hag hpo
        obtain ⟨⟨hpl, hvl⟩, hgl, hna⟩ := hpo
        simp only at hpl hvl
        obtain ⟨pa, pc, rfl⟩ := hps.shape
        obtain ⟨ga, gc, rfl⟩ := hag.len
        have hbel := hls.b
        have q0 := (hbel.cell (p := ⟨b, o + i * 5, none⟩) hbw).trans q0
        have q1 := (hbel.cell (p := ⟨b, o + i * 5 + 1, none⟩) hbw).trans q1
        have q2 := (hbel.cell (p := ⟨b, o + i * 5 + 2, none⟩) hbw).trans q2
        have q3 := (hbel.cell (p := ⟨b, o + i * 5 + 3, none⟩) hbw).trans q3
        have q4 := (hbel.cell (p := ⟨b, o + i * 5 + 4, none⟩) hbw).trans q4
        have hp1 : PrAt (wr.alloc (.cells #[.string g, .string n, .slice pa ps.length pc, .string v, .slice ga gs.length gc] 53)) wr.heap.size g n (.slice pa ps.length pc) v (.slice ga gs.length gc) := heap_alloc_new wr _
        have hbx : Below wr.heap.size wr (wr.alloc (.cells #[.string g, .string n, .slice pa ps.length pc, .string v, .slice ga gs.length gc] 53)) := (Below.refl _ _).alloc (Nat.le_refl _) _
        have HLQ := Lib.hid (Lq.mk (hls.below hbx) hp1)
        have HZ : Hid (∀ k, (Value.slice la acc.length lc).ownBlock = some k → k ≠ wr.heap.size) := Lib.hid (fun k e => by have := (World.ownsRow.lt hls.l k e).2; omega)
        generalize hZZ : wr.heap.size = Z at HLQ HZ
        have HWL := Lib.hid (wrP_le (v := v) (by omega))
        obtain ⟨⟨wps, wv⟩, hwp⟩ : ∃ q, wrP v = q := ⟨_, rfl⟩
        have HPR : Hid (propL (linesC d) (⟨g, n, ps, v⟩, gs) = Ln.fold 75 (lineW g n (ps ++ wps) wv).data.toList ++ (gs.map (linesC d)).flatten) := Lib.hid (by unfold propL lineC; rw [hwp])
        have CW := Lib.hid (written_any pieces_ok v (by omega) _ (HTB.out _ HLQ.out.l.b))
        rw [hwp] at CW HWL
        simp only at CW HWL
        have hln := lineW_size g n (ps ++ wps) wv
        have CCat := Lib.hid (fun (hv : Value) (G : Nat) (W : World) (h0 : W.cell? ⟨G, 0, none⟩ = some (.slice pa ps.length pc)) (h1 : W.cell? ⟨G, 1, none⟩ = some hv) (h2 : Below w.heap.size w W) (h3 : Ps W W.heap.size hv wps) => concat_any _ hv ps wps G W h0 h1 ((hps.below h2).up h2.size) h3 (by omega) (by have := HWL.out.1; omega))
        have CPr : Hid (∀ pv2 W, Ps W W.heap.size pv2 (ps ++ wps) → Calls Tryz.prog 32 #[.agg #[.string g, .string n, pv2, .string wv, .slice none 0 0]] W fun e w' => e = .returned (.tuple #[.string (lineW g n (ps ++ wps) wv), .int .i64 (chk g n (ps ++ wps) wv 0)]) ∧ Below W.heap.size W w') := Lib.hid (fun pv2 W h => pPrint_any g n pv2 wv none 0 0 (ps ++ wps) W h (by rw [List.length_append]; have := HWL.out.1; omega) (by have := HWL.out.2; omega))
        have p0 := HLQ.out.p.c0
        have p1 := HLQ.out.p.c1
        have p2 := HLQ.out.p.c2
        have p3 := HLQ.out.p.c3
        have p4 := HLQ.out.p.c4
        have HAG := Lib.hid hag
        have HNA := Lib.hid hna
        clear hd hps hag hna hbel hls hwp hp1 hbx HWL
        go_wp2_with fail
        refine CW.out.mono ?_
        rintro e w5 ⟨hv, rfl, hphv, b5⟩
        have L5 := HLQ.out.below b5
        have L5d := L5.below ((Below.refl _ _).drew)
        obtain ⟨ha, hc, rfl⟩ := hphv.shape
        obtain ⟨⟨g0, g1⟩, bt⟩ := two_rows w5 (.slice pa ps.length pc) (.slice ha wps.length hc)
        have CC1 := Lib.hid (CCat.out _ w5.heap.size _ g0 g1 (L5.l.b.trans (bt.mono L5.l.b.size)) ((hphv.below bt).up bt.size))
        have LX := L5.below bt
        generalize lineW g n (ps ++ wps) wv = ln at CPr HPR hln
        generalize chk g n (ps ++ wps) wv 0 = le at CPr
        generalize ps ++ wps = psw at CPr CC1
        have p0 := L5.p.c0
        have p1 := L5.p.c1
        have p2 := L5.p.c2
        have CFd := Lib.hid (fun W => Ln.fold_any ln 75 (by omega) W)
        have HFN : Hid (Ln.wid 75 = 75 ∧ 0 < (Ln.fold 75 ln.data.toList).length) := Lib.hid ⟨rfl, fold_some _ _⟩
        clear CW CCat HLQ b5 hphv g0 g1 bt p3 p4 hln
        go_wp2_with fail
        go_region_held3 (fun W => W.cell? ⟨Z, 0, none⟩ = some (.string g) ∧ W.cell? ⟨Z, 1, none⟩ = some (.string n) ∧ W.cell? ⟨Z, 2, none⟩ = some (.slice pa ps.length pc)) (first | with_reducible exact Lq.cells LX | with_reducible exact Lq.cells L5d | with_reducible exact Lq.cells L5 | with_reducible exact Lq.cells L6 | with_reducible exact Lq.cells L7 | go_keep) (first
          | (go_at_call 33; (with_reducible refine CC1.out.mono ?_); rintro e w6 ⟨v6, rfl, hp6, b6⟩; obtain ⟨xa, xc, rfl⟩ := hp6.shape; have L6 := LX.below b6)
          | (go_at_call 32; (with_reducible refine (CPr.out _ _ hp6).mono ?_); rintro e w7 ⟨rfl, b7⟩; have L7 := L6.below b7))
        have HL7 := Lib.hid L7
        have CF1 := Lib.hid (CFd.out w7)
        clear CC1 CPr CFd L5 L5d LX L6 L7 b6 b7 hp6 p0 p1 p2
        go_wp2_with fail
        refine CF1.out.mono ?_
        rintro e w8 ⟨fv, rfl, hfr, b8⟩
        rw [HFN.out.1] at hfr
        have hl8 := HL7.out.below b8
        obtain ⟨gf, fc, rfl, hfs⟩ := strs_src hfr HFN.out.2
        have HDD : Hid (acc ++ (Ln.fold 75 ln.data.toList ++ ((gs.map (linesC d)).flatten ++ tailC (linesC d) (c.drop (i + 1)))) = R) := Lib.hid (by have h := HD.out; rw [HPR.out, List.append_assoc] at h; exact h)
        have hfone := scells_one (Ln.fold 75 ln.data.toList)
        have hfl := Strs.scells_length (Ln.fold 75 ln.data.toList)
        generalize Ln.fold 75 ln.data.toList = fl at hfs HDD hfone hfl hfr HFN
        have hsz : acc.length + fl.length ≤ 100000000 := by
          have h1 := congrArg List.length HDD.out
          have h2 := HLEN.out
          rw [List.length_append, List.length_append] at h1
          omega
        have hk1 : acc.length + fl.length ≤ maxLen := by unfold maxLen; omega
        have hk2 : (acc.length + fl.length) * 16 ≤ 140737488355328 := by omega
        have hown := hl8.l.l
        have hbs := hl8.l.z
        have hfl1 : (Strs.scells fl).length = fl.length * 1 := by omega
        have HL8 := Lib.hid hl8
        have HDN := Lib.hid HDD.out
        clear hl8 b8 HL7 CF1 hfr HFN HD HPR HDD hfl hsz
        go_wp2_with (at_builtin; refine wpList_append_own _ rfl _ _ 39 rfl (w.heap.size + 1) 9 j0 (.string .empty) 1 16 Tryz.underlying39 hj hy0 hy1 hy2 rfl (by decide) _ _ _ rfl hown ⟨gf, 0, none⟩ fl.length fc (Strs.scells fl) rfl hfl1 hfs hfone hk1 hk2 hbs ?_; intro v9 w9 hown9 hgrow9 _; have L9 := HL8.out.app HZ.out rfl hown9 hgrow9; have p4 := L9.p.c4)
        have HDE : Hid ((acc ++ fl) ++ (((gs.drop 0).map (linesC d)).flatten ++ tailC (linesC d) (c.drop (i + 1))) = R) := Lib.hid (by rw [List.append_assoc, List.drop_zero]; exact HDN.out)
        have HLS8 := Lib.hid L9.l
        clear L9 p4 HL8 hown9 hgrow9 hown hfs hfone hfl1 hk1 hk2 hbs HDN
        generalize acc ++ fl = acc2 at HDE HLS8
        go_loopw [3, 48] (fun lv kv wr => ∃ (kk : Nat) (ac : List (List UInt8)), kk ≤ gs.length ∧ kv = .int .i64 (kk : Int) ∧ Hid (ac ++ (((gs.drop kk).map (linesC d)).flatten ++ tailC (linesC d) (c.drop (i + 1))) = R) ∧ Ls w wr (.slice (some ⟨b, o, none⟩) c.length cp) lv ac) (fun _ kv _ => gs.length - (intOf kv).toNat)
        case atStart => exact ⟨0, acc2, Nat.zero_le _, rfl, HDE, HLS8.out⟩
        case round =>
          clear HDE HLS8
          obtain ⟨kk, ac, hkk, rfl, hde, hls⟩ := hrel
          obtain ⟨ca, cc, rfl, -⟩ := Ln.strs_at hls.l
          by_cases hkl : kk < gs.length
          · have hkz : (kk : Int) < (gs.length : Int) := by omega
            obtain ⟨b2, o2, csv, rfl, hb2, hcs, hcc⟩ := HAG.out.at_ hkl
            obtain ⟨xa, xn, xc, rfl⟩ := hcc.one
            have hcs1 := (hls.b.cell (p := ⟨b2, o2 + kk, none⟩) hb2).trans hcs
            have hbox := (Boxed.new wr 24 (.slice xa xn xc)).cell
            have hbx : Below wr.heap.size wr (wr.alloc (.cells #[.slice xa xn xc] 24)) := (Below.refl _ _).alloc (Nat.le_refl _) _
            have hlsB := hls.below hbx
            have HDF : Hid (ac ++ (linesC d gs[kk] ++ (((gs.drop (kk + 1)).map (linesC d)).flatten ++ tailC (linesC d) (c.drop (i + 1)))) = R) := Lib.hid (by have h := hde.out; rw [List.drop_eq_getElem_cons hkl, List.map_cons, List.flatten_cons, List.append_assoc] at h; exact h)
            have hdl : (linesC d gs[kk]).length ≤ 100000000 := by
              have h1 := congrArg List.length HDF.out
              have h2 := HLEN.out
              rw [List.length_append, List.length_append] at h1
              omega
            have CI := Lib.hid (IH.out gs[kk] k _ _ hdl (HNA.out _ (List.getElem_mem hkl)) (hcc.on hlsB.b) (HTB.out _ hlsB.b))
            have hls0 := lines_some d gs[kk] (HNA.out _ (List.getElem_mem hkl))
            clear hdl
            generalize linesC d gs[kk] = fl at CI hls0 HDF
            have HLS9 := Lib.hid hlsB
            have HL0 := Lib.hid hls0
            clear hde hcs hcc hls hls0 hbx hlsB
            go_wp2_with fail
            refine CI.out.mono ?_
            rintro e w7 ⟨fv, rfl, hfr, b7⟩
            have hls := HLS9.out.below b7
            obtain ⟨gf, fc, rfl, hfs⟩ := strs_src hfr HL0.out
            have hfone := scells_one fl
            have hfl := Strs.scells_length fl
            have hsz : ac.length + fl.length ≤ 100000000 := by
              have h1 := congrArg List.length HDF.out
              have h2 := HLEN.out
              rw [List.length_append, List.length_append] at h1
              omega
            have hk1 : ac.length + fl.length ≤ maxLen := by unfold maxLen; omega
            have hk2 : (ac.length + fl.length) * 16 ≤ 140737488355328 := by omega
            have hown := hls.l
            have hbs := hls.z
            have hfl1 : (Strs.scells fl).length = fl.length * 1 := by omega
            have HLS7 := Lib.hid hls
            clear hls b7 HLS9 CI hfr HL0 hfl hsz hcs1 hbox
            go_wp2_with (at_builtin; refine wpList_append_own _ rfl _ _ 39 rfl (w.heap.size + 1) 9 j0 (.string .empty) 1 16 Tryz.underlying39 hj hy0 hy1 hy2 rfl (by decide) _ _ _ rfl hown ⟨gf, 0, none⟩ fl.length fc (Strs.scells fl) rfl hfl1 hfs hfone hk1 hk2 hbs ?_; intro v8 w8 hown8 hgrow8 _)
            have HLS8 := Lib.hid (HLS7.out.app (fl := fl) rfl hown8 hgrow8)
            clear HLS7 hown8 hgrow8 hown hfs hfone hfl1 hk1 hk2 hbs
            go_roundw
            case rel => exact ⟨kk + 1, ac ++ fl, by omega, by go_num, Lib.hid (by rw [List.append_assoc]; exact HDF.out), HLS8.out⟩
            case measure => simp [intOf] <;> omega
          · have hkz : ¬ (kk : Int) < (gs.length : Int) := by omega
            have HNX : Hid (ac ++ tailC (linesC d) (c.drop (i + 1)) = R) := Lib.hid (by have h := hde.out; rw [List.drop_eq_nil_of_le (by omega)] at h; exact h)
            have HLS9 := Lib.hid hls
            clear hde hls
            go_wp2_with fail
            go_roundw
            case rel => exact ⟨i + 1, ac, by omega, by go_num, HNX, HLS9.out⟩
            case measure => simp [intOf] <;> omega
      · have hltz : ¬ (i : Int) < (c.length : Int) := by omega
        have HLAST : Hid (acc ++ [endL] = R) := Lib.hid (by have h := hd.out; rw [tail_done hlt] at h; exact h)
        have HLS := Lib.hid hls
        clear hd hls
        have hsz : acc.length + 1 ≤ 100000000 := by
          have h1 := congrArg List.length HLAST.out
          have h2 := HLEN.out
          rw [List.length_append, List.length_singleton] at h1
          omega
        have hk1 : acc.length + 1 ≤ maxLen := by unfold maxLen; omega
        have hk2 : (acc.length + 1) * 16 ≤ 140737488355328 := by omega
        have hnew := heap_alloc_new wr (.cells #[.string ⟨#[69, 78, 68, 58, 86, 67, 65, 82, 68]⟩] 9)
        have hns : ∀ j u, ([.string ⟨#[69, 78, 68, 58, 86, 67, 65, 82, 68]⟩] : List Value)[j]? = some u → (wr.alloc (.cells #[.string ⟨#[69, 78, 68, 58, 86, 67, 65, 82, 68]⟩] 9)).cell? (Addr.add ⟨wr.heap.size, 0, none⟩ j) = some u := World.news_of_block (cs := #[.string ⟨#[69, 78, 68, 58, 86, 67, 65, 82, 68]⟩]) (t := 9) (fr := (0, 0)) hnew
        have hown := World.ownsRow.alloc HLS.out.l (.cells #[.string ⟨#[69, 78, 68, 58, 86, 67, 65, 82, 68]⟩] 9)
        have hone : ∀ u ∈ ([.string ⟨#[69, 78, 68, 58, 86, 67, 65, 82, 68]⟩] : List Value), u.oneCell' = true := by simp [Value.oneCell']
        have hbs : w.heap.size + 1 ≤ (wr.alloc (.cells #[.string ⟨#[69, 78, 68, 58, 86, 67, 65, 82, 68]⟩] 9)).heap.size := by rw [World.size_alloc]; have := HLS.out.z; omega
        have HLA := Lib.hid (HLS.out.below ((Below.refl _ wr).alloc (Nat.le_refl _) (.cells #[.string ⟨#[69, 78, 68, 58, 86, 67, 65, 82, 68]⟩] 9)))
        clear hnew hsz
        go_wp2_with (at_builtin; refine wpList_append_own _ rfl _ _ 39 rfl (w.heap.size + 1) 9 j0 (.string .empty) 1 16 Tryz.underlying39 hj hy0 hy1 hy2 rfl (by decide) _ _ _ rfl hown ⟨wr.heap.size, 0, none⟩ 1 1 [.string ⟨#[69, 78, 68, 58, 86, 67, 65, 82, 68]⟩] rfl rfl hns hone hk1 hk2 hbs ?_; intro v8 w8 hown8 hgrow8 _)
        have hls := HLA.out.app (fl := [endL]) (m := 1) rfl hown8 hgrow8
        go_ret
        refine ⟨_, rfl, ?_, hls.b⟩
        rw [← HLAST.out]
        exact Strs.Strs.low hls.l (Nat.le_succ _)
end Go.Proofs.YtpdodknldhbbhaaGreatDoor.Vc

namespace Go.Proofs.YtpdodknldhbbhaaGreatDoor.Dp
set_option maxRecDepth 100000
open Go.RowKit Vc Pp Sq

set_option maxHeartbeats 2000000 in
theorem printN_any (k : Nat) (c : Crd) (sv : Value) (w : World) (hfit : Fits k c) (hca : CAt w w.heap.size k c sv) (hnf : NfC w k c sv) (T : Cs.Tabs w) (hlv : ∀ j, (lvl c j).length ≤ 1048576) (hll : (linesC k c).length ≤ 2000000) :
    Calls Tryz.prog 8 #[.agg #[sv]] w fun e w' => ∃ d : Nat, 1 ≤ d ∧ (kidsL [[c]] = [] → d = 1) ∧ e = .returned (.tuple #[.string (if badN d k c = 0 then textK k c else ⟨#[]⟩), .int .i64 (badN d k c)]) ∧ Below w.heap.size w w' := by
  obtain ⟨a, n, cp, rfl⟩ := hca.one
  have hgt := hca.hgt
  have hb1 : Below w.heap.size w (w.alloc (.cells #[.slice a n cp] 24)) := (Below.refl _ _).alloc (Nat.le_refl _) _
  have hbox := (Boxed.new w 24 (.slice a n cp))
  have CD := Lib.hid (deep_any k c _ _ hfit (hca.on hb1) (hnf.on hb1 hca) hlv)
  have CC := Lib.hid (fun (W : World) (h : Below w.heap.size w W) => cardFault_any k c _ W hfit (hca.on h))
  have CL := Lib.hid (fun (h2 : chkC k c = 0) (W : World) (h : Below w.heap.size w W) => progLinesD_card k k c _ W (by omega) (chk_niceK k c hgt h2) (hca.on h) (T.below h (Nat.le_refl _)))
  have HSM := Lib.hid (And.intro hll (linesK_small k c hll))
  have HT := Lib.hid (show textK k c = ⟨(Ln.join (linesC k c)).toArray⟩ from rfl)
  obtain ⟨B, hBd⟩ : ∃ B : Nat → Int, B = fun d => badN d k c := ⟨_, rfl⟩
  have HR : Hid (∀ d, B d = if 3 < d then 9 else if chkC k c ≠ 0 then chkC k c else if 4000 < (textK k c).size then 8 else 0) := Lib.hid (fun d => by rw [hBd]; rfl)
  have hgoal : ∀ d, badN d k c = B d := fun d => by rw [hBd]
  simp only [hgoal]
  have HB := Lib.hid hb1
  have HX := Lib.hid hbox
  clear hca hb1 hbox hBd hgoal hfit hgt hnf hlv hll T
  generalize linesC k c = ls at CL HSM HT
  generalize chkC k c = ce at CC CL HR
  generalize textK k c = tx at HT HR ⊢
  generalize kidsL [[c]] = kl at CD ⊢
  have hcell := HX.out.cell
  go_enter Tryz.func8, Tryz.ntmps8
  go_wp2_with fail
  refine CD.out.mono ?_
  rintro e w1 ⟨dd, rfl, hd1, hd9, hd0, b1⟩
  have hcell1 := (b1.cell (p := ⟨w.heap.size, 0, none⟩) HX.out.lt).trans hcell
  have HB1 := Lib.hid (HB.out.trans (b1.mono HB.out.size))
  have HX1 : Hid (Boxed w1 w.heap.size 24 (.slice a n cp)) := Lib.hid ((b1.block _ HX.out.lt).trans HX.out)
  have HD := Lib.hid (And.intro hd1 hd0)
  clear b1 CD hcell hd1 hd0 HX HB
  have HRd := Lib.hid (HR.out dd)
  clear HR
  by_cases hd : 3 < dd
  · have hdz : (3 : Int) < (dd : Int) := by omega
    have HE : Hid (B dd = 9) := Lib.hid (by have h := HRd.out; rw [if_pos hd] at h; exact h)
    clear HRd CL HSM CC hd HT
    go_wp2_with fail
    go_ret2
    exact ⟨dd, HD.out.1, HD.out.2, by rw [HE.out]; rfl, HB1.out⟩
  have hdz : ¬ (3 : Int) < (dd : Int) := by omega
  have HR1 := Lib.hid (by have h := HRd.out; rw [if_neg hd] at h; exact h)
  clear HRd hd
  have C2 := Lib.hid (CC.out _ HB1.out)
  clear CC
  by_cases he : ce = 0
  · subst he
    have CL2 := Lib.hid (CL.out rfl)
    obtain ⟨hs1, hs2⟩ := HSM.out
    have HR2 := Lib.hid (by have h := HR1.out; rw [if_neg (fun e => e rfl)] at h; exact h)
    clear HR1 CL HSM
    go_wp2_with fail
    refine C2.out.mono ?_
    rintro e w2 ⟨rfl, b2⟩
    have HB2 := Lib.hid (HB1.out.trans (b2.mono HB1.out.size))
    have HX2 : Hid (Boxed w2 w.heap.size 24 (.slice a n cp)) := Lib.hid ((b2.block _ HX1.out.lt).trans HX1.out)
    have hcell2 := HX2.out.cell
    clear b2 C2 hcell1 HX1 HB1
    have C3 := Lib.hid (CL2.out _ HB2.out)
    clear CL2
    go_wp2_with fail
    refine C3.out.mono ?_
    rintro e w3 ⟨lv, rfl, hls, b3⟩
    have HB3 := Lib.hid (HB2.out.trans (b3.mono HB2.out.size))
    have C4 := Lib.hid (Ln.progJoin_any lv ls (by omega) (by omega) w3 hls.reads)
    obtain ⟨a3, n3, cp3, rfl⟩ : ∃ a n cp, lv = .slice a n cp := by obtain ⟨x, y, rfl, _⟩ := Ln.strs_at hls; exact ⟨_, _, _, rfl⟩
    clear b3 C3 hcell2 HX2 hls
    rw [← HT.out] at C4
    clear HT hs1 hs2
    go_wp2_with fail
    refine C4.out.mono ?_
    rintro e w4 ⟨rfl, b4⟩
    have HB4 := Lib.hid (HB3.out.trans (b4.mono HB3.out.size))
    by_cases hx : 4000 < tx.size
    · have hxz : (4000 : Int) < (tx.size : Int) := by omega
      have HE : Hid (B dd = 8) := Lib.hid (by have h := HR2.out; rw [if_pos hx] at h; exact h)
      clear hx HR2
      go_wp2_with fail
      go_ret2
      exact ⟨dd, HD.out.1, HD.out.2, by rw [HE.out]; rfl, HB4.out⟩
    · have hxz : ¬ (4000 : Int) < (tx.size : Int) := by omega
      have HE : Hid (B dd = 0) := Lib.hid (by have h := HR2.out; rw [if_neg hx] at h; exact h)
      clear hx HR2
      go_wp2_with fail
      go_ret2
      exact ⟨dd, HD.out.1, HD.out.2, by rw [HE.out]; rfl, HB4.out⟩
  · have heb : (ce == 0) = false := by simpa using he
    have HE : Hid (B dd = ce) := Lib.hid (by have h := HR1.out; rw [if_pos he] at h; exact h)
    clear HR1 CL HSM HT
    go_wp2_with fail
    refine C2.out.mono ?_
    rintro e w2 ⟨rfl, b2⟩
    have HB2 := Lib.hid (HB1.out.trans (b2.mono HB1.out.size))
    clear b2 C2 hcell1 HX1 HB1
    go_wp2_with fail
    go_ret2
    exact ⟨dd, HD.out.1, HD.out.2, by rw [HE.out, if_neg he]; rfl, HB2.out⟩
end Go.Proofs.YtpdodknldhbbhaaGreatDoor.Dp

namespace Go.Proofs.YtpdodknldhbbhaaGreatDoor.Dp
set_option maxRecDepth 100000
open Go.RowKit Vc Pp Sq

set_option maxHeartbeats 2000000 in
theorem refSameTop_any (k k' : Nat) (c c' : Crd) (sv sv' : Value) (w : World) (hf : Fits k c) (hf' : Fits k' c') (hc : CAt w w.heap.size k c sv) (hc' : CAt w w.heap.size k' c' sv') :
    Calls Tryz.prog 14 #[.agg #[sv], .agg #[sv']] w fun e w' => e = .returned (.bool (sameC 9 c c')) ∧ Below w.heap.size w w' := by
  obtain ⟨a, n, cp, rfl⟩ := hc.one
  obtain ⟨a', n', cp', rfl⟩ := hc'.one
  have hx := two_boxes w (.cells #[.slice a n cp] 24) (.cells #[.slice a' n' cp'] 24)
  have hb : Below w.heap.size w ((w.alloc (.cells #[.slice a n cp] 24)).alloc (.cells #[.slice a' n' cp'] 24)) := ((Below.refl _ _).alloc (Nat.le_refl _) _).alloc (by simp) _
  have C := Lib.hid (refSame_any 9 k c k' c' (.slice a n cp) (.slice a' n' cp') _ hf hf' (hc.on hb) (hc'.on hb) (Nat.le_refl _))
  have HB := Lib.hid hb
  clear hc hc' hb hx hf hf'
  go_enter Tryz.func14, Tryz.ntmps14
  go_wp2_with fail
  refine C.out.mono ?_
  rintro e w1 ⟨rfl, b1⟩
  go_wp2_with fail
  go_ret
  exact ⟨rfl, HB.out.trans (b1.mono HB.out.size)⟩

theorem card1_at {W : World} {b : Nat} (h : W.heap[b]? = some (.cells #[.string ⟨#[]⟩, .string ⟨#[70, 78]⟩, .slice none 0 0, .string ⟨#[97]⟩, .slice none 0 0] 53 (0, 0))) :
    CAt W W.heap.size 1 card1 (.slice (some ⟨b, 0, none⟩) 1 1) ∧ NfC W 1 card1 (.slice (some ⟨b, 0, none⟩) 1 1) := by
  have c0 := cell_of_row _ b 0 _ _ _ h
  have c1 := cell_of_row _ b 1 _ _ _ h
  have c2 := cell_of_row _ b 2 _ _ _ h
  have c3 := cell_of_row _ b 3 _ _ _ h
  have c4 := cell_of_row _ b 4 _ _ _ h
  constructor
  · refine ⟨_, 1, rfl, fun _ => ⟨b, 0, rfl, (Array.getElem?_eq_some_iff.1 h).1⟩, fun b' o e j hj => ?_⟩
    cases e
    obtain rfl : j = 0 := by have : j < 1 := hj; omega
    exact ⟨_, _, c0, c1, c2, c3, c4, .inl ⟨rfl, .inl rfl⟩, ⟨none, 0, rfl, fun h => absurd rfl h, fun _ _ e => by cases e⟩⟩
  · intro b' o n c e j hj
    cases e
    obtain rfl : j = 0 := by have : j < 1 := hj; omega
    refine ⟨⟨⟨_, _, _, h⟩, by simp [World.frozen?, h]⟩, fun av hav b2 o2 n2 c2' e2 i hi => ?_⟩
    have : i < 0 := hi
    omega
theorem fits1 (k : Nat) : Fits (k + 1) card1 := ⟨by decide, fun p hp => by
  have : p = ({ g := ⟨#[]⟩, n := ⟨#[70, 78]⟩, ps := [], v := ⟨#[97]⟩ }, []) := List.mem_singleton.1 hp
  subst this
  exact ⟨by decide, fun a ha => by cases ha⟩⟩
theorem lvl1 (j : Nat) : (lvl card1 j).length ≤ 1048576 := by
  have h : ∀ j, lvl card1 (j + 1) = [] := fun j => by
    induction j with
    | zero => exact kids1
    | succ j ih => rw [lvl, ih]; rfl
  cases j with
  | zero => simp [lvl]
  | succ j => rw [h]; simp

set_option maxHeartbeats 4000000 in
theorem works_any (w : World) (T : Cs.Tabs w) (TQ : Qu.Tabs w) :
    Calls Tryz.prog 15 #[] w fun e w' => e = .returned (.bool true) ∧ Below w.heap.size w w' := by
  have HT := Lib.hid (And.intro T TQ)
  clear T TQ
  go_enter Tryz.func15, Tryz.ntmps15
  go_wp2_with fail
  have hX := heap_alloc_new w (.cells #[.string ⟨#[]⟩, .string ⟨#[70, 78]⟩, .slice none 0 0, .string ⟨#[97]⟩, .slice none 0 0] 53)
  have z1 : (w.alloc (.cells #[.string ⟨#[]⟩, .string ⟨#[70, 78]⟩, .slice none 0 0, .string ⟨#[97]⟩, .slice none 0 0] 53)).heap.size = w.heap.size + 1 := World.size_alloc _ _
  have hY := Boxed.new (w.alloc (.cells #[.string ⟨#[]⟩, .string ⟨#[70, 78]⟩, .slice none 0 0, .string ⟨#[97]⟩, .slice none 0 0] 53)) 24 (.slice (some ⟨w.heap.size, 0, none⟩) 1 1)
  rw [z1] at hY
  have hb0 : Below w.heap.size w ((w.alloc (.cells #[.string ⟨#[]⟩, .string ⟨#[70, 78]⟩, .slice none 0 0, .string ⟨#[97]⟩, .slice none 0 0] 53)).alloc (.cells #[.slice (some ⟨w.heap.size, 0, none⟩) 1 1] 24)) := ((Below.refl _ _).alloc (Nat.le_refl _) _).alloc (by omega) _
  have hX2 := (((Below.refl (w.heap.size + 1) _).alloc (Nat.le_of_eq z1.symm) (.cells #[.slice (some ⟨w.heap.size, 0, none⟩) 1 1] 24)).block w.heap.size (by omega)).trans hX
  obtain ⟨hc0, hn0⟩ := card1_at hX2
  have C : Calls Tryz.prog 8 #[.agg #[.slice (some ⟨w.heap.size, 0, none⟩) 1 1]] ((w.alloc (.cells #[.string ⟨#[]⟩, .string ⟨#[70, 78]⟩, .slice none 0 0, .string ⟨#[97]⟩, .slice none 0 0] 53)).alloc (.cells #[.slice (some ⟨w.heap.size, 0, none⟩) 1 1] 24)) fun e w' => e = .returned (.tuple #[.string text1, .int .i64 0]) ∧ Below ((w.alloc (.cells #[.string ⟨#[]⟩, .string ⟨#[70, 78]⟩, .slice none 0 0, .string ⟨#[97]⟩, .slice none 0 0] 53)).alloc (.cells #[.slice (some ⟨w.heap.size, 0, none⟩) 1 1] 24)).heap.size ((w.alloc (.cells #[.string ⟨#[]⟩, .string ⟨#[70, 78]⟩, .slice none 0 0, .string ⟨#[97]⟩, .slice none 0 0] 53)).alloc (.cells #[.slice (some ⟨w.heap.size, 0, none⟩) 1 1] 24)) w' := (printN_any 1 card1 _ _ (fits1 0) hc0 hn0 (HT.out.1.below hb0 (Nat.le_refl _)) lvl1 (by rw [lines1]; decide)).mono (by
      rintro e w' ⟨d, _, h, rfl, b⟩
      obtain rfl := h kids1
      rw [bad1, if_pos rfl, text1_eq]
      exact ⟨rfl, b⟩)
  have HC := Lib.hid C
  have H0 := Lib.hid (And.intro hb0 (And.intro hc0 hY))
  clear hX z1 hY hb0 hX2 hc0 hn0 C
  generalize (w.alloc (.cells #[.string ⟨#[]⟩, .string ⟨#[70, 78]⟩, .slice none 0 0, .string ⟨#[97]⟩, .slice none 0 0] 53)).alloc (.cells #[.slice (some ⟨w.heap.size, 0, none⟩) 1 1] 24) = W2 at *
  refine HC.out.mono ?_
  rintro e w1 ⟨rfl, b1⟩
  clear HC
  have hb1 := H0.out.1.trans (b1.mono H0.out.1.size)
  have hy1 := (b1.block _ H0.out.2.2.lt).trans H0.out.2.2
  have C2 := parse_in text1 w1 (by decide) (HT.out.2.below hb1)
  rw [run1] at C2
  have H1 := Lib.hid (And.intro hb1 (And.intro (H0.out.2.1.on b1) hy1))
  have HC2 := Lib.hid C2
  have hs1 : text1.toList = [66, 69, 71, 73, 78, 58, 86, 67, 65, 82, 68, 13, 10, 86, 69, 82, 83, 73, 79, 78, 58, 50, 46, 49, 13, 10, 70, 78, 58, 97, 13, 10, 69, 78, 68, 58, 86, 67, 65, 82, 68, 13, 10] := by first | (simp [text1]; done) | kernel_rfl
  clear hb1 hy1 C2 b1 H0
  generalize text1 = tx at *
  go_wp2_with fail
  refine HC2.out.mono ?_
  rintro e w3 ⟨cv, rfl, hc3, b3⟩
  obtain ⟨ca, cn, cc, rfl⟩ := hc3.one
  have ba : Below w3.heap.size w3 (w3.alloc (.cells #[.slice ca cn cc] 24)) := (Below.refl _ _).alloc (Nat.le_refl _) _
  have hx3 := Boxed.new w3 24 (.slice ca cn cc)
  have hlt1 : w.heap.size + 1 < w1.heap.size := (Array.getElem?_eq_some_iff.1 H1.out.2.2).1
  have hy3 := (ba.block _ (by have := b3.size; omega)).trans ((b3.block _ hlt1).trans H1.out.2.2)
  have hb3 := H1.out.1.trans ((b3.trans (ba.mono b3.size)).mono H1.out.1.size)
  have C3 := parse_in text2 (w3.alloc (.cells #[.slice ca cn cc] 24)) (by decide) (HT.out.2.below hb3)
  obtain ⟨⟨k2, e2, t2⟩, hA⟩ : ∃ A, Vm.run st0 ((Ln.eachL text2).map toB) = A := ⟨_, rfl⟩
  have hr2 := run2
  rw [hA] at C3 hr2
  obtain ⟨rfl, rfl⟩ : k2 = 0 ∧ e2 = 1 := hr2
  have H3 := Lib.hid (And.intro hb3 (And.intro ((H1.out.2.1.on b3).on ba) (And.intro (hc3.on ba) (And.intro hy3 hx3))))
  have HC3 : Hid (Calls Tryz.prog 16 #[.string ⟨#[66, 69, 71, 73, 78, 58, 86, 67, 65, 82, 68, 13, 10, 86, 69, 82, 83, 73, 79, 78, 58, 50, 46, 49, 13, 10]⟩] (w3.alloc (.cells #[.slice ca cn cc] 24)) (ReadAns (w3.alloc (.cells #[.slice ca cn cc] 24)) (0, 1, t2))) := Lib.hid C3
  clear ba hx3 hlt1 hy3 hb3 C3 hA hc3 b3 H1 HC2
  go_wp2_with fail
  refine HC3.out.mono ?_
  rintro e w5 ⟨cv, rfl, hc5, b5⟩
  obtain ⟨da, dn, dc, rfl⟩ := hc5.one
  have ba : Below w5.heap.size w5 (w5.alloc (.cells #[.slice da dn dc] 24)) := (Below.refl _ _).alloc (Nat.le_refl _) _
  have hbb := b5.trans (ba.mono b5.size)
  have x0 := Boxed.cell (t := 24) ((hbb.block _ H3.out.2.2.2.2.lt).trans H3.out.2.2.2.2)
  have y0 := Boxed.cell (t := 24) ((hbb.block _ (Array.getElem?_eq_some_iff.1 H3.out.2.2.2.1).1).trans H3.out.2.2.2.1)
  have C := refSameTop_any 1 3 card1 card1 _ _ _ (fits1 0) (fits1 2) (H3.out.2.1.on hbb) (H3.out.2.2.1.on hbb)
  rw [same1] at C
  have HCS := Lib.hid C
  have HB := Lib.hid (H3.out.1.trans (hbb.mono H3.out.1.size))
  clear ba hbb C H3 HC3 b5 hc5
  go_wp2_with fail
  refine HCS.out.mono ?_
  rintro e w7 ⟨rfl, b7⟩
  go_wp2_with fail
  go_ret
  exact ⟨rfl, HB.out.trans (b7.mono HB.out.size)⟩
end Go.Proofs.YtpdodknldhbbhaaGreatDoor.Dp

namespace Go.Proofs.YtpdodknldhbbhaaGreatDoor.Dp
set_option maxRecDepth 100000
open Go.RowKit Vc Pp Sq

set_option maxHeartbeats 4000000 in
theorem linesLaw_any (k : Nat) (c : Crd) (sv : Value) (w : World) (hfit : FitsM k c) (hca : CAt w w.heap.size k c sv) (hnf : NfC w k c sv) (T : Cs.Tabs w) (TQ : Qu.Tabs w) :
    Calls Tryz.prog 6 #[.agg #[sv]] w fun e w' => e = .returned (.bool true) ∧ Below w.heap.size w w' := by
  obtain ⟨a, n, cp, rfl⟩ := hca.one
  have hb1 : Below w.heap.size w (w.alloc (.cells #[.slice a n cp] 24)) := (Below.refl _ _).alloc (Nat.le_refl _) _
  have hbox := (Boxed.new w 24 (.slice a n cp))
  have CW := Lib.hid (works_any _ (T.below hb1 (Nat.le_refl _)) (TQ.below hb1))
  have CG := Lib.hid (fun (W : World) (h : Kp w W) => greatM_any k c _ W hfit (hca.on h.b))
  have C1 := Lib.hid (fun (hg : great c = false) (W : World) (h : Kp w W) => printN_any k c _ W (great_fits 12 k c 6000 hg) (hca.on h.b) (hnf.on h.b hca) (T.below h.b (Nat.le_refl _)) (levels_great hg) (lines_great hg k))
  have K0 : Hid (Kp w (w.alloc (.cells #[.slice a n cp] 24))) := Lib.hid ⟨hbox.lt, hb1⟩
  have HSZ := Lib.hid (fun d => badN_ok (n := d) (k := k) (t := c))
  have HSC := Lib.hid (scn_textK k c)
  have hcell := hbox.cell
  clear hca hb1 hbox hfit hnf T TQ
  generalize textK k c = X at C1 HSZ HSC
  generalize great c = G at CG C1
  go_enter Tryz.func6, Tryz.ntmps6
  go_wp2_with fail
  refine CW.out.mono ?_
  rintro e w1 ⟨rfl, b1⟩
  have hc1 := (b1.cell (p := ⟨w.heap.size, 0, none⟩) K0.out.l).trans hcell
  have K1 := Lib.hid (K0.out.below b1)
  clear CW K0 b1 hcell
  have C := Lib.hid (CG.out _ K1.out)
  clear CG
  go_wp2_with fail
  refine C.out.mono ?_
  rintro e w2 ⟨rfl, b2⟩
  have hc2 := (b2.cell (p := ⟨w.heap.size, 0, none⟩) K1.out.l).trans hc1
  have K2 := Lib.hid (K1.out.below b2)
  clear C K1 b2 hc1
  cases G with
  | true =>
    clear C1
    go_wp2_with fail
    go_ret
    exact ⟨rfl, K2.out.b⟩
  | false =>
    have C := Lib.hid (C1.out rfl _ K2.out)
    clear C1
    go_wp2_with fail
    refine C.out.mono ?_
    rintro e w3 ⟨d, -, -, rfl, b3⟩
    have HB3 : Hid (Below w.heap.size w w3) := Lib.hid (K2.out.below b3).b
    have HSZ := Lib.hid (HSZ.out d)
    generalize badN d k c = E at HSZ ⊢
    clear C K2 b3 hc2
    by_cases hE : E = 0
    · subst hE
      have hX := HSZ.out rfl
      rw [if_pos rfl]
      clear HSZ
      go_wp2_with fail
      go_loopw [5, 6, 7] (fun nv kv iv wr => ∃ i n k : Nat, nv = .int .i64 (n : Int) ∧ kv = .int .i64 (k : Int) ∧ iv = .int .i64 (i : Int) ∧ i ≤ X.size ∧ n ≤ i ∧ k ≤ i ∧ Hid (scn (X.data.toList.drop i) n k = true) ∧ Below w.heap.size w wr) (fun _ _ iv _ => X.size - (intOf iv).toNat)
      case atStart => exact ⟨0, 0, 0, rfl, rfl, rfl, Nat.zero_le _, Nat.le_refl _, Nat.le_refl _, Lib.hid (by rw [List.drop_zero]; exact HSC.out), HB3.out⟩
      case round =>
        clear HSC HB3
        obtain ⟨i, n, k, rfl, rfl, rfl, hi, hni, hki, hs, hbel⟩ := hrel
        have HB3 := Lib.hid hbel
        clear hbel
        by_cases hlt : i < X.size
        · have hltz : (i : Int) < (X.size : Int) := by omega
          have hst := scn_step hlt hs.out
          clear hs
          rcases hst with ⟨h10, hsc⟩ | ⟨h10, h13, hsc⟩ | ⟨h10, h13, hink, hno, hsc⟩
          · have hz : (X[i].toNat : Int) = 10 := by omega
            have HS2 := Lib.hid hsc
            clear hsc h10
            go_wp2_with fail
            go_roundw
            case rel => exact ⟨i + 1, 0, 0, rfl, rfl, by go_num, by omega, by omega, by omega, HS2, HB3.out⟩
            case measure => simp [intOf]; omega
          · have hz : (X[i].toNat : Int) = 13 := by omega
            have HS2 := Lib.hid hsc
            clear hsc h10 h13
            go_wp2_with fail
            go_roundw
            case rel => exact ⟨i + 1, n, k, rfl, rfl, by go_num, by omega, by omega, by omega, HS2, HB3.out⟩
            case measure => simp [intOf]; omega
          · have z10 : ¬ (X[i].toNat : Int) = 10 := by omega
            have z13 : ¬ (X[i].toNat : Int) = 13 := by omega
            by_cases h9 : X[i].toNat = 9
            · have z9 : (X[i].toNat : Int) = 9 := by omega
              have z32 : ¬ (X[i].toNat : Int) = 32 := by omega
              have hbl : blkB X[i] = true := by unfold blkB; simp [h9]
              clear hink h9 h10 h13
              by_cases hn1 : 1 < n + 1
              · have hn1z : (1 : Int) < (n : Int) + 1 := by omega
                by_cases hn76 : n + 1 ≤ 76
                · have hn76z : (n : Int) + 1 ≤ 76 := by omega
                  have hkk : nextK X[i] n k = (k + 1) := by unfold nextK; rw [if_pos ⟨hn1, hn76, hbl⟩]
                  rw [hkk] at hno hsc
                  have HS2 := Lib.hid hsc
                  clear hsc
                  by_cases hn75 : 75 < n + 1
                  · have hn75z : (75 : Int) < (n : Int) + 1 := by omega
                    have hk0 : ¬ 0 < (k + 1) := fun h => hno ⟨hn75, h⟩
                    omega
                  · have hn75z : ¬ (75 : Int) < (n : Int) + 1 := by omega
                    clear hno hkk hn1 hn76 hn75
                    go_wp2_with fail
                    go_roundw
                    case rel => exact ⟨i + 1, n + 1, k + 1, by go_num, by go_num, by go_num, by omega, by omega, by omega, HS2, HB3.out⟩
                    case measure => simp [intOf]; omega
                · have hn76z : ¬ (n : Int) + 1 ≤ 76 := by omega
                  have hkk : nextK X[i] n k = k := by unfold nextK; rw [if_neg (by omega)]
                  rw [hkk] at hno hsc
                  have HS2 := Lib.hid hsc
                  have hn75z : (75 : Int) < (n : Int) + 1 := by omega
                  have hk0 : ¬ 0 < k := fun h => hno ⟨by omega, h⟩
                  have hk0z : ¬ (0 : Int) < (k : Int) := by omega
                  clear hno hkk hn1 hn76 hsc
                  go_wp2_with fail
                  go_roundw
                  case rel => exact ⟨i + 1, n + 1, k, by go_num, rfl, by go_num, by omega, by omega, by omega, HS2, HB3.out⟩
                  case measure => simp [intOf]; omega
              · have hn1z : ¬ (1 : Int) < (n : Int) + 1 := by omega
                have hkk : nextK X[i] n k = k := by unfold nextK; rw [if_neg (by omega)]
                rw [hkk] at hno hsc
                have HS2 := Lib.hid hsc
                have hn75z : ¬ (75 : Int) < (n : Int) + 1 := by omega
                clear hno hkk hn1 hsc
                go_wp2_with fail
                go_roundw
                case rel => exact ⟨i + 1, n + 1, k, by go_num, rfl, by go_num, by omega, by omega, by omega, HS2, HB3.out⟩
                case measure => simp [intOf]; omega
            · have z9 : ¬ (X[i].toNat : Int) = 9 := by omega
              have hlo : ¬ (X[i].toNat : Int) < 32 := by unfold inkB at hink; simp [h9] at hink; omega
              have hhi : ¬ (126 : Int) < (X[i].toNat : Int) := by unfold inkB at hink; simp [h9] at hink; omega
              by_cases h32 : X[i].toNat = 32
              · have z32 : (X[i].toNat : Int) = 32 := by omega
                have hbl : blkB X[i] = true := by unfold blkB; simp [h32]
                clear hink h9 h10 h13 h32
                by_cases hn1 : 1 < n + 1
                · have hn1z : (1 : Int) < (n : Int) + 1 := by omega
                  by_cases hn76 : n + 1 ≤ 76
                  · have hn76z : (n : Int) + 1 ≤ 76 := by omega
                    have hkk : nextK X[i] n k = (k + 1) := by unfold nextK; rw [if_pos ⟨hn1, hn76, hbl⟩]
                    rw [hkk] at hno hsc
                    have HS2 := Lib.hid hsc
                    clear hsc
                    by_cases hn75 : 75 < n + 1
                    · have hn75z : (75 : Int) < (n : Int) + 1 := by omega
                      have hk0 : ¬ 0 < (k + 1) := fun h => hno ⟨hn75, h⟩
                      omega
                    · have hn75z : ¬ (75 : Int) < (n : Int) + 1 := by omega
                      clear hno hkk hn1 hn76 hn75
                      go_wp2_with fail
                      go_roundw
                      case rel => exact ⟨i + 1, n + 1, k + 1, by go_num, by go_num, by go_num, by omega, by omega, by omega, HS2, HB3.out⟩
                      case measure => simp [intOf]; omega
                  · have hn76z : ¬ (n : Int) + 1 ≤ 76 := by omega
                    have hkk : nextK X[i] n k = k := by unfold nextK; rw [if_neg (by omega)]
                    rw [hkk] at hno hsc
                    have HS2 := Lib.hid hsc
                    have hn75z : (75 : Int) < (n : Int) + 1 := by omega
                    have hk0 : ¬ 0 < k := fun h => hno ⟨by omega, h⟩
                    have hk0z : ¬ (0 : Int) < (k : Int) := by omega
                    clear hno hkk hn1 hn76 hsc
                    go_wp2_with fail
                    go_roundw
                    case rel => exact ⟨i + 1, n + 1, k, by go_num, rfl, by go_num, by omega, by omega, by omega, HS2, HB3.out⟩
                    case measure => simp [intOf]; omega
                · have hn1z : ¬ (1 : Int) < (n : Int) + 1 := by omega
                  have hkk : nextK X[i] n k = k := by unfold nextK; rw [if_neg (by omega)]
                  rw [hkk] at hno hsc
                  have HS2 := Lib.hid hsc
                  have hn75z : ¬ (75 : Int) < (n : Int) + 1 := by omega
                  clear hno hkk hn1 hsc
                  go_wp2_with fail
                  go_roundw
                  case rel => exact ⟨i + 1, n + 1, k, by go_num, rfl, by go_num, by omega, by omega, by omega, HS2, HB3.out⟩
                  case measure => simp [intOf]; omega
              · have z32 : ¬ (X[i].toNat : Int) = 32 := by omega
                have hbl : blkB X[i] = false := by unfold blkB; simp [h32, h9]
                have y9 : ((X[i].toNat : Int) == 9) = false := by simpa using z9
                have y32 : ((X[i].toNat : Int) == 32) = false := by simpa using z32
                clear hink h9 h10 h13 h32
                by_cases hn1 : 1 < n + 1
                · have hn1z : (1 : Int) < (n : Int) + 1 := by omega
                  by_cases hn76 : n + 1 ≤ 76
                  · have hn76z : (n : Int) + 1 ≤ 76 := by omega
                    have hkk : nextK X[i] n k = k := by unfold nextK; rw [if_neg (fun h => by rw [hbl] at h; cases h.2.2)]
                    rw [hkk] at hno hsc
                    have HS2 := Lib.hid hsc
                    clear hsc
                    by_cases hn75 : 75 < n + 1
                    · have hn75z : (75 : Int) < (n : Int) + 1 := by omega
                      have hk0 : ¬ 0 < k := fun h => hno ⟨hn75, h⟩
                      obtain rfl : k = 0 := by omega
                      clear hno hkk hn1 hn76 hn75 hk0
                      go_wp2_with fail
                      go_roundw
                      case rel => exact ⟨i + 1, n + 1, 0, by go_num, rfl, by go_num, by omega, by omega, by omega, HS2, HB3.out⟩
                      case measure => simp [intOf]; omega
                    · have hn75z : ¬ (75 : Int) < (n : Int) + 1 := by omega
                      clear hno hkk hn1 hn76 hn75
                      go_wp2_with fail
                      go_roundw
                      case rel => exact ⟨i + 1, n + 1, k, by go_num, rfl, by go_num, by omega, by omega, by omega, HS2, HB3.out⟩
                      case measure => simp [intOf]; omega
                  · have hn76z : ¬ (n : Int) + 1 ≤ 76 := by omega
                    have hkk : nextK X[i] n k = k := by unfold nextK; rw [if_neg (by omega)]
                    rw [hkk] at hno hsc
                    have HS2 := Lib.hid hsc
                    have hn75z : (75 : Int) < (n : Int) + 1 := by omega
                    have hk0 : ¬ 0 < k := fun h => hno ⟨by omega, h⟩
                    have hk0z : ¬ (0 : Int) < (k : Int) := by omega
                    clear hno hkk hn1 hn76 hsc
                    go_wp2_with fail
                    go_roundw
                    case rel => exact ⟨i + 1, n + 1, k, by go_num, rfl, by go_num, by omega, by omega, by omega, HS2, HB3.out⟩
                    case measure => simp [intOf]; omega
                · have hn1z : ¬ (1 : Int) < (n : Int) + 1 := by omega
                  have hkk : nextK X[i] n k = k := by unfold nextK; rw [if_neg (by omega)]
                  rw [hkk] at hno hsc
                  have HS2 := Lib.hid hsc
                  have hn75z : ¬ (75 : Int) < (n : Int) + 1 := by omega
                  clear hno hkk hn1 hsc
                  go_wp2_with fail
                  go_roundw
                  case rel => exact ⟨i + 1, n + 1, k, by go_num, rfl, by go_num, by omega, by omega, by omega, HS2, HB3.out⟩
                  case measure => simp [intOf]; omega
        · have hltz : ¬ (i : Int) < (X.size : Int) := by omega
          clear hs
          go_wp2_with fail
          go_ret
          exact ⟨rfl, HB3.out⟩
    · have hEb : (E == 0) = false := by simpa using hE
      rw [if_neg hE]
      clear HSZ HSC
      go_wp2_with fail
      go_ret
      exact ⟨rfl, HB3.out⟩
end Go.Proofs.YtpdodknldhbbhaaGreatDoor.Dp
