/-
Texts joined in one file, each with its own conditions: Properties that say the same are the same for the document's Same. Conditions: the parameters lie below the caller's blocks, at most 2^40 of them. · Whether two properties say the same, for the document's Same (their lists of cards by their lengths alone). Conditions: the parameters lie below the caller's blocks, at most 2^40 of them.
-/
import Derived.Test.YtjgfbicllgalkaaGreatDoorJ01
import Derived.Laws.StructEq
import Derived.Deep.QuietTactic
import Derived.BigQuiet
namespace Go.Proofs.YtjgfbicllgalkaaGreatDoor.Pp
open Go.RowKit

theorem fieldsP : (Tryz.prog.fieldsOf 58).toList = [{ name := "Name", type := 9, offset := 0, embedded := false, tag := "", pkgPath := "", byteOffset := 0 }, { name := "Value", type := 9, offset := 1, embedded := false, tag := "", pkgPath := "", byteOffset := 16 }] := by kernel_rfl
theorem partP (xs : Array Value) (i : Nat) (s : ByteArray) (w : World) (h : xs[i]? = some (.string s)) : (part 9 xs i).run Tryz.prog w = .ok (.string s) w := by simp [part, go_sem, h]
theorem neqP (a b c d : ByteArray) (w : World) :
    (binOp .neq 58 (.agg #[.string a, .string b]) (.agg #[.string c, .string d])).run Tryz.prog w = .ok (.bool (!(a.toList == c.toList && b.toList == d.toList))) w := by
  have h1 := fun a b w => run_equalIn_string (P := Tryz.prog) w 9998 9 a b Tryz.underlying9
  have a0 := fun w => partP #[.string a, .string b] 0 a w rfl
  have a1 := fun w => partP #[.string a, .string b] 1 b w rfl
  have b0 := fun w => partP #[.string c, .string d] 0 c w rfl
  have b1 := fun w => partP #[.string c, .string d] 1 d w rfl
  rw [run_neq_struct, show (10000 : Nat) = 9998 + 1 + 1 from rfl, run_equalIn_struct _ _ _ _ _ (by kernel_rfl) (by kernel_rfl), fieldsP]
  cases e1 : a.toList == c.toList <;> cases e2 : b.toList == d.toList <;> simp [Op.eqFields, a0, a1, b0, b1, h1, e1, e2, Result.andThen, Sem.run_bind, Sem.run_pure]
theorem eqlP (a b c d : ByteArray) (w : World) :
    (binOp .eql 58 (.agg #[.string a, .string b]) (.agg #[.string c, .string d])).run Tryz.prog w = .ok (.bool (a.toList == c.toList && b.toList == d.toList)) w := by
  have h1 := fun a b w => run_equalIn_string (P := Tryz.prog) w 9998 9 a b Tryz.underlying9
  have a0 := fun w => partP #[.string a, .string b] 0 a w rfl
  have a1 := fun w => partP #[.string a, .string b] 1 b w rfl
  have b0 := fun w => partP #[.string c, .string d] 0 c w rfl
  have b1 := fun w => partP #[.string c, .string d] 1 d w rfl
  rw [run_eql_struct, show (10000 : Nat) = 9998 + 1 + 1 from rfl, run_equalIn_struct _ _ _ _ _ (by kernel_rfl) (by kernel_rfl), fieldsP]
  cases e1 : a.toList == c.toList <;> cases e2 : b.toList == d.toList <;> simp [Op.eqFields, a0, a1, b0, b1, h1, e1, e2, Result.andThen, Sem.run_bind, Sem.run_pure]

set_option maxHeartbeats 1000000 in
theorem rSame_yes (g n v : ByteArray) (pv pv' : Value) (a1 a2 : Option Addr) (m c1 c2 : Nat) (ps : List (ByteArray × ByteArray)) (w : World) (hps : Ps w w.heap.size pv ps) (hps' : Ps w w.heap.size pv' ps) (hl : ps.length ≤ 1099511627776) :
    Calls Tryz.prog 88 #[prV g n pv v (.slice a1 m c1), prV g n pv' v (.slice a2 m c2)] w fun e w' => e = .returned (.bool true) ∧ Below w.heap.size w w' := by
  obtain ⟨pa, pc, rfl⟩ := hps.shape
  obtain ⟨pa', pc', rfl⟩ := hps'.shape
  unfold prV
  have HA : PrAt (w.alloc (.cells #[.string g, .string n, .slice pa ps.length pc, .string v, .slice a1 m c1] 56)) w.heap.size g n (.slice pa ps.length pc) v (.slice a1 m c1) := heap_alloc_new w _
  have hz : (w.alloc (.cells #[.string g, .string n, .slice pa ps.length pc, .string v, .slice a1 m c1] 56)).heap.size = w.heap.size + 1 := by rw [World.size_alloc]
  have HBB : Below w.heap.size w ((w.alloc (.cells #[.string g, .string n, .slice pa ps.length pc, .string v, .slice a1 m c1] 56)).alloc (.cells #[.string g, .string n, .slice pa' ps.length pc', .string v, .slice a2 m c2] 56)) := ((Below.refl _ _).alloc (Nat.le_refl _) _).alloc (by omega) _
  have HA2 := HA.below ((Below.refl _ _).alloc (Nat.le_refl _) (.cells #[.string g, .string n, .slice pa' ps.length pc', .string v, .slice a2 m c2] 56))
  have HB2 : PrAt ((w.alloc (.cells #[.string g, .string n, .slice pa ps.length pc, .string v, .slice a1 m c1] 56)).alloc (.cells #[.string g, .string n, .slice pa' ps.length pc', .string v, .slice a2 m c2] 56)) (w.heap.size + 1) g n (.slice pa' ps.length pc') v (.slice a2 m c2) := by rw [← hz]; exact heap_alloc_new _ _
  clear HA hz
  have eg : (g.toList == g.toList) = true := by simp
  have en : (n.toList == n.toList) = true := by simp
  have ev : (v.toList == v.toList) = true := by simp
  go_enter Tryz.func88, Tryz.ntmps88
  go_wp2_with fail
  go_loopw [5] (fun iv wr => ∃ k : Nat, k ≤ ps.length ∧ iv = .int .i64 k ∧ PrAt wr w.heap.size g n (.slice pa ps.length pc) v (.slice a1 m c1) ∧ PrAt wr (w.heap.size + 1) g n (.slice pa' ps.length pc') v (.slice a2 m c2) ∧ Below w.heap.size w wr) (fun iv _ => ps.length - (intOf iv).toNat)
  case atStart => exact ⟨0, Nat.zero_le _, rfl, HA2, HB2, HBB⟩
  case round =>
    obtain ⟨k, hk, rfl, hA, hB, hbel⟩ := hrel
    have k2 := hA.c2
    have l2 := hB.c2
    by_cases hlt : k < ps.length
    · obtain ⟨b, o, cap, hv1, hbB, hc0, hc1⟩ := (hps.below hbel).at_ hlt
      simp only [Value.slice.injEq, true_and] at hv1
      obtain ⟨rfl, rfl⟩ := hv1
      obtain ⟨b', o', cap', hv1, hbB', hd0, hd1⟩ := (hps'.below hbel).at_ hlt
      simp only [Value.slice.injEq, true_and] at hv1
      obtain ⟨rfl, rfl⟩ := hv1
      generalize ps[k] = x at hc0 hc1 hd0 hd1
      obtain ⟨n', v'⟩ := x
      simp only at hc0 hc1 hd0 hd1
      have HN := neqP n' v' n' v'
      simp only [beq_self_eq_true, Bool.and_self, Bool.not_true] at HN
      go_wp2_with fail
      go_quiet (fail)
      go_wp2_with fail
      go_roundw
      case rel => exact ⟨k + 1, by omega, by go_num, hA, hB, ⟨hbel.os, hbel.tape, hbel.output, hbel.size, hbel.block⟩⟩
      case measure => simp [intOf]; omega
    · obtain rfl : k = ps.length := by omega
      go_wp2_with fail
      go_ret
      exact ⟨rfl, hbel⟩
end Go.Proofs.YtjgfbicllgalkaaGreatDoor.Pp

namespace Go.Proofs.YtjgfbicllgalkaaGreatDoor.Vc
open Go.RowKit Pp

/-- Do two properties say the same? -/
def sameP (p q : Pd) (m m' : Nat) : Bool := p.g.toList == q.g.toList && p.n.toList == q.n.toList && p.v.toList == q.v.toList && decide (p.ps.length = q.ps.length) && decide (m = m') && (p.ps.zip q.ps).all fun x => x.1.1.toList == x.2.1.toList && x.1.2.toList == x.2.2.toList
theorem zip_drop {l l' : List (ByteArray × ByteArray)} {k : Nat} {f : (ByteArray × ByteArray) × (ByteArray × ByteArray) → Bool} (h : k < l.length) (h' : k < l'.length) : ((l.drop k).zip (l'.drop k)).all f = (f (l[k], l'[k]) && ((l.drop (k + 1)).zip (l'.drop (k + 1))).all f) := by
  rw [List.drop_eq_getElem_cons h, List.drop_eq_getElem_cons h']; rfl

set_option maxHeartbeats 4000000 in
theorem refSameP_any (p q : Pd) (pv pv' : Value) (a1 a2 : Option Addr) (m m' c1 c2 : Nat) (w : World) (hps : Ps w w.heap.size pv p.ps) (hps' : Ps w w.heap.size pv' q.ps) (hl : p.ps.length ≤ 1099511627776) :
    Calls Tryz.prog 88 #[prV p.g p.n pv p.v (.slice a1 m c1), prV q.g q.n pv' q.v (.slice a2 m' c2)] w fun e w' => e = .returned (.bool (sameP p q m m')) ∧ Below w.heap.size w w' := by
  obtain ⟨g, n, ps, v⟩ := p
  obtain ⟨g', n', ps', v'⟩ := q
  obtain ⟨pa, pc, rfl⟩ := hps.shape
  obtain ⟨pa', pc', rfl⟩ := hps'.shape
  unfold prV sameP
  dsimp only at hps hps' hl ⊢
  have HA : PrAt (w.alloc (.cells #[.string g, .string n, .slice pa ps.length pc, .string v, .slice a1 m c1] 56)) w.heap.size g n (.slice pa ps.length pc) v (.slice a1 m c1) := heap_alloc_new w _
  have hz : (w.alloc (.cells #[.string g, .string n, .slice pa ps.length pc, .string v, .slice a1 m c1] 56)).heap.size = w.heap.size + 1 := by rw [World.size_alloc]
  have HBB : Below w.heap.size w ((w.alloc (.cells #[.string g, .string n, .slice pa ps.length pc, .string v, .slice a1 m c1] 56)).alloc (.cells #[.string g', .string n', .slice pa' ps'.length pc', .string v', .slice a2 m' c2] 56)) := ((Below.refl _ _).alloc (Nat.le_refl _) _).alloc (by omega) _
  have HA2 := HA.below ((Below.refl _ _).alloc (Nat.le_refl _) (.cells #[.string g', .string n', .slice pa' ps'.length pc', .string v', .slice a2 m' c2] 56))
  have HB2 : PrAt ((w.alloc (.cells #[.string g, .string n, .slice pa ps.length pc, .string v, .slice a1 m c1] 56)).alloc (.cells #[.string g', .string n', .slice pa' ps'.length pc', .string v', .slice a2 m' c2] 56)) (w.heap.size + 1) g' n' (.slice pa' ps'.length pc') v' (.slice a2 m' c2) := by rw [← hz]; exact heap_alloc_new _ _
  clear HA hz
  cases eg : (g.toList == g'.toList)
  · go_enter Tryz.func88, Tryz.ntmps88
    go_wp2_with fail
    go_ret
    exact ⟨rfl, HBB⟩
  cases en : (n.toList == n'.toList)
  · go_enter Tryz.func88, Tryz.ntmps88
    go_wp2_with fail
    go_ret
    exact ⟨rfl, HBB⟩
  cases ev : (v.toList == v'.toList)
  · go_enter Tryz.func88, Tryz.ntmps88
    go_wp2_with fail
    go_ret
    exact ⟨rfl, HBB⟩
  by_cases el : ps.length = ps'.length
  rotate_left
  · have el2 : ((ps.length : Int) == (ps'.length : Int)) = false := by simp; omega
    rw [decide_eq_false el]
    clear el
    go_enter Tryz.func88, Tryz.ntmps88
    go_wp2_with fail
    go_ret
    exact ⟨rfl, HBB⟩
  have el2 : ((ps.length : Int) == (ps'.length : Int)) = true := by simp; omega
  rw [decide_eq_true el]
  by_cases em : m = m'
  rotate_left
  · have em2 : ((m : Int) == (m' : Int)) = false := by simp; omega
    rw [decide_eq_false em]
    have el3 : (ps.length : Int) = (ps'.length : Int) := by omega
    have em3 : ¬ (m : Int) = (m' : Int) := by omega
    clear el em
    go_enter Tryz.func88, Tryz.ntmps88
    go_wp2_with fail
    go_ret
    exact ⟨rfl, HBB⟩
  have em2 : ((m : Int) == (m' : Int)) = true := by simp; omega
  rw [decide_eq_true em]
  obtain ⟨R, hR⟩ : ∃ R, ((ps.zip ps').all fun x => x.1.1.toList == x.2.1.toList && x.1.2.toList == x.2.2.toList) = R := ⟨_, rfl⟩
  have H0 := Lib.hid (show (((ps.drop 0).zip (ps'.drop 0)).all fun x => x.1.1.toList == x.2.1.toList && x.1.2.toList == x.2.2.toList) = R from hR)
  rw [hR]
  have HEL := Lib.hid el
  have el3 : (ps.length : Int) = (ps'.length : Int) := by omega
  have em3 : (m : Int) = (m' : Int) := by omega
  clear hR el em
  go_enter Tryz.func88, Tryz.ntmps88
  go_wp2_with fail
  clear el3 em3 el2 em2
  go_loopw [5] (fun iv wr => ∃ k : Nat, k ≤ ps.length ∧ iv = .int .i64 k ∧ Hid ((((ps.drop k).zip (ps'.drop k)).all fun x => x.1.1.toList == x.2.1.toList && x.1.2.toList == x.2.2.toList) = R) ∧ PrAt wr w.heap.size g n (.slice pa ps.length pc) v (.slice a1 m c1) ∧ PrAt wr (w.heap.size + 1) g' n' (.slice pa' ps'.length pc') v' (.slice a2 m' c2) ∧ Below w.heap.size w wr) (fun iv _ => ps.length - (intOf iv).toNat)
  case atStart => exact ⟨0, Nat.zero_le _, rfl, H0, HA2, HB2, HBB⟩
  case round =>
    obtain ⟨k, hk, rfl, hq, hA, hB, hbel⟩ := hrel
    have k2 := hA.c2
    have l2 := hB.c2
    by_cases hlt : k < ps.length
    · have hlt' : k < ps'.length := by rw [← HEL.out]; exact hlt
      have hlz : (k : Int) < (ps.length : Int) := by omega
      have hlz' : (k : Int) < (ps'.length : Int) := by omega
      obtain ⟨b, o, cap, hv1, hbB, hc0, hc1⟩ := (hps.below hbel).at_ hlt
      simp only [Value.slice.injEq, true_and] at hv1
      obtain ⟨rfl, rfl⟩ := hv1
      obtain ⟨b', o', cap', hv1, hbB', hd0, hd1⟩ := (hps'.below hbel).at_ hlt'
      simp only [Value.slice.injEq, true_and] at hv1
      obtain ⟨rfl, rfl⟩ := hv1
      have HQ := Lib.hid (by have h := hq.out; rw [zip_drop hlt hlt'] at h; exact h)
      generalize ps[k] = x at hc0 hc1 HQ
      generalize ps'[k] = y at hd0 hd1 HQ
      obtain ⟨xn, xv⟩ := x
      obtain ⟨yn, yv⟩ := y
      simp only at hc0 hc1 hd0 hd1
      have HN := neqP xn xv yn yv
      have HQ2 := Lib.hid HQ.out
      dsimp only at HQ2
      clear HQ hq
      cases hb : (xn.toList == yn.toList && xv.toList == yv.toList)
      · rw [hb] at HN HQ2
        simp only [Bool.not_false] at HN
        have HE : Hid (R = false) := Lib.hid (by rw [← HQ2.out, Bool.false_and])
        clear hb HQ2
        go_wp2_with fail
        go_quiet (fail)
        go_wp2_with fail
        go_ret
        exact ⟨by rw [HE.out]; rfl, ⟨hbel.os, hbel.tape, hbel.output, hbel.size, hbel.block⟩⟩
      · rw [hb] at HN HQ2
        simp only [Bool.not_true] at HN
        have HQ3 := Lib.hid (by have h := HQ2.out; rw [Bool.true_and] at h; exact h)
        clear hb HQ2
        go_wp2_with fail
        go_quiet (fail)
        go_wp2_with fail
        go_roundw
        case rel => exact ⟨k + 1, by omega, by go_num, HQ3, hA, hB, ⟨hbel.os, hbel.tape, hbel.output, hbel.size, hbel.block⟩⟩
        case measure => simp [intOf]; omega
    · have hlz : ¬ (k : Int) < (ps.length : Int) := by omega
      have HE : Hid (R = true) := Lib.hid (by have h := hq.out; rw [List.drop_eq_nil_of_le (by omega)] at h; exact h.symm)
      go_wp2_with fail
      go_ret
      exact ⟨by rw [HE.out]; rfl, hbel⟩
end Go.Proofs.YtjgfbicllgalkaaGreatDoor.Vc
