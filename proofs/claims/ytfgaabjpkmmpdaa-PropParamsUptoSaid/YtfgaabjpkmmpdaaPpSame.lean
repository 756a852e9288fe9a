/-
Properties that say the same are the same for the document's Same. Conditions: the parameters lie below the caller's blocks, at most 2^40 of them.
-/
import Derived.Test.YtfgaabjpkmmpdaaPpChk
import Derived.Laws.StructEq
import Derived.Deep.QuietTactic
import Derived.BigQuiet
namespace Go.Proofs.Ytfgaabjpkmmpdaa.Pp
open Go.RowKit

theorem fieldsP : (Try.prog.fieldsOf 39).toList = [{ name := "Name", type := 9, offset := 0, embedded := false, tag := "", pkgPath := "", byteOffset := 0 }, { name := "Value", type := 9, offset := 1, embedded := false, tag := "", pkgPath := "", byteOffset := 16 }] := by kernel_rfl
theorem partP (xs : Array Value) (i : Nat) (s : ByteArray) (w : World) (h : xs[i]? = some (.string s)) : (part 9 xs i).run Try.prog w = .ok (.string s) w := by simp [part, go_sem, h]
theorem neqP (a b c d : ByteArray) (w : World) :
    (binOp .neq 39 (.agg #[.string a, .string b]) (.agg #[.string c, .string d])).run Try.prog w = .ok (.bool (!(a.toList == c.toList && b.toList == d.toList))) w := by
  have h1 := fun a b w => run_equalIn_string (P := Try.prog) w 9998 9 a b Try.underlying9
  have a0 := fun w => partP #[.string a, .string b] 0 a w rfl
  have a1 := fun w => partP #[.string a, .string b] 1 b w rfl
  have b0 := fun w => partP #[.string c, .string d] 0 c w rfl
  have b1 := fun w => partP #[.string c, .string d] 1 d w rfl
  rw [run_neq_struct, show (10000 : Nat) = 9998 + 1 + 1 from rfl, run_equalIn_struct _ _ _ _ _ (by kernel_rfl) (by kernel_rfl), fieldsP]
  cases e1 : a.toList == c.toList <;> cases e2 : b.toList == d.toList <;> simp [Op.eqFields, a0, a1, b0, b1, h1, e1, e2, Result.andThen, Sem.run_bind, Sem.run_pure]
theorem eqlP (a b c d : ByteArray) (w : World) :
    (binOp .eql 39 (.agg #[.string a, .string b]) (.agg #[.string c, .string d])).run Try.prog w = .ok (.bool (a.toList == c.toList && b.toList == d.toList)) w := by
  have h1 := fun a b w => run_equalIn_string (P := Try.prog) w 9998 9 a b Try.underlying9
  have a0 := fun w => partP #[.string a, .string b] 0 a w rfl
  have a1 := fun w => partP #[.string a, .string b] 1 b w rfl
  have b0 := fun w => partP #[.string c, .string d] 0 c w rfl
  have b1 := fun w => partP #[.string c, .string d] 1 d w rfl
  rw [run_eql_struct, show (10000 : Nat) = 9998 + 1 + 1 from rfl, run_equalIn_struct _ _ _ _ _ (by kernel_rfl) (by kernel_rfl), fieldsP]
  cases e1 : a.toList == c.toList <;> cases e2 : b.toList == d.toList <;> simp [Op.eqFields, a0, a1, b0, b1, h1, e1, e2, Result.andThen, Sem.run_bind, Sem.run_pure]

set_option maxHeartbeats 1000000 in
theorem rSame_yes (g n v : ByteArray) (pv pv' : Value) (a1 a2 : Option Addr) (m c1 c2 : Nat) (ps : List (ByteArray × ByteArray)) (w : World) (hps : Ps w w.heap.size pv ps) (hps' : Ps w w.heap.size pv' ps) (hl : ps.length ≤ 1099511627776) :
    Calls Try.prog 15 #[prV g n pv v (.slice a1 m c1), prV g n pv' v (.slice a2 m c2)] w fun e w' => e = .returned (.bool true) ∧ Below w.heap.size w w' := by
  obtain ⟨pa, pc, rfl⟩ := hps.shape
  obtain ⟨pa', pc', rfl⟩ := hps'.shape
  unfold prV
  have HA : PrAt (w.alloc (.cells #[.string g, .string n, .slice pa ps.length pc, .string v, .slice a1 m c1] 25)) w.heap.size g n (.slice pa ps.length pc) v (.slice a1 m c1) := heap_alloc_new w _
  have hz : (w.alloc (.cells #[.string g, .string n, .slice pa ps.length pc, .string v, .slice a1 m c1] 25)).heap.size = w.heap.size + 1 := by rw [World.size_alloc]
  have HBB : Below w.heap.size w ((w.alloc (.cells #[.string g, .string n, .slice pa ps.length pc, .string v, .slice a1 m c1] 25)).alloc (.cells #[.string g, .string n, .slice pa' ps.length pc', .string v, .slice a2 m c2] 25)) := ((Below.refl _ _).alloc (Nat.le_refl _) _).alloc (by omega) _
  have HA2 := HA.below ((Below.refl _ _).alloc (Nat.le_refl _) (.cells #[.string g, .string n, .slice pa' ps.length pc', .string v, .slice a2 m c2] 25))
  have HB2 : PrAt ((w.alloc (.cells #[.string g, .string n, .slice pa ps.length pc, .string v, .slice a1 m c1] 25)).alloc (.cells #[.string g, .string n, .slice pa' ps.length pc', .string v, .slice a2 m c2] 25)) (w.heap.size + 1) g n (.slice pa' ps.length pc') v (.slice a2 m c2) := by rw [← hz]; exact heap_alloc_new _ _
  clear HA hz
  have eg : (g.toList == g.toList) = true := by simp
  have en : (n.toList == n.toList) = true := by simp
  have ev : (v.toList == v.toList) = true := by simp
  go_enter Try.func15, Try.ntmps15
  go_wp2_with fail
  go_loopw [5] (fun iv wr => ∃ k : Nat, k ≤ ps.length ∧ iv = .int .i64 k ∧ PrAt wr w.heap.size g n (.slice pa ps.length pc) v (.slice a1 m c1) ∧ PrAt wr (w.heap.size + 1) g n (.slice pa' ps.length pc') v (.slice a2 m c2) ∧ Below w.heap.size w wr) (fun iv _ => ps.length - (intOf iv).toNat)
  case atStart => exact ⟨0, Nat.zero_le _, rfl, HA2, HB2, HBB⟩
  case round =>
    obtain ⟨k, hk, rfl, hA, hB, hbel⟩ := hrel
    have k2 := hA.c2
    have l2 := hB.c2
    by_cases hlt : k < ps.length
    · obtain ⟨b, o, cap, hv1, hbB, hc0, hc1⟩ := (hps.below hbel).at_ hlt
      simp only [Value.slice.injEq, true_and] at hv1
      obtain ⟨rfl, rfl⟩ := hv1
      obtain ⟨b', o', cap', hv1, hbB', hd0, hd1⟩ := (hps'.below hbel).at_ hlt
      simp only [Value.slice.injEq, true_and] at hv1
      obtain ⟨rfl, rfl⟩ := hv1
      generalize ps[k] = x at hc0 hc1 hd0 hd1
      obtain ⟨n', v'⟩ := x
      simp only at hc0 hc1 hd0 hd1
      have HN := neqP n' v' n' v'
      simp only [beq_self_eq_true, Bool.and_self, Bool.not_true] at HN
      go_wp2_with fail
      go_quiet (fail)
      go_wp2_with fail
      go_roundw
      case rel => exact ⟨k + 1, by omega, by go_num, hA, hB, ⟨hbel.os, hbel.tape, hbel.output, hbel.size, hbel.block⟩⟩
      case measure => simp [intOf]; omega
    · obtain rfl : k = ps.length := by omega
      go_wp2_with fail
      go_ret
      exact ⟨rfl, hbel⟩
end Go.Proofs.Ytfgaabjpkmmpdaa.Pp
