/-
A map of the call's own that counts fields. Conditions: names, labels and texts have at most 2^20 bytes.
-/
import Derived.Test.YtfghodakdnhleaaBlHas
import Derived.Test.YtfghodakdnhleaaCtArg
import Derived.Maps.OwnOps
import Derived.Maps.Views
import Derived.WideKeyEntry
import Derived.DeepKeys4
namespace Go.Proofs.Ytfghodakdnhleaa.Ct
set_option maxRecDepth 100000
open Go.RowKit Go.Maps Go.WideElems

theorem fieldKey : Try.prog.keyType 33 = true := by kernel_rfl
theorem fieldLaw0 : WideMaps.KeyLaw Try.prog 33 := deep_law_laid laidOut (m := 2) (by decide) (of_decide_eq_true (by kernel_rfl)) (by kernel_rfl) (by kernel_rfl)
theorem fieldLaw : Keyed Try.prog 33 := Keyed.of_law fieldLaw0
theorem zeroInt (w : World) : (zeroValue 3).run Try.prog w = .ok (.int .i64 0) w := by kernel_rfl
/-- A field as a map's key. -/
def keyL (x : Fd) : Lit := .string (keyBytes [.string x.1.data.toList, .string x.2.1.data.toList, .string x.2.2.data.toList])
/-- Its texts are not too great for a key. -/
def Sm (x : Fd) : Prop := x.1.size ≤ 1048576 ∧ x.2.1.size ≤ 1048576 ∧ x.2.2.size ≤ 1048576
theorem str_lits (d : Nat) (s : ByteArray) (h : s.size ≤ 1048576) : Try.prog.keyLits (d + 1) 9 [.string s] = some [.string s.data.toList] := by
  have h' : s.size ≤ maxLen := by unfold maxLen; omega
  simp [Program.keyLits, Try.underlying9, h']
theorem formedF (x : Fd) : (Value.agg #[.string x.1, .string x.2.1, .string x.2.2]).formed Try.prog 33 = true := by
  have h : Try.prog.cellsOf 33 = 3 := cellsField
  simp [Value.formed, Try.underlying33, h]
theorem key_of (x : Fd) (h : Sm x) : keyOf Try.prog 33 (.agg #[.string x.1, .string x.2.1, .string x.2.2]) = some (keyL x) := by
  obtain ⟨N, hN⟩ : ∃ N, Try.prog.types.size = N + 1 := ⟨Try.prog.types.size - 1, by kernel_rfl⟩
  have h3 : Try.prog.cellsOf 33 = 3 := cellsField
  have h1 : Try.prog.cellsOf 9 = 1 := cellsStr
  have a0 := str_lits N x.1 h.1
  have a1 := str_lits N x.2.1 h.2.1
  have a2 := str_lits N x.2.2 h.2.2
  unfold keyOf
  rw [Try.underlying33]
  simp only [fieldKey, formedF, Bool.and_self, if_true, hN]
  have hk : Try.prog.keyLits (N + 1 + 1) 33 [.string x.1, .string x.2.1, .string x.2.2] = some [.string x.1.data.toList, .string x.2.1.data.toList, .string x.2.2.data.toList] := by
    unfold Program.keyLits
    rw [Try.underlying33]
    simp [h3, h1, a0, a1, a2]
  show (Try.prog.keyLits (N + 1 + 1) 33 [.string x.1, .string x.2.1, .string x.2.2]).map (fun ls => Lit.string (keyBytes ls)) = _
  rw [hk]; rfl
theorem key_inj {x y : Fd} (hx : Sm x) (hy : Sm y) (h : keyL x = keyL y) : x = y := by
  have e := fieldLaw.inj (key_of x hx) (h ▸ key_of y hy)
  obtain ⟨a, b, c⟩ := x
  obtain ⟨d, f, g⟩ := y
  simp only [Value.agg.injEq, Array.mk.injEq, List.cons.injEq, Value.string.injEq, and_true] at e
  obtain ⟨rfl, rfl, rfl⟩ := e
  rfl
/-- The map in block b counts: of each field x there are 't x'. -/
def Mp (w : World) (b : Nat) (n : Nat) (t : Fd → Nat) : Prop := ∃ D : DataW Unit, w.ownsMap Try.prog 33 (plainElem Try.prog 3) b n D ∧ Maps.IsMap D ∧ ∀ x, Sm x → D.atKey (keyL x) (.lit (.int .i64 0)) = .lit (.int .i64 (t x : Int))
theorem Mp.made (w : World) : Mp (w.alloc (.map #[] 0)) w.heap.size 0 (fun _ => 0) := ⟨_, World.ownsMap_made _ _ _ _, ⟨_, rfl⟩, fun _ _ => rfl⟩
theorem Mp.kept {w w' : World} {b n : Nat} {t : Fd → Nat} {row : Option Nat} (h : Mp w b n t) (hg : w.grownBy w' row) (hne : some b ≠ row) : Mp w' b n t := by
  obtain ⟨D, h1, h2, h3⟩ := h
  exact ⟨D, h1.kept hg hne, h2, h3⟩
theorem Mp.lt {w : World} {b n : Nat} {t : Fd → Nat} (h : Mp w b n t) : b < w.heap.size := by
  obtain ⟨D, h1, _⟩ := h
  exact h1.lt
/-- 'm[x]'. -/
theorem Mp.look {w : World} {b n : Nat} {t : Fd → Nat} (h : Mp w b n t) {x : Fd} (hx : Sm x) : (Instr.lookup 35 (.map (some b)) (.agg #[.string x.1, .string x.2.1, .string x.2.2]) false).run Try.prog w = .ok (.int .i64 (t x : Int)) w := by
  obtain ⟨D, h1, _, h3⟩ := h
  obtain ⟨c, hrun, hat, _⟩ := h1.lookup_int fieldLaw Try.underlying35 Try.underlying3 (zeroInt _) (key_of x hx)
  rw [h3 x hx] at hat
  simp only [DataW.lit.injEq, Lit.int.injEq, true_and] at hat
  rw [hrun, hat]
/-- An entry that is sought or laid changes no count. -/
theorem Mp.entry {w w1 : World} {b n : Nat} {t : Fd → Nat} (h : Mp w b n t) (hn : n < 1048576) {x : Fd} (hx : Sm x) {v1 : Value}
    (hE : (Instr.mapEntry 35 (.map (some b)) (.agg #[.string x.1, .string x.2.1, .string x.2.2])).run Try.prog w = .ok v1 w1) : Mp w1 b (n + 1) t := by
  obtain ⟨D, h1, h2, h3⟩ := h
  obtain ⟨es, clock, hb, F, hs, hD⟩ := id h1
  have hkey := key_of x hx
  have hz := zeroInt w
  rcases fieldLaw0.find w hkey es.toList F.keys with ⟨f1, f2⟩ | ⟨j, e0, f1, f2, f3⟩
  · obtain ⟨w2, hrun, h4, _⟩ := h1.update fieldLaw Try.underlying35 (by unfold maxLen; omega) hkey (plainElem_int Try.underlying3 (a := 0) (by decide))
    have ht0 : (DataW.lit (.int .i64 (t x : Int)) : DataW Unit) = .lit (.int .i64 0) := by
      rw [← h3 x hx, hD]
      rcases Maps.fit_look false fieldLaw Try.underlying35 hz hb F hkey with ⟨_, _, hat⟩ | ⟨e0, y, hm, he, _⟩
      · exact hat _
      · exact absurd he (f2 e0 hm)
    have ew : w1 = w2 := by
      simp [Instr.mapEntry, run_underlying Try.underlying35, MapKept.run_getObj_map hb, fieldLaw0.check w false hkey, f1, hz, MapKept.run_setObj_map _ hb, Result.andThen] at hE
      simp [Instr.mapUpdate, run_underlying Try.underlying35, MapKept.run_getObj_map hb, fieldLaw0.check w false hkey, f1, MapKept.run_setObj_map _ hb, Result.andThen] at hrun
      rw [← hE.2, hrun]
    subst ew
    refine ⟨_, h4, ?_, fun y hy => ?_⟩
    · obtain ⟨es0, rfl⟩ := h2
      exact ⟨_, rfl⟩
    · by_cases e : y = x
      · subst e
        rw [Maps.atKey_put_same h2 (show WideAt.IsKeyLit (keyL y) from trivial), ht0]
      · rw [Maps.atKey_put_other (fun h => e (key_inj hy hx h)), h3 y hy]
  · have hj : es[j]? = some e0 := by simpa using f2
    have hsame : es.modify j (fun e => { e with key := .agg #[.string x.1, .string x.2.1, .string x.2.2] }) = es := by
      apply Array.ext'
      rw [Array.toList_modify, ChangeMaps.modify_eq_set _ _ _ _ f2]
      have : ({ e0 with key := .agg #[.string x.1, .string x.2.1, .string x.2.2] } : MapEntry) = e0 := by rw [← f3]
      rw [this]
      exact set_self _ _ _ f2
    have ew : w1.heap[b]? = some (.map es clock) := by
      simp [Instr.mapEntry, run_underlying Try.underlying35, MapKept.run_getObj_map hb, fieldLaw0.check w false hkey, f1, hj, f3, fieldLaw0.stays w hkey, hsame, MapKept.run_setObj_map _ hb, Result.andThen] at hE
      rw [← hE.2]
      exact ChangeMaps.heap_setBlock_same hb _
    exact ⟨D, ⟨es, clock, ew, F, by omega, hD⟩, h2, h3⟩
/-- 'm[x] = m[x] + 1', as the machine does it: the entry, then the store into it. -/
theorem Mp.count {w : World} {b n : Nat} {t : Fd → Nat} (h : Mp w b n t) (hn : n < 1048576) {x : Fd} (hx : Sm x) (ht : t x + 1 ≤ 1048576) :
    ∃ (v0 : Value) (st : Nat) (w1 w2 : World), (Instr.mapEntry 35 (.map (some b)) (.agg #[.string x.1, .string x.2.1, .string x.2.2])).run Try.prog w = .ok (.tuple #[v0, .int .i64 (st : Int)]) w1 ∧
      (Instr.entryStore 35 (.map (some b)) (.int .i64 (st : Int)) (.int .i64 ((t x : Int) + 1))).run Try.prog w1 = .ok () w2 ∧ w.grownBy w1 (some b) ∧ Mp w2 b (n + 1) (fun y => if y = x then t x + 1 else t y) ∧ w.grownBy w2 (some b) ∧ (Instr.lookup 35 (.map (some b)) (.agg #[.string x.1, .string x.2.1, .string x.2.2]) false).run Try.prog w1 = .ok (.int .i64 (t x : Int)) w1 := by
  have h0 : Mp w b n t := h
  obtain ⟨D, h1, h2, h3⟩ := h
  obtain ⟨es, clock, hb, F, hs, hD⟩ := id h1
  obtain ⟨v0, st, es1, clock1, hE, _, hS⟩ := entry_then_store (w := w) fieldLaw0 Try.underlying35 (z := .int .i64 0) zeroInt hb F (key_of x hx)
  obtain ⟨es', clock', hst, hup⟩ := hS (ChangeMaps.setBlock w b (.map es1 clock1)) (.int .i64 ((t x : Int) + 1)) (ChangeMaps.heap_setBlock_same hb _)
  obtain ⟨w2, hrun, h4, h5⟩ := h1.update fieldLaw Try.underlying35 (by unfold maxLen; omega) (key_of x hx) (plainElem_int Try.underlying3 (WalkArith.wf_i64 (n := (t x : Int) + 1) (by omega)))
  rw [hrun] at hup
  have e2 : w2 = ChangeMaps.setBlock w b (.map es' clock') := by injection hup
  have e3 : ChangeMaps.setBlock (ChangeMaps.setBlock w b (.map es1 clock1)) b (.map es' clock') = w2 := by
    rw [e2]; simp [ChangeMaps.setBlock]
  rw [e3] at hst
  have hk1 : WideAt.IsKeyLit (keyL x) := trivial
  refine ⟨v0, st, _, w2, hE, hst, ⟨rfl, rfl, rfl, by simp [ChangeMaps.setBlock], fun i _ hi => ChangeMaps.heap_setBlock_other hb _ (fun e => hi (by rw [e]))⟩, ⟨_, h4, ?_, ?_⟩, h5, (h0.entry hn hx hE).look hx⟩
  · obtain ⟨es0, rfl⟩ := h2
    exact ⟨_, rfl⟩
  · intro y hy
    by_cases e : y = x
    · subst e
      rw [Maps.atKey_put_same h2 hk1]; simp
    · rw [Maps.atKey_put_other (fun h => e (key_inj hy hx h)), h3 y hy]; simp [e]
end Go.Proofs.Ytfghodakdnhleaa.Ct
