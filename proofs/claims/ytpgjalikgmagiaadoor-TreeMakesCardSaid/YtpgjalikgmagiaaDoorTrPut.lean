/-
A list put behind the row of a copy. Conditions: the row has room for it.
-/
import Derived.Test.YtpgjalikgmagiaaDoorTrRow
import Derived.Laws.Cover3
namespace Go.Proofs.YtpgjalikgmagiaaDoor.Tr
set_option maxRecDepth 100000
open Go.RowKit Sq

/-- A list held against nil. -/
theorem eql_nil (w : World) (a : Option Addr) (n c : Nat) : (binOp .eql 22 (.slice a n c) (.slice none 0 0)).run Tryd.prog w = .ok (.bool a.isNone) w := by
  simp only [binOp]
  simp [run_equal_slice_nil w _ _ a n c Tryd.underlying22]
attribute [local go_sem] eql_nil
/-- Where a list was put. -/
def VOf (v : Value) (g n m : Nat) : Prop := (∃ a c, v = .slice a m c) ∧ (m ≠ 0 → v = .slice (some ⟨g, n * 5, none⟩) m m)
set_option maxHeartbeats 2000000 in
theorem put_any (rb B base g cap : Nat) (R K : List Iv) (v : Value) (W : World) (hl : Lst W B v K) (hbx : Boxed W rb 22 (.slice (some ⟨g, 0, none⟩) R.length cap)) (hrow : Es W base g cap R) (hroom : R.length + K.length ≤ cap) (hcap : cap ≤ 1048576) :
    Calls Tryd.prog 42 #[v, .pointer (some ⟨rb, 0, none⟩)] W fun e W' => ∃ v', e = .returned v' ∧ VOf v' g R.length K.length ∧ Boxed W' rb 22 (.slice (some ⟨g, 0, none⟩) (R ++ K).length cap) ∧ Es W' base g cap (R ++ K) ∧ Stays (fun k => k < W.heap.size ∧ k ≠ rb ∧ k ≠ g) W W' := by
  obtain ⟨a, c, rfl⟩ := hl.len
  have hne : rb ≠ g := fun e => hbx.not_row (by decide) hrow (by simp [Value.ownBlock, e])
  have hcy := hbx.cell
  have hfy := hbx.frozen
  cases a with
  | none =>
    have hK : K = [] := by
      cases K with
      | nil => rfl
      | cons x r =>
        obtain ⟨_, _, e, _⟩ := hl.at_ (j := 0) (by simp)
        cases e
    subst hK
    have HP := Lib.hid (And.intro hbx hrow)
    clear hl hbx hrow
    go_enter Tryd.func42, Tryd.ntmps42
    go_wp2_with fail
    go_ret
    refine ⟨_, rfl, ⟨⟨none, 0, rfl⟩, fun h => absurd rfl h⟩, by rw [List.append_nil]; exact HP.out.1, by rw [List.append_nil]; exact HP.out.2, Stays.refl _ _⟩
  | some ad =>
    have hsrc : ∀ j u, (ecells K)[j]? = some u → W.cell? (ad.add j) = some u := by
      cases K with
      | nil => intro j u hu; simp [ecells] at hu
      | cons x r =>
        obtain ⟨b, o, e, _⟩ := hl.at_ (j := 0) (by simp)
        cases e
        exact hl.src
    obtain ⟨w1, hrun, hrow1, hgr⟩ := hrow.put hl.sls hroom hcap ad c hsrc
    have HRUN := Lib.hid hrun
    have hbx1 : Boxed w1 rb 22 (.slice (some ⟨g, 0, none⟩) R.length cap) := hbx.kept hgr (by simp; omega)
    have hc1 := hbx1.cell
    have hf1 := hbx1.frozen
    have hbx2 := hbx1.set (.slice (some ⟨g, 0, none⟩) (R.length + K.length) cap)
    have hc2 := hbx2.cell
    have hrow2 : Es (w1.setCell ⟨rb, 0, none⟩ (.slice (some ⟨g, 0, none⟩) (R.length + K.length) cap)) base g cap (R ++ K) := hrow1.stays ((Stays.refl (fun k => k ≠ rb) w1).setCell rb _ (fun h => h rfl)) (fun e => hne e.symm)
    have hS : Stays (fun k => k < W.heap.size ∧ k ≠ rb ∧ k ≠ g) W (w1.setCell ⟨rb, 0, none⟩ (.slice (some ⟨g, 0, none⟩) (R.length + K.length) cap)) := ((Stays.refl _ W).grown hgr (fun k hk => ⟨hk.1, fun e => hk.2.2 (Option.some.inj e)⟩)).setCell _ _ (fun h => h.2.1 rfl)
    have HP := Lib.hid (And.intro hbx2 (And.intro hrow2 hS))
    have hn1 : R.length + K.length ≤ 1048576 := by omega
    have hn2 : (R.length : Int) ≤ ((R.length + K.length : Nat) : Int) := by omega
    have hn3 : ((R.length + K.length : Nat) : Int) ≤ (cap : Int) := by omega
    rcases Nat.eq_zero_or_pos K.length with hK0 | hK0
    · have hK := List.length_eq_zero_iff.1 hK0
      subst hK
      simp only [List.length_nil, Nat.add_zero] at HRUN HP hc2 hroom
      have hn4 : (R.length : Int) ≤ (cap : Int) := by omega
      clear hl hbx hrow hsrc hrun hrow1 hgr hbx1 hbx2 hrow2 hS hK0 hn1 hn2 hn3 hroom
      go_enter Tryd.func42, Tryd.ntmps42
      go_wp2_with (at_builtin; refine App.list_run rfl _ _ _ _ rfl _ _ _ rfl rfl HRUN.out ?_)
      go_ret
      exact ⟨_, rfl, ⟨⟨_, _, rfl⟩, fun h => absurd rfl h⟩, by rw [List.append_nil]; exact HP.out.1, HP.out.2.1, HP.out.2.2⟩
    · have hx1 : ¬ R.length + K.length = R.length := by omega
      have hx2 : ¬ K = [] := fun h => by rw [h] at hK0; simp at hK0
      have hx3 : ¬ K.length = 0 := by omega
      clear hl hbx hrow hsrc hrun hrow1 hgr hbx1 hbx2 hrow2 hS
      go_enter Tryd.func42, Tryd.ntmps42
      go_wp2_with (at_builtin; refine App.list_run rfl _ _ _ _ rfl _ _ _ rfl rfl HRUN.out ?_)
      go_ret
      refine ⟨_, rfl, ?_, by rw [List.length_append]; exact HP.out.1, HP.out.2.1, HP.out.2.2⟩
      have e1 : R.length + K.length - R.length = K.length := by omega
      show VOf (.slice (some ⟨g, R.length * 5, none⟩) (R.length + K.length - R.length) (R.length + K.length - R.length)) g R.length K.length
      rw [e1]
      exact ⟨⟨_, _, rfl⟩, fun _ => rfl⟩
end Go.Proofs.YtpgjalikgmagiaaDoor.Tr
