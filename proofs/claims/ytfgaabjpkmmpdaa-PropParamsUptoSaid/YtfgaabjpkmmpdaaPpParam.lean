/-
A parameter, as the document asks it; a property's parameters as cells that lie in a row. No conditions.
-/
import Derived.Test.YtfgaabjpkmmpdaaPpRef2
import Derived.Below
namespace Go.Proofs.Ytfgaabjpkmmpdaa.Pp
open Go.RowKit

set_option maxHeartbeats 400000 in
theorem rParam_any (n v : ByteArray) (w : World) :
    Calls Try.prog 21 #[.agg #[.string n, .string v]] w fun e w' => e = .returned (.bool (paramB n v)) ∧ Below w.heap.size w w' := by
  have C1 := Lib.hid (fun W => rName_any n W)
  have C2 := Lib.hid (fun W => rValue_any v W)
  unfold paramB
  generalize nameB n = p at C1 ⊢
  generalize valB v = q at C2 ⊢
  by_cases hz : n.size = 0
  · have hs0 := str_none hz
    rw [decide_eq_true hz, Bool.true_or, Bool.true_and]
    go_enter Try.func21, Try.ntmps21
    go_wp2_with fail
    refine (C2.out _).mono ?_
    rintro e w' ⟨rfl, rfl⟩
    go_wp2_with fail
    go_ret
    exact ⟨rfl, (Below.refl _ _).alloc (Nat.le_refl _) _⟩
  · have hs0 := str_some hz
    rw [decide_eq_false hz, Bool.false_or]
    cases p with
    | false =>
      go_enter Try.func21, Try.ntmps21
      go_wp2_with fail
      refine (C1.out _).mono ?_
      rintro e w' ⟨rfl, rfl⟩
      go_wp2_with fail
      go_ret
      exact ⟨rfl, (Below.refl _ _).alloc (Nat.le_refl _) _⟩
    | true =>
      go_enter Try.func21, Try.ntmps21
      go_wp2_with fail
      refine (C1.out _).mono ?_
      rintro e w' ⟨rfl, rfl⟩
      go_wp2_with fail
      refine (C2.out _).mono ?_
      rintro e w' ⟨rfl, rfl⟩
      go_wp2_with fail
      go_ret
      exact ⟨rfl, (Below.refl _ _).alloc (Nat.le_refl _) _⟩

/-- The slice v, whose block lies below B, holds the parameters ps. -/
def Ps (w : World) (B : Nat) (v : Value) (ps : List (ByteArray × ByteArray)) : Prop :=
  (ps = [] ∧ (v = .slice none 0 0 ∨ ∃ ad cap, v = .slice (some ad) 0 cap)) ∨ ∃ b o cap, v = .slice (some ⟨b, o, none⟩) ps.length cap ∧ b < B ∧ ∀ i, (h : i < ps.length) → w.cell? ⟨b, o + i * 2, none⟩ = some (.string ps[i].1) ∧ w.cell? ⟨b, o + i * 2 + 1, none⟩ = some (.string ps[i].2)
theorem Ps.below {w w' : World} {B : Nat} {v : Value} {ps : List (ByteArray × ByteArray)} (h : Ps w B v ps) (hb : Below B w w') : Ps w' B v ps := by
  rcases h with h | ⟨b, o, cap, h1, h2, h3⟩
  · exact .inl h
  · exact .inr ⟨b, o, cap, h1, h2, fun i hi => ⟨(hb.cell (p := ⟨b, o + i * 2, none⟩) h2).trans (h3 i hi).1, (hb.cell (p := ⟨b, o + i * 2 + 1, none⟩) h2).trans (h3 i hi).2⟩⟩
theorem Ps.up {w : World} {B B' : Nat} {v : Value} {ps : List (ByteArray × ByteArray)} (h : Ps w B v ps) (hb : B ≤ B') : Ps w B' v ps := by
  rcases h with h | ⟨b, o, cap, h1, h2, h3⟩
  · exact .inl h
  · exact .inr ⟨b, o, cap, h1, Nat.lt_of_lt_of_le h2 hb, h3⟩
theorem Ps.shape {w : World} {B : Nat} {v : Value} {ps : List (ByteArray × ByteArray)} (h : Ps w B v ps) : ∃ a cap, v = .slice a ps.length cap := by
  rcases h with ⟨rfl, rfl | ⟨ad, cap, rfl⟩⟩ | ⟨b, o, cap, h1, _, _⟩
  · exact ⟨none, 0, rfl⟩
  · exact ⟨some ad, cap, rfl⟩
  · exact ⟨_, cap, h1⟩
/-- One of them: its cells. -/
theorem Ps.at_ {w : World} {B i : Nat} {v : Value} {ps : List (ByteArray × ByteArray)} (h : Ps w B v ps) (hi : i < ps.length) : ∃ b o cap, v = .slice (some ⟨b, o, none⟩) ps.length cap ∧ b < B ∧ w.cell? ⟨b, o + i * 2, none⟩ = some (.string ps[i].1) ∧ w.cell? ⟨b, o + i * 2 + 1, none⟩ = some (.string ps[i].2) := by
  rcases h with ⟨rfl, _⟩ | ⟨b, o, cap, h1, h2, h3⟩
  · simp at hi
  · exact ⟨b, o, cap, h1, h2, h3 i hi⟩
end Go.Proofs.Ytfgaabjpkmmpdaa.Pp
