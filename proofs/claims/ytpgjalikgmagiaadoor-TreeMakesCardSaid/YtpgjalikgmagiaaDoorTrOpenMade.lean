/-
What is to be made, as it came in: two texts, a number, and kids to any depth. Conditions: none but the row's own.
-/
import Derived.Test.YtpgjalikgmagiaaDoorTrMakesLaw
import Derived.Test.YtpgjalikgmagiaaDoorTrOpen
namespace Go.Proofs.YtpgjalikgmagiaaDoor.Tr
set_option maxRecDepth 100000
open Go.ChangeShapes Go.WideShapes Go.ChangeAt Go.RowKit Go.Deep

theorem cellsMade : Tryd.prog.cellsOf 30 = 4 := by kernel_rfl
section
variable {H : Type} {enc : TypeId × Value → H} {W : World}
theorem open_made {base : Nat} {u : Value} {d : DataW H} {p : List MemPlace} (hval : Value.okWide Tryd.prog W .any base 30 u) (h : DataW.Trod enc Tryd.prog W 0 (fun _ => true) true 30 u d p) :
    ∃ (p : Int) (n t : ByteArray) (ks : List El) (kv : Value), u = .agg #[.int .i64 p, .string n, .string t, kv] ∧ Ok W W.heap.size (mk0 ks, kv) ∧ n.size ≤ maxLen ∧ t.size ≤ maxLen := by
  obtain ⟨cs, rfl, hsz⟩ := okWide_struct Tryd.underlying30 hval
  rw [cellsMade] at hsz
  obtain ⟨l⟩ := cs
  obtain ⟨fuel, t0⟩ := h
  match l, hsz with
  | [v0, v1, v2, v3], _ =>
    obtain ⟨xs, n2, hf2, hyx, _, hxl, hf⟩ := DataW.trod_struct Tryd.underlying30 t0
    have h0 := hf 0 _ rfl
    change DataW.trod enc Tryd.prog W 0 (fun _ => true) true n2 3 (List.take (Tryd.prog.cellsOf 3) [v0, v1, v2, v3]) = xs[0]? at h0
    rw [cellsInt, List.getElem?_eq_getElem (by rw [hxl]; decide)] at h0
    have h1 := hf 1 _ rfl
    change DataW.trod enc Tryd.prog W 0 (fun _ => true) true n2 9 (List.take (Tryd.prog.cellsOf 9) [v1, v2, v3]) = xs[1]? at h1
    rw [cellsStr, List.getElem?_eq_getElem (by rw [hxl]; decide)] at h1
    have h2 := hf 2 _ rfl
    change DataW.trod enc Tryd.prog W 0 (fun _ => true) true n2 9 (List.take (Tryd.prog.cellsOf 9) [v2, v3]) = xs[2]? at h2
    rw [cellsStr, List.getElem?_eq_getElem (by rw [hxl]; decide)] at h2
    have h3 := hf 3 _ rfl
    change DataW.trod enc Tryd.prog W 0 (fun _ => true) true n2 22 (List.take (Tryd.prog.cellsOf 22) [v3]) = xs[3]? at h3
    rw [cellsKids, List.getElem?_eq_getElem (by rw [hxl]; decide)] at h3
    obtain ⟨p0, q0, -, _⟩ := DataW.trod_int Tryd.underlying3 h0
    obtain ⟨s1, q1, -, hs1⟩ := DataW.trod_string Tryd.underlying9 h1
    obtain ⟨s2, q2, -, hs2⟩ := DataW.trod_string Tryd.underlying9 h2
    simp only [List.take_succ_cons, List.take_zero, List.cons.injEq, and_true] at q0 q1 q2
    subst q0 q1 q2
    obtain ⟨l, hl1, hl2, hl3⟩ := open_kids (k := (n2 - 1) / 2 + 1) (fun n hn {v0 v1 v2 v3 v4} {x} hh hnn => by
      have he := open_elem n hh
      have : n = n2 - 1 := by omega
      subst this
      exact he) h3
    exact ⟨p0, s1, s2, l, v3, rfl, ⟨(n2 - 1) / 2 + 1 + 1, hl1, Nat.zero_le _, Nat.zero_le _, hl2, hl3⟩, hs1, hs2⟩
end
end Go.Proofs.YtpgjalikgmagiaaDoor.Tr
