/-
The program's Decode of a text in which a letter is wrong. Conditions: the text has at most 2^36 bytes.
-/
import Derived.Test.YtijgpelgdepbaaaDoorSxDecKit
namespace Go.Proofs.YtijgpelgdepbaaaDoor.Sx
open Go.RowKit Go.Shelf
attribute [local go_sem] Oper.semAt_some

set_option maxRecDepth 100000 in
set_option maxHeartbeats 2000000 in
theorem decode_err (s : ByteArray) (hs : s.size ≤ 68719476736) (w : World) {t : List UInt8} {f : Nat} (ht : strip s.data.toList = t) (hf : flt 0 false t = f) (htl : t.length ≤ 68719476736) (h0 : ¬ f = 0) :
    CallsIn Fence.wide 5 Tryd.prog 5 #[.string s] w fun e W' => e = .returned (.tuple #[.string ⟨(dec s.data.toList).1.toArray⟩, .int .i64 ((dec s.data.toList).2 : Int)]) ∧ Below w.heap.size w W' := by
  have CW := Lib.hid (fun W => without_any s W hs)
  have CF := Lib.hid (fun W => fault_any ⟨t.toArray⟩ (by rw [ulen rfl]; exact htl) W)
  rw [ht] at CW
  rw [udata, hf] at CF
  have hd : dec s.data.toList = ([], f) := by unfold dec; rw [ht, hf, if_neg h0]
  rw [hd]
  have hb : ((f : Int) != 0) = true := by simp; omega
  clear hd h0 hf ht
  refine callsIn_of_wp_marks Tryd.func5 rfl trivial ?_ rfl
  simp only [Tryd.ntmps5, List.size_toArray, List.length_cons, List.length_nil, Nat.reduceAdd, Nat.reduceSub, Array.replicate_succ, Array.replicate_zero, List.push_toArray, List.append_toArray, List.nil_append, List.cons_append]
  gi_wp2_with (first | (refine ⟨trivial, ?_⟩; gi_at_call 9; refine (callsIn_wide.2 (CW.out _)).mono ?_; rintro e w1 ⟨rfl, b1⟩; obtain ⟨r0, r1, b0⟩ := res_boxes b1; have c0 := r0.cell; have f0 := r0.frozen; have c1 := r1.cell; have f1 := r1.frozen) | (refine ⟨trivial, ?_⟩; gi_at_call 10; refine (callsIn_wide.2 (CF.out _)).mono ?_; rintro e w' ⟨rfl, rfl⟩))
  exact ⟨_, results_dec rfl rfl (boxed_other (r0.set _) (by omega)) ((boxed_other r1 (by omega)).set _), rfl, below_set (below_set b0 (Nat.le_refl _) _) (by omega) _⟩
end Go.Proofs.YtijgpelgdepbaaaDoor.Sx
