/-
Each is an iterator of a text's lines, each with those that go on with it. Conditions: the text has at most 2^40 bytes.
-/
import Derived.Test.YtcclicgjklmihaaLnUnf2
import Derived.Test.YtcclicgjklmihaaLnRefNum
import Derived.Test.YtcclicgjklmihaaLnRefSplit
import Derived.Test.YtcclicgjklmihaaLaws
namespace Go.Proofs.Ytcclicgjklmihaa.Ln
open Go.RowKit Strs Sq

theorem each_any (s : ByteArray) (w : World) :
    Calls Try.prog 16 #[.string s] w fun e w' => e = .returned (.func (.func 29) #[] #[.pointer (some ⟨w.heap.size + 1, 0, none⟩)]) ∧
      w' = (w.alloc (.cells #[.string s] 9)).alloc (.cells #[.func (.func 25) #[] #[.pointer (some ⟨w.heap.size, 0, none⟩)]] 39) := by
  have C1 := Lib.hid (fun W => numbered_any s W)
  have C2 := Lib.hid (fun W => unfolded_any (.func (.func 25) #[] #[.pointer (some ⟨w.heap.size, 0, none⟩)]) W _ _ _ rfl)
  go_enter Try.func16, Try.ntmps16
  go_wp2_with (first
    | (go_at_call 19; refine (C1.out _).mono ?_; rintro e w' ⟨rfl, rfl⟩)
    | (go_at_call 22; refine (C2.out _).mono ?_; rintro e w' ⟨rfl, rfl⟩))
  go_ret
  exact ⟨rfl, rfl⟩
/-- What it hands on. -/
def eachL (s : ByteArray) : List (Nat × List UInt8) := unf none (num 1 (split s.data.toList))
theorem each_sq (s : ByteArray) (hs : s.size ≤ 1099511627776) (B : Nat) (w : World) (hB : Boxed w B 9 (.string s)) (hF : Boxed w (B + 1) 39 (.func (.func 25) #[] #[.pointer (some ⟨B, 0, none⟩)])) :
    Sq Try.prog 29 #[.pointer (some ⟨B + 1, 0, none⟩)] encL (fun k => k = B + 1 ∨ k = B) (eachL s) w := by
  have h1 := split_length s.data.toList
  have h2 := split_bytes s.data.toList
  rw [list_size] at h1 h2
  exact unfolded_sq (numbered_sq s hs B w hB) eg_numbered (fun k hk => by rw [hk]; exact hB.lt) (B + 1) hF (by rw [num_length]; omega) (by rw [num_snd]; omega)
theorem eachL_length (s : ByteArray) : (eachL s).length ≤ s.size := by
  have h1 := split_length s.data.toList
  have h2 := unf_length none (num 1 (split s.data.toList))
  rw [num_length] at h2
  rw [list_size] at h1
  unfold eachL
  simp at h2
  omega
/-- One number of a row. -/
theorem Ints.at_ {w : World} {base : Nat} {v : Value} {l : List Nat} (h : Ints w base v l) : ∃ a cap, v = .slice a l.length cap ∧ ∀ i (hi : i < l.length), ∃ g, a = some ⟨g, 0, none⟩ ∧ g < w.heap.size ∧ w.cell? ⟨g, i, none⟩ = some (.int .i64 (l[i] : Int)) := by
  obtain ⟨hl, ⟨rfl, h0⟩ | ⟨g, cap, cur, rfl, _, hg, _, _, _, ht⟩⟩ := h
  · exact ⟨none, 0, by rw [h0], fun i hi => by omega⟩
  · refine ⟨_, cap, rfl, fun i hi => ⟨g, rfl, (Array.getElem?_eq_some_iff.1 hg).1, ?_⟩⟩
    have hn : (icells l)[i]? = some (.int .i64 (l[i] : Int)) := by simp [icells, hi]
    rw [← ht] at hn
    have h2 := Lib.cells_of_row hg _ i _ hn
    rwa [Lib.addr_add, Nat.zero_add] at h2
theorem strs_at {w : World} {base : Nat} {v : Value} {l : List (List UInt8)} (h : Strs w base v l) : ∃ a cap, v = .slice a l.length cap ∧ ∀ i (hi : i < l.length), ∃ g, a = some ⟨g, 0, none⟩ ∧ g < w.heap.size ∧ w.cell? ⟨g, i, none⟩ = some (.string ⟨l[i].toArray⟩) := by
  obtain ⟨hl, ⟨rfl, h0⟩ | ⟨g, cap, cur, rfl, _, hg, _, _, _, ht⟩⟩ := h
  · exact ⟨none, 0, by rw [h0], fun i hi => by omega⟩
  · refine ⟨_, cap, rfl, fun i hi => ⟨g, rfl, (Array.getElem?_eq_some_iff.1 hg).1, ?_⟩⟩
    have hn : (scells l)[i]? = some (.string ⟨l[i].toArray⟩) := by simp [scells, hi]
    rw [← ht] at hn
    have h2 := Lib.cells_of_row hg _ i _ hn
    rwa [Lib.addr_add, Nat.zero_add] at h2
end Go.Proofs.Ytcclicgjklmihaa.Ln
