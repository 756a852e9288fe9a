/-
The law's guard on size: what is not too great is small. Conditions: the fields lie below the caller's blocks.
-/
import Derived.Test.YtfghodakdnhleaaBlMap
namespace Go.Proofs.Ytfghodakdnhleaa.Ct
set_option maxRecDepth 100000
open Go.RowKit

set_option maxHeartbeats 2000000 in
theorem great2_any (v : Value) (l : List Fd) (w : World) (hl : Fs w w.heap.size v l) (_hn : l.length ≤ 9223372036854775807) :
    Calls Try.prog 4 #[.agg #[v]] w fun e w' => ∃ g : Bool, e = .returned (.bool g) ∧ (g = false → l.length ≤ 61 ∧ ∀ x ∈ l, Sm x) ∧ Below w.heap.size w w' := by
  obtain ⟨a, c, rfl⟩ := hl.shape
  obtain ⟨hb0, HB⟩ := box_new w (.slice a l.length c)
  go_enter Try.func4, Try.ntmps4
  go_wp2_with fail
  go_loopw [3, 4] (fun rv iv wr => ∃ (k : Nat) (r : Int), k ≤ l.length ∧ k ≤ 61 ∧ iv = .int .i64 k ∧ rv = .int .i64 r ∧ 0 ≤ r ∧ r ≤ 8000 ∧ wr.cell? ⟨w.heap.size, 0, none⟩ = some (.slice a l.length c) ∧ Below w.heap.size w wr ∧ Hid (∀ x ∈ l.take k, Sm x)) (fun _ iv _ => l.length - (intOf iv).toNat)
  case atStart => exact ⟨0, 8000, Nat.zero_le _, by omega, rfl, rfl, by omega, by omega, hb0, HB, Lib.hid (by simp)⟩
  case round =>
    obtain ⟨k, r, hk, hk61, rfl, rfl, hr0, hr8, hcell, hbel, HK⟩ := hrel
    clear hb0 HB
    by_cases hlt : k < l.length
    · have hlz : (k : Int) < (l.length : Int) := by omega
      obtain ⟨b, o, cap, hv1, hbB, c0, c1, c2⟩ := (hl.below hbel).at_ hlt
      simp only [Value.slice.injEq, true_and] at hv1
      obtain ⟨rfl, rfl⟩ := hv1
      have HS := Lib.hid (show Sm l[k] → ∀ x ∈ l.take (k + 1), Sm x from fun h x hx => by
        rw [List.take_succ_eq_append_getElem hlt] at hx
        rcases List.mem_append.1 hx with hx | hx
        · exact HK.out x hx
        · rw [List.mem_singleton] at hx; rw [hx]; exact h)
      generalize l[k] = x at c0 c1 c2 HS
      obtain ⟨n', l', t'⟩ := x
      simp only at c0 c1 c2
      have hX := heap_alloc_new wr (.cells #[.string n', .string l', .string t'] 33)
      have x0 := cell_of_row _ wr.heap.size 0 _ _ _ hX
      have x1 := cell_of_row _ wr.heap.size 1 _ _ _ hX
      have x2 := cell_of_row _ wr.heap.size 2 _ _ _ hX
      have hba : Below wr.heap.size wr (wr.alloc (.cells #[.string n', .string l', .string t'] 33)) := (Below.refl _ _).alloc (Nat.le_refl _) _
      have hcl := (hba.cell (p := ⟨w.heap.size, 0, none⟩) (World.block_lt_of_cell? wr _ hcell)).trans hcell
      have HBA := Lib.hid (And.intro (hbel.trans (hba.mono hbel.size)) hcl)
      have HH := Lib.hid (And.intro hk61 (And.intro hr0 hr8))
      clear hX hba hcl
      by_cases d1 : k ≤ 60
      rotate_left
      · have d1z : (60 : Int) < (k : Int) := by omega
        go_wp2_with fail
        go_ret
        first | exact .inr ⟨rfl, HBA.out.1⟩ | exact ⟨true, rfl, (fun h => by cases h), HBA.out.1⟩
      have d1z : ¬ (60 : Int) < (k : Int) := by omega
      by_cases d2 : n'.size ≤ 100
      rotate_left
      · have d2z : (100 : Int) < (n'.size : Int) := by omega
        go_wp2_with fail
        go_ret
        first | exact .inr ⟨rfl, HBA.out.1⟩ | exact ⟨true, rfl, (fun h => by cases h), HBA.out.1⟩
      have d2z : ¬ (100 : Int) < (n'.size : Int) := by omega
      by_cases d3 : l'.size ≤ 300
      rotate_left
      · have d3z : (300 : Int) < (l'.size : Int) := by omega
        go_wp2_with fail
        go_ret
        first | exact .inr ⟨rfl, HBA.out.1⟩ | exact ⟨true, rfl, (fun h => by cases h), HBA.out.1⟩
      have d3z : ¬ (300 : Int) < (l'.size : Int) := by omega
      by_cases d4 : (t'.size : Int) ≤ r
      rotate_left
      · have d4z : r < (t'.size : Int) := by omega
        go_wp2_with fail
        go_ret
        first | exact .inr ⟨rfl, HBA.out.1⟩ | exact ⟨true, rfl, (fun h => by cases h), HBA.out.1⟩
      have d4z : ¬ r < (t'.size : Int) := by omega
      have hw : IntKind.i64.wrap (r - (t'.size : Int)) = r - (t'.size : Int) := IntWalk.i64_in _ (by omega)
      go_wp2_with fail
      go_roundw
      case rel => exact ⟨k + 1, r - (t'.size : Int), by omega, by omega, by go_num, rfl, by omega, by omega, HBA.out.2, HBA.out.1, Lib.hid (HS.out ⟨by show n'.size ≤ _; omega, by show l'.size ≤ _; omega, by show t'.size ≤ _; omega⟩)⟩
      case measure => simp [intOf]; omega
    · have hlz : ¬ (k : Int) < (l.length : Int) := by omega
      go_wp2_with fail
      go_ret
      obtain rfl : k = l.length := by omega
      exact .inl ⟨rfl, ⟨by omega, by have h := HK.out; rw [List.take_length] at h; first | exact h | exact fun a b c hm => h (a, b, c) hm⟩, hbel⟩
end Go.Proofs.Ytfghodakdnhleaa.Ct
