/-
The law's guard on size and its copy of a contact. Conditions: the fields lie below the caller's blocks, at most 2^30 of them.
-/
import Derived.Test.YtfghodakdnhleaaCtSame
import Derived.Shelf.Abstract
import Derived.OwnWalkIn
import Derived.OpenShut
import Derived.Lib.BufferRead
import Derived.Laws.AppendOwn
import Derived.Laws.AppendOwnNone
namespace Go.Proofs.Ytfghodakdnhleaa.Ct
set_option maxRecDepth 100000
open Go.RowKit

def fcells : List Fd → List Value
  | [] => []
  | p :: r => .string p.1 :: .string p.2.1 :: .string p.2.2 :: fcells r
theorem fcells_length : ∀ l : List Fd, (fcells l).length = l.length * 3
  | [] => rfl
  | p :: r => by rw [fcells, List.length_cons, List.length_cons, List.length_cons, fcells_length r, List.length_cons]; omega
theorem fcells_at : ∀ (l : List Fd) (i : Nat) (h : i < l.length), (fcells l)[i * 3]? = some (.string l[i].1) ∧ (fcells l)[i * 3 + 1]? = some (.string l[i].2.1) ∧ (fcells l)[i * 3 + 2]? = some (.string l[i].2.2)
  | p :: r, 0, _ => ⟨rfl, rfl, rfl⟩
  | p :: r, i + 1, h => by
    have ih := fcells_at r i (by simpa using h)
    have e : (i + 1) * 3 = i * 3 + 1 + 1 + 1 := by omega
    rw [e, fcells]
    exact ⟨by simpa using ih.1, by simpa using ih.2.1, by simpa using ih.2.2⟩
theorem fcells_one {l : List Fd} : ∀ u ∈ fcells l, u.oneCell' = true := by
  induction l with
  | nil => intro u hu; cases hu
  | cons p r ih =>
    intro u hu
    rw [fcells] at hu
    rcases List.mem_cons.1 hu with rfl | hu
    · rfl
    · rcases List.mem_cons.1 hu with rfl | hu
      · rfl
      · rcases List.mem_cons.1 hu with rfl | hu
        · rfl
        · exact ih u hu
theorem fcells_get {l : List Fd} {j : Nat} {u : Value} (h : (fcells l)[j]? = some u) : ∃ i, ∃ h : i < l.length, (j = i * 3 ∧ u = .string l[i].1) ∨ (j = i * 3 + 1 ∧ u = .string l[i].2.1) ∨ (j = i * 3 + 2 ∧ u = .string l[i].2.2) := by
  have hj : j < l.length * 3 := by rw [← fcells_length]; exact (List.getElem?_eq_some_iff.1 h).1
  have hi : j / 3 < l.length := by omega
  have hp := fcells_at l (j / 3) hi
  refine ⟨j / 3, hi, ?_⟩
  rcases (by omega : j = j / 3 * 3 ∨ j = j / 3 * 3 + 1 ∨ j = j / 3 * 3 + 2) with e | e | e
  · rw [← e, h] at hp; exact .inl ⟨e, Option.some.inj hp.1⟩
  · rw [← e, h] at hp; exact .inr (.inl ⟨e, Option.some.inj hp.2.1⟩)
  · rw [← e, h] at hp; exact .inr (.inr ⟨e, Option.some.inj hp.2.2⟩)
theorem infoF : (Try.prog.info? 33).map (fun i => (i.zero, i.size, i.bytes)) = some (some (.agg #[.string .empty, .string .empty, .string .empty]), 3, 48) := by kernel_rfl
/-- Fields in a row of the call's own may be read. -/
theorem fs_of_row {w : World} {base : Nat} {v : Value} {l : List Fd} (h : w.ownsRow base 33 3 v l.length (fcells l)) : Fs w w.heap.size v l := by
  obtain ⟨_, ⟨rfl, h0⟩ | ⟨g, cap, cur, rfl, _, hg, h1, _, _, ht⟩⟩ := h
  · exact .inl ⟨List.eq_nil_of_length_eq_zero h0, .inl rfl⟩
  · refine .inr ⟨g, 0, cap, rfl, (Array.getElem?_eq_some_iff.1 hg).1, fun i hi => ?_⟩
    obtain ⟨p1, p2, p3⟩ := fcells_at l i hi
    rw [← ht] at p1 p2 p3
    have q1 := Lib.cells_of_row hg _ _ _ p1
    have q2 := Lib.cells_of_row hg _ _ _ p2
    have q3 := Lib.cells_of_row hg _ _ _ p3
    rw [Lib.addr_add] at q1 q2 q3
    exact ⟨q1, by rw [Nat.add_assoc]; exact q2, by rw [Nat.add_assoc]; exact q3⟩
theorem Fs.src {w : World} {B : Nat} {v : Value} {l : List Fd} (h : Fs w B v l) :
    (v = .slice none 0 0 ∧ l = []) ∨ ∃ ad pc, v = .slice (some ad) l.length pc ∧ ∀ j u, (fcells l)[j]? = some u → w.cell? (ad.add j) = some u := by
  rcases h with ⟨rfl, rfl | ⟨ad, cap, rfl⟩⟩ | ⟨b, o, cap, rfl, h2, h3⟩
  · exact .inl ⟨rfl, rfl⟩
  · exact .inr ⟨ad, cap, rfl, fun j u hu => by simp [fcells] at hu⟩
  · refine .inr ⟨_, cap, rfl, fun j u hu => ?_⟩
    obtain ⟨i, hi, ⟨rfl, rfl⟩ | ⟨rfl, rfl⟩ | ⟨rfl, rfl⟩⟩ := fcells_get hu
    · rw [Lib.addr_add]; exact (h3 i hi).1
    · rw [Lib.addr_add, ← Nat.add_assoc]; exact (h3 i hi).2.1
    · rw [Lib.addr_add, ← Nat.add_assoc]; exact (h3 i hi).2.2
theorem alloc_cell {W : World} {a : Addr} {v : Value} (o : Obj) (h : W.cell? a = some v) : (W.alloc o).cell? a = some v := by
  have hb := World.block_lt_of_cell? W _ h
  exact (((Below.refl _ W).alloc (Nat.le_refl _) o).cell hb).trans h
theorem shapeF {w : World} {base n : Nat} {v : Value} {xs : List Value} (h : w.ownsRow base 33 3 v n xs) : ∃ a cap, v = .slice a n cap := by
  obtain ⟨_, ⟨rfl, rfl⟩ | ⟨g, cap, cur, rfl, _⟩⟩ := h
  · exact ⟨none, 0, rfl⟩
  · exact ⟨_, cap, rfl⟩
/-- Three new blocks: the argument's box, the result's, an empty row. -/
theorem three_blocks (w : World) (v u : Value) : ∀ W, W = ((w.alloc (.cells #[v] 24)).alloc (.cells #[u] 24)).alloc (.cells #[] 33) →
    W.cell? ⟨w.heap.size, 0, none⟩ = some v ∧ W.heap[w.heap.size + 1]? = some (.cells #[u] 24 (0, 0)) ∧ W.ownsRow (w.heap.size + 2) 33 3 (.slice (some ⟨w.heap.size + 1 + 1, 0, none⟩) 0 0) 0 [] ∧ Below w.heap.size w W ∧ W.heap.size = w.heap.size + 3 := by
  rintro W rfl
  have z1 : (w.alloc (.cells #[v] 24)).heap.size = w.heap.size + 1 := World.size_alloc _ _
  have z2 : ((w.alloc (.cells #[v] 24)).alloc (.cells #[u] 24)).heap.size = w.heap.size + 2 := by rw [World.size_alloc, z1]
  have hX := heap_alloc_new w (.cells #[v] 24)
  have hY := heap_alloc_new (w.alloc (.cells #[v] 24)) (.cells #[u] 24)
  rw [z1] at hY
  have x0 := cell_of_row _ w.heap.size 0 _ _ _ hX
  have h := World.ownsRow_made (e := 33) (size := 3) ((w.alloc (.cells #[v] 24)).alloc (.cells #[u] 24)) #[] 0 (base := w.heap.size + 2) (Nat.le_of_eq z2.symm) (by decide) rfl
  rw [z2] at h
  refine ⟨alloc_cell _ (alloc_cell _ x0), ?_, h, ((((Below.refl _ _).alloc (Nat.le_refl _) _).alloc (by omega) _).alloc (by omega) _), by rw [World.size_alloc, z2]⟩
  exact (((Below.refl (w.heap.size + 2) _).alloc (Nat.le_of_eq z2.symm) _).block (w.heap.size + 1) (by omega)).trans hY

set_option maxHeartbeats 2000000 in
theorem own_any (v : Value) (l : List Fd) (w : World) (hl : Fs w w.heap.size v l) (hn : l.length ≤ 1000) :
    Calls Try.prog 6 #[.agg #[v]] w fun e w' => ∃ v', e = .returned (.agg #[v']) ∧ Fs w' w'.heap.size v' l ∧ Below w.heap.size w w' := by
  obtain ⟨i0, hi, hz0, hz1, hz2⟩ := info_parts infoF
  have hm1 : 0 + l.length ≤ maxLen := by unfold maxLen; omega
  have hm2 : (0 + l.length) * 48 ≤ 140737488355328 := by omega
  rcases hl.src with ⟨rfl, rfl⟩ | ⟨ad, pc, rfl, hsrc⟩
  · obtain ⟨x0, hY, hown0, hB, hS⟩ := three_blocks w (.slice none 0 0) (.slice none 0 0) _ rfl
    have y0 := cell_of_row _ (w.heap.size + 1) 0 _ _ _ hY
    have yf := frozen_of_row _ (w.heap.size + 1) 0 _ _ hY
    clear hl hn
    go_enter Try.func6, Try.ntmps6
    go_wp2_with (at_builtin; refine wpList_append_own_none rfl _ _ 22 rfl (w.heap.size + 2) 33 i0 3 Try.underlying22 hi _ 0 [] rfl hown0 rfl ?_)
    obtain ⟨-, hY2, hown2, hB2, -⟩ := three_blocks w (.slice none 0 0) (.slice (some ⟨w.heap.size + 1 + 1, 0, none⟩) 0 0) _ rfl
    have y2 := cell_of_row _ (w.heap.size + 1) 0 _ _ _ hY2
    have hfs : Fs (((w.alloc (.cells #[.slice none 0 0] 24)).alloc (.cells #[.slice (some ⟨w.heap.size + 1 + 1, 0, none⟩) 0 0] 24)).alloc (.cells #[] 33)) (((w.alloc (.cells #[.slice none 0 0] 24)).alloc (.cells #[.slice (some ⟨w.heap.size + 1 + 1, 0, none⟩) 0 0] 24)).alloc (.cells #[] 33)).heap.size (.slice (some ⟨w.heap.size + 1 + 1, 0, none⟩) 0 0) [] := .inl ⟨rfl, .inr ⟨_, _, rfl⟩⟩
    exact bodyPost_ret (v := .agg #[.slice (some ⟨w.heap.size + 1 + 1, 0, none⟩) 0 0]) (by simp [results, Try.results6, go_sem, y2]) rfl ⟨_, rfl, hfs, hB2⟩
  · obtain ⟨x0, hY, hown0, hB, hS⟩ := three_blocks w (.slice (some ad) l.length pc) (.slice none 0 0) _ rfl
    have hone := fcells_one (l := l)
    have hpl := fcells_length l
    have hsrc3 : ∀ j u, (fcells l)[j]? = some u → (((w.alloc (.cells #[.slice (some ad) l.length pc] 24)).alloc (.cells #[.slice none 0 0] 24)).alloc (.cells #[] 33)).cell? (ad.add j) = some u := fun j u hu => alloc_cell _ (alloc_cell _ (alloc_cell _ (hsrc j u hu)))
    have hbase : w.heap.size + 2 ≤ (((w.alloc (.cells #[.slice (some ad) l.length pc] 24)).alloc (.cells #[.slice none 0 0] 24)).alloc (.cells #[] 33)).heap.size := by rw [hS]; omega
    have HX := Lib.hid (fun w1 (hg : World.grownBy (((w.alloc (.cells #[.slice (some ad) l.length pc] 24)).alloc (.cells #[.slice none 0 0] 24)).alloc (.cells #[] 33)) w1 (some (w.heap.size + 1 + 1))) =>
      show w1.heap[w.heap.size + 1]? = some (.cells #[.slice none 0 0] 24 (0, 0)) ∧ Below w.heap.size w w1 from
      ⟨(hg.block _ (by rw [hS]; omega) (fun e => by injection e with e; omega)).trans hY, ⟨hg.os.trans hB.os, hg.tape.trans hB.tape, hg.output.trans hB.output, Nat.le_trans hB.size hg.size, fun k hk => (hg.block k (by rw [hS]; omega) (fun e => by injection e with e; omega)).trans (hB.block k hk)⟩⟩)
    clear hl hn hsrc hY hS hB
    go_enter Try.func6, Try.ntmps6
    go_wp2_with (at_builtin; refine wpList_append_own _ rfl _ _ 22 rfl (w.heap.size + 2) 33 i0 (.agg #[.string .empty, .string .empty, .string .empty]) 3 48 Try.underlying22 hi hz0 hz1 hz2 rfl (by decide) _ 0 [] rfl hown0 ad l.length _ (fcells l) rfl hpl hsrc3 hone hm1 hm2 hbase ?_; intro v1 w1 hown1 hgrow1 _; obtain ⟨a1, c1, rfl⟩ := shapeF hown1; have h2 := HX.out _ hgrow1; have y0 : w1.cell? ⟨w.heap.size + 1, 0, none⟩ = some (.slice none 0 0) := cell_of_row _ _ 0 _ _ _ h2.1; have yf : w1.frozen? ⟨w.heap.size + 1, 0, none⟩ = false := frozen_of_row _ _ 0 _ _ h2.1)
    rw [Nat.zero_add, List.nil_append] at hown1
    have h3 : (w1.setCell ⟨w.heap.size + 1, 0, none⟩ (.slice a1 l.length c1)).ownsRow (w.heap.size + 2) 33 3 (.slice a1 l.length c1) l.length (fcells l) := ownsRow_setCell_below hown1 (by show w.heap.size + 1 < _; omega) _
    refine bodyPost_ret (v := .agg #[.slice a1 l.length c1]) (by simp [results, Try.results6, go_sem, y0]) rfl ⟨_, rfl, fs_of_row h3, h2.2.setCell (p := ⟨w.heap.size + 1, 0, none⟩) (by show w.heap.size ≤ w.heap.size + 1; omega) _⟩

set_option maxHeartbeats 2000000 in
theorem great_any (v : Value) (l : List Fd) (w : World) (hl : Fs w w.heap.size v l) (_hn : l.length ≤ 9223372036854775807) :
    Calls Try.prog 4 #[.agg #[v]] w fun e w' => ∃ g : Bool, e = .returned (.bool g) ∧ (g = false → l.length ≤ 61) ∧ Below w.heap.size w w' := by
  obtain ⟨a, c, rfl⟩ := hl.shape
  obtain ⟨hb0, HB⟩ := box_new w (.slice a l.length c)
  go_enter Try.func4, Try.ntmps4
  go_wp2_with fail
  go_loopw [3, 4] (fun rv iv wr => ∃ (k : Nat) (r : Int), k ≤ l.length ∧ k ≤ 61 ∧ iv = .int .i64 k ∧ rv = .int .i64 r ∧ 0 ≤ r ∧ r ≤ 8000 ∧ wr.cell? ⟨w.heap.size, 0, none⟩ = some (.slice a l.length c) ∧ Below w.heap.size w wr) (fun _ iv _ => l.length - (intOf iv).toNat)
  case atStart => exact ⟨0, 8000, Nat.zero_le _, by omega, rfl, rfl, by omega, by omega, hb0, HB⟩
  case round =>
    obtain ⟨k, r, hk, hk61, rfl, rfl, hr0, hr8, hcell, hbel⟩ := hrel
    clear hb0 HB
    by_cases hlt : k < l.length
    · have hlz : (k : Int) < (l.length : Int) := by omega
      obtain ⟨b, o, cap, hv1, hbB, c0, c1, c2⟩ := (hl.below hbel).at_ hlt
      simp only [Value.slice.injEq, true_and] at hv1
      obtain ⟨rfl, rfl⟩ := hv1
      generalize l[k] = x at c0 c1 c2
      obtain ⟨n', l', t'⟩ := x
      simp only at c0 c1 c2
      have hX := heap_alloc_new wr (.cells #[.string n', .string l', .string t'] 33)
      have x0 := cell_of_row _ wr.heap.size 0 _ _ _ hX
      have x1 := cell_of_row _ wr.heap.size 1 _ _ _ hX
      have x2 := cell_of_row _ wr.heap.size 2 _ _ _ hX
      have hba : Below wr.heap.size wr (wr.alloc (.cells #[.string n', .string l', .string t'] 33)) := (Below.refl _ _).alloc (Nat.le_refl _) _
      have hcl := (hba.cell (p := ⟨w.heap.size, 0, none⟩) (World.block_lt_of_cell? wr _ hcell)).trans hcell
      have HBA := Lib.hid (And.intro (hbel.trans (hba.mono hbel.size)) hcl)
      have HH := Lib.hid (And.intro hk61 (And.intro hr0 hr8))
      clear hX hba hcl
      by_cases d1 : k ≤ 60
      rotate_left
      · have d1z : (60 : Int) < (k : Int) := by omega
        go_wp2_with fail
        go_ret
        first | exact .inr ⟨rfl, HBA.out.1⟩ | exact ⟨true, rfl, (fun h => by cases h), HBA.out.1⟩
      have d1z : ¬ (60 : Int) < (k : Int) := by omega
      by_cases d2 : n'.size ≤ 100
      rotate_left
      · have d2z : (100 : Int) < (n'.size : Int) := by omega
        go_wp2_with fail
        go_ret
        first | exact .inr ⟨rfl, HBA.out.1⟩ | exact ⟨true, rfl, (fun h => by cases h), HBA.out.1⟩
      have d2z : ¬ (100 : Int) < (n'.size : Int) := by omega
      by_cases d3 : l'.size ≤ 300
      rotate_left
      · have d3z : (300 : Int) < (l'.size : Int) := by omega
        go_wp2_with fail
        go_ret
        first | exact .inr ⟨rfl, HBA.out.1⟩ | exact ⟨true, rfl, (fun h => by cases h), HBA.out.1⟩
      have d3z : ¬ (300 : Int) < (l'.size : Int) := by omega
      by_cases d4 : (t'.size : Int) ≤ r
      rotate_left
      · have d4z : r < (t'.size : Int) := by omega
        go_wp2_with fail
        go_ret
        first | exact .inr ⟨rfl, HBA.out.1⟩ | exact ⟨true, rfl, (fun h => by cases h), HBA.out.1⟩
      have d4z : ¬ r < (t'.size : Int) := by omega
      have hw : IntKind.i64.wrap (r - (t'.size : Int)) = r - (t'.size : Int) := IntWalk.i64_in _ (by omega)
      go_wp2_with fail
      go_roundw
      case rel => exact ⟨k + 1, r - (t'.size : Int), by omega, by omega, by go_num, rfl, by omega, by omega, HBA.out.2, HBA.out.1⟩
      case measure => simp [intOf]; omega
    · have hlz : ¬ (k : Int) < (l.length : Int) := by omega
      go_wp2_with fail
      go_ret
      exact .inl ⟨rfl, by omega, hbel⟩
end Go.Proofs.Ytfghodakdnhleaa.Ct
