/-
Join, the program's and the document's own, answers lines as a text. Conditions: the lines have at most 2^40 bytes in all, and there are at most 2^40 of them.
-/
import Derived.Test.YtpdodknldhbbhaaGreatDoorJ29
import Derived.Test.YtpdodknldhbbhaaGreatDoorJ06
import Derived.Lib.AppendStr
import Derived.Laws.DeepStrings4
namespace Go.Proofs.YtpdodknldhbbhaaGreatDoor.Ln
set_option maxRecDepth 100000
open Go.RowKit Strs

theorem strCells_list (l : List UInt8) : Lib.strCells ⟨l.toArray⟩ = Bytes.cells l := by
  simp [Lib.strCells, Bytes.cells]
theorem join_next {l : List (List UInt8)} {i : Nat} {acc all : List UInt8} (h : i < l.length) (hl : acc ++ join (l.drop i) = all) : (acc ++ (l[i] ++ [13, 10])) ++ join (l.drop (i + 1)) = all := by
  rw [← hl, List.drop_eq_getElem_cons h]; simp [join]
theorem join_done {l : List (List UInt8)} {i : Nat} {acc all : List UInt8} (h : ¬ i < l.length) (hl : acc ++ join (l.drop i) = all) : acc = all := by
  rw [← hl, List.drop_eq_nil_of_le (by omega)]; simp [join]
theorem acc_le {acc r all : List UInt8} (h : acc ++ r = all) : acc.length + r.length = all.length := by rw [← h]; simp
theorem laidX {w : World} {base : Nat} {v : Value} {l : List UInt8} {x : ByteArray} {u : List UInt8} (hx : x.data.toList = u) (h : w.ownsRow base 5 1 v (l.length + x.size) (Bytes.cells l ++ Lib.strCells x)) : Bytes.Has w base v (l ++ u) := by
  subst hx
  rw [← str_mk x, strCells_list, str_mk] at h
  exact Bytes.Has.laid (by rw [list_size]) h

set_option maxHeartbeats 1000000 in
theorem progJoin_any (v : Value) (l : List (List UInt8)) (h1 : l.length ≤ 1099511627776) (h2 : bytes l ≤ 1099511627776) (w : World) (h : Reads w v l) :
    Calls Tryz.prog 19 #[v] w fun e w' => e = .returned (.string ⟨(join l).toArray⟩) ∧ Below w.heap.size w w' := by
  obtain ⟨i0, hi, hz0, hz1, hz2⟩ := info_parts Bytes.infoByte
  obtain ⟨a, cap, rfl⟩ := h.shape
  have H := Lib.hid h
  have hlen := join_length l
  obtain ⟨all, hall⟩ : ∃ all, join l = all := ⟨_, rfl⟩
  rw [hall] at hlen ⊢
  have H0 := Lib.hid (show ([] : List UInt8) ++ join (l.drop 0) = all by rw [List.drop_zero]; exact hall)
  have hall40 : all.length ≤ 4398046511104 := by omega
  clear h hall hlen h2
  go_enter Tryz.func19, Tryz.ntmps19
  go_wp2_with fail
  go_loopw [3, 8] (fun ov iv wr => ∃ (i : Nat) (acc : List UInt8), iv = .int .i64 (i : Int) ∧ i ≤ l.length ∧ Hid (acc ++ join (l.drop i) = all) ∧ Bytes.Has wr w.heap.size ov acc ∧ Below w.heap.size w wr) (fun _ iv _ => l.length - (intOf iv).toNat)
  case atStart => exact ⟨0, [], rfl, Nat.zero_le _, H0, Bytes.Has.nil _ _, Below.refl _ _⟩
  case round =>
    obtain ⟨i, acc, rfl, hil, hj, hown, hbel⟩ := hrel
    have hz := hbel.size
    by_cases hlt : i < l.length
    · have HJ := Lib.hid (join_next hlt hj.out)
      have hal := acc_le HJ.out
      obtain ⟨_, b, o, rfl, _, hc⟩ := (H.out.keep (Nat.le_refl _) hbel).at_ i hlt
      have hx := mk_list l[i]
      have hxz := mk_size l[i]
      generalize hli : l[i] = u at HJ hal hc hx hxz
      simp only [List.length_append, List.length_cons, List.length_nil] at hal
      have hA : acc.length + (⟨u.toArray⟩ : ByteArray).size ≤ maxLen := by rw [hxz]; unfold maxLen; omega
      have hA2 : acc.length + (⟨u.toArray⟩ : ByteArray).size ≤ 140737488355328 := by rw [hxz]; omega
      have hB : (acc ++ u).length + (⟨#[13, 10]⟩ : ByteArray).size ≤ maxLen := by show (acc ++ u).length + 2 ≤ _; unfold maxLen; simp; omega
      have hB2 : (acc ++ u).length + (⟨#[13, 10]⟩ : ByteArray).size ≤ 140737488355328 := by show (acc ++ u).length + 2 ≤ _; simp; omega
      have HX := Lib.hid hx
      clear hx hxz hli hal hj
      generalize (⟨u.toArray⟩ : ByteArray) = x at hc hA hA2 HX
      have hi2 : (i : Int) < (l.length : Int) := by omega
      go_wp2_with (first
        | (at_builtin; refine Lib.wpList_append_own_string _ rfl _ _ 60 9 rfl w.heap.size 5 i0 Tryz.underlying60 Tryz.underlying9 hi hz0 hz1 hz2 _ _ _ rfl hown x rfl hA hA2 hz ?_; intro v1 w1 hown1 hgrow1 _; have hh1 : Bytes.Has w1 w.heap.size v1 (acc ++ u) := laidX HX.out hown1; have hb1 : Below w.heap.size w w1 := hbel.grown hgrow1 hz (fun k e => (World.ownsRow.lt hown k e).1); have hz1' := hb1.size)
        | (at_builtin; refine Lib.wpList_append_own_string _ rfl _ _ 60 9 rfl w.heap.size 5 i0 Tryz.underlying60 Tryz.underlying9 hi hz0 hz1 hz2 _ _ _ rfl hh1 ⟨#[13, 10]⟩ rfl hB hB2 hz1' ?_; intro v2 w2 hown2 hgrow2 _))
      go_roundw
      case rel => exact ⟨i + 1, _, by go_num, by omega, HJ, by rw [← List.append_assoc]; exact laidX rfl hown2, hb1.grown hgrow2 hz1' (fun k e => (World.ownsRow.lt hh1 k e).1)⟩
      case measure => simp [intOf]; omega
    · have HE := Lib.hid (join_done hlt hj.out)
      have hc := hown.text
      go_wp2_with fail
      go_ret
      exact ⟨by rw [← HE.out]; rfl, hbel⟩

end Go.Proofs.YtpdodknldhbbhaaGreatDoor.Ln
