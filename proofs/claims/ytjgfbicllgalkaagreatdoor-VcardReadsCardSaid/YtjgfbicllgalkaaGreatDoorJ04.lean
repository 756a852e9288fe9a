/-
How a property says that it is written, as the document asks it. Conditions: at most 2^40 parameters, whose values have at most 2^47 bytes.
-/
import Derived.Test.YtjgfbicllgalkaaGreatDoorJ02
import Derived.Test.YtjgfbicllgalkaaGreatDoorJ03
import Derived.Test.YtjgfbicllgalkaaGreatDoorJ01
namespace Go.Proofs.YtjgfbicllgalkaaGreatDoor.Vc
open Go.RowKit Pp Cs

/-- Does a parameter say how its property is written? -/
def tells (x : ByteArray × ByteArray) : Bool := decide (x.1.toList = [69, 78, 67, 79, 68, 73, 78, 71]) || (decide (x.1.size = 0) && how x.2)
def wayP : List (ByteArray × ByteArray) → Option ByteArray
  | [] => none
  | p :: r => if tells p = true then some ⟨(up p.2.data.toList).toArray⟩ else wayP r
def wayV (ps : List (ByteArray × ByteArray)) : ByteArray := (wayP ps).getD ⟨#[56, 66, 73, 84]⟩
def wayB (ps : List (ByteArray × ByteArray)) : Bool := (wayP ps).isSome
theorem wayP_yes {l : List (ByteArray × ByteArray)} {k : Nat} (h : k < l.length) (he : tells l[k] = true) : wayP (l.drop k) = some ⟨(up l[k].2.data.toList).toArray⟩ := by
  rw [List.drop_eq_getElem_cons h, wayP, if_pos he]
theorem wayP_no {l : List (ByteArray × ByteArray)} {k : Nat} (h : k < l.length) (he : tells l[k] = false) : wayP (l.drop k) = wayP (l.drop (k + 1)) := by
  rw [List.drop_eq_getElem_cons h, wayP, if_neg (by rw [he]; simp)]

set_option maxHeartbeats 800000 in
theorem refWay_any (g n : ByteArray) (pv : Value) (v : ByteArray) (av : Value) (ps : List (ByteArray × ByteArray)) (w : World) (hps : Ps w w.heap.size pv ps) (hl : ps.length ≤ 1099511627776) (hv : ∀ x ∈ ps, x.2.size ≤ 140737488355328) :
    Calls Tryz.prog 145 #[prV g n pv v av] w fun e w' => e = .returned (.tuple #[.string (wayV ps), .bool (wayB ps)]) ∧ Below w.heap.size w w' := by
  obtain ⟨pa, pc, rfl⟩ := hps.shape
  unfold prV wayV wayB
  obtain ⟨r, hr⟩ : ∃ r, wayP ps = r := ⟨_, rfl⟩
  rw [hr]
  have HB : Below w.heap.size w (w.alloc (.cells #[.string g, .string n, .slice pa ps.length pc, .string v, av] 56)) := (Below.refl _ _).alloc (Nat.le_refl _) _
  have HV := Lib.hid hv
  have HPS := Lib.hid hps
  clear hv hps
  go_enter Tryz.func145, Tryz.ntmps145
  go_wp2_with fail
  go_loopw [4] (fun iv wr => ∃ k : Nat, k ≤ ps.length ∧ iv = .int .i64 k ∧ PrAt wr w.heap.size g n (.slice pa ps.length pc) v av ∧ Below w.heap.size w wr ∧ Hid (wayP (ps.drop k) = r)) (fun iv _ => ps.length - (intOf iv).toNat)
  case atStart => exact ⟨0, Nat.zero_le _, rfl, heap_alloc_new w _, HB, Lib.hid hr⟩
  case round =>
    obtain ⟨k, hk, rfl, hcell, hbel, HK⟩ := hrel
    have k2 := hcell.c2
    clear hr
    by_cases hlt : k < ps.length
    · have hlz : (k : Int) < (ps.length : Int) := by omega
      obtain ⟨b, o, cap, hv1, hbB, hc0, hc1⟩ := (HPS.out.below hbel).at_ hlt
      simp only [Value.slice.injEq, true_and] at hv1
      obtain ⟨rfl, rfl⟩ := hv1
      have hbr : b < wr.heap.size := Nat.lt_of_lt_of_le hbB hbel.size
      have HN := Lib.hid (wayP_no hlt)
      have HY := Lib.hid (wayP_yes hlt)
      have hs := HV.out _ (List.getElem_mem hlt)
      generalize ps[k] = x at hc0 hc1 HN HY hs
      obtain ⟨n', v'⟩ := x
      simp only at HN HY hc0 hc1 hs
      have hx : ∃ W, W = wr.alloc (.cells #[.string n', .string v'] 58) := ⟨_, rfl⟩
      have hxc : (wr.alloc (.cells #[.string n', .string v'] 58)).heap[wr.heap.size]? = some (.cells #[.string n', .string v'] 58) := heap_alloc_new wr _
      have x0 := cell_of_row _ wr.heap.size 0 _ _ _ hxc
      have x1 := cell_of_row _ wr.heap.size 1 _ _ _ hxc
      have hba : Below wr.heap.size wr (wr.alloc (.cells #[.string n', .string v'] 58)) := (Below.refl _ _).alloc (Nat.le_refl _) _
      have HBA := Lib.hid (And.intro hba (hbel.trans (hba.mono hbel.size)))
      have CU := Lib.hid (fun W => rUpper_any v' W hs)
      have CH := Lib.hid (fun W => how_any v' W)
      clear hx hxc hba hs
      by_cases h1 : n'.toList = [69, 78, 67, 79, 68, 73, 78, 71]
      · have ht : tells (n', v') = true := by simp [tells, h1]
        obtain rfl : _ = r := (HY.out ht).symm.trans HK.out
        clear ht CH
        go_wp2_with fail
        refine (CU.out _).mono ?_
        rintro e w1 ⟨rfl, b1⟩
        go_wp2_with fail
        go_ret2
        exact ⟨rfl, HBA.out.2.trans (b1.mono HBA.out.2.size)⟩
      · have h1b : (n'.toList == [69, 78, 67, 79, 68, 73, 78, 71]) = false := by simpa using h1
        by_cases h2 : n'.size = 0
        · have hs0 := str_none h2
          cases hq : how v'
          · rw [hq] at CH
            have ht : tells (n', v') = false := by simp [tells, h1, h2, hq]
            have HK' := Lib.hid ((HN.out ht).symm.trans HK.out)
            clear ht CU hq
            go_wp2_with fail
            refine (CH.out _).mono ?_
            rintro e w1 ⟨rfl, rfl⟩
            go_wp2_with fail
            go_roundw
            case rel => exact ⟨k + 1, by omega, by go_num, hcell.below HBA.out.1, HBA.out.2, HK'⟩
            case measure => simp [intOf]; omega
          · rw [hq] at CH
            have ht : tells (n', v') = true := by simp [tells, h1, h2, hq]
            obtain rfl : _ = r := (HY.out ht).symm.trans HK.out
            clear ht hq
            go_wp2_with fail
            refine (CH.out _).mono ?_
            rintro e w1 ⟨rfl, rfl⟩
            go_wp2_with fail
            refine (CU.out _).mono ?_
            rintro e w1 ⟨rfl, b1⟩
            go_wp2_with fail
            go_ret2
            exact ⟨rfl, HBA.out.2.trans (b1.mono HBA.out.2.size)⟩
        · have hs0 := str_some h2
          have ht : tells (n', v') = false := by simp [tells, h1, h2]
          have HK' := Lib.hid ((HN.out ht).symm.trans HK.out)
          clear ht CU CH
          go_wp2_with fail
          go_roundw
          case rel => exact ⟨k + 1, by omega, by go_num, hcell.below HBA.out.1, HBA.out.2, HK'⟩
          case measure => simp [intOf]; omega
    · obtain rfl : k = ps.length := by omega
      obtain rfl : none = r := by rw [← HK.out, List.drop_length]; rfl
      have hlz : ¬ (ps.length : Int) < (ps.length : Int) := by omega
      go_wp2_with fail
      go_ret2
      exact ⟨rfl, hbel⟩
end Go.Proofs.YtjgfbicllgalkaaGreatDoor.Vc
