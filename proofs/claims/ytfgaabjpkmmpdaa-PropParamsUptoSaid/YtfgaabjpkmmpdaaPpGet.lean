/-
A property's parameter by its name, and whether a property is great: the document's answers are the plain functions'. Conditions: the parameters lie below the caller's blocks, at most 2^40 of them.
-/
import Derived.Test.YtfgaabjpkmmpdaaPpChk
namespace Go.Proofs.Ytfgaabjpkmmpdaa.Pp
open Go.RowKit

/-- The first parameter of the name, from place k on. -/
def getP : List (ByteArray × ByteArray) → ByteArray → Option ByteArray
  | [], _ => none
  | p :: r, s => if (p.1.toList == s.toList) = true then some p.2 else getP r s
def getV (ps : List (ByteArray × ByteArray)) (s : ByteArray) : ByteArray := (getP ps s).getD ⟨#[]⟩
def getB (ps : List (ByteArray × ByteArray)) (s : ByteArray) : Bool := (getP ps s).isSome
theorem getP_yes {l : List (ByteArray × ByteArray)} {s : ByteArray} {k : Nat} (h : k < l.length) (he : (l[k].1.toList == s.toList) = true) : getP (l.drop k) s = some l[k].2 := by
  rw [List.drop_eq_getElem_cons h, getP, if_pos he]
theorem getP_no {l : List (ByteArray × ByteArray)} {s : ByteArray} {k : Nat} (h : k < l.length) (he : (l[k].1.toList == s.toList) = false) : getP (l.drop k) s = getP (l.drop (k + 1)) s := by
  rw [List.drop_eq_getElem_cons h, getP, if_neg (by rw [he]; simp)]

set_option maxHeartbeats 400000 in
theorem rGet_any (g n : ByteArray) (pv : Value) (v : ByteArray) (av : Value) (s : ByteArray) (ps : List (ByteArray × ByteArray)) (w : World) (hps : Ps w w.heap.size pv ps) (hl : ps.length ≤ 1099511627776) :
    Calls Try.prog 14 #[prV g n pv v av, .string s] w fun e w' => e = .returned (.tuple #[.string (getV ps s), .bool (getB ps s)]) ∧ Below w.heap.size w w' := by
  obtain ⟨pa, pc, rfl⟩ := hps.shape
  unfold prV getV getB
  obtain ⟨r, hr⟩ : ∃ r, getP ps s = r := ⟨_, rfl⟩
  rw [hr]
  have HB : Below w.heap.size w (w.alloc (.cells #[.string g, .string n, .slice pa ps.length pc, .string v, av] 25)) := (Below.refl _ _).alloc (Nat.le_refl _) _
  go_enter Try.func14, Try.ntmps14
  go_wp2_with fail
  go_loopw [6] (fun iv wr => ∃ k : Nat, k ≤ ps.length ∧ iv = .int .i64 k ∧ PrAt wr w.heap.size g n (.slice pa ps.length pc) v av ∧ Below w.heap.size w wr ∧ Hid (getP (ps.drop k) s = r)) (fun iv _ => ps.length - (intOf iv).toNat)
  case atStart => exact ⟨0, Nat.zero_le _, rfl, heap_alloc_new w _, HB, Lib.hid hr⟩
  case round =>
    obtain ⟨k, hk, rfl, hcell, hbel, HK⟩ := hrel
    have k2 := hcell.c2
    clear hr
    by_cases hlt : k < ps.length
    · obtain ⟨b, o, cap, hv1, hbB, hc0, hc1⟩ := (hps.below hbel).at_ hlt
      simp only [Value.slice.injEq, true_and] at hv1
      obtain ⟨rfl, rfl⟩ := hv1
      have HN := Lib.hid (getP_no (s := s) hlt)
      have HY := Lib.hid (getP_yes (s := s) hlt)
      generalize ps[k] = x at hc0 hc1 HN HY
      obtain ⟨n', v'⟩ := x
      simp only at HN HY hc0 hc1
      cases he : (n'.toList == s.toList)
      · have HK' := Lib.hid ((HN.out he).symm.trans HK.out)
        go_wp2_with fail
        go_roundw
        case rel => exact ⟨k + 1, by omega, by go_num, hcell, hbel, HK'⟩
        case measure => simp [intOf]; omega
      · obtain rfl : some v' = r := by rw [← HK.out]; exact (HY.out he).symm
        go_wp2_with fail
        go_ret2
        exact ⟨rfl, hbel⟩
    · obtain rfl : k = ps.length := by omega
      obtain rfl : none = r := by rw [← HK.out, List.drop_length]; rfl
      go_wp2_with fail
      go_ret2
      exact ⟨rfl, hbel⟩
end Go.Proofs.Ytfgaabjpkmmpdaa.Pp
