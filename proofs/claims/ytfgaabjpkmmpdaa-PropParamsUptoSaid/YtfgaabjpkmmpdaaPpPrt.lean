/-
A property's line in plain words. No conditions.
-/
import Derived.Test.YtfgaabjpkmmpdaaPpChk
namespace Go.Proofs.Ytfgaabjpkmmpdaa.Pp
open Go.RowKit

/-- A line with one parameter more. -/
def withP (acc : ByteArray) (p : ByteArray × ByteArray) : ByteArray := (if p.1.size = 0 then acc ++ ⟨#[59]⟩ else acc ++ ⟨#[59]⟩ ++ p.1 ++ ⟨#[61]⟩) ++ p.2
def headL (g n : ByteArray) : ByteArray := if g.size = 0 then n else g ++ ⟨#[46]⟩ ++ n
def lineB (g n : ByteArray) (ps : List (ByteArray × ByteArray)) (v : ByteArray) : ByteArray := ps.foldl withP (headL g n) ++ ⟨#[58]⟩ ++ v
def prt (g n : ByteArray) (ps : List (ByteArray × ByteArray)) (v : ByteArray) (e : Int) : ByteArray := if e = 0 then lineB g n ps v else ⟨#[]⟩
theorem fold_step {l : List (ByteArray × ByteArray)} {k : Nat} (h : k < l.length) (acc : ByteArray) : (l.drop k).foldl withP acc = (l.drop (k + 1)).foldl withP (withP acc l[k]) := by
  rw [List.drop_eq_getElem_cons h]; rfl

theorem nameB_le {s : ByteArray} (h : nameB s = true) : s.size ≤ 32 := by
  by_cases hl : s.size ≤ 32
  · exact hl
  · rw [nameB_long hl] at h; cases h
theorem valB_le {s : ByteArray} (h : valB s = true) : s.size ≤ 32 := by
  by_cases hl : s.size ≤ 32
  · exact hl
  · rw [valB_long hl] at h; cases h
/-- A property in which nothing is wrong. -/
theorem chk_ok {g n v : ByteArray} {ps : List (ByteArray × ByteArray)} {m : Nat} (h : chk g n ps v m = 0) : goodNames g n = true ∧ ps.length ≤ 6 ∧ goodPs ps = true ∧ m = 0 ∧ v.size ≤ 2400 ∧ goodV v = true := by
  unfold chk at h
  split at h
  · cases h
  split at h
  · cases h
  split at h
  · cases h
  split at h
  · cases h
  split at h
  · cases h
  split at h
  · cases h
  refine ⟨by simp_all, by omega, by simp_all, by omega, by omega, by simp_all⟩
theorem goodNames_le {g n : ByteArray} (h : goodNames g n = true) : g.size ≤ 32 ∧ n.size ≤ 32 := by
  unfold goodNames at h
  rw [Bool.and_eq_true, Bool.or_eq_true] at h
  refine ⟨?_, nameB_le h.2⟩
  rcases h.1 with h1 | h1
  · have := of_decide_eq_true h1; omega
  · exact nameB_le h1
theorem goodPs_le {ps : List (ByteArray × ByteArray)} (h : goodPs ps = true) {k : Nat} (hk : k < ps.length) : ps[k].1.size ≤ 32 ∧ ps[k].2.size ≤ 32 := by
  unfold goodPs at h
  rw [List.all_eq_true] at h
  have hp := h ps[k] (List.getElem_mem hk)
  unfold paramB at hp
  rw [Bool.and_eq_true, Bool.or_eq_true] at hp
  refine ⟨?_, valB_le hp.2⟩
  rcases hp.1 with h1 | h1
  · have := of_decide_eq_true h1; omega
  · exact nameB_le h1
theorem size_1 (c : UInt8) : (⟨#[c]⟩ : ByteArray).size = 1 := rfl
end Go.Proofs.Ytfgaabjpkmmpdaa.Pp
