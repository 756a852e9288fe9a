/-
The two lines that the law PropBack asks first, in plain words. No program in it.
-/
import Derived.Test.YtccgpemcdbcjeaaDoorPpParseMath
namespace Go.Proofs.YtccgpemcdbcjeaaDoor.Pp

def line1 : ByteArray := ⟨#[104, 111, 109, 101, 46, 116, 101, 108, 59, 116, 121, 112, 101, 61, 119, 111, 114, 107, 59, 118, 111, 105, 99, 101, 58, 49, 50]⟩
def line2 : ByteArray := ⟨#[97, 59, 58, 120]⟩
theorem parsP_go {s : ByteArray} {z : Nat} {g n : ByteArray} {stop t q : Nat} {ps : List (ByteArray × ByteArray)} {x : ByteArray × ByteArray} (h : stop < z) (ht : find s (stop + 1) z 59 = t) (hq : find s (stop + 1) t 61 = q) (hx : parOf s (stop + 1) t q = x) (h6 : ¬ ps.length = 6) (hp : paramB x.1 x.2 = true) (hn : ¬ q = stop + 1) :
    parsP s z g n stop ps = parsP s z g n t (ps ++ [x]) := by
  rw [parsP, dif_pos h]
  simp only [ht, hq, hx]
  rw [if_neg h6, if_neg (fun h => h.elim (fun h => by rw [hp] at h; cases h) hn)]
theorem parsP_out {s : ByteArray} {z : Nat} {g n : ByteArray} {stop t q : Nat} {ps : List (ByteArray × ByteArray)} {x : ByteArray × ByteArray} (h : stop < z) (ht : find s (stop + 1) z 59 = t) (hq : find s (stop + 1) t 61 = q) (hx : parOf s (stop + 1) t q = x) (h6 : ¬ ps.length = 6) (hp : paramB x.1 x.2 = false ∨ q = stop + 1) :
    parsP s z g n stop ps = errP (stop + 1) 3 := by
  rw [parsP, dif_pos h]
  simp only [ht, hq, hx]
  rw [if_neg h6, if_pos hp]
theorem parse_1 : parse line1 = ⟨⟨#[72, 79, 77, 69]⟩, ⟨#[84, 69, 76]⟩, [(⟨#[84, 89, 80, 69]⟩, ⟨#[119, 111, 114, 107]⟩), (⟨#[]⟩, ⟨#[86, 79, 73, 67, 69]⟩)], ⟨#[49, 50]⟩, 0, 0⟩ := by
  have f1 : find line1 0 27 58 = 24 := by decide +kernel
  have f2 : find line1 0 24 59 = 8 := by decide +kernel
  have f3 : find line1 0 8 46 = 4 := by decide +kernel
  have u1 : upB (line1.extract 0 4) = ⟨#[72, 79, 77, 69]⟩ := by decide +kernel
  have u2 : upB (line1.extract 5 8) = ⟨#[84, 69, 76]⟩ := by decide +kernel
  have n1 : nameB ⟨#[72, 79, 77, 69]⟩ = true := by decide +kernel
  have n2 : nameB ⟨#[84, 69, 76]⟩ = true := by decide +kernel
  have sz : line1.size = 27 := by decide +kernel
  unfold parse groupP nameP
  simp only [f1, f2, f3, u1, u2, n1, n2, sz]
  rw [if_neg (by decide), if_pos (by decide), if_neg (by simp), if_neg (by simp)]
  rw [parsP_go (t := 18) (q := 13) (x := (⟨#[84, 89, 80, 69]⟩, ⟨#[119, 111, 114, 107]⟩)) (by decide) (by decide +kernel) (by decide +kernel) (by decide +kernel) (by simp) (by decide +kernel) (by decide)]
  rw [parsP_go (t := 24) (q := 24) (x := (⟨#[]⟩, ⟨#[86, 79, 73, 67, 69]⟩)) (by decide) (by decide +kernel) (by decide +kernel) (by decide +kernel) (by simp) (by decide +kernel) (by decide)]
  rw [parsP, dif_neg (by decide)]
  have v1 : line1.extract 25 27 = ⟨#[49, 50]⟩ := by decide +kernel
  unfold tailP
  simp only [sz, v1]
  rw [if_neg (by decide), if_neg (by decide +kernel)]
  rfl
theorem parse_2 : parse line2 = errP 2 3 := by
  have f1 : find line2 0 4 58 = 2 := by decide +kernel
  have f2 : find line2 0 2 59 = 1 := by decide +kernel
  have f3 : find line2 0 1 46 = 1 := by decide +kernel
  have u2 : upB (line2.extract 0 1) = ⟨#[65]⟩ := by decide +kernel
  have n2 : nameB ⟨#[65]⟩ = true := by decide +kernel
  have sz : line2.size = 4 := by decide +kernel
  unfold parse groupP nameP
  simp only [f1, f2, f3, u2, n2, sz]
  rw [if_neg (by decide), if_neg (by decide), if_neg (by simp)]
  exact parsP_out (t := 2) (q := 2) (x := (⟨#[]⟩, ⟨#[]⟩)) (by decide) (by decide +kernel) (by decide +kernel) (by decide +kernel) (by simp) (.inr rfl)
end Go.Proofs.YtccgpemcdbcjeaaDoor.Pp
