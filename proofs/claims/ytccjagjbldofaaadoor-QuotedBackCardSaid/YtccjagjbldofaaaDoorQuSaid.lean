/-
What a mark says by the bytes behind it: the program's answer is the plain function 'behind'. Conditions: at most two bytes stand there; the library's tables hold what the rows list.
-/
import Derived.Test.YtccjagjbldofaaaDoorQuTabs
import Derived.Test.YtccjagjbldofaaaDoorQuDecMath
import Derived.Test.YtccjagjbldofaaaDoorFigUnhex
import Derived.Laws.IdiomStrings
namespace Go.Proofs.YtccjagjbldofaaaDoor.Qu
open Go.RowKit Fig

theorem mapGo_length (f : Int → Int) : ∀ (n : Nat) (l : List UInt8), (Lib.mapGoD f n l).length ≤ 4 * n
  | 0, _ => by simp [Lib.mapGoD]
  | n + 1, l => by
    unfold Lib.mapGoD
    split
    · simp
    · have ih := mapGo_length f n (l.drop (Lib.decodeL l).2)
      have : (if 0 ≤ f (Lib.decodeL l).1 then Lib.encodeRune (f (Lib.decodeL l).1) else []).length ≤ 4 := by
        split
        · have := (Lib.encodeRuneZ_length (f (Lib.decodeL l).1)).2
          simpa [Lib.encodeRune] using this
        · simp
      rw [List.length_append]; omega
theorem upperD_size (l : List UInt8) : (⟨(Lib.toUpperD l).toArray⟩ : ByteArray).size ≤ 4 * l.length := by
  show (Lib.toUpperD l).toArray.size ≤ _
  rw [List.size_toArray]; exact mapGo_length _ _ _
theorem behind1 {x : UInt8} (h : ¬ x = 13) : unhex (Lib.toUpperD [x]) = behind [x] := by
  rw [said1]; show _ = if x = 13 then ([], 1) else if half x < 0 then ([], 3) else ([], 1)
  rw [if_neg h]
theorem behind2 {x y : UInt8} (h : ¬ (x = 13 ∧ y = 10)) : unhex (Lib.toUpperD [x, y]) = behind [x, y] := by
  rw [said2]; show _ = if x = 13 ∧ y = 10 then ([], 0) else if half x < 0 ∨ half y < 0 then ([], 3) else ([UInt8.ofNat (16 * half x + half y).toNat], 0)
  rw [if_neg h]

set_option maxHeartbeats 400000 in
theorem said_any (l : List UInt8) (hl : l.length ≤ 2) (w : World) (T : Tabs w) :
    Calls Tryd.prog 12 #[.string ⟨l.toArray⟩] w fun e w' => e = .returned (.tuple #[.string ⟨(behind l).1.toArray⟩, .int .i64 ((behind l).2 : Int)]) ∧ Below w.heap.size w w' := by
  have C1 := Lib.hid (upper_any ⟨l.toArray⟩ w (by show l.toArray.size < _; simp; omega) T)
  match l, hl with
  | [], _ =>
    go_enter Tryd.func12, Tryd.ntmps12
    go_wp2_with fail
    go_ret2
    exact ⟨rfl, Below.refl _ _⟩
  | [x], _ =>
    by_cases h13 : x = 13
    · subst h13
      go_enter Tryd.func12, Tryd.ntmps12
      go_wp2_with fail
      go_ret2
      exact ⟨rfl, Below.refl _ _⟩
    · have hb : (x == 13) = false := by simpa using h13
      have C2 := Lib.hid (fun W => unhex_any ⟨(Lib.toUpperD [x]).toArray⟩ W (by have := upperD_size [x]; simp at this ⊢; omega))
      rw [show (⟨(Lib.toUpperD [x]).toArray⟩ : ByteArray).data.toList = Lib.toUpperD [x] by simp, behind1 h13] at C2
      generalize (⟨(Lib.toUpperD [x]).toArray⟩ : ByteArray) = u at C1 C2
      generalize (behind [x]).1.toArray = p at C2 ⊢
      generalize (behind [x]).2 = q at C2 ⊢
      clear h13
      go_enter Tryd.func12, Tryd.ntmps12
      go_wp2_with fail
      refine C1.out.mono ?_
      rintro e w1 ⟨rfl, b1⟩
      go_wp2_with fail
      refine (C2.out _).mono ?_
      rintro e w2 ⟨rfl, b2⟩
      go_wp2_with fail
      go_ret2
      exact ⟨rfl, b1.trans (b2.mono b1.size)⟩
  | [x, y], _ =>
    by_cases h : x = 13 ∧ y = 10
    · obtain ⟨rfl, rfl⟩ := h
      go_enter Tryd.func12, Tryd.ntmps12
      go_wp2_with fail
      go_ret2
      exact ⟨rfl, Below.refl _ _⟩
    · have hb : (x == 13 && y == 10) = false := by simpa using h
      have C2 := Lib.hid (fun W => unhex_any ⟨(Lib.toUpperD [x, y]).toArray⟩ W (by have := upperD_size [x, y]; simp at this ⊢; omega))
      rw [show (⟨(Lib.toUpperD [x, y]).toArray⟩ : ByteArray).data.toList = Lib.toUpperD [x, y] by simp, behind2 h] at C2
      generalize (⟨(Lib.toUpperD [x, y]).toArray⟩ : ByteArray) = u at C1 C2
      generalize (behind [x, y]).1.toArray = p at C2 ⊢
      generalize (behind [x, y]).2 = q at C2 ⊢
      clear h
      go_enter Tryd.func12, Tryd.ntmps12
      go_wp2_with fail
      refine C1.out.mono ?_
      rintro e w1 ⟨rfl, b1⟩
      go_wp2_with fail
      refine (C2.out _).mono ?_
      rintro e w2 ⟨rfl, b2⟩
      go_wp2_with fail
      go_ret2
      exact ⟨rfl, b1.trans (b2.mono b1.size)⟩
end Go.Proofs.YtccjagjbldofaaaDoor.Qu
