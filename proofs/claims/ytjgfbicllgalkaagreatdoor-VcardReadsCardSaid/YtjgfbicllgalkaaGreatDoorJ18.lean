/-
Small words of the program's cards: lines that are no properties, parameters that say how a value is written, values decoded, bytes in a charset. Conditions: texts have at most 2^20 bytes; the library's tables hold what the rows list.
-/
import Derived.Test.YtjgfbicllgalkaaGreatDoorJ02
import Derived.Test.YtjgfbicllgalkaaGreatDoorJ04
import Derived.Test.YtjgfbicllgalkaaGreatDoorJ08
import Derived.Test.YtjgfbicllgalkaaGreatDoorJ14
import Derived.Test.YtjgfbicllgalkaaGreatDoorJ03
import Derived.Test.YtjgfbicllgalkaaGreatDoorJ17
namespace Go.Proofs.YtjgfbicllgalkaaGreatDoor.Vc
set_option maxRecDepth 100000
open Go.RowKit Pp

/-- Does a parameter say how a value is written, or in which charset? -/
def sayHow (x : ByteArray × ByteArray) : Bool := tells x || decide (x.1.toList = [67, 72, 65, 82, 83, 69, 84])

theorem lineName_any (s : ByteArray) (w : World) : Calls Tryz.prog 106 #[.string s] w fun e w' => e = .returned (.bool (framed s)) ∧ w = w' := by
  by_cases h0 : s.toList = [66, 69, 71, 73, 78]
  · skip
    go_enter Tryz.func106, Tryz.ntmps106
    go_wp2_with fail
    go_ret
    exact ⟨by simp [framed, *], rfl⟩
  · skip
    by_cases h1 : s.toList = [69, 78, 68]
    · skip
      go_enter Tryz.func106, Tryz.ntmps106
      go_wp2_with fail
      go_ret
      exact ⟨by simp [framed, *], rfl⟩
    · skip
      by_cases h2 : s.toList = [86, 69, 82, 83, 73, 79, 78]
      · skip
        go_enter Tryz.func106, Tryz.ntmps106
        go_wp2_with fail
        go_ret
        exact ⟨by simp [framed, *], rfl⟩
      · skip
        go_enter Tryz.func106, Tryz.ntmps106
        go_wp2_with fail
        go_ret
        exact ⟨by simp [framed, *], rfl⟩

set_option maxHeartbeats 800000 in
theorem saysEnc_any (n v : ByteArray) (w : World) : Calls Tryz.prog 206 #[.agg #[.string n, .string v]] w fun e w' => e = .returned (.bool (tells (n, v))) ∧ Below w.heap.size w w' := by
  have BB : Below w.heap.size w (w.alloc (.cells #[.string n, .string v] 58)) := (Below.refl _ _).alloc (Nat.le_refl _) _
  have hxc : (w.alloc (.cells #[.string n, .string v] 58)).heap[w.heap.size]? = some (.cells #[.string n, .string v] 58) := heap_alloc_new w _
  have x0 := cell_of_row _ w.heap.size 0 _ _ _ hxc
  have x1 := cell_of_row _ w.heap.size 1 _ _ _ hxc
  clear hxc
  by_cases hz : n.size = 0
  · have hs0 := str_none hz
    have hne : ¬ n.toList = [69, 78, 67, 79, 68, 73, 78, 71] := fun h => by rw [h] at hs0; simp at hs0
    by_cases h0 : v.toList = [81, 85, 79, 84, 69, 68, 45, 80, 82, 73, 78, 84, 65, 66, 76, 69]
    · have b0 : (v.toList == [81, 85, 79, 84, 69, 68, 45, 80, 82, 73, 78, 84, 65, 66, 76, 69]) = true := by simp [h0]
      go_enter Tryz.func206, Tryz.ntmps206
      go_wp2_with fail
      go_ret
      exact ⟨by simp [tells, how, *], BB⟩
    · have b0 : (v.toList == [81, 85, 79, 84, 69, 68, 45, 80, 82, 73, 78, 84, 65, 66, 76, 69]) = false := by simpa using h0
      by_cases h1 : v.toList = [66, 65, 83, 69, 54, 52]
      · have b1 : (v.toList == [66, 65, 83, 69, 54, 52]) = true := by simp [h1]
        go_enter Tryz.func206, Tryz.ntmps206
        go_wp2_with fail
        go_ret
        exact ⟨by simp [tells, how, *], BB⟩
      · have b1 : (v.toList == [66, 65, 83, 69, 54, 52]) = false := by simpa using h1
        by_cases h2 : v.toList = [56, 66, 73, 84]
        · have b2 : (v.toList == [56, 66, 73, 84]) = true := by simp [h2]
          go_enter Tryz.func206, Tryz.ntmps206
          go_wp2_with fail
          go_ret
          exact ⟨by simp [tells, how, *], BB⟩
        · have b2 : (v.toList == [56, 66, 73, 84]) = false := by simpa using h2
          by_cases h3 : v.toList = [55, 66, 73, 84]
          · have b3 : (v.toList == [55, 66, 73, 84]) = true := by simp [h3]
            go_enter Tryz.func206, Tryz.ntmps206
            go_wp2_with fail
            go_ret
            exact ⟨by simp [tells, how, *], BB⟩
          · have b3 : (v.toList == [55, 66, 73, 84]) = false := by simpa using h3
            go_enter Tryz.func206, Tryz.ntmps206
            go_wp2_with fail
            go_ret
            exact ⟨by simp [tells, how, *], BB⟩
  · have hs0 := str_some hz
    by_cases he : n.toList = [69, 78, 67, 79, 68, 73, 78, 71]
    · have heb : (n.toList == [69, 78, 67, 79, 68, 73, 78, 71]) = true := by simp [he]
      go_enter Tryz.func206, Tryz.ntmps206
      go_wp2_with fail
      go_ret
      exact ⟨by simp [tells, *], BB⟩
    · have heb : (n.toList == [69, 78, 67, 79, 68, 73, 78, 71]) = false := by simpa using he
      go_enter Tryz.func206, Tryz.ntmps206
      go_wp2_with fail
      go_ret
      exact ⟨by simp [tells, *], BB⟩

set_option maxHeartbeats 800000 in
theorem saysHow_any (n v : ByteArray) (w : World) : Calls Tryz.prog 176 #[.agg #[.string n, .string v]] w fun e w' => e = .returned (.bool (sayHow (n, v))) ∧ Below w.heap.size w w' := by
  have BB : Below w.heap.size w (w.alloc (.cells #[.string n, .string v] 58)) := (Below.refl _ _).alloc (Nat.le_refl _) _
  have hxc : (w.alloc (.cells #[.string n, .string v] 58)).heap[w.heap.size]? = some (.cells #[.string n, .string v] 58) := heap_alloc_new w _
  have x0 := cell_of_row _ w.heap.size 0 _ _ _ hxc
  have x1 := cell_of_row _ w.heap.size 1 _ _ _ hxc
  have C := Lib.hid (saysEnc_any n v (w.alloc (.cells #[.string n, .string v] 58)))
  have HXC := Lib.hid hxc
  have HBB := Lib.hid BB
  have hlt : w.heap.size < (w.alloc (.cells #[.string n, .string v] 58)).heap.size := by rw [World.size_alloc]; omega
  have HLT := Lib.hid hlt
  clear hxc BB hlt
  unfold sayHow
  by_cases he : n.toList = [67, 72, 65, 82, 83, 69, 84]
  · have heb : (n.toList == [67, 72, 65, 82, 83, 69, 84]) = true := by simp [he]
    rw [decide_eq_true he, Bool.or_true]
    generalize tells (n, v) = t at C
    cases t
    · go_enter Tryz.func176, Tryz.ntmps176
      go_wp2_with (go_at_call 206; refine C.out.mono ?_; rintro e w1 ⟨rfl, b1⟩; have y0 := (b1.cell (p := ⟨w.heap.size, 0, none⟩) HLT.out).trans x0)
      go_ret
      exact ⟨rfl, HBB.out.trans (b1.mono (Nat.le_of_lt HLT.out))⟩
    · go_enter Tryz.func176, Tryz.ntmps176
      go_wp2_with (go_at_call 206; refine C.out.mono ?_; rintro e w1 ⟨rfl, b1⟩)
      go_ret
      exact ⟨rfl, HBB.out.trans (b1.mono (Nat.le_of_lt HLT.out))⟩
  · have heb : (n.toList == [67, 72, 65, 82, 83, 69, 84]) = false := by simpa using he
    rw [decide_eq_false he, Bool.or_false]
    generalize tells (n, v) = t at C
    cases t
    · go_enter Tryz.func176, Tryz.ntmps176
      go_wp2_with (go_at_call 206; refine C.out.mono ?_; rintro e w1 ⟨rfl, b1⟩; have y0 := (b1.cell (p := ⟨w.heap.size, 0, none⟩) HLT.out).trans x0)
      go_ret
      exact ⟨rfl, HBB.out.trans (b1.mono (Nat.le_of_lt HLT.out))⟩
    · go_enter Tryz.func176, Tryz.ntmps176
      go_wp2_with (go_at_call 206; refine C.out.mono ?_; rintro e w1 ⟨rfl, b1⟩)
      go_ret
      exact ⟨rfl, HBB.out.trans (b1.mono (Nat.le_of_lt HLT.out))⟩

/-- The bytes of a value that is written so. -/
def decW (m v : ByteArray) : ByteArray × Int :=
  if m.toList = [81, 85, 79, 84, 69, 68, 45, 80, 82, 73, 78, 84, 65, 66, 76, 69] then (⟨(Qu.dec v.data.toList).1.toArray⟩, (Qu.dec v.data.toList).2) else
  if m.toList = [66, 65, 83, 69, 54, 52] ∨ m.toList = [66] then (⟨(Sx.dec v.data.toList).1.toArray⟩, (Sx.dec v.data.toList).2) else
  if m.toList = [56, 66, 73, 84] ∨ m.toList = [55, 66, 73, 84] then (v, 0) else (⟨#[]⟩, 5)

set_option maxHeartbeats 800000 in
theorem decoded_any (m v : ByteArray) (w : World) (hv : v.size ≤ 1048576) (T : Qu.Tabs w) : Calls Tryz.prog 197 #[.string m, .string v] w fun e w' => e = .returned (.tuple #[.string (decW m v).1, .int .i64 (decW m v).2]) ∧ Below w.heap.size w w' := by
  have CQ := Lib.hid (fun (_ : Unit) => Qu.decode_any v w (by omega) T)
  have CS := Lib.hid (fun W => Sx.decode_any v (by omega) W)
  by_cases h0 : m.toList = [81, 85, 79, 84, 69, 68, 45, 80, 82, 73, 78, 84, 65, 66, 76, 69]
  · have b0 : (m.toList == [81, 85, 79, 84, 69, 68, 45, 80, 82, 73, 78, 84, 65, 66, 76, 69]) = true := by simp [h0]
    go_enter Tryz.func197, Tryz.ntmps197
    go_wp2_with fail
    refine (CQ.out ()).mono ?_
    rintro e w1 ⟨rfl, b1⟩
    go_wp2_with fail
    go_ret2
    exact ⟨by simp [decW, *], b1⟩
  · have b0 : (m.toList == [81, 85, 79, 84, 69, 68, 45, 80, 82, 73, 78, 84, 65, 66, 76, 69]) = false := by simpa using h0
    by_cases h1 : m.toList = [66, 65, 83, 69, 54, 52]
    · have b1 : (m.toList == [66, 65, 83, 69, 54, 52]) = true := by simp [h1]
      go_enter Tryz.func197, Tryz.ntmps197
      go_wp2_with fail
      refine (CS.out _).mono ?_
      rintro e w1 ⟨rfl, b1⟩
      go_wp2_with fail
      go_ret2
      exact ⟨by simp [decW, *], b1⟩
    · have b1 : (m.toList == [66, 65, 83, 69, 54, 52]) = false := by simpa using h1
      by_cases h2 : m.toList = [66]
      · have b2 : (m.toList == [66]) = true := by simp [h2]
        go_enter Tryz.func197, Tryz.ntmps197
        go_wp2_with fail
        refine (CS.out _).mono ?_
        rintro e w1 ⟨rfl, b1⟩
        go_wp2_with fail
        go_ret2
        exact ⟨by simp [decW, *], b1⟩
      · have b2 : (m.toList == [66]) = false := by simpa using h2
        by_cases h3 : m.toList = [56, 66, 73, 84]
        · have b3 : (m.toList == [56, 66, 73, 84]) = true := by simp [h3]
          go_enter Tryz.func197, Tryz.ntmps197
          go_wp2_with fail
          go_ret2
          exact ⟨by simp [decW, *], Below.refl _ _⟩
        · have b3 : (m.toList == [56, 66, 73, 84]) = false := by simpa using h3
          by_cases h4 : m.toList = [55, 66, 73, 84]
          · have b4 : (m.toList == [55, 66, 73, 84]) = true := by simp [h4]
            go_enter Tryz.func197, Tryz.ntmps197
            go_wp2_with fail
            go_ret2
            exact ⟨by simp [decW, *], Below.refl _ _⟩
          · have b4 : (m.toList == [55, 66, 73, 84]) = false := by simpa using h4
            go_enter Tryz.func197, Tryz.ntmps197
            go_wp2_with fail
            go_ret2
            exact ⟨by simp [decW, *], Below.refl _ _⟩

/-- The text that bytes say in the charset of a name. -/
def letC (nm v : ByteArray) : ByteArray × Int :=
  if Cs.named nm.data.toList = 0 then (⟨#[]⟩, 14) else (⟨(Cs.dec (Cs.named nm.data.toList) v.data.toList).1.toArray⟩, (Cs.dec (Cs.named nm.data.toList) v.data.toList).2)
set_option maxHeartbeats 800000 in
theorem lettersOf_any (nm v : ByteArray) (w : World) (hn : nm.size ≤ 140737488355328) (hv : v.size ≤ 1048576) (T : Cs.Tabs w) : Calls Tryz.prog 199 #[.string nm, .string v] w fun e w' => e = .returned (.tuple #[.string (letC nm v).1, .int .i64 (letC nm v).2]) ∧ Below w.heap.size w w' := by
  have CN := Lib.hid (Cs.named_any nm w hn)
  have CD := Lib.hid (fun k W (TW : Cs.Tabs W) => Cs.decode_turns k v (by omega) W TW)
  have HT := Lib.hid T
  unfold letC
  generalize Cs.named nm.data.toList = k at CN ⊢
  by_cases h0 : k = 0
  · subst h0
    rw [if_pos rfl]
    go_enter Tryz.func199, Tryz.ntmps199
    go_wp2_with fail
    refine CN.out.mono ?_
    rintro e w1 ⟨rfl, b1⟩
    go_wp2_with fail
    go_ret2
    exact ⟨rfl, b1⟩
  · have hkb : (k == 0) = false := by simpa using h0
    rw [if_neg h0]
    go_enter Tryz.func199, Tryz.ntmps199
    go_wp2_with fail
    refine CN.out.mono ?_
    rintro e w1 ⟨rfl, b1⟩
    have C2 := Lib.hid (CD.out k w1 (HT.out.on b1))
    go_wp2_with fail
    refine C2.out.mono ?_
    rintro e w2 h2
    obtain ⟨rfl, b2⟩ := h2
    go_wp2_with fail
    go_ret2
    exact ⟨rfl, b1.trans (b2.mono b1.size)⟩
end Go.Proofs.YtjgfbicllgalkaaGreatDoor.Vc
