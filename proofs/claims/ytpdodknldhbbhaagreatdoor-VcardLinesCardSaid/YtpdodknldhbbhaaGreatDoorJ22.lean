/-
Texts joined in one file, each with its own conditions: Small words of the program's cards: lines that are no properties, parameters that say how a value is written, values decoded, bytes in a charset. Conditions: texts have at most 2^20 bytes; the library's tables hold what the rows list. · Is a parameter one that no card's property has; is a value written as it is: the program's words. Conditions: texts have at most 2^40 bytes.
-/
import Derived.Test.YtpdodknldhbbhaaGreatDoorJ07
import Derived.Test.YtpdodknldhbbhaaGreatDoorJ13
import Derived.Test.YtpdodknldhbbhaaGreatDoorJ18
import Derived.Test.YtpdodknldhbbhaaGreatDoorJ08
import Derived.Test.YtpdodknldhbbhaaGreatDoorJ21
import Derived.Test.YtpdodknldhbbhaaGreatDoorJ19
namespace Go.Proofs.YtpdodknldhbbhaaGreatDoor.Vc
set_option maxRecDepth 100000
open Go.RowKit Pp

/-- Does a parameter say how a value is written, or in which charset? -/
def sayHow (x : ByteArray × ByteArray) : Bool := tells x || decide (x.1.toList = [67, 72, 65, 82, 83, 69, 84])

theorem lineName_any (s : ByteArray) (w : World) : Calls Tryz.prog 58 #[.string s] w fun e w' => e = .returned (.bool (framed s)) ∧ w = w' := by
  by_cases h0 : s.toList = [66, 69, 71, 73, 78]
  · skip
    go_enter Tryz.func58, Tryz.ntmps58
    go_wp2_with fail
    go_ret
    exact ⟨by simp [framed, *], rfl⟩
  · skip
    by_cases h1 : s.toList = [69, 78, 68]
    · skip
      go_enter Tryz.func58, Tryz.ntmps58
      go_wp2_with fail
      go_ret
      exact ⟨by simp [framed, *], rfl⟩
    · skip
      by_cases h2 : s.toList = [86, 69, 82, 83, 73, 79, 78]
      · skip
        go_enter Tryz.func58, Tryz.ntmps58
        go_wp2_with fail
        go_ret
        exact ⟨by simp [framed, *], rfl⟩
      · skip
        go_enter Tryz.func58, Tryz.ntmps58
        go_wp2_with fail
        go_ret
        exact ⟨by simp [framed, *], rfl⟩

set_option maxHeartbeats 800000 in
theorem saysEnc_any (n v : ByteArray) (w : World) : Calls Tryz.prog 138 #[.agg #[.string n, .string v]] w fun e w' => e = .returned (.bool (tells (n, v))) ∧ Below w.heap.size w w' := by
  have BB : Below w.heap.size w (w.alloc (.cells #[.string n, .string v] 66)) := (Below.refl _ _).alloc (Nat.le_refl _) _
  have hxc : (w.alloc (.cells #[.string n, .string v] 66)).heap[w.heap.size]? = some (.cells #[.string n, .string v] 66) := heap_alloc_new w _
  have x0 := cell_of_row _ w.heap.size 0 _ _ _ hxc
  have x1 := cell_of_row _ w.heap.size 1 _ _ _ hxc
  clear hxc
  by_cases hz : n.size = 0
  · have hs0 := str_none hz
    have hne : ¬ n.toList = [69, 78, 67, 79, 68, 73, 78, 71] := fun h => by rw [h] at hs0; simp at hs0
    by_cases h0 : v.toList = [81, 85, 79, 84, 69, 68, 45, 80, 82, 73, 78, 84, 65, 66, 76, 69]
    · have b0 : (v.toList == [81, 85, 79, 84, 69, 68, 45, 80, 82, 73, 78, 84, 65, 66, 76, 69]) = true := by simp [h0]
      go_enter Tryz.func138, Tryz.ntmps138
      go_wp2_with fail
      go_ret
      exact ⟨by simp [tells, how, *], BB⟩
    · have b0 : (v.toList == [81, 85, 79, 84, 69, 68, 45, 80, 82, 73, 78, 84, 65, 66, 76, 69]) = false := by simpa using h0
      by_cases h1 : v.toList = [66, 65, 83, 69, 54, 52]
      · have b1 : (v.toList == [66, 65, 83, 69, 54, 52]) = true := by simp [h1]
        go_enter Tryz.func138, Tryz.ntmps138
        go_wp2_with fail
        go_ret
        exact ⟨by simp [tells, how, *], BB⟩
      · have b1 : (v.toList == [66, 65, 83, 69, 54, 52]) = false := by simpa using h1
        by_cases h2 : v.toList = [56, 66, 73, 84]
        · have b2 : (v.toList == [56, 66, 73, 84]) = true := by simp [h2]
          go_enter Tryz.func138, Tryz.ntmps138
          go_wp2_with fail
          go_ret
          exact ⟨by simp [tells, how, *], BB⟩
        · have b2 : (v.toList == [56, 66, 73, 84]) = false := by simpa using h2
          by_cases h3 : v.toList = [55, 66, 73, 84]
          · have b3 : (v.toList == [55, 66, 73, 84]) = true := by simp [h3]
            go_enter Tryz.func138, Tryz.ntmps138
            go_wp2_with fail
            go_ret
            exact ⟨by simp [tells, how, *], BB⟩
          · have b3 : (v.toList == [55, 66, 73, 84]) = false := by simpa using h3
            go_enter Tryz.func138, Tryz.ntmps138
            go_wp2_with fail
            go_ret
            exact ⟨by simp [tells, how, *], BB⟩
  · have hs0 := str_some hz
    by_cases he : n.toList = [69, 78, 67, 79, 68, 73, 78, 71]
    · have heb : (n.toList == [69, 78, 67, 79, 68, 73, 78, 71]) = true := by simp [he]
      go_enter Tryz.func138, Tryz.ntmps138
      go_wp2_with fail
      go_ret
      exact ⟨by simp [tells, *], BB⟩
    · have heb : (n.toList == [69, 78, 67, 79, 68, 73, 78, 71]) = false := by simpa using he
      go_enter Tryz.func138, Tryz.ntmps138
      go_wp2_with fail
      go_ret
      exact ⟨by simp [tells, *], BB⟩

set_option maxHeartbeats 800000 in
theorem saysHow_any (n v : ByteArray) (w : World) : Calls Tryz.prog 106 #[.agg #[.string n, .string v]] w fun e w' => e = .returned (.bool (sayHow (n, v))) ∧ Below w.heap.size w w' := by
  have BB : Below w.heap.size w (w.alloc (.cells #[.string n, .string v] 66)) := (Below.refl _ _).alloc (Nat.le_refl _) _
  have hxc : (w.alloc (.cells #[.string n, .string v] 66)).heap[w.heap.size]? = some (.cells #[.string n, .string v] 66) := heap_alloc_new w _
  have x0 := cell_of_row _ w.heap.size 0 _ _ _ hxc
  have x1 := cell_of_row _ w.heap.size 1 _ _ _ hxc
  have C := Lib.hid (saysEnc_any n v (w.alloc (.cells #[.string n, .string v] 66)))
  have HXC := Lib.hid hxc
  have HBB := Lib.hid BB
  have hlt : w.heap.size < (w.alloc (.cells #[.string n, .string v] 66)).heap.size := by rw [World.size_alloc]; omega
  have HLT := Lib.hid hlt
  clear hxc BB hlt
  unfold sayHow
  by_cases he : n.toList = [67, 72, 65, 82, 83, 69, 84]
  · have heb : (n.toList == [67, 72, 65, 82, 83, 69, 84]) = true := by simp [he]
    rw [decide_eq_true he, Bool.or_true]
    generalize tells (n, v) = t at C
    cases t
    · go_enter Tryz.func106, Tryz.ntmps106
      go_wp2_with (go_at_call 138; refine C.out.mono ?_; rintro e w1 ⟨rfl, b1⟩; have y0 := (b1.cell (p := ⟨w.heap.size, 0, none⟩) HLT.out).trans x0)
      go_ret
      exact ⟨rfl, HBB.out.trans (b1.mono (Nat.le_of_lt HLT.out))⟩
    · go_enter Tryz.func106, Tryz.ntmps106
      go_wp2_with (go_at_call 138; refine C.out.mono ?_; rintro e w1 ⟨rfl, b1⟩)
      go_ret
      exact ⟨rfl, HBB.out.trans (b1.mono (Nat.le_of_lt HLT.out))⟩
  · have heb : (n.toList == [67, 72, 65, 82, 83, 69, 84]) = false := by simpa using he
    rw [decide_eq_false he, Bool.or_false]
    generalize tells (n, v) = t at C
    cases t
    · go_enter Tryz.func106, Tryz.ntmps106
      go_wp2_with (go_at_call 138; refine C.out.mono ?_; rintro e w1 ⟨rfl, b1⟩; have y0 := (b1.cell (p := ⟨w.heap.size, 0, none⟩) HLT.out).trans x0)
      go_ret
      exact ⟨rfl, HBB.out.trans (b1.mono (Nat.le_of_lt HLT.out))⟩
    · go_enter Tryz.func106, Tryz.ntmps106
      go_wp2_with (go_at_call 138; refine C.out.mono ?_; rintro e w1 ⟨rfl, b1⟩)
      go_ret
      exact ⟨rfl, HBB.out.trans (b1.mono (Nat.le_of_lt HLT.out))⟩

/-- The bytes of a value that is written so. -/
def decW (m v : ByteArray) : ByteArray × Int :=
  if m.toList = [81, 85, 79, 84, 69, 68, 45, 80, 82, 73, 78, 84, 65, 66, 76, 69] then (⟨(Qu.dec v.data.toList).1.toArray⟩, (Qu.dec v.data.toList).2) else
  if m.toList = [66, 65, 83, 69, 54, 52] ∨ m.toList = [66] then (⟨(Sx.dec v.data.toList).1.toArray⟩, (Sx.dec v.data.toList).2) else
  if m.toList = [56, 66, 73, 84] ∨ m.toList = [55, 66, 73, 84] then (v, 0) else (⟨#[]⟩, 5)

set_option maxHeartbeats 800000 in
theorem decoded_any (m v : ByteArray) (w : World) (hv : v.size ≤ 1048576) (T : Qu.Tabs w) : Calls Tryz.prog 129 #[.string m, .string v] w fun e w' => e = .returned (.tuple #[.string (decW m v).1, .int .i64 (decW m v).2]) ∧ Below w.heap.size w w' := by
  have CQ := Lib.hid (fun (_ : Unit) => Qu.decode_any v w (by omega) T)
  have CS := Lib.hid (fun W => Sx.decode_any v (by omega) W)
  by_cases h0 : m.toList = [81, 85, 79, 84, 69, 68, 45, 80, 82, 73, 78, 84, 65, 66, 76, 69]
  · have b0 : (m.toList == [81, 85, 79, 84, 69, 68, 45, 80, 82, 73, 78, 84, 65, 66, 76, 69]) = true := by simp [h0]
    go_enter Tryz.func129, Tryz.ntmps129
    go_wp2_with fail
    refine (CQ.out ()).mono ?_
    rintro e w1 ⟨rfl, b1⟩
    go_wp2_with fail
    go_ret2
    exact ⟨by simp [decW, *], b1⟩
  · have b0 : (m.toList == [81, 85, 79, 84, 69, 68, 45, 80, 82, 73, 78, 84, 65, 66, 76, 69]) = false := by simpa using h0
    by_cases h1 : m.toList = [66, 65, 83, 69, 54, 52]
    · have b1 : (m.toList == [66, 65, 83, 69, 54, 52]) = true := by simp [h1]
      go_enter Tryz.func129, Tryz.ntmps129
      go_wp2_with fail
      refine (CS.out _).mono ?_
      rintro e w1 ⟨rfl, b1⟩
      go_wp2_with fail
      go_ret2
      exact ⟨by simp [decW, *], b1⟩
    · have b1 : (m.toList == [66, 65, 83, 69, 54, 52]) = false := by simpa using h1
      by_cases h2 : m.toList = [66]
      · have b2 : (m.toList == [66]) = true := by simp [h2]
        go_enter Tryz.func129, Tryz.ntmps129
        go_wp2_with fail
        refine (CS.out _).mono ?_
        rintro e w1 ⟨rfl, b1⟩
        go_wp2_with fail
        go_ret2
        exact ⟨by simp [decW, *], b1⟩
      · have b2 : (m.toList == [66]) = false := by simpa using h2
        by_cases h3 : m.toList = [56, 66, 73, 84]
        · have b3 : (m.toList == [56, 66, 73, 84]) = true := by simp [h3]
          go_enter Tryz.func129, Tryz.ntmps129
          go_wp2_with fail
          go_ret2
          exact ⟨by simp [decW, *], Below.refl _ _⟩
        · have b3 : (m.toList == [56, 66, 73, 84]) = false := by simpa using h3
          by_cases h4 : m.toList = [55, 66, 73, 84]
          · have b4 : (m.toList == [55, 66, 73, 84]) = true := by simp [h4]
            go_enter Tryz.func129, Tryz.ntmps129
            go_wp2_with fail
            go_ret2
            exact ⟨by simp [decW, *], Below.refl _ _⟩
          · have b4 : (m.toList == [55, 66, 73, 84]) = false := by simpa using h4
            go_enter Tryz.func129, Tryz.ntmps129
            go_wp2_with fail
            go_ret2
            exact ⟨by simp [decW, *], Below.refl _ _⟩

/-- The text that bytes say in the charset of a name. -/
def letC (nm v : ByteArray) : ByteArray × Int :=
  if Cs.named nm.data.toList = 0 then (⟨#[]⟩, 14) else (⟨(Cs.dec (Cs.named nm.data.toList) v.data.toList).1.toArray⟩, (Cs.dec (Cs.named nm.data.toList) v.data.toList).2)
set_option maxHeartbeats 800000 in
theorem lettersOf_any (nm v : ByteArray) (w : World) (hn : nm.size ≤ 140737488355328) (hv : v.size ≤ 1048576) (T : Cs.Tabs w) : Calls Tryz.prog 131 #[.string nm, .string v] w fun e w' => e = .returned (.tuple #[.string (letC nm v).1, .int .i64 (letC nm v).2]) ∧ Below w.heap.size w w' := by
  have CN := Lib.hid (Cs.named_any nm w hn)
  have CD := Lib.hid (fun k W (TW : Cs.Tabs W) => Cs.decode_turns k v (by omega) W TW)
  have HT := Lib.hid T
  unfold letC
  generalize Cs.named nm.data.toList = k at CN ⊢
  by_cases h0 : k = 0
  · subst h0
    rw [if_pos rfl]
    go_enter Tryz.func131, Tryz.ntmps131
    go_wp2_with fail
    refine CN.out.mono ?_
    rintro e w1 ⟨rfl, b1⟩
    go_wp2_with fail
    go_ret2
    exact ⟨rfl, b1⟩
  · have hkb : (k == 0) = false := by simpa using h0
    rw [if_neg h0]
    go_enter Tryz.func131, Tryz.ntmps131
    go_wp2_with fail
    refine CN.out.mono ?_
    rintro e w1 ⟨rfl, b1⟩
    have C2 := Lib.hid (CD.out k w1 (HT.out.on b1))
    go_wp2_with fail
    refine C2.out.mono ?_
    rintro e w2 h2
    obtain ⟨rfl, b2⟩ := h2
    go_wp2_with fail
    go_ret2
    exact ⟨rfl, b1.trans (b2.mono b1.size)⟩
end Go.Proofs.YtpdodknldhbbhaaGreatDoor.Vc

namespace Go.Proofs.YtpdodknldhbbhaaGreatDoor.Vc
set_option maxRecDepth 100000
open Go.RowKit Pp

theorem isPlain_any (s : ByteArray) (hs : s.size ≤ 140737488355328) (w : World) : Calls Tryz.prog 60 #[.string s] w fun e w' => e = .returned (.bool (plain s.data.toList)) ∧ w = w' := by
  obtain ⟨q, hq⟩ : ∃ q, plain s.data.toList = q := ⟨_, rfl⟩
  have H0 := Lib.hid (show (s.data.toList.drop 0).all plainB = q by rw [List.drop_zero]; exact hq)
  rw [hq]
  clear hq
  go_enter Tryz.func60, Tryz.ntmps60
  go_wp2_with fail
  go_loopw [6] (fun kv wr => ∃ k : Nat, kv = .int .i64 (k : Int) ∧ k ≤ s.size ∧ Hid ((s.data.toList.drop k).all plainB = q) ∧ w = wr) (fun kv _ => s.size - (intOf kv).toNat)
  case atStart => exact ⟨0, rfl, Nat.zero_le _, H0, rfl⟩
  case round =>
    obtain ⟨k, rfl, hk, hp, rfl⟩ := hrel
    by_cases hlt : k < s.size
    · have hk1 : (k : Int) < (s.size : Int) := by omega
      by_cases h1 : s[k].toNat < 32
      · have HE := Lib.hid (all_no hlt (by unfold plainB; simp; omega) hp.out)
        have h1z : (s[k].toNat : Int) < 32 := by omega
        go_wp2_with fail
        go_ret
        exact ⟨by rw [HE.out]; rfl, rfl⟩
      · have h1z : ¬ (s[k].toNat : Int) < 32 := by omega
        by_cases h2 : 126 < s[k].toNat
        · have HE := Lib.hid (all_no hlt (by unfold plainB; simp; omega) hp.out)
          have h2z : (126 : Int) < (s[k].toNat : Int) := by omega
          go_wp2_with fail
          go_ret
          exact ⟨by rw [HE.out]; rfl, rfl⟩
        · have HE := Lib.hid (all_yes hlt (by unfold plainB; simp; omega) hp.out)
          have h2z : ¬ (126 : Int) < (s[k].toNat : Int) := by omega
          go_wp2_with fail
          go_roundw
          case rel => exact ⟨k + 1, by go_num, by omega, HE, trivial⟩
          case measure => simp [intOf]; omega
    · have HE := Lib.hid (all_end hlt hp.out)
      go_wp2_with fail
      go_ret
      exact ⟨by rw [HE.out]; rfl, rfl⟩

theorem beq_dec (a b : List UInt8) : (a == b) = decide (a = b) := by
  by_cases h : a = b
  · rw [decide_eq_true h, h]; simp
  · rw [decide_eq_false h]; simpa using h
theorem up_caps (v : ByteArray) : (⟨(up v.data.toList).toArray⟩ : ByteArray).toList = List.map Cs.cap1 v.data.toList := by
  have h : List.map Cs.cap1 v.data.toList = up v.data.toList := rfl
  rw [h]; simp
theorem odd_says (n v : ByteArray) : oddP (n, v) = (sayHow (n, v) || (decide (n.size = 0) && !((⟨(up v.data.toList).toArray⟩ : ByteArray).toList == v.toList))) := by
  unfold oddP sayHow tells encL chsL
  simp only
  generalize ((⟨(up v.data.toList).toArray⟩ : ByteArray).toList == v.toList) = u
  generalize how v = h
  generalize decide (n.size = 0) = z
  rw [beq_dec n.toList [69, 78, 67, 79, 68, 73, 78, 71], beq_dec n.toList [67, 72, 65, 82, 83, 69, 84]]
  generalize decide (n.toList = [69, 78, 67, 79, 68, 73, 78, 71]) = a
  generalize decide (n.toList = [67, 72, 65, 82, 83, 69, 84]) = b
  cases a <;> cases b <;> cases z <;> cases h <;> cases u <;> rfl

/-- What a call leaves that began in the world w, behind its first block. -/
structure Kp (w W : World) : Prop where
  l : w.heap.size < W.heap.size
  b : Below w.heap.size w W
theorem Kp.below {w W W' : World} (h : Kp w W) (hb : Below W.heap.size W W') : Kp w W' := ⟨Nat.lt_of_lt_of_le h.l hb.size, h.b.trans (hb.mono h.b.size)⟩
theorem Kp.drewN {w W : World} (h : Kp w W) (q : Nat) : Kp w (W.drewN q) := h.below ⟨rfl, rfl, rfl, Nat.le_refl _, fun _ _ => rfl⟩
theorem Kp.drew {w W : World} (h : Kp w W) : Kp w W.drew := h.below ⟨rfl, rfl, rfl, Nat.le_refl _, fun _ _ => rfl⟩
end Go.Proofs.YtpdodknldhbbhaaGreatDoor.Vc
