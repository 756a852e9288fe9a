/-
Texts joined in one file, each with its own conditions: figure.Unhex answers what the plain function 'unhex' says. Conditions: the text has at most 2^40 bytes. · Whether a byte is plain: the program's and the document's answers are the plain function's. Conditions: the place lies within the text. · Small letters read as capitals, by the program: the answer is the plain function's. Conditions: the text has at most 2^47 bytes. · The program's and the document's answers to names of charsets are the plain function's. Conditions: the name has at most 2^47 bytes.
-/
import Derived.Test.YtpdodknldhbbhaaGreatDoorJ06
import Derived.Test.YtpdodknldhbbhaaGreatDoorJ03
import Derived.RegionTactic
import Derived.IntWalk
namespace Go.Proofs.YtpdodknldhbbhaaGreatDoor.Fig
set_option maxRecDepth 100000
open Go.RowKit

theorem ret_u8b {a b : Int} {c : Bool} (h : b = a) : Ending.returned (.tuple #[.int .u8 a, .bool c]) = .returned (.tuple #[.int .u8 b, .bool c]) := by rw [h]
theorem hexValue_yes (x : Int) (w : World) (h0 : 0 ≤ x) (h2 : x ≤ 255) (h : 0 ≤ hvI x) :
    Calls Tryz.prog 193 #[.int .u8 x] w fun e w' => e = .returned (.tuple #[.int .u8 (hvI x), .bool true]) ∧ w = w' := by
  by_cases hd : 48 ≤ x ∧ x ≤ 57
  · have H := Lib.hid (hvI_dec hd)
    clear h
    go_enter Tryz.func193, Tryz.ntmps193
    go_wp2
    go_ret2
    exact ⟨ret_u8b H.out, rfl⟩
  · by_cases ha : 65 ≤ x ∧ x ≤ 70
    · have H := Lib.hid (hvI_alpha ha)
      clear h
      go_enter Tryz.func193, Tryz.ntmps193
      go_wp2
      go_ret2
      exact ⟨ret_u8b (by rw [H.out]; omega), rfl⟩
    · rw [hvI_no hd ha] at h; omega
theorem hexValue_no (x : Int) (w : World) (h0 : 0 ≤ x) (h2 : x ≤ 255) (h : hvI x < 0) :
    Calls Tryz.prog 193 #[.int .u8 x] w fun e w' => e = .returned (.tuple #[.int .u8 0, .bool false]) ∧ w = w' := by
  have hd : ¬ (48 ≤ x ∧ x ≤ 57) := fun hd => by rw [hvI_dec hd] at h; omega
  have ha : ¬ (65 ≤ x ∧ x ≤ 70) := fun hd => by rw [hvI_alpha hd] at h; omega
  clear h
  go_enter Tryz.func193, Tryz.ntmps193
  go_wp2
  all_goals (go_ret2; exact ⟨rfl, rfl⟩)

/-- What the walk's slot for the higher half holds behind k bytes. -/
def High (s : ByteArray) (k : Nat) (h : Int) : Prop := ∀ (_ : k % 2 = 1) (hk : k - 1 < s.size), h = hv s[k - 1]
/-- The first k bytes are digits. -/
def Digs (s : ByteArray) (k : Nat) : Prop := ∀ i (_ : i < k) (hi : i < s.size), 0 ≤ hv s[i]
theorem Digs.next {s : ByteArray} {k : Nat} (h : Digs s k) (hk : k < s.size) (hc : 0 ≤ hv s[k]) : Digs s (k + 1) := fun i hi hs => by
  by_cases e : i = k
  · subst e; exact hc
  · exact h i (by omega) hs
theorem Digs.all {s : ByteArray} {k : Nat} (h : Digs s k) (hk : ¬ k < s.size) : ∀ i (hi : i < s.size), 0 ≤ hv s[i] := fun i hi => h i (by omega) hi

set_option maxHeartbeats 800000 in
theorem unhex_any (s : ByteArray) (w : World) (hs : s.size ≤ 1099511627776) :
    Calls Tryz.prog 188 #[.string s] w fun e w' => e = .returned (.tuple #[.string ⟨(unhex s.data.toList).1.toArray⟩, .int .i64 (unhex s.data.toList).2]) ∧ Below w.heap.size w w' := by
  obtain ⟨i0, hi, hz0, hz1, hz2⟩ := info_parts Bytes.infoByte
  go_enter Tryz.func188, Tryz.ntmps188
  go_wp2
  go_loopw [4, 5, 11] (fun v hg i wr => ∃ (k : Nat) (h : Int), k ≤ s.size ∧ i = .int .i64 k ∧ hg = .int .u8 h ∧ (0 ≤ h ∧ h ≤ 15) ∧ High s k h ∧ Digs s k ∧ Bytes.Has wr w.heap.size v (pairs (s.data.toList.take k)) ∧ Below w.heap.size w wr) (fun _ _ i _ => s.size - (intOf i).toNat)
  case atStart => exact ⟨0, 0, Nat.zero_le _, rfl, rfl, by omega, fun h => by omega, fun _ h => by omega, Bytes.Has.nil _ _, Below.refl _ _⟩
  case round =>
    obtain ⟨k, h, hk, rfl, rfl, ⟨hh0, hh1⟩, hH, hD, hown, hbel⟩ := hrel
    by_cases hlt : k < s.size
    · have hb : s[k].toNat < 256 := s[k].toNat_lt
      have hx2 : hv s[k] ≤ 15 := (hv_bd s[k]).2
      by_cases hx0 : 0 ≤ hv s[k]
      · have hD' := hD.next hlt hx0
        have C : Hid (∀ W : World, Calls Tryz.prog 193 #[.int .u8 (s[k].toNat : Int)] W fun e w' => e = .returned (.tuple #[.int .u8 (hv s[k]), .bool true]) ∧ W = w') := fun W =>
          hexValue_yes _ W (by omega) (by omega) hx0
        obtain ⟨x, hx⟩ : ∃ x, hv s[k] = x := ⟨_, rfl⟩
        by_cases h2 : k % 2 = 0
        · have hb2 : ((k : Int) % 2 == 0) = true := by simp; omega
          have hp := Lib.hid (tk_pairs_odd s k hlt h2)
          have hH' : High s (k + 1) x := fun _ _ => hx.symm
          rw [hx] at C hx0 hx2
          have HX := Lib.hid hx
          clear hx
          go_wp2_with (go_at_call 193; refine (C.out _).mono ?_; rintro e w' ⟨rfl, rfl⟩)
          go_roundw
          case rel => exact ⟨k + 1, x, by omega, by go_num, rfl, ⟨hx0, hx2⟩, hH', hD', by rw [hp.out]; exact hown, hbel⟩
          case measure => simp [intOf]; omega
        · have hb2 : ((k : Int) % 2 == 0) = false := by simp; omega
          obtain ⟨j, rfl⟩ : ∃ j, k = j + 1 := ⟨k - 1, by omega⟩
          have hhj : h = hv s[j] := hH (by omega) (by omega)
          have hp := tk_pairs_even s j hlt (by omega)
          rw [hx, ← hhj] at hp
          have hpo := tk_pairs_odd s j (by omega) (by omega)
          rw [← hpo] at hp
          have hlen : (pairs (s.data.toList.take (j + 1))).length ≤ s.size := by rw [pairs_length, tk_len s _ hk]; omega
          have hor := or16 h x hh0 (by omega) (by omega) (by omega)
          have hbt := byte_of (x := 16 * h + x) (by omega)
          generalize pairs (s.data.toList.take (j + 1)) = l at hown hp hlen
          have hH' : ∀ y, High s (j + 1 + 1) y := fun y e => by omega
          generalize UInt8.ofNat (16 * h + x).toNat = c at hp hbt
          rw [← hbt] at hor
          have HP := Lib.hid hp
          have hz := hbel.size
          have hA : l.length + 1 ≤ maxLen := by unfold maxLen; omega
          have hB : (l.length + 1) * 1 ≤ 140737488355328 := by omega
          rw [hx] at C hx0 hx2
          have hown0 := Lib.hid hown
          clear hp hbt hx hhj hpo hH hlen
          go_wp2_with (first | (go_at_call 193; refine (C.out _).mono ?_; rintro e w' ⟨rfl, rfl⟩) | (at_builtin; refine wpList_append_own _ rfl _ _ 60 rfl w.heap.size 5 i0 (.int .u8 0) 1 1 Tryz.underlying60 hi hz0 hz1 hz2 rfl Bytes.one_pos _ _ _ rfl (hown.alloc _) ⟨wr.heap.size, 0, none⟩ 1 1 [.int .u8 c.toNat] rfl rfl (World.news_of_block (cs := #[.int .u8 c.toNat]) (t := 5) (fr := (0, 0)) (heap_alloc_new wr _)) (by simp [Value.oneCell']) hA hB (Bytes.base_ok' hz _) ?_; intro v' w1 hown' hgrow _))
          go_roundw
          case rel => exact ⟨j + 1 + 1, h, by omega, by go_num, rfl, ⟨hh0, hh1⟩, hH' _, hD', by rw [HP.out]; exact Bytes.Has.laid1 hown', Bytes.Has.below hown0.out hbel hz _ hgrow⟩
          case measure => simp [intOf]; omega
      · have hr := Lib.hid (ux_field hlt (by omega))
        have C : Hid (∀ W : World, Calls Tryz.prog 193 #[.int .u8 (s[k].toNat : Int)] W fun e w' => e = .returned (.tuple #[.int .u8 0, .bool false]) ∧ W = w') := fun W =>
          hexValue_no _ W (by omega) (by omega) (by unfold hv at hx0; omega)
        clear hx0 hx2
        go_wp2_with (go_at_call 193; refine (C.out _).mono ?_; rintro e w' ⟨rfl, rfl⟩)
        go_ret2
        exact ⟨retS hr.out, hbel⟩
    · have hc := hown.text
      by_cases h2 : s.size % 2 = 1
      · have hr := Lib.hid (ux_short (hD.all hlt) h2)
        have hb2 : ((s.size : Int) % 2 == 1) = true := by simp; omega
        go_wp2
        go_ret2
        exact ⟨retS hr.out, hbel⟩
      · have hr := ux_ok (hD.all hlt) (by omega)
        have hb2 : ((s.size : Int) % 2 == 1) = false := by simp; omega
        rw [List.take_of_length_le (by simp; omega)] at hc
        have HR := Lib.hid hr
        clear hr
        go_wp2
        go_ret2
        exact ⟨retS HR.out, hbel⟩
end Go.Proofs.YtpdodknldhbbhaaGreatDoor.Fig

namespace Go.Proofs.YtpdodknldhbbhaaGreatDoor.Qu
open Go.RowKit Fig

theorem ret_bool {a b : Bool} (h : a = b) : Ending.returned (.bool a) = .returned (.bool b) := by rw [h]

theorem isInk_any (c : UInt8) (w : World) :
    Calls Tryz.prog 147 #[.int .u8 (c.toNat : Int)] w fun e w' => e = .returned (.bool (ink c)) ∧ w = w' := by
  have hb := c.toNat_lt
  go_enter Tryz.func147, Tryz.ntmps147
  go_wp2
  all_goals (go_ret; exact ⟨ret_bool (by unfold ink; rw [Bool.eq_iff_iff]; simp; try omega), rfl⟩)
theorem isBlank_any (c : UInt8) (w : World) :
    Calls Tryz.prog 148 #[.int .u8 (c.toNat : Int)] w fun e w' => e = .returned (.bool (blank c)) ∧ w = w' := by
  have hb := c.toNat_lt
  go_enter Tryz.func148, Tryz.ntmps148
  go_wp2
  all_goals (go_ret; exact ⟨ret_bool (by unfold blank; rw [Bool.eq_iff_iff]; simp; try omega), rfl⟩)

theorem plainAt_any (s : ByteArray) (k : Nat) (hk : k < s.size) (w : World) (hs : s.size ≤ 1099511627776) :
    Calls Tryz.prog 108 #[.string s, .int .i64 (k : Int)] w fun e w' => e = .returned (.bool (plainB s[k] (decide (k + 1 < s.size)))) ∧ w = w' := by
  have C1 := Lib.hid (fun W => isInk_any s[k] W)
  have C2 := Lib.hid (fun W => isBlank_any s[k] W)
  unfold plainB
  generalize ink s[k] = p at C1 ⊢
  generalize blank s[k] = q at C2 ⊢
  cases p <;> cases q <;>
  · go_enter Tryz.func108, Tryz.ntmps108
    go_wp2_with (first | (go_at_call 147; refine (C1.out _).mono ?_; rintro e w' ⟨rfl, rfl⟩) | (go_at_call 148; refine (C2.out _).mono ?_; rintro e w' ⟨rfl, rfl⟩))
    all_goals (go_ret; exact ⟨ret_bool (by simp; try omega), rfl⟩)

end Go.Proofs.YtpdodknldhbbhaaGreatDoor.Qu

namespace Go.Proofs.YtpdodknldhbbhaaGreatDoor.Cs
open Go.RowKit Bytes

theorem list_size (s : ByteArray) : s.data.toList.length = s.size := by rw [Array.length_toList]; rfl

set_option maxHeartbeats 800000 in
theorem caps_any (s : ByteArray) (w : World) (hs : s.size ≤ 140737488355328) :
    Calls Tryz.prog 52 #[.string s] w fun e w' => e = .returned (.string ⟨(s.data.toList.map cap1).toArray⟩) ∧ Below w.heap.size w w' := by
  obtain ⟨cap, w2, hrun, hrow, b2⟩ := bytes_new w s
  have HA : Hid (∀ k, k < s.size → ∃ c, (capK s.data.toList k)[k]? = some c ∧ (capK s.data.toList k).set k (cap1 c) = capK s.data.toList (k + 1) ∧ (cap1 c = c → capK s.data.toList (k + 1) = capK s.data.toList k)) :=
    Lib.hid (fun k h => ⟨_, capK_at (by rw [list_size]; exact h), capK_set (by rw [list_size]; exact h), capK_same (by rw [list_size]; exact h)⟩)
  have HE := Lib.hid (capK_all (l := s.data.toList) (k := s.size) (by rw [list_size]; exact Nat.le_refl _))
  have HL := Lib.hid (fun k => show (capK s.data.toList k).length = s.size by rw [capK_length, list_size])
  rw [← capK_zero s.data.toList] at hrow
  generalize s.data.toList = l at HA HE HL hrow ⊢
  go_enter Tryz.func52, Tryz.ntmps52
  go_wp2_with fail
  clear hrun
  go_loopw [10] (fun iv wr => ∃ k : Nat, k ≤ s.size ∧ iv = .int .i64 k ∧ Row wr w.heap.size (capK l k) ∧ Below w.heap.size w wr) (fun iv _ => s.size - (intOf iv).toNat)
  case atStart => exact ⟨0, Nat.zero_le _, rfl, hrow, b2⟩
  case round =>
    obtain ⟨k, hk, rfl, hrow, hbel⟩ := hrel
    by_cases hlt : k < s.size
    · obtain ⟨c, hc0, hset, hsame⟩ := HA.out k hlt
      obtain ⟨c', hc, hcell, hfr⟩ := hrow.at_ (by rw [HL.out]; exact hlt : k < _)
      obtain rfl : c' = c := by rw [hc0] at hc; exact (Option.some.inj hc).symm
      have HC := Lib.hid hset
      have HC2 := Lib.hid hsame
      have hc8 := c'.toNat_lt
      clear hc0 hc hset hsame
      by_cases hlo : 97 ≤ (c'.toNat : Int)
      · by_cases hhi : (c'.toNat : Int) ≤ 122
        · have HN := Lib.hid (cap1_yes hlo hhi)
          go_wp2_with fail
          go_roundw
          case rel => exact ⟨k + 1, by omega, by go_num, by have h := hrow.set k (cap1 c'); rw [HC.out, HN.out] at h; rw [show (c'.toNat : Int) - 97 + 65 = (c'.toNat : Int) - 32 by omega]; exact h, hbel.setCell (Nat.le_refl _) _⟩
          case measure => simp [intOf]; omega
        · have HN := Lib.hid (HC2.out (cap1_no (fun h => hhi h.2)))
          go_wp2_with fail
          go_roundw
          case rel => exact ⟨k + 1, by omega, by go_num, by rw [HN.out]; exact hrow, hbel⟩
          case measure => simp [intOf]; omega
      · have HN := Lib.hid (HC2.out (cap1_no (fun h => hlo h.1)))
        go_wp2_with fail
        go_roundw
        case rel => exact ⟨k + 1, by omega, by go_num, by rw [HN.out]; exact hrow, hbel⟩
        case measure => simp [intOf]; omega
    · obtain rfl : k = s.size := by omega
      rw [HE.out] at hrow
      have htx := hrow.text (cap := cap) (n := s.size) (by rw [← HE.out, HL.out])
      go_wp2_with fail
      go_ret
      exact ⟨rfl, hbel⟩
end Go.Proofs.YtpdodknldhbbhaaGreatDoor.Cs

namespace Go.Proofs.YtpdodknldhbbhaaGreatDoor.Cs
open Go.RowKit Bytes

theorem name_any (k : Int) (w : World) :
    Calls Tryz.prog 62 #[.int .i64 k] w fun e w' => e = .returned (.string (nm k)) ∧ w = w' := by
  have h : k = 1 ∨ k = 2 ∨ k = 3 ∨ (¬ k = 1 ∧ ¬ k = 2 ∧ ¬ k = 3) := by omega
  rcases h with rfl | rfl | rfl | ⟨h1, h2, h3⟩
  · go_enter Tryz.func62, Tryz.ntmps62
    go_wp2
    go_ret
    exact ⟨rfl, rfl⟩
  · go_enter Tryz.func62, Tryz.ntmps62
    go_wp2
    go_ret
    exact ⟨rfl, rfl⟩
  · go_enter Tryz.func62, Tryz.ntmps62
    go_wp2
    go_ret
    exact ⟨rfl, rfl⟩
  · have H := Lib.hid (show nm k = ⟨#[]⟩ by unfold nm; rw [if_neg h1, if_neg h2, if_neg h3])
    go_enter Tryz.func62, Tryz.ntmps62
    go_wp2
    go_ret
    exact ⟨by rw [H.out]; rfl, rfl⟩
set_option maxHeartbeats 400000 in
theorem named_any (s : ByteArray) (w : World) (hs : s.size ≤ 140737488355328) :
    Calls Tryz.prog 158 #[.string s] w fun e w' => e = .returned (.int .i64 (named s.data.toList)) ∧ Below w.heap.size w w' := by
  have C := Lib.hid (fun W => caps_any s W hs)
  unfold named
  generalize (⟨(s.data.toList.map cap1).toArray⟩ : ByteArray) = u at C ⊢
  have N := Lib.hid (fun k W => name_any k W)
  obtain ⟨r, hr⟩ : ∃ r, whichN u = r := ⟨_, rfl⟩
  rw [hr]
  have HR : Hid (∀ k, 1 ≤ k → k ≤ 3 → (∀ j, 1 ≤ j → j < k → ((nm j).toList == u.toList) = false) → ((nm k).toList == u.toList) = true → r = k) := Lib.hid (by
    intro k k1 k3 hj hk
    rw [← hr]; unfold whichN
    have sw : ∀ j, (u.toList == (nm j).toList) = ((nm j).toList == u.toList) := fun j => by rw [Bool.eq_iff_iff]; simp only [beq_iff_eq]; exact eq_comm
    rw [sw, sw, sw]
    rcases (by omega : k = 1 ∨ k = 2 ∨ k = 3) with rfl | rfl | rfl
    · rw [if_pos hk]
    · rw [hj 1 (by omega) (by omega), if_neg (by simp), if_pos hk]
    · rw [hj 1 (by omega) (by omega), hj 2 (by omega) (by omega), if_neg (by simp), if_neg (by simp), if_pos hk])
  have HZ : Hid ((∀ j, 1 ≤ j → j < 4 → ((nm j).toList == u.toList) = false) → r = 0) := Lib.hid (by
    intro hj
    rw [← hr]; unfold whichN
    have sw : ∀ j, (u.toList == (nm j).toList) = ((nm j).toList == u.toList) := fun j => by rw [Bool.eq_iff_iff]; simp only [beq_iff_eq]; exact eq_comm
    rw [sw, sw, sw, hj 1 (by omega) (by omega), hj 2 (by omega) (by omega), hj 3 (by omega) (by omega), if_neg (by simp), if_neg (by simp), if_neg (by simp)])
  clear hr
  go_enter Tryz.func158, Tryz.ntmps158
  go_wp2_with fail
  refine (C.out _).mono ?_
  rintro e w1 ⟨rfl, b1⟩
  go_wp2_with fail
  go_loop [4] (fun iv => ∃ k : Int, iv = .int .i64 k ∧ 1 ≤ k ∧ k ≤ 4 ∧ Hid (∀ j, 1 ≤ j → j < k → ((nm j).toList == u.toList) = false)) (fun iv => (4 - intOf iv).toNat)
  case atStart => exact ⟨1, rfl, by omega, by omega, Lib.hid (fun j h1 h2 => by omega)⟩
  case round =>
    obtain ⟨k, rfl, k1, k4, hj⟩ := hrel
    by_cases hlt : k ≤ 3
    · by_cases he : ((nm k).toList == u.toList) = true
      · obtain rfl := HR.out k k1 hlt hj.out he
        go_wp2_with fail
        refine (N.out _ _).mono ?_
        rintro e w2 ⟨rfl, rfl⟩
        go_wp2_with fail
        go_ret
        exact ⟨rfl, b1⟩
      · have hf : ((nm k).toList == u.toList) = false := by simpa using he
        have HF := Lib.hid (show ∀ j, 1 ≤ j → j < k + 1 → ((nm j).toList == u.toList) = false from fun j h1 h2 => by
          by_cases e : j = k
          · rw [e]; exact hf
          · exact hj.out j h1 (by omega))
        clear he
        go_wp2_with fail
        refine (N.out _ _).mono ?_
        rintro e w2 ⟨rfl, rfl⟩
        go_wp2_with fail
        go_round
        case rel => exact ⟨k + 1, by go_num, by omega, by omega, HF⟩
        case measure => simp [intOf]; omega
    · obtain rfl : k = 4 := by omega
      obtain rfl := HZ.out hj.out
      go_wp2_with fail
      go_ret
      exact ⟨rfl, b1⟩

end Go.Proofs.YtpdodknldhbbhaaGreatDoor.Cs
