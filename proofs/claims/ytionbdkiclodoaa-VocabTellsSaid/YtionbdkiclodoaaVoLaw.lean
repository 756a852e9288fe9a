/-
For every page, name and token the laws VocabTells and VocabOne return true and change nothing that was there. Conditions: the token is one of 256.
-/
import Derived.Test.YtionbdkiclodoaaVoNam
import Derived.Test.YtionbdkiclodoaaVoSpace
namespace Go.Proofs.Ytionbdkiclodoaa.Vo
set_option maxRecDepth 100000
open Go.RowKit Strs

theorem tok_sync : tok 0 [83, 121, 110, 99] = 42 := by decide +kernel
theorem tok_devinf : tok 2 [68, 101, 118, 73, 110, 102] = 10 := by decide +kernel
theorem tok_anchor : tok 0 [65, 110, 99, 104, 111, 114] = 0 := by decide +kernel
theorem nam_anchor : nam 1 5 = [65, 110, 99, 104, 111, 114] := by decide +kernel

set_option maxHeartbeats 2000000 in
theorem tells_law (p : Int) (n : ByteArray) (t : Nat) (ht : t < 256) (w : World) :
    Calls Try.prog 3 #[.int .i64 p, .string n, .int .u8 (t : Int)] w fun e W' => e = .returned (.bool true) ∧ Below w.heap.size w W' := by
  have C1 := Lib.hid (fun W => token_any p n W)
  have C2 := Lib.hid (fun W => refToken_any p n W)
  have C3 := Lib.hid (fun W => name_any p t W)
  have C4 := Lib.hid (fun W => refName_any p t ht W)
  have C5 := Lib.hid (fun W => space_any p W)
  have C6 := Lib.hid (fun W => refSpace_any p W)
  have C7 := Lib.hid (fun W => page_any n W)
  have C8 := Lib.hid (fun W => refPage_any n W)
  have C9 := Lib.hid (fun W => token_any 0 { data := #[83, 121, 110, 99] } W)
  rw [show (({ data := #[83, 121, 110, 99] } : ByteArray).data.toList) = [83, 121, 110, 99] from rfl, tok_sync] at C9
  generalize tok p n.data.toList = k1 at C1 C2
  generalize (⟨(nam p t).toArray⟩ : ByteArray) = k2 at C3 C4
  generalize (⟨(spc p).toArray⟩ : ByteArray) = k3 at C5 C6
  generalize pag n.data.toList = k4 at C7 C8
  have e1 : ((k1 : Int) == (k1 : Int)) = true := by simp
  have e2 : (k2.toList == k2.toList) = true := by simp
  have e3 : (k3.toList == k3.toList) = true := by simp
  have e4 : (k4 == k4) = true := by simp
  go_enter Try.func3, Try.ntmps3
  go_wp2_with fail
  refine (C1.out _).mono ?_
  rintro e w1 ⟨rfl, b1⟩
  go_wp2_with fail
  refine (C2.out _).mono ?_
  rintro e w2 ⟨rfl, b2⟩
  have B2 := b1.trans (b2.mono b1.size)
  go_wp2_with fail
  refine (C3.out _).mono ?_
  rintro e w3 ⟨rfl, b3⟩
  have B3 := B2.trans (b3.mono B2.size)
  go_wp2_with fail
  refine (C4.out _).mono ?_
  rintro e w4 ⟨rfl, b4⟩
  have B4 := B3.trans (b4.mono B3.size)
  go_wp2_with fail
  refine (C5.out _).mono ?_
  rintro e w5 ⟨rfl, rfl⟩
  go_wp2_with fail
  refine (C6.out _).mono ?_
  rintro e w6 ⟨rfl, rfl⟩
  go_wp2_with fail
  refine (C7.out _).mono ?_
  rintro e w7 ⟨rfl, rfl⟩
  go_wp2_with fail
  refine (C8.out _).mono ?_
  rintro e w8 ⟨rfl, rfl⟩
  go_wp2_with fail
  refine (C9.out _).mono ?_
  rintro e w9 ⟨rfl, b9⟩
  have B9 := B4.trans (b9.mono B4.size)
  go_wp2_with fail
  go_ret
  exact ⟨rfl, B9⟩

theorem toks_none {p : Int} (h : ¬ (0 ≤ p ∧ p ≤ 2)) : toks p = [] := by unfold toks; rw [wds_none h]; rfl
theorem nam_out {p : Int} (h : ¬ (0 ≤ p ∧ p ≤ 2)) (t : Nat) : nam p t = [] := nam_none fun x hx => by rw [toks_none h] at hx; simp at hx
theorem tok_out {p : Int} (h : ¬ (0 ≤ p ∧ p ≤ 2)) (n : List UInt8) : tok p n = 0 := tok_none fun x hx => by rw [toks_none h] at hx; simp at hx
theorem mk_empty {x : ByteArray} (h : x.data.toList = []) : x = { data := #[] } := by apply ByteArray.ext; apply Array.ext'; rw [h]

set_option maxHeartbeats 4000000 in
theorem one_law (p : Int) (n : ByteArray) (t : Nat) (ht : t < 256) (w : World) :
    Calls Try.prog 5 #[.int .i64 p, .string n, .int .u8 (t : Int)] w fun e W' => e = .returned (.bool true) ∧ Below w.heap.size w W' := by
  have C1 := Lib.hid (fun W => name_any p t W)
  have C2 := Lib.hid (fun W => token_any p n W)
  have C5 := Lib.hid (fun W => space_any p W)
  have C8 := Lib.hid (fun W => token_any 2 { data := #[68, 101, 118, 73, 110, 102] } W)
  rw [show (({ data := #[68, 101, 118, 73, 110, 102] } : ByteArray).data.toList) = [68, 101, 118, 73, 110, 102] from rfl, tok_devinf] at C8
  have C9 := Lib.hid (fun W => token_any 0 { data := #[65, 110, 99, 104, 111, 114] } W)
  rw [show (({ data := #[65, 110, 99, 104, 111, 114] } : ByteArray).data.toList) = [65, 110, 99, 104, 111, 114] from rfl, tok_anchor] at C9
  have eT : ((t : Int) == (t : Int)) = true := by simp
  have eN : (n.toList == n.toList) = true := by simp
  by_cases hp : 0 ≤ p ∧ p ≤ 2
  · have C6 := Lib.hid (fun W => page_any ⟨(spc p).toArray⟩ W)
    rw [mk_list, pag_spc hp.1 hp.2] at C6
    generalize (⟨(spc p).toArray⟩ : ByteArray) = sp at C5 C6
    have hp1 : ¬ p < 0 := by omega
    have hp2 : ¬ p > 2 := by omega
    have eP : (p == p) = true := by simp
    obtain ⟨s, hs⟩ : ∃ s, (⟨(nam p t).toArray⟩ : ByteArray) = s := ⟨_, rfl⟩
    have hsl : s.data.toList = nam p t := by rw [← hs]
    have C3 := Lib.hid (fun W => token_any p s W)
    have C4 := Lib.hid (fun W => name_any p (tok p n.data.toList) W)
    have o1 : nam p t ≠ [] → tok p s.data.toList = t := fun h => by rw [hsl]; exact one_tok p t h
    have o2 : tok p n.data.toList ≠ 0 → (⟨(nam p (tok p n.data.toList)).toArray⟩ : ByteArray) = n := fun h => by rw [one_nam p _ h, str_mk]
    have hk := tok_lt p n.data.toList
    rw [hs] at C1
    rw [← hsl] at o1
    generalize tok p n.data.toList = k at C2 C4 o2 hk
    generalize tok p s.data.toList = k3 at C3 o1
    generalize (⟨(nam p k).toArray⟩ : ByteArray) = s4 at C4 o2
    clear hs hsl hp
    by_cases h1 : s.data.toList = []
    · have hsne := str_none h1
      by_cases h2 : k = 0
      · have hk0 : ((k : Int) == 0) = true := by simp; omega
        clear o1 o2 C3 C4 h1
        go_enter Try.func5, Try.ntmps5
        go_wp2_with fail
        refine (C1.out _).mono ?_
        rintro e w1 ⟨rfl, b1⟩
        go_wp2_with fail
        refine (C2.out _).mono ?_
        rintro e w2 ⟨rfl, b2⟩
        have B2 := b1.trans (b2.mono b1.size)
        go_wp2_with fail
        refine (C5.out _).mono ?_
        rintro e w5 ⟨rfl, rfl⟩
        go_wp2_with fail
        refine (C6.out _).mono ?_
        rintro e w6 ⟨rfl, rfl⟩
        go_wp2_with fail
        refine (C8.out _).mono ?_
        rintro e w8 ⟨rfl, b8⟩
        have B8 := B2.trans (b8.mono B2.size)
        go_wp2_with fail
        refine (C9.out _).mono ?_
        rintro e w9 ⟨rfl, b9⟩
        have B9 := B8.trans (b9.mono B8.size)
        go_wp2_with fail
        go_ret
        exact ⟨rfl, B9⟩
      · have hk0 : ((k : Int) == 0) = false := by simp; omega
        obtain rfl := o2 h2
        clear o1 o2 C3 h1
        go_enter Try.func5, Try.ntmps5
        go_wp2_with fail
        refine (C1.out _).mono ?_
        rintro e w1 ⟨rfl, b1⟩
        go_wp2_with fail
        refine (C2.out _).mono ?_
        rintro e w2 ⟨rfl, b2⟩
        have B2 := b1.trans (b2.mono b1.size)
        go_wp2_with fail
        refine (C4.out _).mono ?_
        rintro e w3 ⟨rfl, b3⟩
        have B2 := B2.trans (b3.mono B2.size)
        go_wp2_with fail
        refine (C5.out _).mono ?_
        rintro e w5 ⟨rfl, rfl⟩
        go_wp2_with fail
        refine (C6.out _).mono ?_
        rintro e w6 ⟨rfl, rfl⟩
        go_wp2_with fail
        refine (C8.out _).mono ?_
        rintro e w8 ⟨rfl, b8⟩
        have B8 := B2.trans (b8.mono B2.size)
        go_wp2_with fail
        refine (C9.out _).mono ?_
        rintro e w9 ⟨rfl, b9⟩
        have B9 := B8.trans (b9.mono B8.size)
        go_wp2_with fail
        go_ret
        exact ⟨rfl, B9⟩
    · have hsne := str_full h1
      obtain rfl := o1 h1
      by_cases h2 : k = 0
      · have hk0 : ((k : Int) == 0) = true := by simp; omega
        clear o1 o2 C4 h1
        go_enter Try.func5, Try.ntmps5
        go_wp2_with fail
        refine (C1.out _).mono ?_
        rintro e w1 ⟨rfl, b1⟩
        go_wp2_with fail
        refine (C2.out _).mono ?_
        rintro e w2 ⟨rfl, b2⟩
        have B2 := b1.trans (b2.mono b1.size)
        go_wp2_with fail
        refine (C3.out _).mono ?_
        rintro e w3 ⟨rfl, b3⟩
        have B2 := B2.trans (b3.mono B2.size)
        go_wp2_with fail
        refine (C5.out _).mono ?_
        rintro e w5 ⟨rfl, rfl⟩
        go_wp2_with fail
        refine (C6.out _).mono ?_
        rintro e w6 ⟨rfl, rfl⟩
        go_wp2_with fail
        refine (C8.out _).mono ?_
        rintro e w8 ⟨rfl, b8⟩
        have B8 := B2.trans (b8.mono B2.size)
        go_wp2_with fail
        refine (C9.out _).mono ?_
        rintro e w9 ⟨rfl, b9⟩
        have B9 := B8.trans (b9.mono B8.size)
        go_wp2_with fail
        go_ret
        exact ⟨rfl, B9⟩
      · have hk0 : ((k : Int) == 0) = false := by simp; omega
        obtain rfl := o2 h2
        clear o1 o2 h1
        go_enter Try.func5, Try.ntmps5
        go_wp2_with fail
        refine (C1.out _).mono ?_
        rintro e w1 ⟨rfl, b1⟩
        go_wp2_with fail
        refine (C2.out _).mono ?_
        rintro e w2 ⟨rfl, b2⟩
        have B2 := b1.trans (b2.mono b1.size)
        go_wp2_with fail
        refine (C3.out _).mono ?_
        rintro e w3 ⟨rfl, b3⟩
        have B2 := B2.trans (b3.mono B2.size)
        go_wp2_with fail
        refine (C4.out _).mono ?_
        rintro e w4 ⟨rfl, b4⟩
        have B2 := B2.trans (b4.mono B2.size)
        go_wp2_with fail
        refine (C5.out _).mono ?_
        rintro e w5 ⟨rfl, rfl⟩
        go_wp2_with fail
        refine (C6.out _).mono ?_
        rintro e w6 ⟨rfl, rfl⟩
        go_wp2_with fail
        refine (C8.out _).mono ?_
        rintro e w8 ⟨rfl, b8⟩
        have B8 := B2.trans (b8.mono B2.size)
        go_wp2_with fail
        refine (C9.out _).mono ?_
        rintro e w9 ⟨rfl, b9⟩
        have B9 := B8.trans (b9.mono B8.size)
        go_wp2_with fail
        go_ret
        exact ⟨rfl, B9⟩
  · rw [nam_out hp] at C1
    rw [tok_out hp] at C2
    by_cases hp1 : p < 0
    · go_enter Try.func5, Try.ntmps5
      go_wp2_with fail
      refine (C1.out _).mono ?_
      rintro e w1 ⟨rfl, b1⟩
      go_wp2_with fail
      refine (C2.out _).mono ?_
      rintro e w2 ⟨rfl, b2⟩
      have B2 := b1.trans (b2.mono b1.size)
      go_wp2_with fail
      go_ret
      exact ⟨rfl, B2⟩
    · have hp2 : p > 2 := by omega
      go_enter Try.func5, Try.ntmps5
      go_wp2_with fail
      refine (C1.out _).mono ?_
      rintro e w1 ⟨rfl, b1⟩
      go_wp2_with fail
      refine (C2.out _).mono ?_
      rintro e w2 ⟨rfl, b2⟩
      have B2 := b1.trans (b2.mono b1.size)
      go_wp2_with fail
      go_ret
      exact ⟨rfl, B2⟩

theorem tells_at (p : Int) (n : ByteArray) (t : Int) (h0 : 0 ≤ t) (h1 : t ≤ 255) (w : World) :
    Calls Try.prog 3 #[.int .i64 p, .string n, .int .u8 t] w fun e W' => e = .returned (.bool true) ∧ Below w.heap.size w W' := by
  obtain ⟨k, rfl⟩ := Int.eq_ofNat_of_zero_le h0
  exact tells_law p n k (by omega) w
theorem one_at (p : Int) (n : ByteArray) (t : Int) (h0 : 0 ≤ t) (h1 : t ≤ 255) (w : World) :
    Calls Try.prog 5 #[.int .i64 p, .string n, .int .u8 t] w fun e W' => e = .returned (.bool true) ∧ Below w.heap.size w W' := by
  obtain ⟨k, rfl⟩ := Int.eq_ofNat_of_zero_le h0
  exact one_law p n k (by omega) w
end Go.Proofs.Ytionbdkiclodoaa.Vo
