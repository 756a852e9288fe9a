/-
Namespaces, as the program and the document have them. No conditions: any page, any text.
-/
import Derived.Test.YtionbdkiclodoaaVoRefs
namespace Go.Proofs.Ytionbdkiclodoaa.Vo
set_option maxRecDepth 100000
open Go.RowKit Strs

theorem spc_other {p : Int} (h0 : ¬ p = 0) (h1 : ¬ p = 1) (h2 : ¬ p = 2) : spc p = [] := by unfold spc; rw [if_neg h0, if_neg h1, if_neg h2]

theorem space_any (p : Int) (w : World) :
    Calls Try.prog 10 #[.int .i64 p] w fun e w' => e = .returned (.string ⟨(spc p).toArray⟩) ∧ w = w' := by
  have h : p = 0 ∨ p = 1 ∨ p = 2 ∨ (¬ p = 0 ∧ ¬ p = 1 ∧ ¬ p = 2) := by omega
  rcases h with rfl | rfl | rfl | ⟨h0, h1, h2⟩
  · go_enter Try.func10, Try.ntmps10
    go_wp2
    go_ret
    exact ⟨rfl, rfl⟩
  · go_enter Try.func10, Try.ntmps10
    go_wp2
    go_ret
    exact ⟨rfl, rfl⟩
  · go_enter Try.func10, Try.ntmps10
    go_wp2
    go_ret
    exact ⟨rfl, rfl⟩
  · rw [spc_other h0 h1 h2]
    go_enter Try.func10, Try.ntmps10
    go_wp2
    go_ret
    exact ⟨rfl, rfl⟩

theorem refSpace_any (p : Int) (w : World) :
    Calls Try.prog 11 #[.int .i64 p] w fun e w' => e = .returned (.string ⟨(spc p).toArray⟩) ∧ w = w' := by
  have h : p = 0 ∨ p = 1 ∨ p = 2 ∨ (¬ p = 0 ∧ ¬ p = 1 ∧ ¬ p = 2) := by omega
  rcases h with rfl | rfl | rfl | ⟨h0, h1, h2⟩
  · go_enter Try.func11, Try.ntmps11
    go_wp2
    go_ret
    exact ⟨rfl, rfl⟩
  · go_enter Try.func11, Try.ntmps11
    go_wp2
    go_ret
    exact ⟨rfl, rfl⟩
  · go_enter Try.func11, Try.ntmps11
    go_wp2
    go_ret
    exact ⟨rfl, rfl⟩
  · rw [spc_other h0 h1 h2]
    go_enter Try.func11, Try.ntmps11
    go_wp2
    go_ret
    exact ⟨rfl, rfl⟩

/-- Which page it is, from the k-th on. -/
def pagN (s : List UInt8) (k : Nat) : Int := if k ≤ 0 ∧ s = spc 0 then 0 else if k ≤ 1 ∧ s = spc 1 then 1 else if k ≤ 2 ∧ s = spc 2 then 2 else -1
theorem pagN_pag (s : List UInt8) : pagN s 0 = pag s := by unfold pagN pag; simp
theorem pagN_end (s : List UInt8) (k : Nat) (h : 2 < k) : pagN s k = -1 := by unfold pagN; rw [if_neg (by omega), if_neg (by omega), if_neg (by omega)]
theorem pagN_hit (s : List UInt8) (k : Nat) (h : k ≤ 2) (hs : spc (k : Int) = s) : pagN s k = (k : Int) := by
  have : k = 0 ∨ k = 1 ∨ k = 2 := by omega
  rcases this with rfl | rfl | rfl <;> subst hs <;> decide +kernel
theorem pagN_miss (s : List UInt8) (k : Nat) (h : k ≤ 2) (hs : ¬ spc (k : Int) = s) : pagN s k = pagN s (k + 1) := by
  have : k = 0 ∨ k = 1 ∨ k = 2 := by omega
  rcases this with rfl | rfl | rfl
  · have h' : ¬ s = spc 0 := fun e => hs e.symm
    unfold pagN; simp [h']
  · have h' : ¬ s = spc 1 := fun e => hs e.symm
    unfold pagN; simp [h']
  · have h' : ¬ s = spc 2 := fun e => hs e.symm
    unfold pagN; simp [h']

set_option maxHeartbeats 1000000 in
theorem page_any (s : ByteArray) (w : World) :
    Calls Try.prog 12 #[.string s] w fun e w' => e = .returned (.int .i64 (pag s.data.toList)) ∧ w = w' := by
  have C := Lib.hid (fun (k : Nat) W => space_any (k : Int) W)
  have HR := Lib.hid (pagN_pag s.data.toList)
  generalize pag s.data.toList = R at HR ⊢
  go_enter Try.func12, Try.ntmps12
  go_wp2_with fail
  go_loopw [3] (fun iv wr => ∃ k : Nat, iv = .int .i64 (k : Int) ∧ k ≤ 3 ∧ Hid (pagN s.data.toList k = R) ∧ w = wr) (fun iv _ => 3 - (intOf iv).toNat)
  case atStart => exact ⟨0, rfl, by omega, HR, rfl⟩
  case round =>
    obtain ⟨k, rfl, hk, hp, rfl⟩ := hrel
    by_cases hlt : k ≤ 2
    · have hk2 : (k : Int) ≤ 2 := by omega
      have C := Lib.hid (C.out k w)
      have hx : (⟨(spc (k : Int)).toArray⟩ : ByteArray).data.toList = spc (k : Int) := mk_list _
      by_cases he : spc (k : Int) = s.data.toList
      · have heq := seq_eq (hx.trans he)
        have HP := Lib.hid ((pagN_hit s.data.toList k hlt he).symm.trans hp.out)
        generalize (⟨(spc (k : Int)).toArray⟩ : ByteArray) = x at C heq
        clear hx he
        go_wp2_with fail
        refine C.out.mono ?_
        rintro e w1 ⟨rfl, rfl⟩
        go_wp2_with fail
        go_ret
        exact ⟨by rw [← HP.out]; rfl, rfl⟩
      · have heq := seq_ne (fun e => he (hx.symm.trans e))
        have HP := Lib.hid ((pagN_miss s.data.toList k hlt he).symm.trans hp.out)
        generalize (⟨(spc (k : Int)).toArray⟩ : ByteArray) = x at C heq
        clear hx he
        go_wp2_with fail
        refine C.out.mono ?_
        rintro e w1 ⟨rfl, rfl⟩
        go_wp2_with fail
        go_roundw
        case rel => exact ⟨k + 1, by go_num, by omega, HP, by trivial⟩
        case measure => first | (simp [intOf]; done) | (simp [intOf]; omega)
    · have hk2 : ¬ (k : Int) ≤ 2 := by omega
      have HP := Lib.hid ((pagN_end s.data.toList k (by omega)).symm.trans hp.out)
      go_wp2_with fail
      go_ret
      exact ⟨by rw [← HP.out]; rfl, rfl⟩

set_option maxHeartbeats 1000000 in
theorem refPage_any (s : ByteArray) (w : World) :
    Calls Try.prog 13 #[.string s] w fun e w' => e = .returned (.int .i64 (pag s.data.toList)) ∧ w = w' := by
  have C := Lib.hid (fun (k : Nat) W => refSpace_any (k : Int) W)
  have HR := Lib.hid (pagN_pag s.data.toList)
  generalize pag s.data.toList = R at HR ⊢
  go_enter Try.func13, Try.ntmps13
  go_wp2_with fail
  go_loopw [3] (fun iv wr => ∃ k : Nat, iv = .int .i64 (k : Int) ∧ k ≤ 3 ∧ Hid (pagN s.data.toList k = R) ∧ w = wr) (fun iv _ => 3 - (intOf iv).toNat)
  case atStart => exact ⟨0, rfl, by omega, HR, rfl⟩
  case round =>
    obtain ⟨k, rfl, hk, hp, rfl⟩ := hrel
    by_cases hlt : k ≤ 2
    · have hk2 : (k : Int) < 3 := by omega
      have C := Lib.hid (C.out k w)
      have hx : (⟨(spc (k : Int)).toArray⟩ : ByteArray).data.toList = spc (k : Int) := mk_list _
      by_cases he : spc (k : Int) = s.data.toList
      · have heq := seq_eq (hx.trans he)
        have HP := Lib.hid ((pagN_hit s.data.toList k hlt he).symm.trans hp.out)
        generalize (⟨(spc (k : Int)).toArray⟩ : ByteArray) = x at C heq
        clear hx he
        go_wp2_with fail
        refine C.out.mono ?_
        rintro e w1 ⟨rfl, rfl⟩
        go_wp2_with fail
        go_ret
        exact ⟨by rw [← HP.out]; rfl, rfl⟩
      · have heq := seq_ne (fun e => he (hx.symm.trans e))
        have HP := Lib.hid ((pagN_miss s.data.toList k hlt he).symm.trans hp.out)
        generalize (⟨(spc (k : Int)).toArray⟩ : ByteArray) = x at C heq
        clear hx he
        go_wp2_with fail
        refine C.out.mono ?_
        rintro e w1 ⟨rfl, rfl⟩
        go_wp2_with fail
        go_roundw
        case rel => exact ⟨k + 1, by go_num, by omega, HP, by trivial⟩
        case measure => first | (simp [intOf]; done) | (simp [intOf]; omega)
    · have hk2 : ¬ (k : Int) < 3 := by omega
      have HP := Lib.hid ((pagN_end s.data.toList k (by omega)).symm.trans hp.out)
      go_wp2_with fail
      go_ret
      exact ⟨by rw [← HP.out]; rfl, rfl⟩
end Go.Proofs.Ytionbdkiclodoaa.Vo
