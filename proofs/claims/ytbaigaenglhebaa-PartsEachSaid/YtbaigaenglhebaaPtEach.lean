/-
Each is an iterator of a value's parts, up to the first in which something is wrong. Conditions: the text has at most 2^40 bytes.
-/
import Derived.Test.YtbaigaenglhebaaPtSplit
import Derived.Test.YtbaigaenglhebaaLaws
namespace Go.Proofs.Ytbaigaenglhebaa.Pt
open Go.RowKit Strs Sq
attribute [local go_sem] Oper.semAt_some

theorem each_any (s : ByteArray) (w : World) :
    Calls Try.prog 20 #[.string s] w fun e w' => e = .returned (.func (.func 28) #[] #[.pointer (some ⟨w.heap.size, 0, none⟩)]) ∧ w' = w.alloc (.cells #[.string s] 9) := by
  go_enter Try.func20, Try.ntmps20
  go_wp2
  go_ret
  exact ⟨rfl, rfl⟩
theorem eg_each (args : Array Value) (w : World) : (callFunc 28 args).run Try.prog w = .ok (.enter 28 args) w := enters_of Try.func28 (by kernel_rfl) rfl args w

/-- What one part is handed on as. -/
def encE (x : List UInt8) : Array Value := #[.string ⟨x.toArray⟩]

theorem told_none (l : List (List UInt8)) : told (l, none) = l.map (fun p => (p, (-1 : Int))) := by unfold told; rw [List.append_nil]
theorem told_some (l : List (List UInt8)) (k : Nat) : told (l, some k) = l.map (fun p => (p, (-1 : Int))) ++ [([], (k : Int))] := rfl
theorem map_pre {l : List (List UInt8)} {pre : List (List UInt8 × Int)} (h : pre <+: l.map (fun p => (p, (-1 : Int)))) : pre.map (·.1) <+: l ∧ ∀ x ∈ pre, x.2 = -1 := by
  have h1 := h.map (·.1)
  rw [List.map_map] at h1
  refine ⟨by rw [show ((fun x : List UInt8 × Int => x.1) ∘ fun p => (p, (-1 : Int))) = id from rfl, List.map_id] at h1; exact h1, fun x hx => ?_⟩
  obtain ⟨p, _, rfl⟩ := List.mem_map.1 (h.subset hx)
  rfl
theorem told_pre {r : List (List UInt8) × Option Nat} {pre : List (List UInt8 × Int)} {x : List UInt8 × Int} (h : pre ++ [x] <+: told r) : (x.2 = -1 → pre.map (·.1) ++ [x.1] <+: r.1) ∧ (x.2 ≠ -1 → pre.map (·.1) = r.1) := by
  obtain ⟨l, f⟩ := r
  have key : pre ++ [x] <+: l.map (fun p => (p, (-1 : Int))) → (x.2 = -1 → pre.map (·.1) ++ [x.1] <+: l) ∧ (x.2 ≠ -1 → pre.map (·.1) = l) := fun h => by
    obtain ⟨h1, h2⟩ := map_pre h
    exact ⟨fun _ => by rw [List.map_append] at h1; exact h1, fun hn => absurd (h2 x (by simp)) hn⟩
  cases f with
  | none => rw [told_none] at h; exact key h
  | some k =>
    rw [told_some, List.prefix_concat_iff] at h
    rcases h with h | h
    · obtain ⟨rfl, h2⟩ := List.append_inj' h rfl
      simp only [List.cons.injEq, and_true] at h2
      subst h2
      refine ⟨fun h => by simp at h, fun _ => ?_⟩
      rw [List.map_map]; exact List.map_id l
    · exact key h

/-- The blocks that are the iterator's own. -/
def MineE (H : Nat) (O : Nat → Prop) : Nat → Prop := fun k => O k ∨ k = H ∨ k = H + 1
theorem mineE_ge {H : Nat} {O : Nat → Prop} (hO : ∀ k, O k → H + 2 ≤ k) : ∀ k, MineE H O k → H ≤ k := fun k hk => by
  rcases hk with hk | rfl | rfl
  · have := hO k hk; omega
  · omega
  · omega
/-- What the taker says goes on being so. -/
theorem footE {β : Type} {H : Nat} {J : List (List UInt8) → (Nat → Prop) → World → Prop} (hJ : Foot H J) (f : β → List (List UInt8)) : Foot (H + 2) (fun s O W => J (f s) (MineE H O) W) :=
  fun s O O' A B h hO hS hO' => hJ (f s) _ _ A B h (mineE_ge hO) (hS.mono fun k hk => ⟨hk.1, fun ho => hk.2 (.inl ho)⟩) (fun k hk => by
    rcases hk with hk | hk | hk
    · exact (hO' k hk).imp (fun h => .inl h) id
    · exact .inl (.inr (.inl hk))
    · exact .inl (.inr (.inr hk)))
theorem out_of {J Jx : List (List UInt8) → (Nat → Prop) → World → Prop} {H : Nat} {O : Nat → Prop} {all : List (List UInt8)} {V : World} {D : Nat} (hJ : Foot H J) (hJx : Foot H Jx) (hO : ∀ k, O k → H ≤ k) (hD : O D) (o : Obj)
    (h : J all O V ∨ ∃ pre, pre <+: all ∧ Jx pre O V) : ∃ O', (∀ k, O' k → H ≤ k) ∧ (J all O' (V.putObj D o) ∨ ∃ pre, pre <+: all ∧ Jx pre O' (V.putObj D o)) := by
  have hS : Stays (fun k => k < V.heap.size ∧ ¬ O k) V (V.putObj D o) := (Stays.refl _ _).putObj _ _ (fun h => h.2 hD)
  refine ⟨O, hO, ?_⟩
  rcases h with h | ⟨pre, hp, h⟩
  · exact .inl (hJ _ O O V _ h hO hS (fun k hk => .inl hk))
  · exact .inr ⟨pre, hp, hJx _ O O V _ h hO hS (fun k hk => .inl hk)⟩

/-- What holds between two parts. -/
def EachI (H : Nat) (y : Value) (J : List (List UInt8) → (Nat → Prop) → World → Prop) (pre : List (List UInt8 × Int)) (O : Nat → Prop) (V : World) : Prop :=
  ((∀ x ∈ pre, x.2 = -1) ∧ Boxed V H 58 y) ∧ J (pre.map (·.1)) (MineE H O) V
/-- .. where the loop has been left. -/
def EachX (H : Nat) (all : List (List UInt8)) (J Jx : List (List UInt8) → (Nat → Prop) → World → Prop) (c : Code) (_ : List (List UInt8 × Int)) (O : Nat → Prop) (V : World) : Prop :=
  c = .ret ∧ (J all (MineE H O) V ∨ ∃ em, em <+: all ∧ Jx em (MineE H O) V)
theorem eachI_foot {H : Nat} {y : Value} {J : List (List UInt8) → (Nat → Prop) → World → Prop} (hJ : Foot H J) : Foot (H + 2) (EachI H y J) :=
  Foot.and (Foot.and (Foot.pure (fun (pre : List (List UInt8 × Int)) => ∀ x ∈ pre, x.2 = -1)) (Foot.boxed _ _ (fun _ => y) (by omega))) (footE hJ (fun (pre : List (List UInt8 × Int)) => pre.map (·.1)))
theorem eachX_foot {H : Nat} {all : List (List UInt8)} {J Jx : List (List UInt8) → (Nat → Prop) → World → Prop} (hJ : Foot H J) (hJx : Foot H Jx) (c : Code) : Foot (H + 2) (EachX H all J Jx c) := by
  intro pre O O' A B' h hO hS hO'
  refine ⟨h.1, ?_⟩
  rcases h.2 with h | ⟨em, he, h⟩
  · exact .inl (footE (β := Unit) hJ (fun _ => all) () O O' A B' h hO hS hO')
  · exact .inr ⟨em, he, footE (β := Unit) hJx (fun _ => em) () O O' A B' h hO hS hO'⟩
/-- A part has been handed on, and more is wanted, or no more. -/
theorem each_close {H B : Nat} {y : Value} {all : List (List UInt8)} {J Jx : List (List UInt8) → (Nat → Prop) → World → Prop} {pre : List (List UInt8 × Int)} {p : List UInt8} {O : Nat → Prop} {V V' : World} {e : Ending}
    (hpm : ∀ x ∈ pre, x.2 = -1) (hb : Boxed V H 58 y) (hpr : pre.map (·.1) ++ [p] <+: all)
    (h : Stays (fun k => MineE H O k ∨ k = B) V V' ∧ ((e = .returned (.bool true) ∧ J (pre.map (·.1) ++ [p]) (MineE H O) V') ∨ (e = .returned (.bool false) ∧ Jx (pre.map (·.1) ++ [p]) (MineE H O) V'))) :
    ∃ ok, e = .returned (.bool ok) ∧ Stays (fun k => O k ∨ k = H + 1) V V' ∧ ((ok = true ∧ EachI H y J (pre ++ [(p, -1)]) O V') ∨ (ok = false ∧ EachX H all J Jx .ret (pre ++ [(p, -1)]) O V')) := by
  obtain ⟨hS, h⟩ := h
  have hS' : Stays (fun k => O k ∨ k = H + 1) V V' := hS.mono fun k hk => by
    rcases hk with hk | rfl
    · exact .inl (.inl hk)
    · exact .inl (.inr (.inr rfl))
  rcases h with ⟨rfl, h⟩ | ⟨rfl, h⟩
  · refine ⟨true, rfl, hS', .inl ⟨rfl, ⟨fun x hx => ?_, hS.boxed (.inl (.inr (.inl rfl))) hb⟩, by rw [List.map_append]; exact h⟩⟩
    rcases List.mem_append.1 hx with hx | hx
    · exact hpm x hx
    · rw [List.mem_singleton] at hx; rw [hx]
  · exact ⟨false, rfl, hS', .inr ⟨rfl, rfl, .inr ⟨_, hpr, h⟩⟩⟩

set_option maxRecDepth 100000 in
set_option maxHeartbeats 2000000 in
theorem each_sq (s : ByteArray) (hs : s.size ≤ 1099511627776) (B : Nat) (w : World) (hB : Boxed w B 9 (.string s)) :
    Sq Try.prog 28 #[.pointer (some ⟨B, 0, none⟩)] encE (fun k => k = B) (parts s.data.toList).1 w := by
  intro y J Jx W hy hR hJ hJx hY hJ0
  obtain ⟨r, hr⟩ : ∃ r, parts s.data.toList = r := ⟨_, rfl⟩
  rw [hr] at hY ⊢
  have hB := hR.boxed (show (fun k => k = B) B from rfl) hB
  have HY := Lib.hid hY
  clear hY
  refine (callsIn_wide (n := 5)).1 ?_
  refine callsIn_of_wp_marks Try.func28 rfl trivial ?_ rfl
  simp only [Try.ntmps28, List.size_toArray, List.length_cons, List.length_nil, Nat.reduceAdd, Nat.reduceSub, Array.replicate_succ, Array.replicate_zero, List.push_toArray, List.append_toArray, List.nil_append, List.cons_append]
  obtain ⟨fy, ca, rfl⟩ : ∃ fy ca, y = .func fy #[] ca := by
    rcases hy with ⟨l, rfl⟩ | ⟨g, ca, rfl, eg⟩
    · exact ⟨_, _, rfl⟩
    · exact ⟨_, _, rfl⟩
  have hc := (hB.alloc (.cells #[.func fy #[] ca] 58)).cell
  gi_wp2_with (refine ⟨trivial, ?_⟩; gi_at_call 26; refine (callsIn_wide.2 (told_any s _)).mono ?_; rintro e w' ⟨rfl, rfl⟩)
  have b2 := (Boxed.new W 58 (.func fy #[] ca)).alloc (.cells #[.string s] 9)
  have b3 := Boxed.new (W.alloc (.cells #[.func fy #[] ca] 58)) 9 (.string s)
  have hV : Below W.heap.size W ((W.alloc (.cells #[.func fy #[] ca] 58)).alloc (.cells #[.string s] 9)) := ((Below.refl _ W).alloc (Nat.le_refl _) _).alloc (by simp) _
  have hz : ((W.alloc (.cells #[.func fy #[] ca] 58)).alloc (.cells #[.string s] 9)).heap.size = W.heap.size + 2 := by simp
  simp only [World.size_alloc] at b3
  clear hc
  generalize ((W.alloc (.cells #[.func fy #[] ca] 58)).alloc (.cells #[.string s] 9)) = V0 at *
  obtain ⟨H, hH⟩ : ∃ H, W.heap.size = H := ⟨_, rfl⟩
  have hBH : B < H := by have := hB.lt; omega
  have hseq := told_sq s hs (W.heap.size + 1) V0 b3
  rw [hr] at hseq
  rw [hH] at b2 b3 hV hz hJ hJx HY hseq ⊢
  have hJ1 : J [] (MineE H (fun _ => False)) V0 := hJ [] _ _ W V0 hJ0 (fun k hk => hk.elim) (Stays.of_below hV fun k hk => by have := hk.1; omega) (fun k hk => by
    rcases hk with hk | rfl | rfl
    · exact hk.elim
    · right; omega
    · right; omega)
  have hI : Foot V0.heap.size (EachI H (.func fy #[] ca) J) := by rw [hz]; exact eachI_foot hJ
  have hX : ∀ c : Code, Foot V0.heap.size (EachX H r.1 J Jx c) := by rw [hz]; exact eachX_foot hJ hJx
  have HR := Lib.hid (fun h => (told_right (r := r) h).2)
  have HP := Lib.hid (fun (pre : List (List UInt8 × Int)) (x : List UInt8 × Int) h => told_pre (r := r) (pre := pre) (x := x) h)
  obtain ⟨all, hall⟩ : ∃ all, told r = all := ⟨_, rfl⟩
  rw [hall] at hseq HR HP
  refine range_sq1 (gf := 34) (lb := #[.pointer (some ⟨H + 1, 0, none⟩)]) rfl eg_told hseq (Stays.refl _ _) (fun k hk => by omega) (fun _ => rfl)
    (EachI H (.func fy #[] ca) J) (EachX H r.1 J Jx)
    hI hX ⟨⟨fun x hx => by simp at hx, b2⟩, hJ1⟩ ?round ?done ?stop
  case round =>
    rintro l pre ⟨p, f⟩ O W1 hO hp
    unfold encP
    gi_wp2
    rintro V ⟨⟨hpm, hb⟩, hJv⟩ hRW hOl lr hrec hOW
    have hzV := hRW.size
    obtain ⟨hp1, hp2⟩ := HP.out pre (p, f) hp
    have hMO : ∀ k, MineE H O k → H ≤ k ∧ k < V.heap.size := fun k hk => by
      rcases hk with hk | rfl | rfl
      · have := hOW k hk; omega
      · omega
      · omega
    by_cases hf : f = -1
    · subst hf
      have hpr := hp1 rfl
      have T := HY.out (pre.map (·.1)) p (MineE H O) V hJv hMO (by omega) hpr
      unfold encE at T
      have hc := hb.cell
      have TC := T.mono fun e W' h => each_close hpm hb hpr h
      rcases hy with ⟨l', hyy⟩ | ⟨g, ca', hyy, eg⟩
      · cases hyy
        obtain ⟨fn, tmps, assign, body, hyy, hR1⟩ := TC.loop 4
        clear T TC hI hX hJ1 HY hJ hJx
        gi_wp2_with fail
        first | refine RoundIn.mono hR1 ?_ | refine ⟨trivial, RoundIn.mono hR1 ?_⟩
        rintro e W3 ⟨ok, rfl, hS3, ⟨rfl, hI3⟩ | ⟨rfl, hX3⟩⟩
        · gi_wp2_with fail
          exact ⟨hS3, hI3⟩
        · gi_wp2_with fail
          exact ⟨hS3, hX3⟩
      · cases hyy
        have hR1 := CallsIn.inRound l ((callsIn_wide (n := 4)).2 TC.named)
        clear T TC hI hX hJ1 HY hJ hJx
        gi_wp2_with fail
        first | refine CallsIn.mono hR1 ?_ | refine ⟨trivial, CallsIn.mono hR1 ?_⟩
        rintro e W3 ⟨ok, rfl, hS3, ⟨rfl, hI3⟩ | ⟨rfl, hX3⟩⟩
        · gi_wp2_with fail
          exact ⟨hS3, hI3⟩
        · gi_wp2_with fail
          exact ⟨hS3, hX3⟩
    · have hfb : (f == -1) = false := by simpa using hf
      gi_wp2_with (first | (refine ⟨fun _ h => (by cases h), ?_⟩) | fail)
      exact ⟨Stays.refl _ _, rfl, .inl (by rw [← hp2 hf]; exact hJv)⟩
  case stop =>
    rintro D c pre O V hD hOD hO hRW hpre ⟨rfl, h⟩ hK
    gi_wp2_with fail
    refine ⟨by simp, .inl ⟨_, _, rfl, run_takeDeferred hK, ?_⟩⟩
    refine ⟨_, results_none rfl _ _ _, ⟨_, rfl⟩, ?_⟩
    exact out_of hJ hJx (mineE_ge (fun k hk => by have := hO k hk; omega)) (.inl hOD) _ h
  case done =>
    rintro D O V hD hOD hO hRW ⟨⟨hpm, hb⟩, hJv⟩ hK
    have he := HR.out hpm
    gi_wp2_with fail
    refine ⟨by simp, .inl ⟨_, _, rfl, run_takeDeferred hK, ?_⟩⟩
    refine ⟨_, results_none rfl _ _ _, ⟨_, rfl⟩, ?_⟩
    exact out_of hJ hJx (mineE_ge (fun k hk => by have := hO k hk; omega)) (.inl hOD) _ (.inl (by rw [← he]; exact hJv))
end Go.Proofs.Ytbaigaenglhebaa.Pt
