/-
within hands on an element and all within it, each ahead of its kids, with how deep it lies. Conditions: the element lies in memory that the taker leaves alone.
-/
import Derived.Test.YtpgjalikgmagiaaDoorTrRefAll
import Derived.LoopIn
import Derived.RangeFuncBox
namespace Go.Proofs.YtpgjalikgmagiaaDoor.Tr
set_option maxRecDepth 100000
open Go.RowKit Sq
attribute [local go_sem] Oper.semAt_some

/-- An element as a value. -/
abbrev elW (x : Iv) : Value := .agg #[.int .i64 x.1.page, .string x.1.name, .string x.1.text, .bool x.1.bare, x.2]
/-- What one of them is handed on as. -/
def encW (y : Nat × Iv) : Array Value := #[.int .i64 (y.1 : Int), elW y.2]
/-- The iterator within. -/
abbrev wiV (b : Nat) : Value := .func (.func 25) #[] #[.pointer (some ⟨b + 1, 0, none⟩), .pointer (some ⟨b, 0, none⟩), .pointer (some ⟨b + 1 + 1, 0, none⟩)]
theorem within_any (x : Iv) (d m : Int) (w : World) :
    Calls Tryd.prog 17 #[elW x, .int .i64 d, .int .i64 m] w fun e w' => e = .returned (wiV w.heap.size) ∧
      w' = ((w.alloc (.cells #[.int .i64 x.1.page, .string x.1.name, .string x.1.text, .bool x.1.bare, x.2] 24)).alloc (.cells #[.int .i64 d] 3)).alloc (.cells #[.int .i64 m] 3) := by
  unfold elW
  go_enter Tryd.func17, Tryd.ntmps17
  go_wp2
  go_ret
  exact ⟨rfl, rfl⟩
theorem eg_within (args : Array Value) (w : World) : (callFunc 25 args).run Tryd.prog w = .ok (.enter 25 args) w := enters_of Tryd.func25 (by kernel_rfl) rfl args w

/-- The iterator's boxes. -/
structure Wi (w : World) (b : Nat) (x : Iv) (d m : Int) : Prop where
  e : ElAt w b x.1 x.2
  d : Boxed w (b + 1) 3 (.int .i64 d)
  m : Boxed w (b + 1 + 1) 3 (.int .i64 m)
theorem wi_new (x : Iv) (d m : Int) (w : World) : Wi (((w.alloc (.cells #[.int .i64 x.1.page, .string x.1.name, .string x.1.text, .bool x.1.bare, x.2] 24)).alloc (.cells #[.int .i64 d] 3)).alloc (.cells #[.int .i64 m] 3)) w.heap.size x d m := by
  have b1 : ElAt (w.alloc (.cells #[.int .i64 x.1.page, .string x.1.name, .string x.1.text, .bool x.1.bare, x.2] 24)) w.heap.size x.1 x.2 := heap_alloc_new w _
  have z1 : (w.alloc (.cells #[.int .i64 x.1.page, .string x.1.name, .string x.1.text, .bool x.1.bare, x.2] 24)).heap.size = w.heap.size + 1 := World.size_alloc _ _
  have z2 : ((w.alloc (.cells #[.int .i64 x.1.page, .string x.1.name, .string x.1.text, .bool x.1.bare, x.2] 24)).alloc (.cells #[.int .i64 d] 3)).heap.size = w.heap.size + 1 + 1 := by rw [World.size_alloc, z1]
  have b2 := Boxed.new (w.alloc (.cells #[.int .i64 x.1.page, .string x.1.name, .string x.1.text, .bool x.1.bare, x.2] 24)) 3 (.int .i64 d)
  have b3 := Boxed.new ((w.alloc (.cells #[.int .i64 x.1.page, .string x.1.name, .string x.1.text, .bool x.1.bare, x.2] 24)).alloc (.cells #[.int .i64 d] 3)) 3 (.int .i64 m)
  rw [z1] at b2; rw [z2] at b3
  have keep : ∀ (W : World) (o : Obj) j, j < W.heap.size → (W.alloc o).heap[j]? = W.heap[j]? := fun W o j hj => ((Below.refl W.heap.size W).alloc (Nat.le_refl _) o).block j hj
  exact ⟨(keep _ _ _ (by omega)).trans ((keep _ _ _ (by omega)).trans b1), b2.alloc _, b3⟩
theorem Wi.stays {O : Nat → Prop} {A B : World} {b : Nat} {x : Iv} {d m : Int} (h : Wi A b x d m) (hS : Stays O A B) (hO : ∀ k, b ≤ k → k < b + 3 → O k) : Wi B b x d m :=
  ⟨(hS.block b (hO _ (by omega) (by omega))).trans h.e, hS.boxed (hO _ (by omega) (by omega)) h.d, hS.boxed (hO _ (by omega) (by omega)) h.m⟩
theorem Wi.lt {w : World} {b : Nat} {x : Iv} {d m : Int} (h : Wi w b x d m) : b + 3 ≤ w.heap.size := by have := h.m.lt; omega

/-- What an iterator within reads: what lies below B, and its boxes. -/
def Rd (B b : Nat) : Nat → Prop := fun k => k < B ∨ (b ≤ k ∧ k < b + 3)
theorem prev_step {w : World} {m d : Nat} {x : Iv} {i : Nat} {c : Iv} (hc : (kidsV w x)[i]? = some c) :
    ∃ rest, preV w (m + 1) d x = ((d, x) :: (((kidsV w x).take i).map (preV w m (d + 1))).flatten) ++ preV w m (d + 1) c ++ rest ∧ (d, x) :: (((kidsV w x).take (i + 1)).map (preV w m (d + 1))).flatten = ((d, x) :: (((kidsV w x).take i).map (preV w m (d + 1))).flatten) ++ preV w m (d + 1) c := by
  have hi : i < (kidsV w x).length := (List.getElem?_eq_some_iff.1 hc).1
  have hg : (kidsV w x)[i] = c := (List.getElem?_eq_some_iff.1 hc).2
  have h2 : (kidsV w x).take (i + 1) = (kidsV w x).take i ++ [c] := by rw [List.take_succ_eq_append_getElem hi, hg]
  refine ⟨(((kidsV w x).drop (i + 1)).map (preV w m (d + 1))).flatten, ?_, ?_⟩
  · show (d, x) :: ((kidsV w x).map (preV w m (d + 1))).flatten = _
    conv => lhs; rw [← List.take_append_drop (i + 1) (kidsV w x), h2]
    simp [List.append_assoc]
  · rw [h2]; simp

/-! ### The walk -/
theorem leaves_marks {F : Fence} {n : Nat} {P : Program} {fn : Func} {tmps : Array Value} {R : Ending → World → Prop} : ∀ (Ds : List Nat) (W : World), Ds.Nodup → (∀ D ∈ Ds, W.heap[D]? = some (.deferred (some []))) →
    (∀ W', Stays (fun j => j ∉ Ds) W W' → LeavesInM F n P fn tmps R [] .returning W') → LeavesInM F n P fn tmps R (Ds.map fun D => { target := .collected D, args := #[] }) .returning W
  | [], W, _, _, h => h W (Stays.refl _ _)
  | D :: Ds, W, hnd, hd, h => by
    have hD := hd D (List.mem_cons_self ..)
    rw [List.nodup_cons] at hnd
    refine ⟨by simp, .inl ⟨_, _, rfl, run_takeDeferred hD, leaves_marks Ds _ hnd.2 (fun E hE => ?_) (fun W' hS => h W' ?_)⟩⟩
    · have hne : E ≠ D := fun e => hnd.1 (by rw [← e]; exact hE)
      exact (World.putObj_heap_other hne).trans (hd E (List.mem_cons_of_mem _ hE))
    · exact ((Stays.refl _ W).putObj D _ (fun h => h (List.mem_cons_self ..))).trans (hS.mono fun j hj hm => hj (List.mem_cons_of_mem _ hm))
theorem fold2 (a b : Value) (T : Array Value) : ((#[31, 32] : Array Tmp).zip #[a, b]).foldl (fun t (p, v) => t.setIfInBounds p v) T = (T.setIfInBounds 31 a).setIfInBounds 32 b := by simp
/-- The loop over the kids, between its rounds. -/
structure Wk (W W' : World) (H B b : Nat) (y : Value) (J : List (Nat × Iv) → (Nat → Prop) → World → Prop) (s : List (Nat × Iv)) (Ds : List Nat) : Prop where
  j : J s (fun k => k = H ∨ k ∈ Ds) W'
  y : Boxed W' H 48 y
  nd : Ds.Nodup
  d : ∀ D ∈ Ds, W'.heap[D]? = some (.deferred (some [])) ∧ H < D
  r : Stays (Rd B b) W W'
/-- What is the iterator's own while a kid is gone through. -/
def Zk (H K : Nat) (Ds : List Nat) : Nat → Prop := fun k => k = H ∨ k ∈ Ds ∨ (K + 1 ≤ k ∧ k < K + 4)
def WI (B b H K : Nat) (Ds : List Nat) (W1 : World) (J : List (Nat × Iv) → (Nat → Prop) → World → Prop) (p : List (Nat × Iv)) (s : List (Nat × Iv)) (O : Nat → Prop) (V : World) : Prop :=
  J (p ++ s) (fun k => O k ∨ Zk H K Ds k) V ∧ Stays (fun k => Rd B b k ∨ Zk H K Ds k) W1 V
def WX (B b H K : Nat) (Ds : List Nat) (W1 : World) (all : List (Nat × Iv)) (Jx : List (Nat × Iv) → (Nat → Prop) → World → Prop) (c : Code) (_ : List (Nat × Iv)) (O : Nat → Prop) (V : World) : Prop :=
  c = .ret ∧ (∃ em, em <+: all ∧ Jx em (fun k => O k ∨ Zk H K Ds k) V) ∧ Stays (fun k => Rd B b k ∨ Zk H K Ds k) W1 V
theorem own_foot {β : Type} {H N : Nat} {Z : Nat → Prop} {J : List (Nat × Iv) → (Nat → Prop) → World → Prop} (hJ : Foot H J) (f : β → List (Nat × Iv)) (hZ : ∀ k, Z k → H ≤ k) (hN : H ≤ N) : Foot N (fun (s : β) O W => J (f s) (fun k => O k ∨ Z k) W) :=
  fun s _ _ A B h hO hS hO' => hJ (f s) _ _ A B h (fun k hk => hk.elim (fun h => Nat.le_trans hN (hO k h)) (hZ k)) (hS.mono fun _ hk => ⟨hk.1, fun ho => hk.2 (.inl ho)⟩) (fun k hk => hk.elim (fun h => (hO' k h).imp .inl id) (fun h => .inl (.inr h)))
theorem wi_foot {B b H K : Nat} {Ds : List Nat} {W1 : World} {J : List (Nat × Iv) → (Nat → Prop) → World → Prop} {p : List (Nat × Iv)} (hJ : Foot H J) (hZ : ∀ k, Zk H K Ds k → H ≤ k) (hN : H ≤ W1.heap.size) (hk : ∀ k, Rd B b k ∨ Zk H K Ds k → k < W1.heap.size) : Foot W1.heap.size (WI B b H K Ds W1 J p) :=
  Foot.and (own_foot hJ (fun s => p ++ s) hZ hN) (Foot.stays fun k h => ⟨hk k h, hk k h⟩)
theorem wx_foot {B b H K : Nat} {Ds : List Nat} {W1 : World} {all : List (Nat × Iv)} {J : List (Nat × Iv) → (Nat → Prop) → World → Prop} (hJ : Foot H J) (hZ : ∀ k, Zk H K Ds k → H ≤ k) (hN : H ≤ W1.heap.size) (hk : ∀ k, Rd B b k ∨ Zk H K Ds k → k < W1.heap.size) (c : Code) : Foot W1.heap.size (WX B b H K Ds W1 all J c) :=
  Foot.and (Foot.pure fun _ => c = .ret) (Foot.and (Foot.ex fun em => Foot.and (Foot.pure fun _ => em <+: all) (own_foot hJ (fun _ => em) hZ hN)) (Foot.stays fun k h => ⟨hk k h, hk k h⟩))

set_option maxHeartbeats 4000000 in
theorem within_sq (w0 : World) (B : Nat) : ∀ (m d : Nat) (x : Iv) (b : Nat) (w : World) (D : Int), Ok w0 B x → Below B w0 w → B ≤ b → d + m ≤ 5000 → D = (d : Int) + (m : Int) → Wi w b x (d : Int) D →
    Sq Tryd.prog 25 #[.pointer (some ⟨b + 1, 0, none⟩), .pointer (some ⟨b, 0, none⟩), .pointer (some ⟨b + 1 + 1, 0, none⟩)] encW (Rd B b) (preV w0 (m + 1) d x) w := by
  intro m
  induction m with
  | zero =>
    intro d x b w D hx hw hBb hd hD hwi y J Jx W hy hR hJ hJx hY hJ0
    obtain ⟨all, hall⟩ : ∃ all, preV w0 (0 + 1) d x = all := ⟨_, rfl⟩
    rw [hall] at hY ⊢
    have hwi := hwi.stays hR (fun k h1 h2 => .inr ⟨h1, h2⟩)
    have HY := Lib.hid hY
    have HX := Lib.hid hx
    obtain ⟨a, c, hkv⟩ := hx.len
    obtain ⟨-, -, hf3⟩ := hx.fits
    unfold maxLen at hf3
    have HDD := Lib.hid (And.intro hD hd)
    have hd5 : (d : Int) ≤ 5000 := by omega
    have heq : D = (d : Int) := by omega
    subst heq
    clear hY hx hD hd
    refine (callsIn_wide (n := 5)).1 ?_
    refine callsIn_of_wp_marks Tryd.func25 rfl trivial ?_ rfl
    simp only [Tryd.ntmps25, List.size_toArray, List.length_cons, List.length_nil, Nat.reduceAdd, Nat.reduceSub, Array.replicate_succ, Array.replicate_zero, List.push_toArray, List.append_toArray, List.nil_append, List.cons_append]
    obtain ⟨fy, ca, rfl⟩ : ∃ fy ca, y = .func fy #[] ca := by
      rcases hy with ⟨l, rfl⟩ | ⟨g, ca, rfl, eg⟩
      · exact ⟨_, _, rfl⟩
      · exact ⟨_, _, rfl⟩
    obtain ⟨H, hH⟩ : ∃ H, W.heap.size = H := ⟨_, rfl⟩
    obtain ⟨V0, hV0⟩ : ∃ V0, W.alloc (.cells #[.func fy #[] ca] 48) = V0 := ⟨_, rfl⟩
    have hby : Boxed V0 H 48 (.func fy #[] ca) := by rw [← hV0, ← hH]; exact Boxed.new W _ _
    have hS0 : Stays (fun k => k < H) W V0 := by rw [← hV0, ← hH]; exact (Stays.refl _ _).alloc _ (fun k hk => hk)
    have hz0 : V0.heap.size = H + 1 := by rw [← hV0, World.size_alloc, hH]
    have hbH : b + 3 ≤ H := by have := hwi.lt; omega
    have hwi0 := hwi.stays hS0 (fun k h1 h2 => by omega)
    rw [hH] at hJ hJx HY
    have hJ1 : J [] (fun k => k = H) V0 := hJ [] (fun _ => False) _ W V0 hJ0 (fun k hk => hk.elim) (hS0.mono fun k hk => by rw [← hH]; exact hk.1) (fun k hk => .inr (by omega))
    obtain ⟨rest, hr1⟩ : ∃ rest, all = [(d, x)] ++ rest := ⟨_, hall.symm⟩
    have hp1 : [(d, x)] <+: all := ⟨rest, hr1.symm⟩
    have T := HY.out [] (d, x) (fun k => k = H) V0 hJ1 (fun k hk => by omega) (by omega) hp1
    unfold encW elW at T
    rw [hkv] at T
    have TC := T.mono (R' := fun e W3 => ∃ ok, e = .returned (.bool ok) ∧ Stays (fun k => k = H ∨ Rd B b k) V0 W3 ∧ ((ok = true ∧ J [(d, x)] (fun k => k = H) W3) ∨ (ok = false ∧ Jx [(d, x)] (fun k => k = H) W3))) (by
      rintro e W3 ⟨h1, ⟨rfl, h2⟩ | ⟨rfl, h2⟩⟩
      · exact ⟨true, rfl, h1, .inl ⟨rfl, h2⟩⟩
      · exact ⟨false, rfl, h1, .inr ⟨rfl, h2⟩⟩)
    have HR0 := Lib.hid ((hR.mono (fun k hk => hk)).size)
    have HS0 := Lib.hid (hS0.mono (O' := Rd B b) fun k hk => by rcases hk with h | h <;> omega)
    have c0 := hwi0.e.c0
    have c1 := hwi0.e.c1
    have c2 := hwi0.e.c2
    have c3 := hwi0.e.c3
    have c4 := hwi0.e.c4
    rw [hkv] at c4
    have cd := hwi0.d.cell
    have cm := hwi0.m.cell
    have cy := hby.cell
    rw [← hH] at cy
    have HR1 := Lib.hid hr1
    clear T hJ0 hr1
    subst hV0
    rcases hy with ⟨l', hyy⟩ | ⟨g, ca', hyy, eg⟩
    · cases hyy
      obtain ⟨fn, tmps, assign, body, hyy, hR1⟩ := TC.loop 4
      gi_wp2_with fail
      first | refine RoundIn.mono hR1 ?_ | refine ⟨trivial, RoundIn.mono hR1 ?_⟩
      rintro e W3 ⟨ok, rfl, hS3, ⟨rfl, hI3⟩ | ⟨rfl, hX3⟩⟩
      · have hwi3 := hwi0.stays hS3 (fun k h1 h2 => .inr (.inr ⟨h1, h2⟩))
        have cd := hwi3.d.cell
        have cm := hwi3.m.cell
        have he : [(d, x)] = all := by rw [← hall]; show _ = (d, x) :: _; rw [show (preG (kidsV w0) 0 (d + 1)) = fun _ => [] from rfl]; simp
        gi_wp2_with fail
        refine ⟨_, results_none rfl _ _ _, ⟨_, rfl⟩, (fun k => k = H), fun k hk => by omega, .inl (by rw [← he]; exact hI3)⟩
      · gi_wp2_with fail
        refine ⟨_, results_none rfl _ _ _, ⟨_, rfl⟩, (fun k => k = H), fun k hk => by omega, .inr ⟨_, hp1, hX3⟩⟩
    · cases hyy
      have hR1 := (callsIn_wide (n := 4)).2 TC.named
      gi_wp2_with fail
      first | refine CallsIn.mono hR1 ?_ | refine ⟨trivial, CallsIn.mono hR1 ?_⟩
      rintro e W3 ⟨ok, rfl, hS3, ⟨rfl, hI3⟩ | ⟨rfl, hX3⟩⟩
      · have hwi3 := hwi0.stays hS3 (fun k h1 h2 => .inr (.inr ⟨h1, h2⟩))
        have cd := hwi3.d.cell
        have cm := hwi3.m.cell
        have he : [(d, x)] = all := by rw [← hall]; show _ = (d, x) :: _; rw [show (preG (kidsV w0) 0 (d + 1)) = fun _ => [] from rfl]; simp
        gi_wp2_with fail
        refine ⟨_, results_none rfl _ _ _, ⟨_, rfl⟩, (fun k => k = H), fun k hk => by omega, .inl (by rw [← he]; exact hI3)⟩
      · gi_wp2_with fail
        refine ⟨_, results_none rfl _ _ _, ⟨_, rfl⟩, (fun k => k = H), fun k hk => by omega, .inr ⟨_, hp1, hX3⟩⟩
  | succ m ih =>
    intro d x b w D hx hw hBb hd hD hwi y J Jx W hy hR hJ hJx hY hJ0
    obtain ⟨all, hall⟩ : ∃ all, preV w0 (m + 1 + 1) d x = all := ⟨_, rfl⟩
    rw [hall] at hY ⊢
    have hwi := hwi.stays hR (fun k h1 h2 => .inr ⟨h1, h2⟩)
    have HY := Lib.hid hY
    have HX := Lib.hid hx
    obtain ⟨a, c, hkv⟩ := hx.len
    obtain ⟨-, -, hf3⟩ := hx.fits
    unfold maxLen at hf3
    have HDD := Lib.hid (And.intro hD hd)
    have hd5 : (d : Int) ≤ 5000 := by omega
    have hne : ¬ (d : Int) = D := by omega
    have hneb : ((d : Int) == D) = false := by simpa using hne
    clear hY hx hD hd
    refine (callsIn_wide (n := 5)).1 ?_
    refine callsIn_of_wp_marks Tryd.func25 rfl trivial ?_ rfl
    simp only [Tryd.ntmps25, List.size_toArray, List.length_cons, List.length_nil, Nat.reduceAdd, Nat.reduceSub, Array.replicate_succ, Array.replicate_zero, List.push_toArray, List.append_toArray, List.nil_append, List.cons_append]
    obtain ⟨fy, ca, rfl⟩ : ∃ fy ca, y = .func fy #[] ca := by
      rcases hy with ⟨l, rfl⟩ | ⟨g, ca, rfl, eg⟩
      · exact ⟨_, _, rfl⟩
      · exact ⟨_, _, rfl⟩
    obtain ⟨H, hH⟩ : ∃ H, W.heap.size = H := ⟨_, rfl⟩
    obtain ⟨V0, hV0⟩ : ∃ V0, W.alloc (.cells #[.func fy #[] ca] 48) = V0 := ⟨_, rfl⟩
    have hby : Boxed V0 H 48 (.func fy #[] ca) := by rw [← hV0, ← hH]; exact Boxed.new W _ _
    have hS0 : Stays (fun k => k < H) W V0 := by rw [← hV0, ← hH]; exact (Stays.refl _ _).alloc _ (fun k hk => hk)
    have hz0 : V0.heap.size = H + 1 := by rw [← hV0, World.size_alloc, hH]
    have hbH : b + 3 ≤ H := by have := hwi.lt; omega
    have hwi0 := hwi.stays hS0 (fun k h1 h2 => by omega)
    rw [hH] at hJ hJx HY
    have hJ1 : J [] (fun k => k = H) V0 := hJ [] (fun _ => False) _ W V0 hJ0 (fun k hk => hk.elim) (hS0.mono fun k hk => by rw [← hH]; exact hk.1) (fun k hk => .inr (by omega))
    obtain ⟨rest, hr1⟩ : ∃ rest, all = [(d, x)] ++ rest := ⟨_, hall.symm⟩
    have hp1 : [(d, x)] <+: all := ⟨rest, hr1.symm⟩
    have T := HY.out [] (d, x) (fun k => k = H) V0 hJ1 (fun k hk => by omega) (by omega) hp1
    unfold encW elW at T
    rw [hkv] at T
    have TC := T.mono (R' := fun e W3 => ∃ ok, e = .returned (.bool ok) ∧ Stays (fun k => k = H ∨ Rd B b k) V0 W3 ∧ ((ok = true ∧ J [(d, x)] (fun k => k = H) W3) ∨ (ok = false ∧ Jx [(d, x)] (fun k => k = H) W3))) (by
      rintro e W3 ⟨h1, ⟨rfl, h2⟩ | ⟨rfl, h2⟩⟩
      · exact ⟨true, rfl, h1, .inl ⟨rfl, h2⟩⟩
      · exact ⟨false, rfl, h1, .inr ⟨rfl, h2⟩⟩)
    have HR0 := Lib.hid ((hR.mono (fun k hk => hk)).size)
    have HS0 := Lib.hid (hS0.mono (O' := Rd B b) fun k hk => by rcases hk with h | h <;> omega)
    have c0 := hwi0.e.c0
    have c1 := hwi0.e.c1
    have c2 := hwi0.e.c2
    have c3 := hwi0.e.c3
    have c4 := hwi0.e.c4
    rw [hkv] at c4
    have cd := hwi0.d.cell
    have cm := hwi0.m.cell
    have cy := hby.cell
    rw [← hH] at cy
    have HR1 := Lib.hid hr1
    clear T hJ0 hr1
    subst hV0
    rcases hy with ⟨l', hyy⟩ | ⟨g, ca', hyy, eg⟩
    · cases hyy
      obtain ⟨fn, tmps, assign, body, hyy, hR1⟩ := TC.loop 4
      gi_wp2_with fail
      first | refine RoundIn.mono hR1 ?_ | refine ⟨trivial, RoundIn.mono hR1 ?_⟩
      rintro e W3 ⟨ok, rfl, hS3, ⟨rfl, hI3⟩ | ⟨rfl, hX3⟩⟩
      · have hwi3 := hwi0.stays hS3 (fun k h1 h2 => .inr (.inr ⟨h1, h2⟩))
        have c0 := hwi3.e.c0
        have c4 := hwi3.e.c4
        rw [hkv] at c4
        have cd := hwi3.d.cell
        have cm := hwi3.m.cell
        have HK0 := Lib.hid (show Wk W W3 H B b (.func (Fn.yield l') #[] #[]) J ((d, x) :: (((kidsV w0 x).take 0).map (preV w0 (m + 1) (d + 1))).flatten) [] from ⟨hJ _ _ _ W3 W3 hI3 (fun k hk => by omega) (Stays.refl _ _) (fun k hk => .inl (hk.elim id (fun h => by simp at h))), hS3.boxed (.inl rfl) hby, List.nodup_nil, fun D h => by simp at h, HS0.out.trans (hS3.mono fun k hk => .inr hk)⟩)
        clear hJ1 hby hS0 hwi0 TC hR1 hS3 hI3 HS0
        gi_wp2_with fail
        refine wpIn_loop (fun a' W' => ∃ (i : Nat) (Ds : List Nat) (u6 u7 u8 u23 u24 u25 u26 u27 u28 u29 u30 u31 u32 u33 u34 u35 u36 u37 u38 : Value), i ≤ x.1.kids.length ∧ Wk W W' H B b (.func (Fn.yield l') #[] #[]) J ((d, x) :: (((kidsV w0 x).take i).map (preV w0 (m + 1) (d + 1))).flatten) Ds ∧ a' = { tmps := #[.func (Fn.yield l') #[] #[], .pointer (some ⟨b + 1, 0, none⟩), .pointer (some ⟨b, 0, none⟩), .pointer (some ⟨b + 1 + 1, 0, none⟩), .pointer (some ⟨H, 0, none⟩), undef, u6, u7, u8, .func (Fn.yield l') #[] #[], .int .i64 (d : Int), .agg #[.int .i64 x.1.page, .string x.1.name, .string x.1.text, .bool x.1.bare, .slice a x.1.kids.length c], .bool true, .bool false, .bool false, .int .i64 (d : Int), .int .i64 D, .bool false, .bool false, .pointer (some ⟨b, 4, none⟩), .slice a x.1.kids.length c, .int .i64 (x.1.kids.length : Int), .int .i64 (i : Int), u23, u24, u25, u26, u27, u28, u29, u30, u31, u32, u33, u34, u35, u36, u37, u38], defers := Ds.map fun D => { target := .collected D, args := #[] } }) (fun a' _ => x.1.kids.length - (intOf (a'.tmps.getD 22 undef)).toNat) ?_ ?_
        · exact ⟨0, [], undef, undef, undef, undef, undef, undef, undef, undef, undef, undef, undef, undef, undef, undef, undef, undef, undef, undef, undef, Nat.zero_le _, HK0.out, rfl⟩
        rintro _ wr ⟨i, Ds, u6, u7, u8, u23, u24, u25, u26, u27, u28, u29, u30, u31, u32, u33, u34, u35, u36, u37, u38, hi, hwk, rfl⟩
        clear HK0 c0 c1 c2 c3 c4 cd cm cy
        by_cases hlt : i < x.1.kids.length
        · have hiz : (i : Int) < (x.1.kids.length : Int) := by omega
          obtain ⟨bb, o, c', kv, e1, hbB, c0, c1, c2, c3, c4, hk, hok⟩ := HX.out.kid hlt
          rw [hkv] at e1
          cases e1
          obtain ⟨ka, kc, hkv2⟩ := hok.len
          simp only at hkv2
          subst hkv2
          have hrW := (hR.mono (O' := fun k => k < B) (fun k hk => .inl hk)).trans (hwk.r.mono fun k hk => .inl hk)
          have hBW : Below B w0 wr := hw.trans (hrW.below fun k hk => hk)
          have c0 := (hBW.cell (p := ⟨bb, o + i * 5, none⟩) hbB).trans c0
          have c1 := (hBW.cell (p := ⟨bb, o + i * 5 + 1, none⟩) hbB).trans c1
          have c2 := (hBW.cell (p := ⟨bb, o + i * 5 + 2, none⟩) hbB).trans c2
          have c3 := (hBW.cell (p := ⟨bb, o + i * 5 + 3, none⟩) hbB).trans c3
          have c4 := (hBW.cell (p := ⟨bb, o + i * 5 + 4, none⟩) hbB).trans c4
          have hwi4 := hwi.stays hwk.r (fun k h1 h2 => .inr ⟨h1, h2⟩)
          have cd := hwi4.d.cell
          have cm := hwi4.m.cell
          have hHw := hwk.y.lt
          generalize hkid : x.1.kids[i] = kid at c0 c1 c2 c3 c4 hk hok
          obtain ⟨K1, hK1⟩ : ∃ K1, wr.alloc (.cells #[.int .i64 kid.page, .string kid.name, .string kid.text, .bool kid.bare, .slice ka kid.kids.length kc] 24) = K1 := ⟨_, rfl⟩
          have hzK : K1.heap.size = wr.heap.size + 1 := by rw [← hK1, World.size_alloc]
          have hSK : Stays (fun k => k < wr.heap.size) wr K1 := by rw [← hK1]; exact (Stays.refl _ _).alloc _ (fun k hk => hk)
          have cdK : K1.cell? ⟨b + 1, 0, none⟩ = some (.int .i64 (d : Int)) := (hSK.boxed (by omega) hwi4.d).cell
          have cmK : K1.cell? ⟨b + 1 + 1, 0, none⟩ = some (.int .i64 D) := (hSK.boxed (by omega) hwi4.m).cell
          have hkb : ElAt K1 wr.heap.size kid (.slice ka kid.kids.length kc) := by rw [← hK1]; exact heap_alloc_new wr _
          have k0 := hkb.c0
          have k1 := hkb.c1
          have k2 := hkb.c2
          have k3 := hkb.c3
          have k4 := hkb.c4
          have CW := Lib.hid (within_any (kid, .slice ka kid.kids.length kc) ((d : Int) + 1) D K1)
          have hwn := wi_new (kid, .slice ka kid.kids.length kc) ((d : Int) + 1) D K1
          simp only at hwn
          unfold elW at CW
          simp only at CW
          obtain ⟨W1, hW1⟩ : ∃ W1, ((K1.alloc (.cells #[.int .i64 kid.page, .string kid.name, .string kid.text, .bool kid.bare, .slice ka kid.kids.length kc] 24)).alloc (.cells #[.int .i64 ((d : Int) + 1)] 3)).alloc (.cells #[.int .i64 D] 3) = W1 := ⟨_, rfl⟩
          rw [hW1] at CW hwn
          have hz1 : W1.heap.size = wr.heap.size + 4 := by rw [← hW1]; simp only [World.size_alloc]; omega
          have hS1 : Stays (fun k => k < wr.heap.size) wr W1 := hSK.trans (by rw [← hW1]; exact (((Stays.refl _ _).alloc _ (fun k hk => by omega)).alloc _ (fun k hk => by simp only [World.size_alloc]; omega)).alloc _ (fun k hk => by simp only [World.size_alloc]; omega))
          rw [hzK] at CW hwn
          have HWN := Lib.hid (And.intro hwn (And.intro hz1 (And.intro hS1 (And.intro hBW (And.intro hHw hok)))))
          have HWK := Lib.hid hwk
          have HKK := Lib.hid hk
          clear hSK hkb hwn hz1 hS1 hwi4 hrW hBW hwk hk hok hHw hzK hW1
          subst hK1
          gi_wp2_with (refine ⟨trivial, ?_⟩; gi_at_call 17; refine (callsIn_wide.2 CW.out).mono ?_; rintro e W1 ⟨rfl, rfl⟩)
          obtain ⟨hwn, hz1, hS1, hBW, hHw, hok⟩ := HWN.out
          have hdd : (d : Int) + 1 = ((d + 1 : Nat) : Int) := by omega
          rw [hdd] at hwn
          have hseq := ih (d + 1) (kid, .slice ka kid.kids.length kc) (wr.heap.size + 1) W1 D hok (hBW.trans (hS1.below fun k hk => by show k < wr.heap.size; omega)) (by omega) (by have := HDD.out.2; omega) (by have := HDD.out.1; omega) hwn
          have hZ : ∀ k, Zk H wr.heap.size Ds k → H ≤ k := fun k hk => by
            rcases hk with h | h | h
            · omega
            · have := (HWK.out.d k h).2; omega
            · omega
          have hRZ : ∀ k, Rd B b k ∨ Zk H wr.heap.size Ds k → k < W1.heap.size := fun k hk => by
            rcases hk with (h | h) | h | h | h
            · omega
            · omega
            · omega
            · have := (Array.getElem?_eq_some_iff.1 (HWK.out.d k h).1).1; omega
            · omega
          have hIf := wi_foot (B := B) (b := b) (p := ((d, x) :: (((kidsV w0 x).take i).map (preV w0 (m + 1) (d + 1))).flatten)) hJ hZ (by omega) hRZ
          have hXf := wx_foot (B := B) (b := b) (all := all) hJx hZ (by omega) hRZ
          obtain ⟨rest2, hst1, hst2⟩ := prev_step (m := m + 1) (d := d) HKK.out
          rw [hall] at hst1
          generalize ((d, x) :: (((kidsV w0 x).take i).map (preV w0 (m + 1) (d + 1))).flatten) = pre0 at hIf hst1 hst2 HWK
          have hI0 : WI B b H wr.heap.size Ds W1 J pre0 [] (fun _ => False) W1 := ⟨by
            rw [List.append_nil]
            exact hJ _ _ _ wr W1 HWK.out.j (fun k hk => by
              rcases hk with h | h
              · omega
              · have := (HWK.out.d k h).2; omega) (hS1.mono fun k hk => hk.1) (fun k hk => by
              rcases hk with h | h | h | h
              · exact h.elim
              · exact .inl (.inl h)
              · exact .inl (.inr h)
              · exact .inr (by omega)), Stays.refl _ _⟩
          have hokx := preV_ok (m + 1) (d + 1) hok
          have HQ := Lib.hid (And.intro hz1 (And.intro hS1 (And.intro hZ (And.intro hRZ (And.intro hst1 (And.intro hst2 (And.intro hokx hHw)))))))
          have hyb := hS1.boxed hHw HWK.out.y
          have HYB := Lib.hid hyb
          clear hyb hst1 hst2 hokx hok hBW HWN
          generalize preV w0 (m + 1) (d + 1) (kid, .slice ka kid.kids.length kc) = xs at hseq HQ
          refine range_sq (gf := 25) (lb := #[.pointer (some ⟨wr.heap.size + 1 + 1, 0, none⟩), .pointer (some ⟨wr.heap.size + 1, 0, none⟩), .pointer (some ⟨wr.heap.size + 1 + 1 + 1, 0, none⟩)]) rfl eg_within hseq (Stays.refl _ _) (fun k hk => by rcases hk with h | h <;> omega) (fun _ => rfl) (WI B b H wr.heap.size Ds W1 J pre0) (WX B b H wr.heap.size Ds W1 all Jx) hIf hXf hI0 ?round ?done ?stop
          case round =>
            intro l s y' O V hIV hRV hOl hlr hOV hps
            obtain ⟨yd, ye, yv⟩ := y'
            obtain ⟨hz1, hS1, hZ, hRZ, hst1, hst2, hokx, hHw⟩ := HQ.out
            obtain ⟨ya, yc, hyv⟩ := (hokx (yd, ye, yv) (hps.subset (by simp))).len
            simp only at hyv
            subst hyv
            have hpall : (pre0 ++ s) ++ [(yd, (ye, Value.slice ya ye.kids.length yc))] <+: all := by
              rw [hst1, List.append_assoc, List.append_assoc]
              exact (List.prefix_append_right_inj pre0).2 (hps.trans (List.prefix_append _ _))
            have HIV := Lib.hid (And.intro hIV (And.intro hRV (And.intro hOV (And.intro hpall (And.intro hlr hOl)))))
            clear hIV hRV hOV hps hpall hst1 hst2 hokx hz1 hS1 hZ hRZ hHw hI0 hIf hXf hseq
            unfold encW elW
            dsimp only
            rw [fold2]
            simp only [List.setIfInBounds_toArray, List.set_cons_succ, List.set_cons_zero]
            gi_wp2_with fail
            obtain ⟨hIV, hRV, hOV, hpall, ⟨rl, hrl⟩, hOl⟩ := HIV.out
            obtain ⟨hz1, hS1, hZ, hRZ, -, -, -, hHw⟩ := HQ.out
            have hzV := hRV.size
            have hlV : l < V.heap.size := (hOV l hOl).2
            have hlW : W1.heap.size ≤ l := (hOV l hOl).1
            obtain ⟨Vx, hVx⟩ : ∃ Vx, V.alloc (.cells #[.int .i64 ye.page, .string ye.name, .string ye.text, .bool ye.bare, .slice ya ye.kids.length yc] 24) = Vx := ⟨_, rfl⟩
            have hSx : Stays (fun k => k < V.heap.size) V Vx := by rw [← hVx]; exact (Stays.refl _ _).alloc _ (fun k hk => hk)
            have hbx : ElAt Vx V.heap.size ye (.slice ya ye.kids.length yc) := by rw [← hVx]; exact heap_alloc_new V _
            rw [hVx]
            refine ⟨hSx.mono fun k hk => ?_, fun W2 hS2 hz2 hr2 => ?_⟩
            · rcases hk with h | h | h
              · exact (hOV k h).2
              · omega
              · omega
            have hV2 : Stays (fun k => k < V.heap.size ∧ k ≠ l) V W2 := (hSx.mono fun k hk => hk.1).trans (hS2.mono fun k hk => hk.2)
            have hJ2 := hJ _ _ (fun k => O k ∨ Zk H wr.heap.size Ds k) V W2 hIV.1 (fun k hk => hk.elim (fun h => by have := hOV k h; omega) (hZ k)) (hV2.mono fun k hk => ⟨hk.1, fun e => hk.2 (.inl (by rw [e]; exact hOl))⟩) (fun k hk => .inl hk)
            have hW2 : Stays (fun k => Rd B b k ∨ Zk H wr.heap.size Ds k) W1 W2 := hIV.2.trans (hV2.mono fun k hk => by have := hRZ k hk; omega)
            have hbx2 : ElAt W2 V.heap.size ye (.slice ya ye.kids.length yc) := (hS2.block _ (show V.heap.size ≠ l by omega)).trans hbx
            have hz3 := hV2.size
            have T := HY.out _ (yd, (ye, .slice ya ye.kids.length yc)) _ W2 hJ2 (fun k hk => hk.elim (fun h => by have := hOV k h; omega) (fun h => ⟨hZ k h, by have := hRZ k (.inr h); omega⟩)) (by omega) hpall
            unfold encW elW at T
            simp only at T
            have TC := T.mono (R' := fun e W3 => ∃ ok, e = .returned (.bool ok) ∧ Stays (fun k => O k ∨ Rd B (wr.heap.size + 1) k) W2 W3 ∧ ((ok = true ∧ WI B b H wr.heap.size Ds W1 J pre0 (s ++ [(yd, (ye, .slice ya ye.kids.length yc))]) O W3) ∨ (ok = false ∧ WX B b H wr.heap.size Ds W1 all Jx .ret (s ++ [(yd, (ye, .slice ya ye.kids.length yc))]) O W3))) (by
              rintro e W3 ⟨h1, h2⟩
              have h3 : Stays (fun k => O k ∨ Rd B (wr.heap.size + 1) k) W2 W3 := h1.mono fun k hk => by
                rcases hk with h | h | h
                · exact .inl (.inl h)
                · exact .inr (.inl h)
                · exact .inl (.inr (.inr (.inr (by omega))))
              have h4 : Stays (fun k => Rd B b k ∨ Zk H wr.heap.size Ds k) W1 W3 := hW2.trans (h1.mono fun k hk => hk.elim .inr (fun h => .inl (.inr h)))
              rcases h2 with ⟨rfl, h2⟩ | ⟨rfl, h2⟩
              · exact ⟨true, rfl, h3, .inl ⟨rfl, by rw [← List.append_assoc]; exact h2, h4⟩⟩
              · exact ⟨false, rfl, h3, .inr ⟨rfl, rfl, ⟨_, hpall, h2⟩, h4⟩⟩)
            have cy := (hW2.boxed (.inr (.inl rfl)) HYB.out).cell
            have e0 := hbx2.c0
            have e1 := hbx2.c1
            have e2 := hbx2.c2
            have e3 := hbx2.c3
            have e4 := hbx2.c4
            clear T hJ2 hW2 hbx2 hbx hSx hV2 hIV hRV hOV hpall hS2 hRZ hS1 HIV HQ HYB HY hr2 hVx
            obtain ⟨fn2, tmps2, assign2, body2, hyy2, hRr⟩ := TC.loop 4
            gi_wp2_with fail
            first | refine RoundIn.mono hRr ?_ | refine ⟨trivial, RoundIn.mono hRr ?_⟩
            rintro e W4 ⟨ok, rfl, hS4, ⟨rfl, hI4⟩ | ⟨rfl, hX4⟩⟩
            · dsimp only
              gi_wp2_with fail
              exact ⟨hS4, hI4⟩
            · dsimp only
              gi_wp2_with fail
              exact ⟨hS4, hX4⟩
          case done =>
            rintro D' O V hD hOD hO hRV ⟨hIV, hSV⟩ hK
            obtain ⟨hz1, hS1, hZ, hRZ, -, hst2, -, hHw⟩ := HQ.out
            have hdl : ∀ E ∈ Ds, E < wr.heap.size := fun E hE => (Array.getElem?_eq_some_iff.1 (HWK.out.d E hE).1).1
            have hrel : Wk W V H B b (.func (Fn.yield l') #[] #[]) J ((d, x) :: (((kidsV w0 x).take (i + 1)).map (preV w0 (m + 1) (d + 1))).flatten) (D' :: Ds) := ⟨by
                rw [hst2]
                exact hJ _ _ _ V V hIV (fun k hk => hk.elim (fun h => by have := hO k h; omega) (hZ k)) (Stays.refl _ _) (fun k hk => by
                  rcases hk with h | h
                  · exact .inl (.inr (.inl h))
                  · rcases List.mem_cons.1 h with rfl | h
                    · exact .inl (.inl hOD)
                    · exact .inl (.inr (.inr (.inl h)))), hSV.boxed (.inr (.inl rfl)) HYB.out, List.nodup_cons.2 ⟨fun hm => by have := hdl D' hm; omega, HWK.out.nd⟩, fun E hE => by
                rcases List.mem_cons.1 hE with rfl | hE
                · exact ⟨hK, by omega⟩
                · exact ⟨(hSV.block E (.inr (.inr (.inl hE)))).trans ((hS1.block E (hdl E hE)).trans (HWK.out.d E hE).1), (HWK.out.d E hE).2⟩,
              HWK.out.r.trans ((hS1.mono fun k hk => by show k < wr.heap.size; rcases hk with h | h <;> omega).trans (hSV.mono fun k hk => .inl hk))⟩
            have HREL := Lib.hid hrel
            have hadd0 : ((i + 1 : Nat) : Int) = (i : Int) + 1 := by omega
            clear hrel hdl hIV hSV hRV hO hOD hK hI0 hIf hXf hseq HQ HWK HYB hz1 hS1 hZ hRZ hst2 hHw
            gi_wp2_with fail
            refine ⟨⟨i + 1, D' :: Ds, _, _, _, _, _, _, _, _, _, _, _, _, _, _, _, _, _, _, _, hlt, HREL.out, by rw [← hadd0]; rfl⟩, ?_⟩
            simp [intOf]; omega
          case stop =>
            rintro D' c' s O V hD hOD hO hRV hpre ⟨rfl, ⟨em, h1, h2⟩, hSV⟩ hK
            obtain ⟨hz1, hS1, hZ, hRZ, -, -, -, hHw⟩ := HQ.out
            have hdl : ∀ E ∈ Ds, E < wr.heap.size := fun E hE => (Array.getElem?_eq_some_iff.1 (HWK.out.d E hE).1).1
            have HFIN := Lib.hid (show (D' :: Ds).Nodup ∧ (∀ E ∈ D' :: Ds, V.heap[E]? = some (.deferred (some []))) from ⟨List.nodup_cons.2 ⟨fun hm => by have := hdl D' hm; omega, HWK.out.nd⟩, fun E hE => by
                rcases List.mem_cons.1 hE with rfl | hE
                · exact hK
                · exact (hSV.block E (.inr (.inr (.inl hE)))).trans ((hS1.block E (hdl E hE)).trans (HWK.out.d E hE).1)⟩)
            have hge : ∀ k, (O k ∨ Zk H wr.heap.size Ds k) → H ≤ k := fun k hk => hk.elim (fun h => by have := hO k h; omega) (hZ k)
            gi_wp2_with fail
            refine leaves_marks (D' :: Ds) _ HFIN.out.1 HFIN.out.2 (fun W' hS' => ?_)
            refine ⟨_, results_none rfl _ _ _, ⟨_, rfl⟩, (fun k => O k ∨ Zk H wr.heap.size Ds k), fun k hk => by have := hge k hk; omega, .inr ⟨em, h1, hJx em _ _ V W' h2 hge (hS'.mono fun k hk hm => ?_) (fun k hk => .inl hk)⟩⟩
            rcases List.mem_cons.1 hm with rfl | hm
            · exact hk.2 (.inl hOD)
            · exact hk.2 (.inr (.inr (.inl hm)))
        · obtain rfl : i = x.1.kids.length := by omega
          have hiz : ¬ (x.1.kids.length : Int) < (x.1.kids.length : Int) := by omega
          have HE := Lib.hid (show (d, x) :: (((kidsV w0 x).take x.1.kids.length).map (preV w0 (m + 1) (d + 1))).flatten = all by rw [← hall, List.take_of_length_le (by rw [kidsV_length]; exact Nat.le_refl _)]; rfl)
          have HWK := Lib.hid hwk
          clear hwk
          gi_wp2_with fail
          refine leaves_marks Ds _ HWK.out.nd (fun D hD => (HWK.out.d D hD).1) (fun W' hS' => ?_)
          have hge : ∀ k, (k = H ∨ k ∈ Ds) → H ≤ k := fun k hk => hk.elim (fun h => by omega) (fun h => by have := (HWK.out.d k h).2; omega)
          have hj := HWK.out.j
          rw [HE.out] at hj
          exact ⟨_, results_none rfl _ _ _, ⟨_, rfl⟩, (fun k => k = H ∨ k ∈ Ds), fun k hk => by have := hge k hk; omega, .inl (hJ _ _ _ wr W' hj hge (hS'.mono fun k hk hm => hk.2 (.inr hm)) (fun k hk => .inl hk))⟩
      · gi_wp2_with fail
        refine ⟨_, results_none rfl _ _ _, ⟨_, rfl⟩, (fun k => k = H), fun k hk => by omega, .inr ⟨_, hp1, hX3⟩⟩
    · cases hyy
      have hR1 := (callsIn_wide (n := 4)).2 TC.named
      gi_wp2_with fail
      first | refine CallsIn.mono hR1 ?_ | refine ⟨trivial, CallsIn.mono hR1 ?_⟩
      rintro e W3 ⟨ok, rfl, hS3, ⟨rfl, hI3⟩ | ⟨rfl, hX3⟩⟩
      · have hwi3 := hwi0.stays hS3 (fun k h1 h2 => .inr (.inr ⟨h1, h2⟩))
        have c0 := hwi3.e.c0
        have c4 := hwi3.e.c4
        rw [hkv] at c4
        have cd := hwi3.d.cell
        have cm := hwi3.m.cell
        have HK0 := Lib.hid (show Wk W W3 H B b (.func (Fn.func g) #[] ca) J ((d, x) :: (((kidsV w0 x).take 0).map (preV w0 (m + 1) (d + 1))).flatten) [] from ⟨hJ _ _ _ W3 W3 hI3 (fun k hk => by omega) (Stays.refl _ _) (fun k hk => .inl (hk.elim id (fun h => by simp at h))), hS3.boxed (.inl rfl) hby, List.nodup_nil, fun D h => by simp at h, HS0.out.trans (hS3.mono fun k hk => .inr hk)⟩)
        clear hJ1 hby hS0 hwi0 TC hR1 hS3 hI3 HS0
        gi_wp2_with fail
        refine wpIn_loop (fun a' W' => ∃ (i : Nat) (Ds : List Nat) (u6 u7 u8 u23 u24 u25 u26 u27 u28 u29 u30 u31 u32 u33 u34 u35 u36 u37 u38 : Value), i ≤ x.1.kids.length ∧ Wk W W' H B b (.func (Fn.func g) #[] ca) J ((d, x) :: (((kidsV w0 x).take i).map (preV w0 (m + 1) (d + 1))).flatten) Ds ∧ a' = { tmps := #[.func (Fn.func g) #[] ca, .pointer (some ⟨b + 1, 0, none⟩), .pointer (some ⟨b, 0, none⟩), .pointer (some ⟨b + 1 + 1, 0, none⟩), .pointer (some ⟨H, 0, none⟩), undef, u6, u7, u8, .func (Fn.func g) #[] ca, .int .i64 (d : Int), .agg #[.int .i64 x.1.page, .string x.1.name, .string x.1.text, .bool x.1.bare, .slice a x.1.kids.length c], .bool true, .bool false, .bool false, .int .i64 (d : Int), .int .i64 D, .bool false, .bool false, .pointer (some ⟨b, 4, none⟩), .slice a x.1.kids.length c, .int .i64 (x.1.kids.length : Int), .int .i64 (i : Int), u23, u24, u25, u26, u27, u28, u29, u30, u31, u32, u33, u34, u35, u36, u37, u38], defers := Ds.map fun D => { target := .collected D, args := #[] } }) (fun a' _ => x.1.kids.length - (intOf (a'.tmps.getD 22 undef)).toNat) ?_ ?_
        · exact ⟨0, [], undef, undef, undef, undef, undef, undef, undef, undef, undef, undef, undef, undef, undef, undef, undef, undef, undef, undef, undef, Nat.zero_le _, HK0.out, rfl⟩
        rintro _ wr ⟨i, Ds, u6, u7, u8, u23, u24, u25, u26, u27, u28, u29, u30, u31, u32, u33, u34, u35, u36, u37, u38, hi, hwk, rfl⟩
        clear HK0 c0 c1 c2 c3 c4 cd cm cy
        by_cases hlt : i < x.1.kids.length
        · have hiz : (i : Int) < (x.1.kids.length : Int) := by omega
          obtain ⟨bb, o, c', kv, e1, hbB, c0, c1, c2, c3, c4, hk, hok⟩ := HX.out.kid hlt
          rw [hkv] at e1
          cases e1
          obtain ⟨ka, kc, hkv2⟩ := hok.len
          simp only at hkv2
          subst hkv2
          have hrW := (hR.mono (O' := fun k => k < B) (fun k hk => .inl hk)).trans (hwk.r.mono fun k hk => .inl hk)
          have hBW : Below B w0 wr := hw.trans (hrW.below fun k hk => hk)
          have c0 := (hBW.cell (p := ⟨bb, o + i * 5, none⟩) hbB).trans c0
          have c1 := (hBW.cell (p := ⟨bb, o + i * 5 + 1, none⟩) hbB).trans c1
          have c2 := (hBW.cell (p := ⟨bb, o + i * 5 + 2, none⟩) hbB).trans c2
          have c3 := (hBW.cell (p := ⟨bb, o + i * 5 + 3, none⟩) hbB).trans c3
          have c4 := (hBW.cell (p := ⟨bb, o + i * 5 + 4, none⟩) hbB).trans c4
          have hwi4 := hwi.stays hwk.r (fun k h1 h2 => .inr ⟨h1, h2⟩)
          have cd := hwi4.d.cell
          have cm := hwi4.m.cell
          have hHw := hwk.y.lt
          generalize hkid : x.1.kids[i] = kid at c0 c1 c2 c3 c4 hk hok
          obtain ⟨K1, hK1⟩ : ∃ K1, wr.alloc (.cells #[.int .i64 kid.page, .string kid.name, .string kid.text, .bool kid.bare, .slice ka kid.kids.length kc] 24) = K1 := ⟨_, rfl⟩
          have hzK : K1.heap.size = wr.heap.size + 1 := by rw [← hK1, World.size_alloc]
          have hSK : Stays (fun k => k < wr.heap.size) wr K1 := by rw [← hK1]; exact (Stays.refl _ _).alloc _ (fun k hk => hk)
          have cdK : K1.cell? ⟨b + 1, 0, none⟩ = some (.int .i64 (d : Int)) := (hSK.boxed (by omega) hwi4.d).cell
          have cmK : K1.cell? ⟨b + 1 + 1, 0, none⟩ = some (.int .i64 D) := (hSK.boxed (by omega) hwi4.m).cell
          have hkb : ElAt K1 wr.heap.size kid (.slice ka kid.kids.length kc) := by rw [← hK1]; exact heap_alloc_new wr _
          have k0 := hkb.c0
          have k1 := hkb.c1
          have k2 := hkb.c2
          have k3 := hkb.c3
          have k4 := hkb.c4
          have CW := Lib.hid (within_any (kid, .slice ka kid.kids.length kc) ((d : Int) + 1) D K1)
          have hwn := wi_new (kid, .slice ka kid.kids.length kc) ((d : Int) + 1) D K1
          simp only at hwn
          unfold elW at CW
          simp only at CW
          obtain ⟨W1, hW1⟩ : ∃ W1, ((K1.alloc (.cells #[.int .i64 kid.page, .string kid.name, .string kid.text, .bool kid.bare, .slice ka kid.kids.length kc] 24)).alloc (.cells #[.int .i64 ((d : Int) + 1)] 3)).alloc (.cells #[.int .i64 D] 3) = W1 := ⟨_, rfl⟩
          rw [hW1] at CW hwn
          have hz1 : W1.heap.size = wr.heap.size + 4 := by rw [← hW1]; simp only [World.size_alloc]; omega
          have hS1 : Stays (fun k => k < wr.heap.size) wr W1 := hSK.trans (by rw [← hW1]; exact (((Stays.refl _ _).alloc _ (fun k hk => by omega)).alloc _ (fun k hk => by simp only [World.size_alloc]; omega)).alloc _ (fun k hk => by simp only [World.size_alloc]; omega))
          rw [hzK] at CW hwn
          have HWN := Lib.hid (And.intro hwn (And.intro hz1 (And.intro hS1 (And.intro hBW (And.intro hHw hok)))))
          have HWK := Lib.hid hwk
          have HKK := Lib.hid hk
          clear hSK hkb hwn hz1 hS1 hwi4 hrW hBW hwk hk hok hHw hzK hW1
          subst hK1
          gi_wp2_with (refine ⟨trivial, ?_⟩; gi_at_call 17; refine (callsIn_wide.2 CW.out).mono ?_; rintro e W1 ⟨rfl, rfl⟩)
          obtain ⟨hwn, hz1, hS1, hBW, hHw, hok⟩ := HWN.out
          have hdd : (d : Int) + 1 = ((d + 1 : Nat) : Int) := by omega
          rw [hdd] at hwn
          have hseq := ih (d + 1) (kid, .slice ka kid.kids.length kc) (wr.heap.size + 1) W1 D hok (hBW.trans (hS1.below fun k hk => by show k < wr.heap.size; omega)) (by omega) (by have := HDD.out.2; omega) (by have := HDD.out.1; omega) hwn
          have hZ : ∀ k, Zk H wr.heap.size Ds k → H ≤ k := fun k hk => by
            rcases hk with h | h | h
            · omega
            · have := (HWK.out.d k h).2; omega
            · omega
          have hRZ : ∀ k, Rd B b k ∨ Zk H wr.heap.size Ds k → k < W1.heap.size := fun k hk => by
            rcases hk with (h | h) | h | h | h
            · omega
            · omega
            · omega
            · have := (Array.getElem?_eq_some_iff.1 (HWK.out.d k h).1).1; omega
            · omega
          have hIf := wi_foot (B := B) (b := b) (p := ((d, x) :: (((kidsV w0 x).take i).map (preV w0 (m + 1) (d + 1))).flatten)) hJ hZ (by omega) hRZ
          have hXf := wx_foot (B := B) (b := b) (all := all) hJx hZ (by omega) hRZ
          obtain ⟨rest2, hst1, hst2⟩ := prev_step (m := m + 1) (d := d) HKK.out
          rw [hall] at hst1
          generalize ((d, x) :: (((kidsV w0 x).take i).map (preV w0 (m + 1) (d + 1))).flatten) = pre0 at hIf hst1 hst2 HWK
          have hI0 : WI B b H wr.heap.size Ds W1 J pre0 [] (fun _ => False) W1 := ⟨by
            rw [List.append_nil]
            exact hJ _ _ _ wr W1 HWK.out.j (fun k hk => by
              rcases hk with h | h
              · omega
              · have := (HWK.out.d k h).2; omega) (hS1.mono fun k hk => hk.1) (fun k hk => by
              rcases hk with h | h | h | h
              · exact h.elim
              · exact .inl (.inl h)
              · exact .inl (.inr h)
              · exact .inr (by omega)), Stays.refl _ _⟩
          have hokx := preV_ok (m + 1) (d + 1) hok
          have HQ := Lib.hid (And.intro hz1 (And.intro hS1 (And.intro hZ (And.intro hRZ (And.intro hst1 (And.intro hst2 (And.intro hokx hHw)))))))
          have hyb := hS1.boxed hHw HWK.out.y
          have HYB := Lib.hid hyb
          clear hyb hst1 hst2 hokx hok hBW HWN
          generalize preV w0 (m + 1) (d + 1) (kid, .slice ka kid.kids.length kc) = xs at hseq HQ
          refine range_sq (gf := 25) (lb := #[.pointer (some ⟨wr.heap.size + 1 + 1, 0, none⟩), .pointer (some ⟨wr.heap.size + 1, 0, none⟩), .pointer (some ⟨wr.heap.size + 1 + 1 + 1, 0, none⟩)]) rfl eg_within hseq (Stays.refl _ _) (fun k hk => by rcases hk with h | h <;> omega) (fun _ => rfl) (WI B b H wr.heap.size Ds W1 J pre0) (WX B b H wr.heap.size Ds W1 all Jx) hIf hXf hI0 ?round ?done ?stop
          case round =>
            intro l s y' O V hIV hRV hOl hlr hOV hps
            obtain ⟨yd, ye, yv⟩ := y'
            obtain ⟨hz1, hS1, hZ, hRZ, hst1, hst2, hokx, hHw⟩ := HQ.out
            obtain ⟨ya, yc, hyv⟩ := (hokx (yd, ye, yv) (hps.subset (by simp))).len
            simp only at hyv
            subst hyv
            have hpall : (pre0 ++ s) ++ [(yd, (ye, Value.slice ya ye.kids.length yc))] <+: all := by
              rw [hst1, List.append_assoc, List.append_assoc]
              exact (List.prefix_append_right_inj pre0).2 (hps.trans (List.prefix_append _ _))
            have HIV := Lib.hid (And.intro hIV (And.intro hRV (And.intro hOV (And.intro hpall (And.intro hlr hOl)))))
            clear hIV hRV hOV hps hpall hst1 hst2 hokx hz1 hS1 hZ hRZ hHw hI0 hIf hXf hseq
            unfold encW elW
            dsimp only
            rw [fold2]
            simp only [List.setIfInBounds_toArray, List.set_cons_succ, List.set_cons_zero]
            gi_wp2_with fail
            obtain ⟨hIV, hRV, hOV, hpall, ⟨rl, hrl⟩, hOl⟩ := HIV.out
            obtain ⟨hz1, hS1, hZ, hRZ, -, -, -, hHw⟩ := HQ.out
            have hzV := hRV.size
            have hlV : l < V.heap.size := (hOV l hOl).2
            have hlW : W1.heap.size ≤ l := (hOV l hOl).1
            obtain ⟨Vx, hVx⟩ : ∃ Vx, V.alloc (.cells #[.int .i64 ye.page, .string ye.name, .string ye.text, .bool ye.bare, .slice ya ye.kids.length yc] 24) = Vx := ⟨_, rfl⟩
            have hSx : Stays (fun k => k < V.heap.size) V Vx := by rw [← hVx]; exact (Stays.refl _ _).alloc _ (fun k hk => hk)
            have hbx : ElAt Vx V.heap.size ye (.slice ya ye.kids.length yc) := by rw [← hVx]; exact heap_alloc_new V _
            rw [hVx]
            refine ⟨hSx.mono fun k hk => ?_, fun W2 hS2 hz2 hr2 => ?_⟩
            · rcases hk with h | h | h
              · exact (hOV k h).2
              · omega
              · omega
            have hV2 : Stays (fun k => k < V.heap.size ∧ k ≠ l) V W2 := (hSx.mono fun k hk => hk.1).trans (hS2.mono fun k hk => hk.2)
            have hJ2 := hJ _ _ (fun k => O k ∨ Zk H wr.heap.size Ds k) V W2 hIV.1 (fun k hk => hk.elim (fun h => by have := hOV k h; omega) (hZ k)) (hV2.mono fun k hk => ⟨hk.1, fun e => hk.2 (.inl (by rw [e]; exact hOl))⟩) (fun k hk => .inl hk)
            have hW2 : Stays (fun k => Rd B b k ∨ Zk H wr.heap.size Ds k) W1 W2 := hIV.2.trans (hV2.mono fun k hk => by have := hRZ k hk; omega)
            have hbx2 : ElAt W2 V.heap.size ye (.slice ya ye.kids.length yc) := (hS2.block _ (show V.heap.size ≠ l by omega)).trans hbx
            have hz3 := hV2.size
            have T := HY.out _ (yd, (ye, .slice ya ye.kids.length yc)) _ W2 hJ2 (fun k hk => hk.elim (fun h => by have := hOV k h; omega) (fun h => ⟨hZ k h, by have := hRZ k (.inr h); omega⟩)) (by omega) hpall
            unfold encW elW at T
            simp only at T
            have TC := T.mono (R' := fun e W3 => ∃ ok, e = .returned (.bool ok) ∧ Stays (fun k => O k ∨ Rd B (wr.heap.size + 1) k) W2 W3 ∧ ((ok = true ∧ WI B b H wr.heap.size Ds W1 J pre0 (s ++ [(yd, (ye, .slice ya ye.kids.length yc))]) O W3) ∨ (ok = false ∧ WX B b H wr.heap.size Ds W1 all Jx .ret (s ++ [(yd, (ye, .slice ya ye.kids.length yc))]) O W3))) (by
              rintro e W3 ⟨h1, h2⟩
              have h3 : Stays (fun k => O k ∨ Rd B (wr.heap.size + 1) k) W2 W3 := h1.mono fun k hk => by
                rcases hk with h | h | h
                · exact .inl (.inl h)
                · exact .inr (.inl h)
                · exact .inl (.inr (.inr (.inr (by omega))))
              have h4 : Stays (fun k => Rd B b k ∨ Zk H wr.heap.size Ds k) W1 W3 := hW2.trans (h1.mono fun k hk => hk.elim .inr (fun h => .inl (.inr h)))
              rcases h2 with ⟨rfl, h2⟩ | ⟨rfl, h2⟩
              · exact ⟨true, rfl, h3, .inl ⟨rfl, by rw [← List.append_assoc]; exact h2, h4⟩⟩
              · exact ⟨false, rfl, h3, .inr ⟨rfl, rfl, ⟨_, hpall, h2⟩, h4⟩⟩)
            have cy := (hW2.boxed (.inr (.inl rfl)) HYB.out).cell
            have e0 := hbx2.c0
            have e1 := hbx2.c1
            have e2 := hbx2.c2
            have e3 := hbx2.c3
            have e4 := hbx2.c4
            clear T hJ2 hW2 hbx2 hbx hSx hV2 hIV hRV hOV hpall hS2 hRZ hS1 HIV HQ HYB HY hr2 hVx
            have hRr := CallsIn.inRound l ((callsIn_wide (n := 4)).2 TC.named)
            gi_wp2_with fail
            first | refine CallsIn.mono hRr ?_ | refine ⟨trivial, CallsIn.mono hRr ?_⟩
            rintro e W4 ⟨ok, rfl, hS4, ⟨rfl, hI4⟩ | ⟨rfl, hX4⟩⟩
            · dsimp only
              gi_wp2_with fail
              exact ⟨hS4, hI4⟩
            · dsimp only
              gi_wp2_with fail
              exact ⟨hS4, hX4⟩
          case done =>
            rintro D' O V hD hOD hO hRV ⟨hIV, hSV⟩ hK
            obtain ⟨hz1, hS1, hZ, hRZ, -, hst2, -, hHw⟩ := HQ.out
            have hdl : ∀ E ∈ Ds, E < wr.heap.size := fun E hE => (Array.getElem?_eq_some_iff.1 (HWK.out.d E hE).1).1
            have hrel : Wk W V H B b (.func (Fn.func g) #[] ca) J ((d, x) :: (((kidsV w0 x).take (i + 1)).map (preV w0 (m + 1) (d + 1))).flatten) (D' :: Ds) := ⟨by
                rw [hst2]
                exact hJ _ _ _ V V hIV (fun k hk => hk.elim (fun h => by have := hO k h; omega) (hZ k)) (Stays.refl _ _) (fun k hk => by
                  rcases hk with h | h
                  · exact .inl (.inr (.inl h))
                  · rcases List.mem_cons.1 h with rfl | h
                    · exact .inl (.inl hOD)
                    · exact .inl (.inr (.inr (.inl h)))), hSV.boxed (.inr (.inl rfl)) HYB.out, List.nodup_cons.2 ⟨fun hm => by have := hdl D' hm; omega, HWK.out.nd⟩, fun E hE => by
                rcases List.mem_cons.1 hE with rfl | hE
                · exact ⟨hK, by omega⟩
                · exact ⟨(hSV.block E (.inr (.inr (.inl hE)))).trans ((hS1.block E (hdl E hE)).trans (HWK.out.d E hE).1), (HWK.out.d E hE).2⟩,
              HWK.out.r.trans ((hS1.mono fun k hk => by show k < wr.heap.size; rcases hk with h | h <;> omega).trans (hSV.mono fun k hk => .inl hk))⟩
            have HREL := Lib.hid hrel
            have hadd0 : ((i + 1 : Nat) : Int) = (i : Int) + 1 := by omega
            clear hrel hdl hIV hSV hRV hO hOD hK hI0 hIf hXf hseq HQ HWK HYB hz1 hS1 hZ hRZ hst2 hHw
            gi_wp2_with fail
            refine ⟨⟨i + 1, D' :: Ds, _, _, _, _, _, _, _, _, _, _, _, _, _, _, _, _, _, _, _, hlt, HREL.out, by rw [← hadd0]; rfl⟩, ?_⟩
            simp [intOf]; omega
          case stop =>
            rintro D' c' s O V hD hOD hO hRV hpre ⟨rfl, ⟨em, h1, h2⟩, hSV⟩ hK
            obtain ⟨hz1, hS1, hZ, hRZ, -, -, -, hHw⟩ := HQ.out
            have hdl : ∀ E ∈ Ds, E < wr.heap.size := fun E hE => (Array.getElem?_eq_some_iff.1 (HWK.out.d E hE).1).1
            have HFIN := Lib.hid (show (D' :: Ds).Nodup ∧ (∀ E ∈ D' :: Ds, V.heap[E]? = some (.deferred (some []))) from ⟨List.nodup_cons.2 ⟨fun hm => by have := hdl D' hm; omega, HWK.out.nd⟩, fun E hE => by
                rcases List.mem_cons.1 hE with rfl | hE
                · exact hK
                · exact (hSV.block E (.inr (.inr (.inl hE)))).trans ((hS1.block E (hdl E hE)).trans (HWK.out.d E hE).1)⟩)
            have hge : ∀ k, (O k ∨ Zk H wr.heap.size Ds k) → H ≤ k := fun k hk => hk.elim (fun h => by have := hO k h; omega) (hZ k)
            gi_wp2_with fail
            refine leaves_marks (D' :: Ds) _ HFIN.out.1 HFIN.out.2 (fun W' hS' => ?_)
            refine ⟨_, results_none rfl _ _ _, ⟨_, rfl⟩, (fun k => O k ∨ Zk H wr.heap.size Ds k), fun k hk => by have := hge k hk; omega, .inr ⟨em, h1, hJx em _ _ V W' h2 hge (hS'.mono fun k hk hm => ?_) (fun k hk => .inl hk)⟩⟩
            rcases List.mem_cons.1 hm with rfl | hm
            · exact hk.2 (.inl hOD)
            · exact hk.2 (.inr (.inr (.inl hm)))
        · obtain rfl : i = x.1.kids.length := by omega
          have hiz : ¬ (x.1.kids.length : Int) < (x.1.kids.length : Int) := by omega
          have HE := Lib.hid (show (d, x) :: (((kidsV w0 x).take x.1.kids.length).map (preV w0 (m + 1) (d + 1))).flatten = all by rw [← hall, List.take_of_length_le (by rw [kidsV_length]; exact Nat.le_refl _)]; rfl)
          have HWK := Lib.hid hwk
          clear hwk
          gi_wp2_with fail
          refine leaves_marks Ds _ HWK.out.nd (fun D hD => (HWK.out.d D hD).1) (fun W' hS' => ?_)
          have hge : ∀ k, (k = H ∨ k ∈ Ds) → H ≤ k := fun k hk => hk.elim (fun h => by omega) (fun h => by have := (HWK.out.d k h).2; omega)
          have hj := HWK.out.j
          rw [HE.out] at hj
          exact ⟨_, results_none rfl _ _ _, ⟨_, rfl⟩, (fun k => k = H ∨ k ∈ Ds), fun k hk => by have := hge k hk; omega, .inl (hJ _ _ _ wr W' hj hge (hS'.mono fun k hk hm => hk.2 (.inr hm)) (fun k hk => .inl hk))⟩
      · gi_wp2_with fail
        refine ⟨_, results_none rfl _ _ _, ⟨_, rfl⟩, (fun k => k = H), fun k hk => by omega, .inr ⟨_, hp1, hX3⟩⟩
end Go.Proofs.YtpgjalikgmagiaaDoor.Tr
