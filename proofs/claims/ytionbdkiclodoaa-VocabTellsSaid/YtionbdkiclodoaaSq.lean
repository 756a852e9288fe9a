/-
A range over a function whose iterator may own memory of its own and may itself range over another one: what such an iterator is (it hands on a list, to whatever takes it), and the law of a loop over it. Conditions: those that each theorem states.
-/
import Derived.Test.YtionbdkiclodoaaRows
import Derived.RangeFuncNested
import Derived.RangeFuncBound
import Derived.RangeFuncCalls
import Derived.RangeFuncLeaves
import Derived.RangeFuncBox
import Derived.WalkKit
namespace Go.Proofs.Ytionbdkiclodoaa.Sq
open Go.RowKit

/-- The blocks of O lie as they lay; none has gone. -/
structure Stays (O : Nat → Prop) (A B : World) : Prop where
  os : B.os = A.os
  tape : B.tape = A.tape
  output : B.output = A.output
  size : A.heap.size ≤ B.heap.size
  block : ∀ k, O k → B.heap[k]? = A.heap[k]?

theorem Stays.refl (O : Nat → Prop) (A : World) : Stays O A A := ⟨rfl, rfl, rfl, Nat.le_refl _, fun _ _ => rfl⟩
theorem Stays.trans {O : Nat → Prop} {A B C : World} (h : Stays O A B) (k : Stays O B C) : Stays O A C :=
  ⟨k.os.trans h.os, k.tape.trans h.tape, k.output.trans h.output, Nat.le_trans h.size k.size, fun i hi => (k.block i hi).trans (h.block i hi)⟩
theorem Stays.mono {O O' : Nat → Prop} {A B : World} (h : Stays O A B) (hO : ∀ k, O' k → O k) : Stays O' A B := ⟨h.os, h.tape, h.output, h.size, fun k hk => h.block k (hO k hk)⟩
theorem Stays.of_below {O : Nat → Prop} {b : Nat} {A B : World} (h : Below b A B) (hO : ∀ k, O k → k < b) : Stays O A B := ⟨h.os, h.tape, h.output, h.size, fun k hk => h.block k (hO k hk)⟩
theorem Stays.below {O : Nat → Prop} {b : Nat} {A B : World} (h : Stays O A B) (hO : ∀ k, k < b → O k) : Below b A B := ⟨h.os, h.tape, h.output, h.size, fun k hk => h.block k (hO k hk)⟩
theorem Stays.drew {O : Nat → Prop} {A B : World} (h : Stays O A B) : Stays O A B.drew := ⟨h.os, h.tape, h.output, h.size, h.block⟩
theorem Stays.grown {O : Nat → Prop} {A B C : World} {row : Option Nat} (h : Stays O A B) (hg : B.grownBy C row) (hO : ∀ k, O k → k < B.heap.size ∧ some k ≠ row) : Stays O A C :=
  h.trans ⟨hg.os, hg.tape, hg.output, hg.size, fun k hk => hg.block k (hO k hk).1 (hO k hk).2⟩
theorem Stays.alloc {O : Nat → Prop} {A B : World} (h : Stays O A B) (o : Obj) (hO : ∀ k, O k → k < B.heap.size) : Stays O A (B.alloc o) := h.grown (World.grownBy_alloc B o none) (fun k hk => ⟨hO k hk, by simp⟩)
theorem Stays.setCell {O : Nat → Prop} {A B : World} (h : Stays O A B) (b : Nat) (u : Value) (hb : ¬ O b) : Stays O A (B.setCell ⟨b, 0, none⟩ u) :=
  h.trans ⟨rfl, rfl, rfl, (grownBy_setCell' B b u).size, fun k hk => Below.heap_setCell B _ u k (fun e => hb (by cases e; exact hk))⟩
theorem Stays.putObj {O : Nat → Prop} {A B : World} (h : Stays O A B) (b : Nat) (o : Obj) (hb : ¬ O b) : Stays O A (B.putObj b o) :=
  h.trans ⟨rfl, rfl, rfl, by simp, fun k hk => World.putObj_heap_other (fun e => hb (e ▸ hk))⟩
theorem Stays.boxed {O : Nat → Prop} {A B : World} {b : Nat} {t : TypeId} {v : Value} (h : Stays O A B) (hb : O b) (hv : Boxed A b t v) : Boxed B b t v := (h.block b hb).trans hv
/-- A row of cells lies as it lay where its block does. -/
theorem Stays.row {O : Nat → Prop} {A B : World} {base : Nat} {e : TypeId} {size : Nat} {v : Value} {n : Nat} {xs : List Value} (h : Stays O A B) (hr : A.ownsRow base e size v n xs) (hv : ∀ g, v.ownBlock = some g → O g) : B.ownsRow base e size v n xs := by
  obtain ⟨h0, hr⟩ := hr
  refine ⟨h0, ?_⟩
  rcases hr with hr | ⟨g, cap, cur, rfl, hg, hh, rest⟩
  · exact .inl hr
  · exact .inr ⟨g, cap, cur, rfl, hg, (h.block g (hv g (by simp [Value.ownBlock]))).trans hh, rest⟩
theorem own_lt {A : World} {base : Nat} {e : TypeId} {size : Nat} {v : Value} {n : Nat} {xs : List Value} (hr : A.ownsRow base e size v n xs) (g : Nat) (hg : v.ownBlock = some g) : base ≤ g ∧ g < A.heap.size := by
  obtain ⟨_, ⟨rfl, _⟩ | ⟨g', cap, cur, rfl, hb, hh, _⟩⟩ := hr
  · simp [Value.ownBlock] at hg
  · obtain rfl : g' = g := by simpa [Value.ownBlock] using hg
    exact ⟨hb, (Array.getElem?_eq_some_iff.1 hh).1⟩

/-- What is said of a world beside the blocks O of somebody else's (all of them from H on): it goes on being so while only those turn, and new ones come. -/
def Foot {β : Type} (H : Nat) (J : β → (Nat → Prop) → World → Prop) : Prop :=
  ∀ (s : β) (O O' : Nat → Prop) (A B : World), J s O A → (∀ k, O k → H ≤ k) → Stays (fun k => k < A.heap.size ∧ ¬ O k) A B → (∀ k, O' k → O k ∨ A.heap.size ≤ k) → J s O' B

section foot
variable {β : Type} {H : Nat}
theorem Foot.and {I J : β → (Nat → Prop) → World → Prop} (hI : Foot H I) (hJ : Foot H J) : Foot H (fun s O W => I s O W ∧ J s O W) :=
  fun s O O' A B h hO hS hO' => ⟨hI s O O' A B h.1 hO hS hO', hJ s O O' A B h.2 hO hS hO'⟩
theorem Foot.pure (p : β → Prop) : Foot H (fun s (_ : Nat → Prop) (_ : World) => p s) := fun _ _ _ _ _ h _ _ _ => h
theorem Foot.ex {γ : Type} {I : γ → β → (Nat → Prop) → World → Prop} (hI : ∀ c, Foot H (I c)) : Foot H (fun s O W => ∃ c, I c s O W) :=
  fun s O O' A B ⟨c, h⟩ hO hS hO' => ⟨c, hI c s O O' A B h hO hS hO'⟩
theorem Foot.below {b : Nat} {w : World} (hb : b ≤ H) (hw : b ≤ w.heap.size) : Foot H (fun (_ : β) (_ : Nat → Prop) W => Below b w W) :=
  fun _ O _ A B h hO hS _ => h.trans (hS.below fun k hk => ⟨by have := h.size; omega, fun ho => by have := hO k ho; omega⟩)
theorem Foot.stays {R : Nat → Prop} {w : World} (hR : ∀ k, R k → k < w.heap.size ∧ k < H) : Foot H (fun (_ : β) (_ : Nat → Prop) W => Stays R w W) :=
  fun _ O _ A B h hO hS _ => h.trans (hS.mono fun k hk => ⟨by have := h.size; have := hR k hk; omega, fun ho => by have := hO k ho; have := hR k hk; omega⟩)
theorem Foot.boxed (b : Nat) (t : TypeId) (f : β → Value) (hb : b < H) : Foot H (fun s (_ : Nat → Prop) W => Boxed W b t (f s)) :=
  fun _ O _ A B h hO hS _ => (hS.block b ⟨Boxed.lt h, fun ho => by have := hO b ho; omega⟩).trans h
/-- A variable that holds a row of the speaker's own. -/
theorem Foot.row (n₀ b : Nat) (t e : TypeId) (size : Nat) (k : β → Nat) (f : β → List Value) (G : β → Value → Prop) (hb : b < H) :
    Foot H (fun s O W => ∃ v, Boxed W b t v ∧ W.ownsRow n₀ e size v (k s) (f s) ∧ (∀ g, v.ownBlock = some g → ¬ O g) ∧ G s v) :=
  fun s O O' A B ⟨v, hv, hr, hg, hG⟩ hO hS hO' =>
    ⟨v, (hS.block b ⟨hv.lt, fun ho => by have := hO b ho; omega⟩).trans hv, hS.row hr (fun g e => ⟨(own_lt hr g e).2, hg g e⟩), fun g e ho => by
      rcases hO' g ho with h | h
      · exact hg g e h
      · have := (own_lt hr g e).2; omega, hG⟩
end foot

/-- The value y, called with these arguments, does so: it is a loop's own function, or a function that the program names. -/
def Takes (P : Program) (y : Value) (args : Array Value) (W : World) (R : Ending → World → Prop) : Prop :=
  (∃ l, y = .func (.yield l) #[] #[] ∧ YieldAt Fence.wide 0 P l args W R) ∨
  (∃ g ca, y = .func (.func g) #[] ca ∧ (∀ args w, (callFunc g args).run P w = .ok (.enter g args) w) ∧ Calls P g (args ++ ca) W R)
theorem Takes.mono {P : Program} {y : Value} {args : Array Value} {W : World} {R R' : Ending → World → Prop} (h : Takes P y args W R) (hr : ∀ e w, R e w → R' e w) : Takes P y args W R' := by
  rcases h with ⟨l, hy, h⟩ | ⟨g, ca, hy, eg, h⟩
  · exact .inl ⟨l, hy, h.mono hr⟩
  · exact .inr ⟨g, ca, hy, eg, h.mono hr⟩
theorem round_any {n m : Nat} {P : Program} {l : Nat} {f : FuncId} {tmps : Array Value} {assign body : Code} {w : World} {R : Ending → World → Prop} (h : RoundIn Fence.wide n P l f tmps assign body w R) : RoundIn Fence.wide m P l f tmps assign body w R :=
  ⟨h.1, fun c cs _ => h.2 c cs (room_wide _)⟩
theorem Takes.loop {P : Program} {l : Nat} {fi ca : Array Value} {args : Array Value} {W : World} {R : Ending → World → Prop} (m : Nat) (h : Takes P (.func (.yield l) fi ca) args W R) : YieldAt Fence.wide m P l args W R := by
  rcases h with ⟨l', hy, fn, tmps, assign, body, h1, h2⟩ | ⟨g, ca, hy, _⟩
  · cases hy; exact ⟨fn, tmps, assign, body, h1, round_any h2⟩
  · cases hy
theorem Takes.named {P : Program} {g : FuncId} {fi ca : Array Value} {args : Array Value} {W : World} {R : Ending → World → Prop} (h : Takes P (.func (.func g) fi ca) args W R) : Calls P g (args ++ ca) W R := by
  rcases h with ⟨l', hy, _⟩ | ⟨g', ca', hy, eg, h⟩
  · cases hy
  · cases hy; exact h
/-- What may be handed to an iterator. -/
def Taker (P : Program) (y : Value) : Prop := (∃ l, y = .func (.yield l) #[] #[]) ∨ (∃ g ca, y = .func (.func g) #[] ca ∧ ∀ args w, (callFunc g args).run P w = .ok (.enter g args) w)

/-- An iterator hands on the list xs, piece by piece, as far as it is wanted: it reads the blocks R, as they lie in w; what it turns are blocks of its own, which the taker leaves alone. -/
def Sq {α : Type} (P : Program) (g : FuncId) (lb : Array Value) (encs : α → Array Value) (R : Nat → Prop) (xs : List α) (w : World) : Prop :=
  ∀ (y : Value) (J Jx : List α → (Nat → Prop) → World → Prop) (W : World), Taker P y → Stays R w W → Foot W.heap.size J → Foot W.heap.size Jx →
    (∀ pre x O W1, J pre O W1 → (∀ k, O k → W.heap.size ≤ k ∧ k < W1.heap.size) → W.heap.size ≤ W1.heap.size → pre ++ [x] <+: xs → Takes P y (encs x) W1 fun e W' => Stays (fun k => O k ∨ R k) W1 W' ∧
      ((e = .returned (.bool true) ∧ J (pre ++ [x]) O W') ∨ (e = .returned (.bool false) ∧ Jx (pre ++ [x]) O W'))) →
    J [] (fun _ => False) W →
    Calls P g (#[y] ++ lb) W fun e W' => (∃ v, e = .returned v) ∧ ∃ O, (∀ k, O k → W.heap.size ≤ k) ∧ (J xs O W' ∨ ∃ pre, pre <+: xs ∧ Jx pre O W')

theorem Foot.grow {β : Type} {H : Nat} {J : β → (Nat → Prop) → World → Prop} (hJ : Foot H J) {s : β} {O : Nat → Prop} {A B : World} (h : J s O A) (hO : ∀ k, O k → H ≤ k) (hb : Below A.heap.size A B) : J s O B :=
  hJ s O O A B h hO (Stays.of_below hb fun _ hk => hk.1) (fun _ h => .inl h)
/-- Such an iterator that has no memory of its own. -/
theorem sq_plain {α : Type} {P : Program} {g : FuncId} {lb : Array Value} {encs : α → Array Value} {R : Nat → Prop} {xs : List α} {w : World}
    (h : ∀ (y : Value) (J Jx : List α → World → Prop) (W : World), Taker P y → Stays R w W → (∀ s A B, J s A → Below A.heap.size A B → J s B) → (∀ s A B, Jx s A → Below A.heap.size A B → Jx s B) →
      (∀ pre x W1, J pre W1 → pre ++ [x] <+: xs → Takes P y (encs x) W1 fun e W' => Stays R W1 W' ∧ ((e = .returned (.bool true) ∧ J (pre ++ [x]) W') ∨ (e = .returned (.bool false) ∧ Jx (pre ++ [x]) W'))) →
      J [] W → Calls P g (#[y] ++ lb) W fun e W' => (∃ v, e = .returned v) ∧ (J xs W' ∨ ∃ pre, pre <+: xs ∧ Jx pre W')) : Sq P g lb encs R xs w := by
  intro y J Jx W hy hR hJ hJx hY hJ0
  refine (h y (fun s V => J s (fun _ => False) V ∧ W.heap.size ≤ V.heap.size) (fun s V => Jx s (fun _ => False) V) W hy hR (fun s A B hA hb => ⟨hJ.grow hA.1 (fun k hk => hk.elim) hb, by have := hA.2; have := hb.size; omega⟩) (fun s A B hA hb => hJx.grow hA (fun k hk => hk.elim) hb)
    (fun pre x W1 h1 hpre => (hY pre x _ W1 h1.1 (fun k hk => hk.elim) h1.2 hpre).mono fun e W' h2 => ⟨h2.1.mono fun k hk => .inr hk, ?_⟩) ⟨hJ0, Nat.le_refl _⟩).mono ?_
  · rcases h2 with ⟨hS, ⟨he, hj⟩ | ⟨he, hj⟩⟩
    · exact .inl ⟨he, hj, by have := hS.size; have := h1.2; omega⟩
    · exact .inr ⟨he, hj⟩
  · rintro e W' ⟨hv, hj | ⟨pre, hpre, hj⟩⟩
    · exact ⟨hv, _, fun k hk => hk.elim, .inl hj.1⟩
    · exact ⟨hv, _, fun k hk => hk.elim, .inr ⟨pre, hpre, hj⟩⟩

/-- How a round's body may be left. -/
def sqPost {α : Type} (I : List α → (Nat → Prop) → World → Prop) (Ix : Code → List α → (Nat → Prop) → World → Prop) (O R : Nat → Prop) (xs : List α) (W : World) : Exit → Act → World → Prop
  | .normal, _, W' => Stays (fun k => O k ∨ R k) W W' ∧ I xs O W'
  | .ret, _, W' => Stays (fun k => O k ∨ R k) W W' ∧ Ix .ret xs O W'
  | .exit id, _, W' => Stays (fun k => O k ∨ R k) W W' ∧ Ix (.exit id) xs O W'
  | .goto t, _, W' => Stays (fun k => O k ∨ R k) W W' ∧ Ix (.goto t) xs O W'
  | .panic _, _, _ => False
  | .outgrown, _, _ => False

/-- The law of a loop over such an iterator. -/
theorem range_sq {α : Type} {P : Program} {n : Nat} {g : Operand} {ps : Array Tmp} {assign body : Code} {Q : Exit → Act → World → Prop} {a : Act} {w w0 : World} {gf : FuncId} {lb : Array Value} {encs : α → Array Value} {R : Nat → Prop} {xs : List α}
    (hg : a.eval g = .func (.func gf) #[] lb) (eg : ∀ args w, (callFunc gf args).run P w = .ok (.enter gf args) w) (hseq : Sq P gf lb encs R xs w0) (hR : Stays R w0 w) (hRw : ∀ k, R k → k < w.heap.size) (hps : ∀ x, (encs x).size = ps.size)
    (I : List α → (Nat → Prop) → World → Prop) (Ix : Code → List α → (Nat → Prop) → World → Prop) (hI : Foot w.heap.size I) (hIx : ∀ c, Foot w.heap.size (Ix c)) (h0 : I [] (fun _ => False) w)
    (hround : ∀ (l : Nat) (pre : List α) (x : α) (O : Nat → Prop) (W : World), I pre O W → Stays R w W → O l → (∃ r, W.heap[l]? = some (.loop r)) → (∀ k, O k → w.heap.size ≤ k ∧ k < W.heap.size) → pre ++ [x] <+: xs →
      assign.wpIn (Fence.wide.inRound l) n P (Exit.then (fun a' Wa => Stays (fun k => O k ∨ R k) W Wa ∧ ∀ W2, Stays (fun k => k ≠ l) Wa W2 → W2.heap.size = Wa.heap.size → (∃ r, W2.heap[l]? = some (.loop r)) →
        body.wpIn (Fence.wide.inRound l) n P (sqPost I Ix O R (pre ++ [x]) W2) a' W2) (fun _ _ _ => False)) { tmps := (ps.zip (encs x)).foldl (fun t (p, v) => t.setIfInBounds p v) a.tmps, defers := [] } W)
    (hdone : ∀ (D : Nat) (O : Nat → Prop) (W : World), w.heap.size ≤ D → O D → (∀ k, O k → w.heap.size ≤ k) → Stays R w W → I xs O W → W.heap[D]? = some (.deferred (some [])) → Q .normal { a with defers := { target := .collected D, args := #[] } :: a.defers } W)
    (hstop : ∀ (D : Nat) (c : Code) (pre : List α) (O : Nat → Prop) (W : World), w.heap.size ≤ D → O D → (∀ k, O k → w.heap.size ≤ k) → Stays R w W → pre <+: xs → Ix c pre O W → W.heap[D]? = some (.deferred (some [])) → c.wpIn Fence.wide n P Q { a with defers := { target := .collected D, args := #[] } :: a.defers } W) :
    (Code.rangeFunc g ps assign body).wpIn Fence.wide n P Q a w := by
  refine wpIn_rangeFunc ?_
  intro fn _
  generalize hD : w.heap.size = D at *
  obtain ⟨rec, hrec⟩ : ∃ rec : LoopState → Option Code → Loop, rec = fun st pe => { state := st, pending := pe, fn, tmps := a.tmps, params := ps, assign, body, defers := D } := ⟨_, rfl⟩
  obtain ⟨W1, hW1⟩ : ∃ W1, (w.alloc (.deferred (some []))).alloc (.loop (rec .ready none)) = W1 := ⟨_, rfl⟩
  have hz1 : W1.heap.size = D + 2 := by rw [← hW1]; simp; omega
  have hS1 : ∀ O : Nat → Prop, (∀ k, O k → k < D) → Stays O w W1 := fun O hO => by
    rw [← hW1]; exact ((Stays.refl O w).alloc _ (by rw [hD]; exact hO)).alloc _ (fun k hk => by have := hO k hk; simp; omega)
  have hL1 : W1.heap[D + 1]? = some (.loop (rec .ready none)) := by
    rw [← hW1, ← hD]; have := World.alloc_heap_new (w.alloc (.deferred (some []))) (.loop (rec .ready none)); rwa [World.size_alloc] at this
  have hK1 : W1.heap[D]? = some (.deferred (some [])) := by
    rw [← hW1, ← hD]; exact (Below.heap_alloc _ _ _ (by simp)).trans (World.alloc_heap_new w _)
  let Op : (Nat → Prop) → Nat → Prop := fun O k => k = D ∨ k = D + 1 ∨ O k
  have hOp : ∀ {O : Nat → Prop}, (∀ k, O k → D + 2 ≤ k) → ∀ k, Op O k → D ≤ k := fun hO k hk => by
    rcases hk with rfl | rfl | hk
    · omega
    · omega
    · have := hO k hk; omega
  have hft : ∀ {β : Type} {J : β → (Nat → Prop) → World → Prop}, Foot D J → ∀ (st : LoopState) (pe : β → Option Code), Foot (D + 2) (fun s O W => J s (Op O) W ∧ W.heap[D + 1]? = some (.loop (rec st (pe s))) ∧ W.heap[D]? = some (.deferred (some [])) ∧ Stays R w W) := by
    intro β J hJ st pe s O O' A B ⟨h1, h2, h3, h4⟩ hO hS hO'
    have hlt2 := (Array.getElem?_eq_some_iff.1 h2).1
    refine ⟨hJ s _ _ A B h1 (hOp hO) (hS.mono fun k hk => ⟨hk.1, fun ho => hk.2 (.inr (.inr ho))⟩) (fun k hk => ?_), (hS.block (D + 1) ⟨hlt2, fun ho => ?_⟩).trans h2, (hS.block D ⟨by omega, fun ho => ?_⟩).trans h3, h4.trans (hS.mono fun k hk => ⟨?_, fun ho => ?_⟩)⟩
    · rcases hk with h | h | h
      · exact .inl (.inl h)
      · exact .inl (.inr (.inl h))
      · exact (hO' k h).imp (fun h => .inr (.inr h)) id
    · have := hO _ ho; omega
    · have := hO _ ho; omega
    · have := hRw k hk; omega
    · have := hRw k hk; have := hO k ho; omega
  refine ⟨D + 1, [{ target := .collected D, args := #[] }], W1, { target := .fn (.func gf) lb, args := #[.func (.yield (D + 1)) #[] #[]] }, W1, gf, #[.func (.yield (D + 1)) #[] #[]] ++ lb, W1, ?_, ?_, ?_, ?_, fun h => by simp [Fence.wide] at h, ?_⟩
  · subst hD; rw [← hW1, hrec]; exact run_enterLoop_outer _ _ _ _ _
  · simp only [resolve, hg]
    simp [go_sem]
  · intro f' _; trivial
  · simp [invoke, go_sem, eg]
  · refine (callsIn_wide.2 (hseq (.func (.yield (D + 1)) #[] #[])
      (fun pre O W => I pre (Op O) W ∧ W.heap[D + 1]? = some (.loop (rec .ready none)) ∧ W.heap[D]? = some (.deferred (some [])) ∧ Stays R w W)
      (fun pre O W => ∃ c, Ix c pre (Op O) W ∧ W.heap[D + 1]? = some (.loop (rec .done (some c))) ∧ W.heap[D]? = some (.deferred (some [])) ∧ Stays R w W)
      W1 (.inl ⟨_, rfl⟩) (hR.trans (hS1 R hRw)) (by rw [hz1]; exact hft hI .ready (fun _ => none)) (by rw [hz1]; exact Foot.ex fun c => hft (hIx c) .done (fun _ => some c)) ?_ ?_)).mono ?_
    · rintro pre x O W ⟨hi, hl, hk, hRW⟩ hO hz hpre
      rw [hz1] at hO hz
      have hlt : D + 1 < W.heap.size := (Array.getElem?_eq_some_iff.1 hl).1
      have hy := run_yield (P := P) (args := encs x) hl (by rw [hrec]; exact hps x)
      rw [hrec] at hy
      have hOW : ∀ k, Op O k → D ≤ k ∧ k < W.heap.size := fun k hk => by
        rcases hk with rfl | rfl | hk
        · omega
        · omega
        · have := hO k hk; omega
      have hRl : ∀ k, R k → k ≠ D + 1 := fun k hk e => by have := hRw k hk; omega
      refine .inl ⟨D + 1, rfl, fn, _, assign, body, hy, round_any (roundIn_of_wpIn (n := n) trivial (wpIn_mono (hround (D + 1) pre x (Op O) W hi hRW (.inr (.inl rfl)) ⟨_, hl⟩ hOW hpre) ?_))⟩
      clear hy
      rintro e0 a' Wa he0
      cases e0 with
      | normal => ?_
      | _ => exact he0.elim
      obtain ⟨hSa, hbody⟩ : Stays (fun k => Op O k ∨ R k) W Wa ∧ _ := he0
      show ∃ w₂, _
      have hla := (hSa.block (D + 1) (.inl (.inr (.inl rfl)))).trans hl
      have hka := (hSa.block D (.inl (.inl rfl))).trans hk
      refine ⟨_, run_beginRound hla (by rw [hrec]), ?_⟩
      have hlta : D + 1 < Wa.heap.size := (Array.getElem?_eq_some_iff.1 hla).1
      obtain ⟨W2, hW2⟩ : ∃ W2, Wa.putObj (D + 1) (.loop { rec .ready none with state := .busy }) = W2 := ⟨_, rfl⟩
      have hl2 : W2.heap[D + 1]? = some (.loop { rec .ready none with state := .busy }) := by rw [← hW2]; exact World.putObj_heap_same hlta
      have hz2 : W2.heap.size = Wa.heap.size := by rw [← hW2]; simp
      have hS2 : ∀ O' : Nat → Prop, ¬ O' (D + 1) → Stays O' Wa W2 := fun O' h => by rw [← hW2]; exact (Stays.refl _ _).putObj _ _ h
      have hsz := hSa.size
      rw [hW2]
      refine wpIn_mono (hbody W2 (hS2 _ (fun h => h rfl)) hz2 ⟨_, hl2⟩) ?_
      have fin : ∀ (jump : Option Code) (W3 : World), Stays (fun k => Op O k ∨ R k) W2 W3 →
          ∃ W4, (Instr.endRound (D + 1) jump).run P W3 = .ok (.bool jump.isNone) W4 ∧ (∀ O' : Nat → Prop, ¬ O' (D + 1) → Stays O' W3 W4) ∧ (∀ O' : Nat → Prop, (∀ k, O' k → (O k ∨ R k)) → Stays O' W W4) ∧
            W4.heap[D + 1]? = some (.loop (rec (if jump.isNone then .ready else .done) jump)) ∧ W4.heap[D]? = some (.deferred (some [])) ∧ W3.heap.size ≤ W4.heap.size := fun jump W3 hS3 => by
        have hl3 := (hS3.block (D + 1) (.inl (.inr (.inl rfl)))).trans hl2
        have hr := run_endRound (P := P) jump hl3
        rw [hrec] at hr
        have hlt3 : D + 1 < W3.heap.size := (Array.getElem?_eq_some_iff.1 hl3).1
        refine ⟨_, hr, fun O' h => (Stays.refl _ _).putObj _ _ h, fun O' h => ?_, by rw [hrec]; exact World.putObj_heap_same hlt3, ?_, by simp⟩
        · have hn : ¬ O' (D + 1) := fun h' => by
            rcases h _ h' with h' | h'
            · have := hO _ h'; omega
            · exact hRl _ h' rfl
          exact (((hSa.mono fun k hk => (h k hk).imp (fun h => .inr (.inr h)) id).trans (hS2 O' hn)).trans (hS3.mono fun k hk => (h k hk).imp (fun h => .inr (.inr h)) id)).putObj _ _ hn
        · exact (World.putObj_heap_other (by omega)).trans ((hS3.block D (.inl (.inl rfl))).trans ((by rw [← hW2]; exact World.putObj_heap_other (by omega)) : W2.heap[D]? = Wa.heap[D]?) |>.trans hka)
      have out : ∀ (c : Code) (W3 : World), Stays (fun k => Op O k ∨ R k) W2 W3 → Ix c (pre ++ [x]) (Op O) W3 →
          ∃ v W4, (Instr.endRound (D + 1) (some c)).run P W3 = .ok v W4 ∧ (Stays (fun k => O k ∨ R k) W W4 ∧ (((Ending.returned v) = .returned (.bool true) ∧ I (pre ++ [x]) (Op O) W4 ∧ W4.heap[D + 1]? = some (.loop (rec .ready none)) ∧ W4.heap[D]? = some (.deferred (some [])) ∧ Stays R w W4) ∨
            ((Ending.returned v) = .returned (.bool false) ∧ ∃ c, Ix c (pre ++ [x]) (Op O) W4 ∧ W4.heap[D + 1]? = some (.loop (rec .done (some c))) ∧ W4.heap[D]? = some (.deferred (some [])) ∧ Stays R w W4))) := fun c W3 hS3 hi3 => by
        obtain ⟨W4, hr, hS4, hSW, hl4, hk4, hz4⟩ := fin (some c) W3 hS3
        exact ⟨_, W4, hr, hSW _ (fun k hk => hk), .inr ⟨rfl, c, hIx c _ (Op O) (Op O) W3 W4 hi3 (fun k hk => (hOW k hk).1) (hS4 _ (fun h => h.2 (.inr (.inl rfl)))) (fun k hk => .inl hk), hl4, hk4, hRW.trans (hSW R (fun k hk => .inr hk))⟩⟩
      rintro e a3 W3 hp
      cases e with
      | normal =>
        obtain ⟨hS3, hi3⟩ := hp
        obtain ⟨W4, hr, hS4, hSW, hl4, hk4, hz4⟩ := fin none W3 hS3
        exact ⟨_, W4, hr, hSW _ (fun k hk => hk), .inl ⟨rfl, hI _ (Op O) (Op O) W3 W4 hi3 (fun k hk => (hOW k hk).1) (hS4 _ (fun h => h.2 (.inr (.inl rfl)))) (fun k hk => .inl hk), hl4, hk4, hRW.trans (hSW R (fun k hk => .inr hk))⟩⟩
      | ret => exact out .ret W3 hp.1 hp.2
      | exit id => exact out (.exit id) W3 hp.1 hp.2
      | goto t => exact out (.goto t) W3 hp.1 hp.2
      | panic ch => exact hp.elim
      | outgrown => exact hp.elim
    · exact ⟨hI _ _ _ w W1 h0 (fun k hk => hk.elim) (hS1 _ (fun k hk => by have := hk.1; omega)) (fun k hk => by
        rcases hk with rfl | rfl | hk
        · right; omega
        · right; omega
        · exact hk.elim), hL1, hK1, hS1 R hRw⟩
    · rintro e W2 ⟨⟨v, rfl⟩, O, hO, h⟩
      rw [hz1] at hO
      rcases h with ⟨hi, hl, hk, hRW⟩ | ⟨pre, hpre, c, hi, hl, hk, hRW⟩
      · have hend := run_endLoop (P := P) hl (by rw [hrec]; simp)
        rw [hrec] at hend
        exact ⟨none, _, hend, hdone D (Op O) _ (Nat.le_refl _) (.inl rfl) (hOp hO) (hRW.putObj _ _ (fun h => by have := hRw _ h; omega)) (hI _ (Op O) (Op O) W2 _ hi (hOp hO) ((Stays.refl _ _).putObj _ _ (fun h => h.2 (.inr (.inl rfl)))) (fun k hk => .inl hk)) ((World.putObj_heap_other (by omega)).trans hk)⟩
      · have hend := run_endLoop (P := P) hl (by rw [hrec]; simp)
        rw [hrec] at hend
        exact ⟨some c, _, hend, hstop D c pre (Op O) _ (Nat.le_refl _) (.inl rfl) (hOp hO) (hRW.putObj _ _ (fun h => by have := hRw _ h; omega)) hpre (hIx c _ (Op O) (Op O) W2 _ hi (hOp hO) ((Stays.refl _ _).putObj _ _ (fun h => h.2 (.inr (.inl rfl)))) (fun k hk => .inl hk)) ((World.putObj_heap_other (by omega)).trans hk)⟩

/-- .. where the assignments to the loop's variables lay no memory. -/
theorem range_sq1 {α : Type} {P : Program} {n : Nat} {g : Operand} {ps : Array Tmp} {assign body : Code} {Q : Exit → Act → World → Prop} {a : Act} {w w0 : World} {gf : FuncId} {lb : Array Value} {encs : α → Array Value} {R : Nat → Prop} {xs : List α}
    (hg : a.eval g = .func (.func gf) #[] lb) (eg : ∀ args w, (callFunc gf args).run P w = .ok (.enter gf args) w) (hseq : Sq P gf lb encs R xs w0) (hR : Stays R w0 w) (hRw : ∀ k, R k → k < w.heap.size) (hps : ∀ x, (encs x).size = ps.size)
    (I : List α → (Nat → Prop) → World → Prop) (Ix : Code → List α → (Nat → Prop) → World → Prop) (hI : Foot w.heap.size I) (hIx : ∀ c, Foot w.heap.size (Ix c)) (h0 : I [] (fun _ => False) w)
    (hround : ∀ (l : Nat) (pre : List α) (x : α) (O : Nat → Prop) (W1 : World), (∀ k, O k → w.heap.size ≤ k) → pre ++ [x] <+: xs →
      assign.wpIn (Fence.wide.inRound l) n P (Exit.then (fun a' Wa => Wa = W1 ∧ ∀ W, I pre O W → Stays R w W → O l → (∃ r, W.heap[l]? = some (.loop r)) → (∀ k, O k → w.heap.size ≤ k ∧ k < W.heap.size) →
        body.wpIn (Fence.wide.inRound l) n P (sqPost I Ix O R (pre ++ [x]) W) a' W) (fun _ _ _ => False)) { tmps := (ps.zip (encs x)).foldl (fun t (p, v) => t.setIfInBounds p v) a.tmps, defers := [] } W1)
    (hdone : ∀ (D : Nat) (O : Nat → Prop) (W : World), w.heap.size ≤ D → O D → (∀ k, O k → w.heap.size ≤ k) → Stays R w W → I xs O W → W.heap[D]? = some (.deferred (some [])) → Q .normal { a with defers := { target := .collected D, args := #[] } :: a.defers } W)
    (hstop : ∀ (D : Nat) (c : Code) (pre : List α) (O : Nat → Prop) (W : World), w.heap.size ≤ D → O D → (∀ k, O k → w.heap.size ≤ k) → Stays R w W → pre <+: xs → Ix c pre O W → W.heap[D]? = some (.deferred (some [])) → c.wpIn Fence.wide n P Q { a with defers := { target := .collected D, args := #[] } :: a.defers } W) :
    (Code.rangeFunc g ps assign body).wpIn Fence.wide n P Q a w :=
  range_sq hg eg hseq hR hRw hps I Ix hI hIx h0 (fun l pre x O W hi hRW hOl hrec hOW hpre => wpIn_mono (hround l pre x O W (fun k hk => (hOW k hk).1) hpre) fun e a' Wa he => by
    cases e with
    | normal =>
      obtain ⟨rfl, hb⟩ : Wa = W ∧ _ := he
      exact ⟨Stays.refl _ _, fun W2 hS hz hr => hb W2 (hI _ O O Wa W2 hi (fun k hk => (hOW k hk).1) (hS.mono fun k hk e => hk.2 (e ▸ hOl)) (fun k hk => .inl hk)) (hRW.trans (hS.mono fun k hk e => by have := hRw k hk; have := (hOW l hOl).1; omega)) hOl hr (fun k hk => by have := hOW k hk; omega)⟩
    | _ => exact he.elim) hdone hstop
end Go.Proofs.Ytionbdkiclodoaa.Sq
