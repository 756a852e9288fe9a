/-
Texts joined in one file, each with its own conditions: A range over a function whose iterator may own memory of its own and may itself range over another one: what such an iterator is (it hands on a list, to whatever takes it), and the law of a loop over it. Conditions: those that each theorem states. · A range over a function whose iterator turns memory that lay there before the loop (the blocks M), hands on rising numbers, nobody knows which, and is never stopped: what such an iterator is, and the law of a loop over it. Conditions: those that each theorem states. · A card read line by line, and the same by descent: both read the same. Plain functions over any language of lines; no program in it, no conditions. · A range over an iterator that owns boxes which were made ahead of it (strings.SplitSeq: the text that is left): what such an iterator is, and the law of a loop over it. Conditions: those that each theorem states.
-/
import Derived.Test.YtpdodknldhbbhaaGreatDoorRows
import Derived.RangeFuncNested
import Derived.RangeFuncBound
import Derived.RangeFuncCalls
import Derived.RangeFuncLeaves
import Derived.RangeFuncBox
import Derived.WalkKit
namespace Go.Proofs.YtpdodknldhbbhaaGreatDoor.Sq
open Go.RowKit

/-- The blocks of O lie as they lay; none has gone. -/
structure Stays (O : Nat → Prop) (A B : World) : Prop where
  os : B.os = A.os
  tape : B.tape = A.tape
  output : B.output = A.output
  size : A.heap.size ≤ B.heap.size
  block : ∀ k, O k → B.heap[k]? = A.heap[k]?

theorem Stays.refl (O : Nat → Prop) (A : World) : Stays O A A := ⟨rfl, rfl, rfl, Nat.le_refl _, fun _ _ => rfl⟩
theorem Stays.trans {O : Nat → Prop} {A B C : World} (h : Stays O A B) (k : Stays O B C) : Stays O A C :=
  ⟨k.os.trans h.os, k.tape.trans h.tape, k.output.trans h.output, Nat.le_trans h.size k.size, fun i hi => (k.block i hi).trans (h.block i hi)⟩
theorem Stays.mono {O O' : Nat → Prop} {A B : World} (h : Stays O A B) (hO : ∀ k, O' k → O k) : Stays O' A B := ⟨h.os, h.tape, h.output, h.size, fun k hk => h.block k (hO k hk)⟩
theorem Stays.of_below {O : Nat → Prop} {b : Nat} {A B : World} (h : Below b A B) (hO : ∀ k, O k → k < b) : Stays O A B := ⟨h.os, h.tape, h.output, h.size, fun k hk => h.block k (hO k hk)⟩
theorem Stays.below {O : Nat → Prop} {b : Nat} {A B : World} (h : Stays O A B) (hO : ∀ k, k < b → O k) : Below b A B := ⟨h.os, h.tape, h.output, h.size, fun k hk => h.block k (hO k hk)⟩
theorem Stays.drew {O : Nat → Prop} {A B : World} (h : Stays O A B) : Stays O A B.drew := ⟨h.os, h.tape, h.output, h.size, h.block⟩
theorem Stays.grown {O : Nat → Prop} {A B C : World} {row : Option Nat} (h : Stays O A B) (hg : B.grownBy C row) (hO : ∀ k, O k → k < B.heap.size ∧ some k ≠ row) : Stays O A C :=
  h.trans ⟨hg.os, hg.tape, hg.output, hg.size, fun k hk => hg.block k (hO k hk).1 (hO k hk).2⟩
theorem Stays.alloc {O : Nat → Prop} {A B : World} (h : Stays O A B) (o : Obj) (hO : ∀ k, O k → k < B.heap.size) : Stays O A (B.alloc o) := h.grown (World.grownBy_alloc B o none) (fun k hk => ⟨hO k hk, by simp⟩)
theorem Stays.setCell {O : Nat → Prop} {A B : World} (h : Stays O A B) (b : Nat) (u : Value) (hb : ¬ O b) : Stays O A (B.setCell ⟨b, 0, none⟩ u) :=
  h.trans ⟨rfl, rfl, rfl, (grownBy_setCell' B b u).size, fun k hk => Below.heap_setCell B _ u k (fun e => hb (by cases e; exact hk))⟩
theorem Stays.putObj {O : Nat → Prop} {A B : World} (h : Stays O A B) (b : Nat) (o : Obj) (hb : ¬ O b) : Stays O A (B.putObj b o) :=
  h.trans ⟨rfl, rfl, rfl, by simp, fun k hk => World.putObj_heap_other (fun e => hb (e ▸ hk))⟩
theorem Stays.boxed {O : Nat → Prop} {A B : World} {b : Nat} {t : TypeId} {v : Value} (h : Stays O A B) (hb : O b) (hv : Boxed A b t v) : Boxed B b t v := (h.block b hb).trans hv
/-- A row of cells lies as it lay where its block does. -/
theorem Stays.row {O : Nat → Prop} {A B : World} {base : Nat} {e : TypeId} {size : Nat} {v : Value} {n : Nat} {xs : List Value} (h : Stays O A B) (hr : A.ownsRow base e size v n xs) (hv : ∀ g, v.ownBlock = some g → O g) : B.ownsRow base e size v n xs := by
  obtain ⟨h0, hr⟩ := hr
  refine ⟨h0, ?_⟩
  rcases hr with hr | ⟨g, cap, cur, rfl, hg, hh, rest⟩
  · exact .inl hr
  · exact .inr ⟨g, cap, cur, rfl, hg, (h.block g (hv g (by simp [Value.ownBlock]))).trans hh, rest⟩
theorem own_lt {A : World} {base : Nat} {e : TypeId} {size : Nat} {v : Value} {n : Nat} {xs : List Value} (hr : A.ownsRow base e size v n xs) (g : Nat) (hg : v.ownBlock = some g) : base ≤ g ∧ g < A.heap.size := by
  obtain ⟨_, ⟨rfl, _⟩ | ⟨g', cap, cur, rfl, hb, hh, _⟩⟩ := hr
  · simp [Value.ownBlock] at hg
  · obtain rfl : g' = g := by simpa [Value.ownBlock] using hg
    exact ⟨hb, (Array.getElem?_eq_some_iff.1 hh).1⟩

/-- What is said of a world beside the blocks O of somebody else's (all of them from H on): it goes on being so while only those turn, and new ones come. -/
def Foot {β : Type} (H : Nat) (J : β → (Nat → Prop) → World → Prop) : Prop :=
  ∀ (s : β) (O O' : Nat → Prop) (A B : World), J s O A → (∀ k, O k → H ≤ k) → Stays (fun k => k < A.heap.size ∧ ¬ O k) A B → (∀ k, O' k → O k ∨ A.heap.size ≤ k) → J s O' B

section foot
variable {β : Type} {H : Nat}
theorem Foot.and {I J : β → (Nat → Prop) → World → Prop} (hI : Foot H I) (hJ : Foot H J) : Foot H (fun s O W => I s O W ∧ J s O W) :=
  fun s O O' A B h hO hS hO' => ⟨hI s O O' A B h.1 hO hS hO', hJ s O O' A B h.2 hO hS hO'⟩
theorem Foot.pure (p : β → Prop) : Foot H (fun s (_ : Nat → Prop) (_ : World) => p s) := fun _ _ _ _ _ h _ _ _ => h
theorem Foot.ex {γ : Type} {I : γ → β → (Nat → Prop) → World → Prop} (hI : ∀ c, Foot H (I c)) : Foot H (fun s O W => ∃ c, I c s O W) :=
  fun s O O' A B ⟨c, h⟩ hO hS hO' => ⟨c, hI c s O O' A B h hO hS hO'⟩
theorem Foot.below {b : Nat} {w : World} (hb : b ≤ H) (hw : b ≤ w.heap.size) : Foot H (fun (_ : β) (_ : Nat → Prop) W => Below b w W) :=
  fun _ O _ A B h hO hS _ => h.trans (hS.below fun k hk => ⟨by have := h.size; omega, fun ho => by have := hO k ho; omega⟩)
theorem Foot.stays {R : Nat → Prop} {w : World} (hR : ∀ k, R k → k < w.heap.size ∧ k < H) : Foot H (fun (_ : β) (_ : Nat → Prop) W => Stays R w W) :=
  fun _ O _ A B h hO hS _ => h.trans (hS.mono fun k hk => ⟨by have := h.size; have := hR k hk; omega, fun ho => by have := hO k ho; have := hR k hk; omega⟩)
theorem Foot.boxed (b : Nat) (t : TypeId) (f : β → Value) (hb : b < H) : Foot H (fun s (_ : Nat → Prop) W => Boxed W b t (f s)) :=
  fun _ O _ A B h hO hS _ => (hS.block b ⟨Boxed.lt h, fun ho => by have := hO b ho; omega⟩).trans h
/-- A variable that holds a row of the speaker's own. -/
theorem Foot.row (n₀ b : Nat) (t e : TypeId) (size : Nat) (k : β → Nat) (f : β → List Value) (G : β → Value → Prop) (hb : b < H) :
    Foot H (fun s O W => ∃ v, Boxed W b t v ∧ W.ownsRow n₀ e size v (k s) (f s) ∧ (∀ g, v.ownBlock = some g → ¬ O g) ∧ G s v) :=
  fun s O O' A B ⟨v, hv, hr, hg, hG⟩ hO hS hO' =>
    ⟨v, (hS.block b ⟨hv.lt, fun ho => by have := hO b ho; omega⟩).trans hv, hS.row hr (fun g e => ⟨(own_lt hr g e).2, hg g e⟩), fun g e ho => by
      rcases hO' g ho with h | h
      · exact hg g e h
      · have := (own_lt hr g e).2; omega, hG⟩
end foot

/-- The value y, called with these arguments, does so: it is a loop's own function, or a function that the program names. -/
def Takes (P : Program) (y : Value) (args : Array Value) (W : World) (R : Ending → World → Prop) : Prop :=
  (∃ l, y = .func (.yield l) #[] #[] ∧ YieldAt Fence.wide 0 P l args W R) ∨
  (∃ g ca, y = .func (.func g) #[] ca ∧ (∀ args w, (callFunc g args).run P w = .ok (.enter g args) w) ∧ Calls P g (args ++ ca) W R)
theorem Takes.mono {P : Program} {y : Value} {args : Array Value} {W : World} {R R' : Ending → World → Prop} (h : Takes P y args W R) (hr : ∀ e w, R e w → R' e w) : Takes P y args W R' := by
  rcases h with ⟨l, hy, h⟩ | ⟨g, ca, hy, eg, h⟩
  · exact .inl ⟨l, hy, h.mono hr⟩
  · exact .inr ⟨g, ca, hy, eg, h.mono hr⟩
theorem round_any {n m : Nat} {P : Program} {l : Nat} {f : FuncId} {tmps : Array Value} {assign body : Code} {w : World} {R : Ending → World → Prop} (h : RoundIn Fence.wide n P l f tmps assign body w R) : RoundIn Fence.wide m P l f tmps assign body w R :=
  ⟨h.1, fun c cs _ => h.2 c cs (room_wide _)⟩
theorem Takes.loop {P : Program} {l : Nat} {fi ca : Array Value} {args : Array Value} {W : World} {R : Ending → World → Prop} (m : Nat) (h : Takes P (.func (.yield l) fi ca) args W R) : YieldAt Fence.wide m P l args W R := by
  rcases h with ⟨l', hy, fn, tmps, assign, body, h1, h2⟩ | ⟨g, ca, hy, _⟩
  · cases hy; exact ⟨fn, tmps, assign, body, h1, round_any h2⟩
  · cases hy
theorem Takes.named {P : Program} {g : FuncId} {fi ca : Array Value} {args : Array Value} {W : World} {R : Ending → World → Prop} (h : Takes P (.func (.func g) fi ca) args W R) : Calls P g (args ++ ca) W R := by
  rcases h with ⟨l', hy, _⟩ | ⟨g', ca', hy, eg, h⟩
  · cases hy
  · cases hy; exact h
/-- What may be handed to an iterator. -/
def Taker (P : Program) (y : Value) : Prop := (∃ l, y = .func (.yield l) #[] #[]) ∨ (∃ g ca, y = .func (.func g) #[] ca ∧ ∀ args w, (callFunc g args).run P w = .ok (.enter g args) w)

/-- An iterator hands on the list xs, piece by piece, as far as it is wanted: it reads the blocks R, as they lie in w; what it turns are blocks of its own, which the taker leaves alone. -/
def Sq {α : Type} (P : Program) (g : FuncId) (lb : Array Value) (encs : α → Array Value) (R : Nat → Prop) (xs : List α) (w : World) : Prop :=
  ∀ (y : Value) (J Jx : List α → (Nat → Prop) → World → Prop) (W : World), Taker P y → Stays R w W → Foot W.heap.size J → Foot W.heap.size Jx →
    (∀ pre x O W1, J pre O W1 → (∀ k, O k → W.heap.size ≤ k ∧ k < W1.heap.size) → W.heap.size ≤ W1.heap.size → pre ++ [x] <+: xs → Takes P y (encs x) W1 fun e W' => Stays (fun k => O k ∨ R k) W1 W' ∧
      ((e = .returned (.bool true) ∧ J (pre ++ [x]) O W') ∨ (e = .returned (.bool false) ∧ Jx (pre ++ [x]) O W'))) →
    J [] (fun _ => False) W →
    Calls P g (#[y] ++ lb) W fun e W' => (∃ v, e = .returned v) ∧ ∃ O, (∀ k, O k → W.heap.size ≤ k) ∧ (J xs O W' ∨ ∃ pre, pre <+: xs ∧ Jx pre O W')

theorem Foot.grow {β : Type} {H : Nat} {J : β → (Nat → Prop) → World → Prop} (hJ : Foot H J) {s : β} {O : Nat → Prop} {A B : World} (h : J s O A) (hO : ∀ k, O k → H ≤ k) (hb : Below A.heap.size A B) : J s O B :=
  hJ s O O A B h hO (Stays.of_below hb fun _ hk => hk.1) (fun _ h => .inl h)
/-- Such an iterator that has no memory of its own. -/
theorem sq_plain {α : Type} {P : Program} {g : FuncId} {lb : Array Value} {encs : α → Array Value} {R : Nat → Prop} {xs : List α} {w : World}
    (h : ∀ (y : Value) (J Jx : List α → World → Prop) (W : World), Taker P y → Stays R w W → (∀ s A B, J s A → Below A.heap.size A B → J s B) → (∀ s A B, Jx s A → Below A.heap.size A B → Jx s B) →
      (∀ pre x W1, J pre W1 → pre ++ [x] <+: xs → Takes P y (encs x) W1 fun e W' => Stays R W1 W' ∧ ((e = .returned (.bool true) ∧ J (pre ++ [x]) W') ∨ (e = .returned (.bool false) ∧ Jx (pre ++ [x]) W'))) →
      J [] W → Calls P g (#[y] ++ lb) W fun e W' => (∃ v, e = .returned v) ∧ (J xs W' ∨ ∃ pre, pre <+: xs ∧ Jx pre W')) : Sq P g lb encs R xs w := by
  intro y J Jx W hy hR hJ hJx hY hJ0
  refine (h y (fun s V => J s (fun _ => False) V ∧ W.heap.size ≤ V.heap.size) (fun s V => Jx s (fun _ => False) V) W hy hR (fun s A B hA hb => ⟨hJ.grow hA.1 (fun k hk => hk.elim) hb, by have := hA.2; have := hb.size; omega⟩) (fun s A B hA hb => hJx.grow hA (fun k hk => hk.elim) hb)
    (fun pre x W1 h1 hpre => (hY pre x _ W1 h1.1 (fun k hk => hk.elim) h1.2 hpre).mono fun e W' h2 => ⟨h2.1.mono fun k hk => .inr hk, ?_⟩) ⟨hJ0, Nat.le_refl _⟩).mono ?_
  · rcases h2 with ⟨hS, ⟨he, hj⟩ | ⟨he, hj⟩⟩
    · exact .inl ⟨he, hj, by have := hS.size; have := h1.2; omega⟩
    · exact .inr ⟨he, hj⟩
  · rintro e W' ⟨hv, hj | ⟨pre, hpre, hj⟩⟩
    · exact ⟨hv, _, fun k hk => hk.elim, .inl hj.1⟩
    · exact ⟨hv, _, fun k hk => hk.elim, .inr ⟨pre, hpre, hj⟩⟩

/-- How a round's body may be left. -/
def sqPost {α : Type} (I : List α → (Nat → Prop) → World → Prop) (Ix : Code → List α → (Nat → Prop) → World → Prop) (O R : Nat → Prop) (xs : List α) (W : World) : Exit → Act → World → Prop
  | .normal, _, W' => Stays (fun k => O k ∨ R k) W W' ∧ I xs O W'
  | .ret, _, W' => Stays (fun k => O k ∨ R k) W W' ∧ Ix .ret xs O W'
  | .exit id, _, W' => Stays (fun k => O k ∨ R k) W W' ∧ Ix (.exit id) xs O W'
  | .goto t, _, W' => Stays (fun k => O k ∨ R k) W W' ∧ Ix (.goto t) xs O W'
  | .panic _, _, _ => False
  | .outgrown, _, _ => False

/-- The law of a loop over such an iterator. -/
theorem range_sq {α : Type} {P : Program} {n : Nat} {g : Operand} {ps : Array Tmp} {assign body : Code} {Q : Exit → Act → World → Prop} {a : Act} {w w0 : World} {gf : FuncId} {lb : Array Value} {encs : α → Array Value} {R : Nat → Prop} {xs : List α}
    (hg : a.eval g = .func (.func gf) #[] lb) (eg : ∀ args w, (callFunc gf args).run P w = .ok (.enter gf args) w) (hseq : Sq P gf lb encs R xs w0) (hR : Stays R w0 w) (hRw : ∀ k, R k → k < w.heap.size) (hps : ∀ x, (encs x).size = ps.size)
    (I : List α → (Nat → Prop) → World → Prop) (Ix : Code → List α → (Nat → Prop) → World → Prop) (hI : Foot w.heap.size I) (hIx : ∀ c, Foot w.heap.size (Ix c)) (h0 : I [] (fun _ => False) w)
    (hround : ∀ (l : Nat) (pre : List α) (x : α) (O : Nat → Prop) (W : World), I pre O W → Stays R w W → O l → (∃ r, W.heap[l]? = some (.loop r)) → (∀ k, O k → w.heap.size ≤ k ∧ k < W.heap.size) → pre ++ [x] <+: xs →
      assign.wpIn (Fence.wide.inRound l) n P (Exit.then (fun a' Wa => Stays (fun k => O k ∨ R k) W Wa ∧ ∀ W2, Stays (fun k => k ≠ l) Wa W2 → W2.heap.size = Wa.heap.size → (∃ r, W2.heap[l]? = some (.loop r)) →
        body.wpIn (Fence.wide.inRound l) n P (sqPost I Ix O R (pre ++ [x]) W2) a' W2) (fun _ _ _ => False)) { tmps := (ps.zip (encs x)).foldl (fun t (p, v) => t.setIfInBounds p v) a.tmps, defers := [] } W)
    (hdone : ∀ (D : Nat) (O : Nat → Prop) (W : World), w.heap.size ≤ D → O D → (∀ k, O k → w.heap.size ≤ k) → Stays R w W → I xs O W → W.heap[D]? = some (.deferred (some [])) → Q .normal { a with defers := { target := .collected D, args := #[] } :: a.defers } W)
    (hstop : ∀ (D : Nat) (c : Code) (pre : List α) (O : Nat → Prop) (W : World), w.heap.size ≤ D → O D → (∀ k, O k → w.heap.size ≤ k) → Stays R w W → pre <+: xs → Ix c pre O W → W.heap[D]? = some (.deferred (some [])) → c.wpIn Fence.wide n P Q { a with defers := { target := .collected D, args := #[] } :: a.defers } W) :
    (Code.rangeFunc g ps assign body).wpIn Fence.wide n P Q a w := by
  refine wpIn_rangeFunc ?_
  intro fn _
  generalize hD : w.heap.size = D at *
  obtain ⟨rec, hrec⟩ : ∃ rec : LoopState → Option Code → Loop, rec = fun st pe => { state := st, pending := pe, fn, tmps := a.tmps, params := ps, assign, body, defers := D } := ⟨_, rfl⟩
  obtain ⟨W1, hW1⟩ : ∃ W1, (w.alloc (.deferred (some []))).alloc (.loop (rec .ready none)) = W1 := ⟨_, rfl⟩
  have hz1 : W1.heap.size = D + 2 := by rw [← hW1]; simp; omega
  have hS1 : ∀ O : Nat → Prop, (∀ k, O k → k < D) → Stays O w W1 := fun O hO => by
    rw [← hW1]; exact ((Stays.refl O w).alloc _ (by rw [hD]; exact hO)).alloc _ (fun k hk => by have := hO k hk; simp; omega)
  have hL1 : W1.heap[D + 1]? = some (.loop (rec .ready none)) := by
    rw [← hW1, ← hD]; have := World.alloc_heap_new (w.alloc (.deferred (some []))) (.loop (rec .ready none)); rwa [World.size_alloc] at this
  have hK1 : W1.heap[D]? = some (.deferred (some [])) := by
    rw [← hW1, ← hD]; exact (Below.heap_alloc _ _ _ (by simp)).trans (World.alloc_heap_new w _)
  let Op : (Nat → Prop) → Nat → Prop := fun O k => k = D ∨ k = D + 1 ∨ O k
  have hOp : ∀ {O : Nat → Prop}, (∀ k, O k → D + 2 ≤ k) → ∀ k, Op O k → D ≤ k := fun hO k hk => by
    rcases hk with rfl | rfl | hk
    · omega
    · omega
    · have := hO k hk; omega
  have hft : ∀ {β : Type} {J : β → (Nat → Prop) → World → Prop}, Foot D J → ∀ (st : LoopState) (pe : β → Option Code), Foot (D + 2) (fun s O W => J s (Op O) W ∧ W.heap[D + 1]? = some (.loop (rec st (pe s))) ∧ W.heap[D]? = some (.deferred (some [])) ∧ Stays R w W) := by
    intro β J hJ st pe s O O' A B ⟨h1, h2, h3, h4⟩ hO hS hO'
    have hlt2 := (Array.getElem?_eq_some_iff.1 h2).1
    refine ⟨hJ s _ _ A B h1 (hOp hO) (hS.mono fun k hk => ⟨hk.1, fun ho => hk.2 (.inr (.inr ho))⟩) (fun k hk => ?_), (hS.block (D + 1) ⟨hlt2, fun ho => ?_⟩).trans h2, (hS.block D ⟨by omega, fun ho => ?_⟩).trans h3, h4.trans (hS.mono fun k hk => ⟨?_, fun ho => ?_⟩)⟩
    · rcases hk with h | h | h
      · exact .inl (.inl h)
      · exact .inl (.inr (.inl h))
      · exact (hO' k h).imp (fun h => .inr (.inr h)) id
    · have := hO _ ho; omega
    · have := hO _ ho; omega
    · have := hRw k hk; omega
    · have := hRw k hk; have := hO k ho; omega
  refine ⟨D + 1, [{ target := .collected D, args := #[] }], W1, { target := .fn (.func gf) lb, args := #[.func (.yield (D + 1)) #[] #[]] }, W1, gf, #[.func (.yield (D + 1)) #[] #[]] ++ lb, W1, ?_, ?_, ?_, ?_, fun h => by simp [Fence.wide] at h, ?_⟩
  · subst hD; rw [← hW1, hrec]; exact run_enterLoop_outer _ _ _ _ _
  · simp only [resolve, hg]
    simp [go_sem]
  · intro f' _; trivial
  · simp [invoke, go_sem, eg]
  · refine (callsIn_wide.2 (hseq (.func (.yield (D + 1)) #[] #[])
      (fun pre O W => I pre (Op O) W ∧ W.heap[D + 1]? = some (.loop (rec .ready none)) ∧ W.heap[D]? = some (.deferred (some [])) ∧ Stays R w W)
      (fun pre O W => ∃ c, Ix c pre (Op O) W ∧ W.heap[D + 1]? = some (.loop (rec .done (some c))) ∧ W.heap[D]? = some (.deferred (some [])) ∧ Stays R w W)
      W1 (.inl ⟨_, rfl⟩) (hR.trans (hS1 R hRw)) (by rw [hz1]; exact hft hI .ready (fun _ => none)) (by rw [hz1]; exact Foot.ex fun c => hft (hIx c) .done (fun _ => some c)) ?_ ?_)).mono ?_
    · rintro pre x O W ⟨hi, hl, hk, hRW⟩ hO hz hpre
      rw [hz1] at hO hz
      have hlt : D + 1 < W.heap.size := (Array.getElem?_eq_some_iff.1 hl).1
      have hy := run_yield (P := P) (args := encs x) hl (by rw [hrec]; exact hps x)
      rw [hrec] at hy
      have hOW : ∀ k, Op O k → D ≤ k ∧ k < W.heap.size := fun k hk => by
        rcases hk with rfl | rfl | hk
        · omega
        · omega
        · have := hO k hk; omega
      have hRl : ∀ k, R k → k ≠ D + 1 := fun k hk e => by have := hRw k hk; omega
      refine .inl ⟨D + 1, rfl, fn, _, assign, body, hy, round_any (roundIn_of_wpIn (n := n) trivial (wpIn_mono (hround (D + 1) pre x (Op O) W hi hRW (.inr (.inl rfl)) ⟨_, hl⟩ hOW hpre) ?_))⟩
      clear hy
      rintro e0 a' Wa he0
      cases e0 with
      | normal => ?_
      | _ => exact he0.elim
      obtain ⟨hSa, hbody⟩ : Stays (fun k => Op O k ∨ R k) W Wa ∧ _ := he0
      show ∃ w₂, _
      have hla := (hSa.block (D + 1) (.inl (.inr (.inl rfl)))).trans hl
      have hka := (hSa.block D (.inl (.inl rfl))).trans hk
      refine ⟨_, run_beginRound hla (by rw [hrec]), ?_⟩
      have hlta : D + 1 < Wa.heap.size := (Array.getElem?_eq_some_iff.1 hla).1
      obtain ⟨W2, hW2⟩ : ∃ W2, Wa.putObj (D + 1) (.loop { rec .ready none with state := .busy }) = W2 := ⟨_, rfl⟩
      have hl2 : W2.heap[D + 1]? = some (.loop { rec .ready none with state := .busy }) := by rw [← hW2]; exact World.putObj_heap_same hlta
      have hz2 : W2.heap.size = Wa.heap.size := by rw [← hW2]; simp
      have hS2 : ∀ O' : Nat → Prop, ¬ O' (D + 1) → Stays O' Wa W2 := fun O' h => by rw [← hW2]; exact (Stays.refl _ _).putObj _ _ h
      have hsz := hSa.size
      rw [hW2]
      refine wpIn_mono (hbody W2 (hS2 _ (fun h => h rfl)) hz2 ⟨_, hl2⟩) ?_
      have fin : ∀ (jump : Option Code) (W3 : World), Stays (fun k => Op O k ∨ R k) W2 W3 →
          ∃ W4, (Instr.endRound (D + 1) jump).run P W3 = .ok (.bool jump.isNone) W4 ∧ (∀ O' : Nat → Prop, ¬ O' (D + 1) → Stays O' W3 W4) ∧ (∀ O' : Nat → Prop, (∀ k, O' k → (O k ∨ R k)) → Stays O' W W4) ∧
            W4.heap[D + 1]? = some (.loop (rec (if jump.isNone then .ready else .done) jump)) ∧ W4.heap[D]? = some (.deferred (some [])) ∧ W3.heap.size ≤ W4.heap.size := fun jump W3 hS3 => by
        have hl3 := (hS3.block (D + 1) (.inl (.inr (.inl rfl)))).trans hl2
        have hr := run_endRound (P := P) jump hl3
        rw [hrec] at hr
        have hlt3 : D + 1 < W3.heap.size := (Array.getElem?_eq_some_iff.1 hl3).1
        refine ⟨_, hr, fun O' h => (Stays.refl _ _).putObj _ _ h, fun O' h => ?_, by rw [hrec]; exact World.putObj_heap_same hlt3, ?_, by simp⟩
        · have hn : ¬ O' (D + 1) := fun h' => by
            rcases h _ h' with h' | h'
            · have := hO _ h'; omega
            · exact hRl _ h' rfl
          exact (((hSa.mono fun k hk => (h k hk).imp (fun h => .inr (.inr h)) id).trans (hS2 O' hn)).trans (hS3.mono fun k hk => (h k hk).imp (fun h => .inr (.inr h)) id)).putObj _ _ hn
        · exact (World.putObj_heap_other (by omega)).trans ((hS3.block D (.inl (.inl rfl))).trans ((by rw [← hW2]; exact World.putObj_heap_other (by omega)) : W2.heap[D]? = Wa.heap[D]?) |>.trans hka)
      have out : ∀ (c : Code) (W3 : World), Stays (fun k => Op O k ∨ R k) W2 W3 → Ix c (pre ++ [x]) (Op O) W3 →
          ∃ v W4, (Instr.endRound (D + 1) (some c)).run P W3 = .ok v W4 ∧ (Stays (fun k => O k ∨ R k) W W4 ∧ (((Ending.returned v) = .returned (.bool true) ∧ I (pre ++ [x]) (Op O) W4 ∧ W4.heap[D + 1]? = some (.loop (rec .ready none)) ∧ W4.heap[D]? = some (.deferred (some [])) ∧ Stays R w W4) ∨
            ((Ending.returned v) = .returned (.bool false) ∧ ∃ c, Ix c (pre ++ [x]) (Op O) W4 ∧ W4.heap[D + 1]? = some (.loop (rec .done (some c))) ∧ W4.heap[D]? = some (.deferred (some [])) ∧ Stays R w W4))) := fun c W3 hS3 hi3 => by
        obtain ⟨W4, hr, hS4, hSW, hl4, hk4, hz4⟩ := fin (some c) W3 hS3
        exact ⟨_, W4, hr, hSW _ (fun k hk => hk), .inr ⟨rfl, c, hIx c _ (Op O) (Op O) W3 W4 hi3 (fun k hk => (hOW k hk).1) (hS4 _ (fun h => h.2 (.inr (.inl rfl)))) (fun k hk => .inl hk), hl4, hk4, hRW.trans (hSW R (fun k hk => .inr hk))⟩⟩
      rintro e a3 W3 hp
      cases e with
      | normal =>
        obtain ⟨hS3, hi3⟩ := hp
        obtain ⟨W4, hr, hS4, hSW, hl4, hk4, hz4⟩ := fin none W3 hS3
        exact ⟨_, W4, hr, hSW _ (fun k hk => hk), .inl ⟨rfl, hI _ (Op O) (Op O) W3 W4 hi3 (fun k hk => (hOW k hk).1) (hS4 _ (fun h => h.2 (.inr (.inl rfl)))) (fun k hk => .inl hk), hl4, hk4, hRW.trans (hSW R (fun k hk => .inr hk))⟩⟩
      | ret => exact out .ret W3 hp.1 hp.2
      | exit id => exact out (.exit id) W3 hp.1 hp.2
      | goto t => exact out (.goto t) W3 hp.1 hp.2
      | panic ch => exact hp.elim
      | outgrown => exact hp.elim
    · exact ⟨hI _ _ _ w W1 h0 (fun k hk => hk.elim) (hS1 _ (fun k hk => by have := hk.1; omega)) (fun k hk => by
        rcases hk with rfl | rfl | hk
        · right; omega
        · right; omega
        · exact hk.elim), hL1, hK1, hS1 R hRw⟩
    · rintro e W2 ⟨⟨v, rfl⟩, O, hO, h⟩
      rw [hz1] at hO
      rcases h with ⟨hi, hl, hk, hRW⟩ | ⟨pre, hpre, c, hi, hl, hk, hRW⟩
      · have hend := run_endLoop (P := P) hl (by rw [hrec]; simp)
        rw [hrec] at hend
        exact ⟨none, _, hend, hdone D (Op O) _ (Nat.le_refl _) (.inl rfl) (hOp hO) (hRW.putObj _ _ (fun h => by have := hRw _ h; omega)) (hI _ (Op O) (Op O) W2 _ hi (hOp hO) ((Stays.refl _ _).putObj _ _ (fun h => h.2 (.inr (.inl rfl)))) (fun k hk => .inl hk)) ((World.putObj_heap_other (by omega)).trans hk)⟩
      · have hend := run_endLoop (P := P) hl (by rw [hrec]; simp)
        rw [hrec] at hend
        exact ⟨some c, _, hend, hstop D c pre (Op O) _ (Nat.le_refl _) (.inl rfl) (hOp hO) (hRW.putObj _ _ (fun h => by have := hRw _ h; omega)) hpre (hIx c _ (Op O) (Op O) W2 _ hi (hOp hO) ((Stays.refl _ _).putObj _ _ (fun h => h.2 (.inr (.inl rfl)))) (fun k hk => .inl hk)) ((World.putObj_heap_other (by omega)).trans hk)⟩

/-- .. where the assignments to the loop's variables lay no memory. -/
theorem range_sq1 {α : Type} {P : Program} {n : Nat} {g : Operand} {ps : Array Tmp} {assign body : Code} {Q : Exit → Act → World → Prop} {a : Act} {w w0 : World} {gf : FuncId} {lb : Array Value} {encs : α → Array Value} {R : Nat → Prop} {xs : List α}
    (hg : a.eval g = .func (.func gf) #[] lb) (eg : ∀ args w, (callFunc gf args).run P w = .ok (.enter gf args) w) (hseq : Sq P gf lb encs R xs w0) (hR : Stays R w0 w) (hRw : ∀ k, R k → k < w.heap.size) (hps : ∀ x, (encs x).size = ps.size)
    (I : List α → (Nat → Prop) → World → Prop) (Ix : Code → List α → (Nat → Prop) → World → Prop) (hI : Foot w.heap.size I) (hIx : ∀ c, Foot w.heap.size (Ix c)) (h0 : I [] (fun _ => False) w)
    (hround : ∀ (l : Nat) (pre : List α) (x : α) (O : Nat → Prop) (W1 : World), (∀ k, O k → w.heap.size ≤ k) → pre ++ [x] <+: xs →
      assign.wpIn (Fence.wide.inRound l) n P (Exit.then (fun a' Wa => Wa = W1 ∧ ∀ W, I pre O W → Stays R w W → O l → (∃ r, W.heap[l]? = some (.loop r)) → (∀ k, O k → w.heap.size ≤ k ∧ k < W.heap.size) →
        body.wpIn (Fence.wide.inRound l) n P (sqPost I Ix O R (pre ++ [x]) W) a' W) (fun _ _ _ => False)) { tmps := (ps.zip (encs x)).foldl (fun t (p, v) => t.setIfInBounds p v) a.tmps, defers := [] } W1)
    (hdone : ∀ (D : Nat) (O : Nat → Prop) (W : World), w.heap.size ≤ D → O D → (∀ k, O k → w.heap.size ≤ k) → Stays R w W → I xs O W → W.heap[D]? = some (.deferred (some [])) → Q .normal { a with defers := { target := .collected D, args := #[] } :: a.defers } W)
    (hstop : ∀ (D : Nat) (c : Code) (pre : List α) (O : Nat → Prop) (W : World), w.heap.size ≤ D → O D → (∀ k, O k → w.heap.size ≤ k) → Stays R w W → pre <+: xs → Ix c pre O W → W.heap[D]? = some (.deferred (some [])) → c.wpIn Fence.wide n P Q { a with defers := { target := .collected D, args := #[] } :: a.defers } W) :
    (Code.rangeFunc g ps assign body).wpIn Fence.wide n P Q a w :=
  range_sq hg eg hseq hR hRw hps I Ix hI hIx h0 (fun l pre x O W hi hRW hOl hrec hOW hpre => wpIn_mono (hround l pre x O W (fun k hk => (hOW k hk).1) hpre) fun e a' Wa he => by
    cases e with
    | normal =>
      obtain ⟨rfl, hb⟩ : Wa = W ∧ _ := he
      exact ⟨Stays.refl _ _, fun W2 hS hz hr => hb W2 (hI _ O O Wa W2 hi (fun k hk => (hOW k hk).1) (hS.mono fun k hk e => hk.2 (e ▸ hOl)) (fun k hk => .inl hk)) (hRW.trans (hS.mono fun k hk e => by have := hRw k hk; have := (hOW l hOl).1; omega)) hOl hr (fun k hk => by have := hOW k hk; omega)⟩
    | _ => exact he.elim) hdone hstop
end Go.Proofs.YtpdodknldhbbhaaGreatDoor.Sq

namespace Go.Proofs.YtpdodknldhbbhaaGreatDoor.Sm
open Go.RowKit Sq

/-- What is said of a world beside the blocks O of somebody else's (M, and all of them from H on): it goes on being so while only those turn, and new ones come. -/
def FootM (M : Nat → Prop) (H : Nat) (J : (Nat → Prop) → World → Prop) : Prop :=
  ∀ (O O' : Nat → Prop) (A B : World), J O A → (∀ k, O k → M k ∨ H ≤ k) → Stays (fun k => k < A.heap.size ∧ ¬ O k) A B → (∀ k, O' k → O k ∨ A.heap.size ≤ k) → J O' B

/-- An iterator hands on rising numbers below a bound: it reads the blocks R, as they lie in w; what it turns are the blocks M, of which T says what they are, and blocks of its own, which the taker leaves alone. -/
def Sm (P : Program) (g : FuncId) (lb : Array Value) (encs : Nat → Array Value) (b : Nat) (M R : Nat → Prop) (T : World → Prop) (w : World) : Prop :=
  ∀ (y : Value) (J : Nat → (Nat → Prop) → World → Prop) (W : World), Taker P y → Stays R w W → T W → (∀ s, FootM M W.heap.size (J s)) →
    (∀ s x O W1, s ≤ x → x < b → J s O W1 → T W1 → Stays R w W1 → (∀ k, O k → (M k ∨ W.heap.size ≤ k) ∧ k < W1.heap.size) → (∀ k, M k → O k) → W.heap.size ≤ W1.heap.size → Takes P y (encs x) W1 fun e W' => Stays (fun k => O k ∨ R k) W1 W' ∧
      e = .returned (.bool true) ∧ J (x + 1) O W') →
    J 0 M W →
    Calls P g (#[y] ++ lb) W fun e W' => (∃ v, e = .returned v) ∧ Stays R w W' ∧ T W' ∧ ∃ s O, (∀ k, O k → M k ∨ W.heap.size ≤ k) ∧ (∀ k, M k → O k) ∧ J s O W'

/-- How a round's body may be left. -/
def smPost (I : (Nat → Prop) → World → Prop) (O R : Nat → Prop) (W : World) : Exit → Act → World → Prop
  | .normal, _, W' => Stays (fun k => O k ∨ R k) W W' ∧ I O W'
  | _, _, _ => False

/-- The law of a loop over such an iterator. -/
theorem range_sm {P : Program} {n : Nat} {g : Operand} {ps : Array Tmp} {assign body : Code} {Q : Exit → Act → World → Prop} {a : Act} {w w0 : World} {gf : FuncId} {lb : Array Value} {encs : Nat → Array Value} {b : Nat} {M R : Nat → Prop} {T : World → Prop}
    (hg : a.eval g = .func (.func gf) #[] lb) (eg : ∀ args w, (callFunc gf args).run P w = .ok (.enter gf args) w) (hseq : Sm P gf lb encs b M R T w0) (hR : Stays R w0 w) (hRw : ∀ k, R k → k < w.heap.size) (hMw : ∀ k, M k → k < w.heap.size ∧ ¬ R k) (hps : ∀ x, (encs x).size = ps.size)
    (hT : ∀ A B, T A → Stays (fun k => M k ∨ R k) A B → T B)
    (I : Nat → (Nat → Prop) → World → Prop) (hI : ∀ s, FootM M w.heap.size (I s)) (h0 : I 0 M w) (hT0 : T w)
    (hround : ∀ (l s x : Nat) (O : Nat → Prop) (W1 : World), (∀ k, O k → M k ∨ w.heap.size ≤ k) → (∀ k, M k → O k) → s ≤ x → x < b →
      assign.wpIn (Fence.wide.inRound l) n P (Exit.then (fun a' Wa => Wa = W1 ∧ ∀ W, I s O W → Stays R w0 W → O l → w.heap.size ≤ l → (∃ r, W.heap[l]? = some (.loop r)) → (∀ k, O k → (M k ∨ w.heap.size ≤ k) ∧ k < W.heap.size) →
        body.wpIn (Fence.wide.inRound l) n P (smPost (I (x + 1)) O R W) a' W) (fun _ _ _ => False)) { tmps := (ps.zip (encs x)).foldl (fun t (p, v) => t.setIfInBounds p v) a.tmps, defers := [] } W1)
    (hdone : ∀ (D s : Nat) (O : Nat → Prop) (W : World), w.heap.size ≤ D → O D → (∀ k, O k → M k ∨ w.heap.size ≤ k) → Stays R w0 W → T W → I s O W → W.heap[D]? = some (.deferred (some [])) → Q .normal { a with defers := { target := .collected D, args := #[] } :: a.defers } W) :
    (Code.rangeFunc g ps assign body).wpIn Fence.wide n P Q a w := by
  refine wpIn_rangeFunc ?_
  intro fn _
  generalize hD : w.heap.size = D at *
  obtain ⟨rec, hrec⟩ : ∃ rec : LoopState → Option Code → Loop, rec = fun st pe => { state := st, pending := pe, fn, tmps := a.tmps, params := ps, assign, body, defers := D } := ⟨_, rfl⟩
  obtain ⟨W1, hW1⟩ : ∃ W1, (w.alloc (.deferred (some []))).alloc (.loop (rec .ready none)) = W1 := ⟨_, rfl⟩
  have hz1 : W1.heap.size = D + 2 := by rw [← hW1]; simp; omega
  have hS1 : ∀ O : Nat → Prop, (∀ k, O k → k < D) → Stays O w W1 := fun O hO => by
    rw [← hW1]; exact ((Stays.refl O w).alloc _ (by rw [hD]; exact hO)).alloc _ (fun k hk => by have := hO k hk; simp; omega)
  have hL1 : W1.heap[D + 1]? = some (.loop (rec .ready none)) := by
    rw [← hW1, ← hD]; have := World.alloc_heap_new (w.alloc (.deferred (some []))) (.loop (rec .ready none)); rwa [World.size_alloc] at this
  have hK1 : W1.heap[D]? = some (.deferred (some [])) := by
    rw [← hW1, ← hD]; exact (Below.heap_alloc _ _ _ (by simp)).trans (World.alloc_heap_new w _)
  let Op : (Nat → Prop) → Nat → Prop := fun O k => k = D ∨ k = D + 1 ∨ O k
  have hOp : ∀ {O : Nat → Prop}, (∀ k, O k → M k ∨ D + 2 ≤ k) → ∀ k, Op O k → M k ∨ D ≤ k := fun hO k hk => by
    rcases hk with rfl | rfl | hk
    · exact .inr (Nat.le_refl _)
    · exact .inr (by omega)
    · rcases hO k hk with h | h
      · exact .inl h
      · exact .inr (by omega)
  have nD : ∀ {O : Nat → Prop}, (∀ k, O k → M k ∨ D + 2 ≤ k) → ¬ O D ∧ ¬ O (D + 1) := fun hO => ⟨fun h => by
    rcases hO _ h with h | h
    · have := (hMw _ h).1; omega
    · omega, fun h => by
    rcases hO _ h with h | h
    · have := (hMw _ h).1; omega
    · omega⟩
  have nR : ∀ {O : Nat → Prop}, (∀ k, O k → M k ∨ D + 2 ≤ k) → ∀ k, R k → ¬ O k := fun hO k hk h => by
    rcases hO _ h with h | h
    · exact (hMw _ h).2 hk
    · have := hRw k hk; omega
  have hft : ∀ s, FootM M (D + 2) (fun O W => I s (Op O) W ∧ W.heap[D + 1]? = some (.loop (rec .ready none)) ∧ W.heap[D]? = some (.deferred (some [])) ∧ Stays R w0 W) := by
    intro s O O' A B ⟨h1, h2, h3, h4⟩ hO hS hO'
    have hlt2 := (Array.getElem?_eq_some_iff.1 h2).1
    have hn := nD hO
    refine ⟨hI s _ _ A B h1 (hOp hO) (hS.mono fun k hk => ⟨hk.1, fun ho => hk.2 (.inr (.inr ho))⟩) (fun k hk => ?_), (hS.block (D + 1) ⟨hlt2, hn.2⟩).trans h2, (hS.block D ⟨by omega, hn.1⟩).trans h3, h4.trans (hS.mono fun k hk => ⟨by have := hRw k hk; omega, nR hO k hk⟩)⟩
    rcases hk with h | h | h
    · exact .inl (.inl h)
    · exact .inl (.inr (.inl h))
    · exact (hO' k h).imp (fun h => .inr (.inr h)) id
  refine ⟨D + 1, [{ target := .collected D, args := #[] }], W1, { target := .fn (.func gf) lb, args := #[.func (.yield (D + 1)) #[] #[]] }, W1, gf, #[.func (.yield (D + 1)) #[] #[]] ++ lb, W1, ?_, ?_, ?_, ?_, fun h => by simp [Fence.wide] at h, ?_⟩
  · subst hD; rw [← hW1, hrec]; exact run_enterLoop_outer _ _ _ _ _
  · simp only [resolve, hg]
    simp [go_sem]
  · intro f' _; trivial
  · simp [invoke, go_sem, eg]
  · refine (callsIn_wide.2 (hseq (.func (.yield (D + 1)) #[] #[])
      (fun s O W => I s (Op O) W ∧ W.heap[D + 1]? = some (.loop (rec .ready none)) ∧ W.heap[D]? = some (.deferred (some [])) ∧ Stays R w0 W)
      W1 (.inl ⟨_, rfl⟩) (hR.trans (hS1 R hRw)) (hT _ _ hT0 (hS1 _ (fun k hk => hk.elim (fun h => (hMw k h).1) (hRw k)))) (by rw [hz1]; exact hft) ?_ ?_)).mono ?_
    · rintro s x O W hsx hx ⟨hi, hl, hk, hRW⟩ hTW _ hO hMO hz
      rw [hz1] at hO hz
      have hO1 : ∀ k, O k → M k ∨ D + 2 ≤ k := fun k hk => (hO k hk).1
      have hlt : D + 1 < W.heap.size := (Array.getElem?_eq_some_iff.1 hl).1
      have hy := run_yield (P := P) (args := encs x) hl (by rw [hrec]; exact hps x)
      rw [hrec] at hy
      have hOW : ∀ k, Op O k → (M k ∨ D ≤ k) ∧ k < W.heap.size := fun k hk => ⟨hOp hO1 k hk, by
        rcases hk with rfl | rfl | hk
        · omega
        · omega
        · exact (hO k hk).2⟩
      have hRl : ∀ k, R k → k ≠ D + 1 := fun k hk e => by have := hRw k hk; omega
      have hro := hround (D + 1) s x (Op O) W (fun k hk => (hOW k hk).1) (fun k hk => .inr (.inr (hMO k hk))) hsx hx
      refine .inl ⟨D + 1, rfl, fn, _, assign, body, hy, round_any (roundIn_of_wpIn (n := n) trivial (wpIn_mono hro ?_))⟩
      clear hy hro
      rintro e0 a' Wa he0
      cases e0 with
      | normal => ?_
      | _ => exact he0.elim
      obtain ⟨rfl, hbody⟩ : Wa = W ∧ _ := he0
      show ∃ w₂, _
      refine ⟨_, run_beginRound hl (by rw [hrec]), ?_⟩
      obtain ⟨W2, hW2⟩ : ∃ W2, Wa.putObj (D + 1) (.loop { rec .ready none with state := .busy }) = W2 := ⟨_, rfl⟩
      have hl2 : W2.heap[D + 1]? = some (.loop { rec .ready none with state := .busy }) := by rw [← hW2]; exact World.putObj_heap_same hlt
      have hz2 : W2.heap.size = Wa.heap.size := by rw [← hW2]; simp
      have hS2 : ∀ O' : Nat → Prop, ¬ O' (D + 1) → Stays O' Wa W2 := fun O' h => by rw [← hW2]; exact (Stays.refl _ _).putObj _ _ h
      rw [hW2]
      have hI2 : I s (Op O) W2 := hI s (Op O) (Op O) Wa W2 hi (fun k hk => (hOW k hk).1) (hS2 _ (fun h => h.2 (.inr (.inl rfl)))) (fun k hk => .inl hk)
      refine wpIn_mono (hbody W2 hI2 (hRW.trans (hS2 R (fun h => hRl _ h rfl))) (.inr (.inl rfl)) (by omega) ⟨_, hl2⟩ (fun k hk => ⟨(hOW k hk).1, by have := (hOW k hk).2; omega⟩)) ?_
      rintro e a3 W3 hp
      cases e with
      | normal =>
        obtain ⟨hS3, hi3⟩ := hp
        have hl3 := (hS3.block (D + 1) (.inl (.inr (.inl rfl)))).trans hl2
        have hr := run_endRound (P := P) none hl3
        rw [hrec] at hr
        have hlt3 : D + 1 < W3.heap.size := (Array.getElem?_eq_some_iff.1 hl3).1
        have hS4 : ∀ O' : Nat → Prop, ¬ O' (D + 1) → Stays O' W3 (W3.putObj (D + 1) (.loop { (rec .ready none) with state := if (none : Option Code).isNone then .ready else .done, pending := none })) := fun O' h => (Stays.refl _ _).putObj _ _ h
        have hSW : ∀ O' : Nat → Prop, (∀ k, O' k → (O k ∨ R k)) → Stays O' Wa (W3.putObj (D + 1) (.loop { (rec .ready none) with state := if (none : Option Code).isNone then .ready else .done, pending := none })) := fun O' h => by
          have hn : ¬ O' (D + 1) := fun h' => by
            rcases h _ h' with h' | h'
            · exact (nD hO1).2 h'
            · exact hRl _ h' rfl
          exact ((hS2 O' hn).trans (hS3.mono fun k hk => (h k hk).imp (fun h => .inr (.inr h)) id)).trans (hS4 O' hn)
        rw [hrec] at hS4 hSW
        refine ⟨_, _, hr, hSW _ (fun k hk => hk), rfl, hI (x + 1) (Op O) (Op O) W3 _ hi3 (fun k hk => (hOW k hk).1) (hS4 _ (fun h => h.2 (.inr (.inl rfl)))) (fun k hk => .inl hk), ?_, ?_, hRW.trans (hSW R (fun k hk => .inr hk))⟩
        · rw [hrec]; exact World.putObj_heap_same hlt3
        · exact (World.putObj_heap_other (by omega)).trans ((hS3.block D (.inl (.inl rfl))).trans (((by rw [← hW2]; exact World.putObj_heap_other (by omega)) : W2.heap[D]? = Wa.heap[D]?).trans hk))
      | _ => exact hp.elim
    · exact ⟨hI 0 _ _ w W1 h0 (fun k hk => .inl hk) (hS1 _ (fun k hk => by have := hk.1; omega)) (fun k hk => by
        rcases hk with rfl | rfl | hk
        · right; omega
        · right; omega
        · exact .inl hk), hL1, hK1, hR.trans (hS1 R hRw)⟩
    · rintro e W2 ⟨⟨v, rfl⟩, hRW2, hTW2, s, O, hO, hMO, hi, hl, hk, hRW⟩
      rw [hz1] at hO
      have hend := run_endLoop (P := P) hl (by rw [hrec]; simp)
      rw [hrec] at hend
      have hS5 : ∀ O' : Nat → Prop, ¬ O' (D + 1) → Stays O' W2 (W2.putObj (D + 1) (.loop { state := .done, pending := none, fn, tmps := a.tmps, params := ps, assign, body, defers := D })) := fun O' h => (Stays.refl _ _).putObj _ _ h
      refine ⟨none, _, hend, hdone D s (Op O) _ (Nat.le_refl _) (.inl rfl) (hOp hO) (hRW.putObj _ _ (fun h => by have := hRw _ h; omega)) ?_ (hI s _ (Op O) W2 _ hi (hOp hO) ((Stays.refl _ _).putObj _ _ (fun h => h.2 (.inr (.inl rfl)))) (fun k hk => .inl hk)) ((World.putObj_heap_other (by omega)).trans hk)⟩
      exact hT _ _ hTW2 ((Stays.refl _ _).putObj _ _ (fun h => by
        rcases h with h | h
        · have := (hMw _ h).1; omega
        · have := hRw _ h; omega))
/-- .. within a round of a loop over another one. -/
theorem range_smN {P : Program} {n l0 : Nat} {g : Operand} {ps : Array Tmp} {assign body : Code} {Q : Exit → Act → World → Prop} {a : Act} {w w0 : World} {gf : FuncId} {lb : Array Value} {encs : Nat → Array Value} {b : Nat} {M R : Nat → Prop} {T : World → Prop}
    (hl0 : ∃ r, w.heap[l0]? = some (.loop r)) (hg : a.eval g = .func (.func gf) #[] lb) (eg : ∀ args w, (callFunc gf args).run P w = .ok (.enter gf args) w) (hseq : Sm P gf lb encs b M R T w0) (hR : Stays R w0 w) (hRw : ∀ k, R k → k < w.heap.size) (hMw : ∀ k, M k → k < w.heap.size ∧ ¬ R k) (hps : ∀ x, (encs x).size = ps.size)
    (hT : ∀ A B, T A → Stays (fun k => M k ∨ R k) A B → T B)
    (I : Nat → (Nat → Prop) → World → Prop) (hI : ∀ s, FootM M w.heap.size (I s)) (h0 : I 0 M w) (hT0 : T w)
    (hround : ∀ (l s x : Nat) (O : Nat → Prop) (W1 : World), (∀ k, O k → M k ∨ w.heap.size ≤ k) → (∀ k, M k → O k) → s ≤ x → x < b →
      assign.wpIn (Fence.wide.inRound l) n P (Exit.then (fun a' Wa => Wa = W1 ∧ ∀ W, I s O W → Stays R w0 W → O l → w.heap.size ≤ l → (∃ r, W.heap[l]? = some (.loop r)) → (∀ k, O k → (M k ∨ w.heap.size ≤ k) ∧ k < W.heap.size) →
        body.wpIn (Fence.wide.inRound l) n P (smPost (I (x + 1)) O R W) a' W) (fun _ _ _ => False)) { tmps := (ps.zip (encs x)).foldl (fun t (p, v) => t.setIfInBounds p v) a.tmps, defers := [] } W1)
    (hdone : ∀ (s : Nat) (O : Nat → Prop) (W : World), (∀ k, O k → M k ∨ w.heap.size ≤ k) → Stays R w0 W → T W → I s O W → Q .normal a W) :
    (Code.rangeFunc g ps assign body).wpIn (Fence.wide.inRound l0) n P Q a w := by
  refine wpIn_rangeFunc ?_
  intro fn _
  generalize hD : w.heap.size = D at *
  obtain ⟨r0, hr0⟩ := hl0
  obtain ⟨rec, hrec⟩ : ∃ rec : LoopState → Option Code → Loop, rec = fun st pe => { state := st, pending := pe, fn, tmps := a.tmps, params := ps, assign, body, defers := r0.defers } := ⟨_, rfl⟩
  obtain ⟨W1, hW1⟩ : ∃ W1, w.alloc (.loop (rec .ready none)) = W1 := ⟨_, rfl⟩
  have hz1 : W1.heap.size = D + 1 := by rw [← hW1]; simp; omega
  have hS1 : ∀ O : Nat → Prop, (∀ k, O k → k < D) → Stays O w W1 := fun O hO => by
    rw [← hW1]; exact (Stays.refl O w).alloc _ (by rw [hD]; exact hO)
  have hL1 : W1.heap[D]? = some (.loop (rec .ready none)) := by
    rw [← hW1, ← hD]; exact World.alloc_heap_new w _
  let Op : (Nat → Prop) → Nat → Prop := fun O k => k = D ∨ O k
  have hOp : ∀ {O : Nat → Prop}, (∀ k, O k → M k ∨ D + 1 ≤ k) → ∀ k, Op O k → M k ∨ D ≤ k := fun hO k hk => by
    rcases hk with rfl | hk
    · exact .inr (Nat.le_refl _)
    · rcases hO k hk with h | h
      · exact .inl h
      · exact .inr (by omega)
  have nD : ∀ {O : Nat → Prop}, (∀ k, O k → M k ∨ D + 1 ≤ k) → ¬ O D := fun hO h => by
    rcases hO _ h with h | h
    · have := (hMw _ h).1; omega
    · omega
  have nR : ∀ {O : Nat → Prop}, (∀ k, O k → M k ∨ D + 1 ≤ k) → ∀ k, R k → ¬ O k := fun hO k hk h => by
    rcases hO _ h with h | h
    · exact (hMw _ h).2 hk
    · have := hRw k hk; omega
  have hft : ∀ s, FootM M (D + 1) (fun O W => I s (Op O) W ∧ W.heap[D]? = some (.loop (rec .ready none)) ∧ Stays R w0 W) := by
    intro s O O' A B ⟨h1, h2, h4⟩ hO hS hO'
    have hlt2 := (Array.getElem?_eq_some_iff.1 h2).1
    have hn := nD hO
    refine ⟨hI s _ _ A B h1 (hOp hO) (hS.mono fun k hk => ⟨hk.1, fun ho => hk.2 (.inr ho)⟩) (fun k hk => ?_), (hS.block D ⟨hlt2, hn⟩).trans h2, h4.trans (hS.mono fun k hk => ⟨by have := hRw k hk; omega, nR hO k hk⟩)⟩
    rcases hk with h | h
    · exact .inl (.inl h)
    · exact (hO' k h).imp (fun h => .inr h) id
  refine ⟨D, [], W1, { target := .fn (.func gf) lb, args := #[.func (.yield D) #[] #[]] }, W1, gf, #[.func (.yield D) #[] #[]] ++ lb, W1, ?_, ?_, ?_, ?_, fun h => by simp [Fence.wide] at h, ?_⟩
  · subst hD; rw [← hW1, hrec]; exact run_enterLoop_inner hr0 _ _ _ _ _
  · simp only [resolve, hg]
    simp [go_sem]
  · intro f' _; trivial
  · simp [invoke, go_sem, eg]
  · refine (callsIn_wide.2 (hseq (.func (.yield D) #[] #[])
      (fun s O W => I s (Op O) W ∧ W.heap[D]? = some (.loop (rec .ready none)) ∧ Stays R w0 W)
      W1 (.inl ⟨_, rfl⟩) (hR.trans (hS1 R hRw)) (hT _ _ hT0 (hS1 _ (fun k hk => hk.elim (fun h => (hMw k h).1) (hRw k)))) (by rw [hz1]; exact hft) ?_ ?_)).mono ?_
    · rintro s x O W hsx hx ⟨hi, hl, hRW⟩ hTW _ hO hMO hz
      rw [hz1] at hO hz
      have hO1 : ∀ k, O k → M k ∨ D + 1 ≤ k := fun k hk => (hO k hk).1
      have hlt : D < W.heap.size := (Array.getElem?_eq_some_iff.1 hl).1
      have hy := run_yield (P := P) (args := encs x) hl (by rw [hrec]; exact hps x)
      rw [hrec] at hy
      have hOW : ∀ k, Op O k → (M k ∨ D ≤ k) ∧ k < W.heap.size := fun k hk => ⟨hOp hO1 k hk, by
        rcases hk with rfl | hk
        · omega
        · exact (hO k hk).2⟩
      have hRl : ∀ k, R k → k ≠ D := fun k hk e => by have := hRw k hk; omega
      have hro := hround D s x (Op O) W (fun k hk => (hOW k hk).1) (fun k hk => .inr (hMO k hk)) hsx hx
      refine .inl ⟨D, rfl, fn, _, assign, body, hy, round_any (roundIn_of_wpIn (n := n) trivial (wpIn_mono hro ?_))⟩
      clear hy hro
      rintro e0 a' Wa he0
      cases e0 with
      | normal => ?_
      | _ => exact he0.elim
      obtain ⟨rfl, hbody⟩ : Wa = W ∧ _ := he0
      show ∃ w₂, _
      refine ⟨_, run_beginRound hl (by rw [hrec]), ?_⟩
      obtain ⟨W2, hW2⟩ : ∃ W2, Wa.putObj D (.loop { rec .ready none with state := .busy }) = W2 := ⟨_, rfl⟩
      have hl2 : W2.heap[D]? = some (.loop { rec .ready none with state := .busy }) := by rw [← hW2]; exact World.putObj_heap_same hlt
      have hz2 : W2.heap.size = Wa.heap.size := by rw [← hW2]; simp
      have hS2 : ∀ O' : Nat → Prop, ¬ O' D → Stays O' Wa W2 := fun O' h => by rw [← hW2]; exact (Stays.refl _ _).putObj _ _ h
      rw [hW2]
      have hI2 : I s (Op O) W2 := hI s (Op O) (Op O) Wa W2 hi (fun k hk => (hOW k hk).1) (hS2 _ (fun h => h.2 (.inl rfl))) (fun k hk => .inl hk)
      refine wpIn_mono (hbody W2 hI2 (hRW.trans (hS2 R (fun h => hRl _ h rfl))) (.inl rfl) (by omega) ⟨_, hl2⟩ (fun k hk => ⟨(hOW k hk).1, by have := (hOW k hk).2; omega⟩)) ?_
      rintro e a3 W3 hp
      cases e with
      | normal =>
        obtain ⟨hS3, hi3⟩ := hp
        have hl3 := (hS3.block D (.inl (.inl rfl))).trans hl2
        have hr := run_endRound (P := P) none hl3
        rw [hrec] at hr
        have hlt3 : D < W3.heap.size := (Array.getElem?_eq_some_iff.1 hl3).1
        have hS4 : ∀ O' : Nat → Prop, ¬ O' D → Stays O' W3 (W3.putObj D (.loop { (rec .ready none) with state := if (none : Option Code).isNone then .ready else .done, pending := none })) := fun O' h => (Stays.refl _ _).putObj _ _ h
        have hSW : ∀ O' : Nat → Prop, (∀ k, O' k → (O k ∨ R k)) → Stays O' Wa (W3.putObj D (.loop { (rec .ready none) with state := if (none : Option Code).isNone then .ready else .done, pending := none })) := fun O' h => by
          have hn : ¬ O' D := fun h' => by
            rcases h _ h' with h' | h'
            · exact nD hO1 h'
            · exact hRl _ h' rfl
          exact ((hS2 O' hn).trans (hS3.mono fun k hk => (h k hk).imp (fun h => .inr h) id)).trans (hS4 O' hn)
        rw [hrec] at hS4 hSW
        refine ⟨_, _, hr, hSW _ (fun k hk => hk), rfl, hI (x + 1) (Op O) (Op O) W3 _ hi3 (fun k hk => (hOW k hk).1) (hS4 _ (fun h => h.2 (.inl rfl))) (fun k hk => .inl hk), ?_, hRW.trans (hSW R (fun k hk => .inr hk))⟩
        rw [hrec]; exact World.putObj_heap_same hlt3
      | _ => exact hp.elim
    · exact ⟨hI 0 _ _ w W1 h0 (fun k hk => .inl hk) (hS1 _ (fun k hk => by have := hk.1; omega)) (fun k hk => by
        rcases hk with rfl | hk
        · right; omega
        · exact .inl hk), hL1, hR.trans (hS1 R hRw)⟩
    · rintro e W2 ⟨⟨v, rfl⟩, hRW2, hTW2, s, O, hO, hMO, hi, hl, hRW⟩
      rw [hz1] at hO
      have hend := run_endLoop (P := P) hl (by rw [hrec]; simp)
      rw [hrec] at hend
      have hS5 : ∀ O' : Nat → Prop, ¬ O' D → Stays O' W2 (W2.putObj D (.loop { state := .done, pending := none, fn, tmps := a.tmps, params := ps, assign, body, defers := r0.defers })) := fun O' h => (Stays.refl _ _).putObj _ _ h
      refine ⟨none, _, hend, hdone s (Op O) _ (hOp hO) (hRW.putObj _ _ (fun h => by have := hRw _ h; omega)) ?_ (hI s _ (Op O) W2 _ hi (hOp hO) ((Stays.refl _ _).putObj _ _ (fun h => h.2 (.inl rfl))) (fun k hk => .inl hk))⟩
      exact hT _ _ hTW2 ((Stays.refl _ _).putObj _ _ (fun h => by
        rcases h with h | h
        · have := (hMw _ h).1; omega
        · have := hRw _ h; omega))
end Go.Proofs.YtpdodknldhbbhaaGreatDoor.Sm

namespace Go.Proofs.YtpdodknldhbbhaaGreatDoor.Vm

/-- A card: properties, each with cards of its own. -/
inductive Tr (P : Type) where
  | node (l : List (P × List (Tr P)))
def Tr.ps {P : Type} : Tr P → List (P × List (Tr P))
  | .node l => l

/-- What lines say. -/
structure Lang where
  P : Type
  Q : Type
  bl : ByteArray → Bool
  isB : ByteArray → Bool
  isV : ByteArray → Bool
  isE : ByteArray → Bool
  rd : ByteArray → Int × Q
  /-- If a property goes on in the next line: what it is without the mark. -/
  on : Q → Option Q
  put : Q → ByteArray → Q
  mean : Q → Int × P
  agent : P → Bool
  hasV : P → Bool

variable {G : Lang}
abbrev Ls := List (Nat × ByteArray)
/-- The next line that is not blank. -/
def next (G : Lang) : Ls → Option ((Nat × ByteArray) × Ls)
  | [] => none
  | x :: r => if G.bl x.2 = true then next G r else some (x, r)
/-- What reading answers: a line, an error, a card. -/
abbrev Ans (G : Lang) := Nat × Int × Tr G.P
def fail {G : Lang} (k : Nat) (e : Int) : Ans G := (k, e, .node [])
/-- A reader's state: what it wants, the cards that are open (the innermost first), the card that has ended; or a property that goes on, with its line's number. -/
inductive St (G : Lang) where
  | at_ (w : Nat) (os : List (List (G.P × List (Tr G.P)))) (c : Tr G.P)
  | on (k : Nat) (os : List (List (G.P × List (Tr G.P)))) (c : Tr G.P) (q : G.Q)
inductive Out (G : Lang) where
  | go (s : St G)
  | bad (k : Nat) (e : Int)
def addP {α : Type} : List (List α) → α → List (List α)
  | [], _ => []
  | f :: os, p => (f ++ [p]) :: os
/-- The last property gets a card. -/
def setA {G : Lang} (f : List (G.P × List (Tr G.P))) (c : Tr G.P) : List (G.P × List (Tr G.P)) :=
  match f.getLast? with
  | none => []
  | some p => f.dropLast ++ [(p.1, [c])]
def ended {G : Lang} (os : List (List (G.P × List (Tr G.P)))) (c : Tr G.P) : St G :=
  match os with
  | [] => .at_ 2 [] c
  | [f] => .at_ 3 [] (.node f)
  | f :: g :: os => .at_ 2 (setA g (.node f) :: os) c
/-- A property whose value does not go on. -/
def takeD {G : Lang} (k : Nat) (os : List (List (G.P × List (Tr G.P)))) (c : Tr G.P) (q : G.Q) : Out G :=
  if (G.mean q).1 ≠ 0 then .bad k (G.mean q).1 else
  if G.agent (G.mean q).2 = false then .go (.at_ 2 (addP os ((G.mean q).2, [])) c) else
  if G.hasV (G.mean q).2 = true then .bad k 5 else
  if os.length = 3 then .bad k 9 else .go (.at_ 0 (addP os ((G.mean q).2, [])) c)
def takeV {G : Lang} (k : Nat) (os : List (List (G.P × List (Tr G.P)))) (c : Tr G.P) (q : G.Q) : Out G :=
  match G.on q with
  | some q' => .go (.on k os c q')
  | none => takeD k os c q
def takeP {G : Lang} (k : Nat) (os : List (List (G.P × List (Tr G.P)))) (c : Tr G.P) (s : ByteArray) : Out G :=
  if (os.headD []).length = 24 then .bad k 4 else
  if (G.rd s).1 ≠ 0 then .bad k (G.rd s).1 else takeV k os c (G.rd s).2
def takeL {G : Lang} (w : Nat) (os : List (List (G.P × List (Tr G.P)))) (c : Tr G.P) (k : Nat) (s : ByteArray) : Out G :=
  if w = 0 ∧ G.isB s = true then .go (.at_ 1 ([] :: os) c) else
  if w = 1 ∧ G.isV s = true then .go (.at_ 2 os c) else
  if w = 0 ∨ w = 1 then .bad k 3 else
  if w = 3 then .bad k 6 else
  if G.isE s = true then .go (ended os c) else takeP k os c s
def step {G : Lang} : St G → Nat × ByteArray → Out G
  | .at_ w os c, x => if G.bl x.2 = true then .go (.at_ w os c) else takeL w os c x.1 x.2
  | .on k os c q, x => takeV k os c (G.put q x.2)
def done {G : Lang} : St G → Ans G
  | .at_ 3 _ c => (0, 0, c)
  | _ => fail 0 1
def run {G : Lang} : St G → Ls → Ans G
  | s, [] => done s
  | s, x :: r => match step s x with
    | .go s' => run s' r
    | .bad k e => fail k e
def fin {G : Lang} : Out G → Ls → Ans G
  | .go s, r => run s r
  | .bad k e, _ => fail k e

theorem run_cons (s : St G) (x : Nat × ByteArray) (r : Ls) : run s (x :: r) = fin (step s x) r := by
  show (match step s x with | .go s' => run s' r | .bad k e => fail k e) = _
  cases step s x <;> rfl
end Go.Proofs.YtpdodknldhbbhaaGreatDoor.Vm

namespace Go.Proofs.YtpdodknldhbbhaaGreatDoor.Sq
open Go.RowKit
set_option linter.unusedVariables false

/-- As 'Foot': beside the blocks O of somebody else's, all of them among Own. -/
def FootO {β : Type} (Own : Nat → Prop) (J : β → (Nat → Prop) → World → Prop) : Prop :=
  ∀ (s : β) (O O' : Nat → Prop) (A B : World), J s O A → (∀ k, O k → Own k) → Stays (fun k => k < A.heap.size ∧ ¬ O k) A B → (∀ k, O' k → O k ∨ A.heap.size ≤ k) → J s O' B
section foot
variable {β : Type} {Own : Nat → Prop}
theorem FootO.and {I J : β → (Nat → Prop) → World → Prop} (hI : FootO Own I) (hJ : FootO Own J) : FootO Own (fun s O W => I s O W ∧ J s O W) :=
  fun s O O' A B h hO hS hO' => ⟨hI s O O' A B h.1 hO hS hO', hJ s O O' A B h.2 hO hS hO'⟩
theorem FootO.pure (p : β → Prop) : FootO Own (fun s (_ : Nat → Prop) (_ : World) => p s) := fun _ _ _ _ _ h _ _ _ => h
theorem FootO.ex {γ : Type} {I : γ → β → (Nat → Prop) → World → Prop} (hI : ∀ c, FootO Own (I c)) : FootO Own (fun s O W => ∃ c, I c s O W) :=
  fun s O O' A B ⟨c, h⟩ hO hS hO' => ⟨c, hI c s O O' A B h hO hS hO'⟩
theorem FootO.stays {R : Nat → Prop} {w : World} (hR : ∀ k, R k → k < w.heap.size ∧ ¬ Own k) : FootO Own (fun (_ : β) (_ : Nat → Prop) W => Stays R w W) :=
  fun _ O _ A B h hO hS _ => h.trans (hS.mono fun k hk => ⟨by have := h.size; have := hR k hk; omega, fun ho => (hR k hk).2 (hO k ho)⟩)
theorem FootO.below {b : Nat} {w : World} (hb : ∀ k, Own k → b ≤ k) (hw : b ≤ w.heap.size) : FootO Own (fun (_ : β) (_ : Nat → Prop) W => Below b w W) :=
  fun _ O _ A B h hO hS _ => h.trans (hS.below fun k hk => ⟨by have := h.size; omega, fun ho => by have := hb k (hO k ho); omega⟩)
theorem FootO.boxed (b : Nat) (t : TypeId) (f : β → Value) (hb : ¬ Own b) : FootO Own (fun s (_ : Nat → Prop) W => Boxed W b t (f s)) :=
  fun _ O _ A B h hO hS _ => (hS.block b ⟨Boxed.lt h, fun ho => hb (hO b ho)⟩).trans h
/-- A variable that holds a row of the speaker's own. -/
theorem FootO.row (n₀ b : Nat) (t e : TypeId) (size : Nat) (k : β → Nat) (f : β → List Value) (hb : ¬ Own b) :
    FootO Own (fun s O W => ∃ v, Boxed W b t v ∧ W.ownsRow n₀ e size v (k s) (f s) ∧ (∀ g, v.ownBlock = some g → ¬ O g)) :=
  fun s O O' A B ⟨v, hv, hr, hg⟩ hO hS hO' =>
    ⟨v, (hS.block b ⟨hv.lt, fun ho => hb (hO b ho)⟩).trans hv, hS.row hr (fun g e => ⟨(own_lt hr g e).2, hg g e⟩), fun g e ho => by
      rcases hO' g ho with h | h
      · exact hg g e h
      · have := (own_lt hr g e).2; omega⟩
end foot

/-- As 'Sq', for an iterator whose boxes S were made ahead of it. -/
def So {α : Type} (P : Program) (g : FuncId) (lb : Array Value) (encs : α → Array Value) (R S : Nat → Prop) (xs : List α) (w : World) : Prop :=
  ∀ (y : Value) (J Jx : List α → (Nat → Prop) → World → Prop) (W : World), Taker P y → Stays R w W → Stays S w W → FootO (fun k => S k ∨ W.heap.size ≤ k) J → FootO (fun k => S k ∨ W.heap.size ≤ k) Jx →
    (∀ pre x O W1, J pre O W1 → (∀ k, O k → (S k ∨ W.heap.size ≤ k) ∧ k < W1.heap.size) → W.heap.size ≤ W1.heap.size → pre ++ [x] <+: xs → Takes P y (encs x) W1 fun e W' => Stays (fun k => O k ∨ R k) W1 W' ∧
      ((e = .returned (.bool true) ∧ J (pre ++ [x]) O W') ∨ (e = .returned (.bool false) ∧ Jx (pre ++ [x]) O W'))) →
    J [] S W →
    Calls P g (#[y] ++ lb) W fun e W' => (∃ v, e = .returned v) ∧ ∃ O, (∀ k, O k → S k ∨ W.heap.size ≤ k) ∧ (J xs O W' ∨ ∃ pre, pre <+: xs ∧ Jx pre O W')

/-- The law of a loop over such an iterator, at boxes made ahead. -/
theorem range_so {α : Type} {P : Program} {n : Nat} {g : Operand} {ps : Array Tmp} {assign body : Code} {Q : Exit → Act → World → Prop} {a : Act} {w w0 : World} {gf : FuncId} {lb : Array Value} {encs : α → Array Value} {R S : Nat → Prop} {xs : List α}
    (hg : a.eval g = .func (.func gf) #[] lb) (eg : ∀ args w, (callFunc gf args).run P w = .ok (.enter gf args) w) (hseq : So P gf lb encs R S xs w0) (hR : Stays R w0 w) (hSS : Stays S w0 w) (hRw : ∀ k, R k → k < w.heap.size) (hSw : ∀ k, S k → k < w.heap.size) (hRS : ∀ k, R k → ¬ S k) (hps : ∀ x, (encs x).size = ps.size)
    (I : List α → (Nat → Prop) → World → Prop) (Ix : Code → List α → (Nat → Prop) → World → Prop) (hI : FootO (fun k => S k ∨ w.heap.size ≤ k) I) (hIx : ∀ c, FootO (fun k => S k ∨ w.heap.size ≤ k) (Ix c)) (h0 : I [] S w)
    (hround : ∀ (l : Nat) (pre : List α) (x : α) (O : Nat → Prop) (W : World), I pre O W → Stays R w W → O l → (∃ r, W.heap[l]? = some (.loop r)) → (∀ k, O k → (S k ∨ w.heap.size ≤ k) ∧ k < W.heap.size) → pre ++ [x] <+: xs →
      assign.wpIn (Fence.wide.inRound l) n P (Exit.then (fun a' Wa => Stays (fun k => O k ∨ R k) W Wa ∧ ∀ W2, Stays (fun k => k ≠ l) Wa W2 → W2.heap.size = Wa.heap.size → (∃ r, W2.heap[l]? = some (.loop r)) →
        body.wpIn (Fence.wide.inRound l) n P (sqPost I Ix O R (pre ++ [x]) W2) a' W2) (fun _ _ _ => False)) { tmps := (ps.zip (encs x)).foldl (fun t (p, v) => t.setIfInBounds p v) a.tmps, defers := [] } W)
    (hdone : ∀ (D : Nat) (O : Nat → Prop) (W : World), w.heap.size ≤ D → O D → (∀ k, O k → S k ∨ w.heap.size ≤ k) → Stays R w W → I xs O W → W.heap[D]? = some (.deferred (some [])) → Q .normal { a with defers := { target := .collected D, args := #[] } :: a.defers } W)
    (hstop : ∀ (D : Nat) (c : Code) (pre : List α) (O : Nat → Prop) (W : World), w.heap.size ≤ D → O D → (∀ k, O k → S k ∨ w.heap.size ≤ k) → Stays R w W → pre <+: xs → Ix c pre O W → W.heap[D]? = some (.deferred (some [])) → c.wpIn Fence.wide n P Q { a with defers := { target := .collected D, args := #[] } :: a.defers } W) :
    (Code.rangeFunc g ps assign body).wpIn Fence.wide n P Q a w := by
  refine wpIn_rangeFunc ?_
  intro fn _
  generalize hD : w.heap.size = D at *
  obtain ⟨rec, hrec⟩ : ∃ rec : LoopState → Option Code → Loop, rec = fun st pe => { state := st, pending := pe, fn, tmps := a.tmps, params := ps, assign, body, defers := D } := ⟨_, rfl⟩
  obtain ⟨W1, hW1⟩ : ∃ W1, (w.alloc (.deferred (some []))).alloc (.loop (rec .ready none)) = W1 := ⟨_, rfl⟩
  have hz1 : W1.heap.size = D + 2 := by rw [← hW1]; simp; omega
  have hS1 : ∀ O : Nat → Prop, (∀ k, O k → k < D) → Stays O w W1 := fun O hO => by
    rw [← hW1]; exact ((Stays.refl O w).alloc _ (by rw [hD]; exact hO)).alloc _ (fun k hk => by have := hO k hk; simp; omega)
  have hL1 : W1.heap[D + 1]? = some (.loop (rec .ready none)) := by
    rw [← hW1, ← hD]; have := World.alloc_heap_new (w.alloc (.deferred (some []))) (.loop (rec .ready none)); rwa [World.size_alloc] at this
  have hK1 : W1.heap[D]? = some (.deferred (some [])) := by
    rw [← hW1, ← hD]; exact (Below.heap_alloc _ _ _ (by simp)).trans (World.alloc_heap_new w _)
  let Op : (Nat → Prop) → Nat → Prop := fun O k => k = D ∨ k = D + 1 ∨ O k
  have hOp : ∀ {O : Nat → Prop}, (∀ k, O k → S k ∨ D + 2 ≤ k) → ∀ k, Op O k → S k ∨ D ≤ k := fun hO k hk => by
    rcases hk with rfl | rfl | hk
    · exact .inr (Nat.le_refl _)
    · exact .inr (by omega)
    · exact (hO k hk).imp id (fun h => by omega)
  have hft : ∀ {β : Type} {J : β → (Nat → Prop) → World → Prop}, FootO (fun k => S k ∨ D ≤ k) J → ∀ (st : LoopState) (pe : β → Option Code), FootO (fun k => S k ∨ D + 2 ≤ k) (fun s O W => J s (Op O) W ∧ W.heap[D + 1]? = some (.loop (rec st (pe s))) ∧ W.heap[D]? = some (.deferred (some [])) ∧ Stays R w W) := by
    intro β J hJ st pe s O O' A B ⟨h1, h2, h3, h4⟩ hO hS hO'
    have hlt2 := (Array.getElem?_eq_some_iff.1 h2).1
    refine ⟨hJ s _ _ A B h1 (hOp hO) (hS.mono fun k hk => ⟨hk.1, fun ho => hk.2 (.inr (.inr ho))⟩) (fun k hk => ?_), (hS.block (D + 1) ⟨hlt2, fun ho => ?_⟩).trans h2, (hS.block D ⟨by omega, fun ho => ?_⟩).trans h3, h4.trans (hS.mono fun k hk => ⟨?_, fun ho => ?_⟩)⟩
    · rcases hk with h | h | h
      · exact .inl (.inl h)
      · exact .inl (.inr (.inl h))
      · exact (hO' k h).imp (fun h => .inr (.inr h)) id
    · rcases hO _ ho with h | h
      · have := hSw _ h; omega
      · omega
    · rcases hO _ ho with h | h
      · have := hSw _ h; omega
      · omega
    · have := hRw k hk; omega
    · rcases hO k ho with h | h
      · exact hRS k hk h
      · have := hRw k hk; omega
  refine ⟨D + 1, [{ target := .collected D, args := #[] }], W1, { target := .fn (.func gf) lb, args := #[.func (.yield (D + 1)) #[] #[]] }, W1, gf, #[.func (.yield (D + 1)) #[] #[]] ++ lb, W1, ?_, ?_, ?_, ?_, fun h => by simp [Fence.wide] at h, ?_⟩
  · subst hD; rw [← hW1, hrec]; exact run_enterLoop_outer _ _ _ _ _
  · simp only [resolve, hg]
    simp [go_sem]
  · intro f' _; trivial
  · simp [invoke, go_sem, eg]
  · refine (callsIn_wide.2 (hseq (.func (.yield (D + 1)) #[] #[])
      (fun pre O W => I pre (Op O) W ∧ W.heap[D + 1]? = some (.loop (rec .ready none)) ∧ W.heap[D]? = some (.deferred (some [])) ∧ Stays R w W)
      (fun pre O W => ∃ c, Ix c pre (Op O) W ∧ W.heap[D + 1]? = some (.loop (rec .done (some c))) ∧ W.heap[D]? = some (.deferred (some [])) ∧ Stays R w W)
      W1 (.inl ⟨_, rfl⟩) (hR.trans (hS1 R hRw)) (hSS.trans (hS1 S hSw)) (by rw [hz1]; exact hft hI .ready (fun _ => none)) (by rw [hz1]; exact FootO.ex fun c => hft (hIx c) .done (fun _ => some c)) ?_ ?_)).mono ?_
    · rintro pre x O W ⟨hi, hl, hk, hRW⟩ hO hz hpre
      rw [hz1] at hO hz
      have hlt : D + 1 < W.heap.size := (Array.getElem?_eq_some_iff.1 hl).1
      have hy := run_yield (P := P) (args := encs x) hl (by rw [hrec]; exact hps x)
      rw [hrec] at hy
      have hOW : ∀ k, Op O k → (S k ∨ D ≤ k) ∧ k < W.heap.size := fun k hk => by
        rcases hk with rfl | rfl | hk
        · exact ⟨.inr (Nat.le_refl _), by omega⟩
        · exact ⟨.inr (by omega), by omega⟩
        · exact ⟨(hO k hk).1.imp id (fun h => by omega), (hO k hk).2⟩
      have hRl : ∀ k, R k → k ≠ D + 1 := fun k hk e => by have := hRw k hk; omega
      refine .inl ⟨D + 1, rfl, fn, _, assign, body, hy, round_any (roundIn_of_wpIn (n := n) trivial (wpIn_mono (hround (D + 1) pre x (Op O) W hi hRW (.inr (.inl rfl)) ⟨_, hl⟩ hOW hpre) ?_))⟩
      clear hy
      rintro e0 a' Wa he0
      cases e0 with
      | normal => ?_
      | _ => exact he0.elim
      obtain ⟨hSa, hbody⟩ : Stays (fun k => Op O k ∨ R k) W Wa ∧ _ := he0
      show ∃ w₂, _
      have hla := (hSa.block (D + 1) (.inl (.inr (.inl rfl)))).trans hl
      have hka := (hSa.block D (.inl (.inl rfl))).trans hk
      refine ⟨_, run_beginRound hla (by rw [hrec]), ?_⟩
      have hlta : D + 1 < Wa.heap.size := (Array.getElem?_eq_some_iff.1 hla).1
      obtain ⟨W2, hW2⟩ : ∃ W2, Wa.putObj (D + 1) (.loop { rec .ready none with state := .busy }) = W2 := ⟨_, rfl⟩
      have hl2 : W2.heap[D + 1]? = some (.loop { rec .ready none with state := .busy }) := by rw [← hW2]; exact World.putObj_heap_same hlta
      have hz2 : W2.heap.size = Wa.heap.size := by rw [← hW2]; simp
      have hS2 : ∀ O' : Nat → Prop, ¬ O' (D + 1) → Stays O' Wa W2 := fun O' h => by rw [← hW2]; exact (Stays.refl _ _).putObj _ _ h
      have hsz := hSa.size
      rw [hW2]
      refine wpIn_mono (hbody W2 (hS2 _ (fun h => h rfl)) hz2 ⟨_, hl2⟩) ?_
      have fin : ∀ (jump : Option Code) (W3 : World), Stays (fun k => Op O k ∨ R k) W2 W3 →
          ∃ W4, (Instr.endRound (D + 1) jump).run P W3 = .ok (.bool jump.isNone) W4 ∧ (∀ O' : Nat → Prop, ¬ O' (D + 1) → Stays O' W3 W4) ∧ (∀ O' : Nat → Prop, (∀ k, O' k → (O k ∨ R k)) → Stays O' W W4) ∧
            W4.heap[D + 1]? = some (.loop (rec (if jump.isNone then .ready else .done) jump)) ∧ W4.heap[D]? = some (.deferred (some [])) ∧ W3.heap.size ≤ W4.heap.size := fun jump W3 hS3 => by
        have hl3 := (hS3.block (D + 1) (.inl (.inr (.inl rfl)))).trans hl2
        have hr := run_endRound (P := P) jump hl3
        rw [hrec] at hr
        have hlt3 : D + 1 < W3.heap.size := (Array.getElem?_eq_some_iff.1 hl3).1
        refine ⟨_, hr, fun O' h => (Stays.refl _ _).putObj _ _ h, fun O' h => ?_, by rw [hrec]; exact World.putObj_heap_same hlt3, ?_, by simp⟩
        · have hn : ¬ O' (D + 1) := fun h' => by
            rcases h _ h' with h' | h'
            · rcases (hO _ h').1 with h'' | h''
              · have := hSw _ h''; omega
              · omega
            · exact hRl _ h' rfl
          exact (((hSa.mono fun k hk => (h k hk).imp (fun h => .inr (.inr h)) id).trans (hS2 O' hn)).trans (hS3.mono fun k hk => (h k hk).imp (fun h => .inr (.inr h)) id)).putObj _ _ hn
        · exact (World.putObj_heap_other (by omega)).trans ((hS3.block D (.inl (.inl rfl))).trans ((by rw [← hW2]; exact World.putObj_heap_other (by omega)) : W2.heap[D]? = Wa.heap[D]?) |>.trans hka)
      have out : ∀ (c : Code) (W3 : World), Stays (fun k => Op O k ∨ R k) W2 W3 → Ix c (pre ++ [x]) (Op O) W3 →
          ∃ v W4, (Instr.endRound (D + 1) (some c)).run P W3 = .ok v W4 ∧ (Stays (fun k => O k ∨ R k) W W4 ∧ (((Ending.returned v) = .returned (.bool true) ∧ I (pre ++ [x]) (Op O) W4 ∧ W4.heap[D + 1]? = some (.loop (rec .ready none)) ∧ W4.heap[D]? = some (.deferred (some [])) ∧ Stays R w W4) ∨
            ((Ending.returned v) = .returned (.bool false) ∧ ∃ c, Ix c (pre ++ [x]) (Op O) W4 ∧ W4.heap[D + 1]? = some (.loop (rec .done (some c))) ∧ W4.heap[D]? = some (.deferred (some [])) ∧ Stays R w W4))) := fun c W3 hS3 hi3 => by
        obtain ⟨W4, hr, hS4, hSW, hl4, hk4, hz4⟩ := fin (some c) W3 hS3
        exact ⟨_, W4, hr, hSW _ (fun k hk => hk), .inr ⟨rfl, c, hIx c _ (Op O) (Op O) W3 W4 hi3 (fun k hk => (hOW k hk).1) (hS4 _ (fun h => h.2 (.inr (.inl rfl)))) (fun k hk => .inl hk), hl4, hk4, hRW.trans (hSW R (fun k hk => .inr hk))⟩⟩
      rintro e a3 W3 hp
      cases e with
      | normal =>
        obtain ⟨hS3, hi3⟩ := hp
        obtain ⟨W4, hr, hS4, hSW, hl4, hk4, hz4⟩ := fin none W3 hS3
        exact ⟨_, W4, hr, hSW _ (fun k hk => hk), .inl ⟨rfl, hI _ (Op O) (Op O) W3 W4 hi3 (fun k hk => (hOW k hk).1) (hS4 _ (fun h => h.2 (.inr (.inl rfl)))) (fun k hk => .inl hk), hl4, hk4, hRW.trans (hSW R (fun k hk => .inr hk))⟩⟩
      | ret => exact out .ret W3 hp.1 hp.2
      | exit id => exact out (.exit id) W3 hp.1 hp.2
      | goto t => exact out (.goto t) W3 hp.1 hp.2
      | panic ch => exact hp.elim
      | outgrown => exact hp.elim
    · exact ⟨hI _ _ _ w W1 h0 (fun k hk => .inl hk) (hS1 _ (fun k hk => by have := hk.1; omega)) (fun k hk => by
        rcases hk with rfl | rfl | hk
        · right; omega
        · right; omega
        · exact .inl hk), hL1, hK1, hS1 R hRw⟩
    · rintro e W2 ⟨⟨v, rfl⟩, O, hO, h⟩
      rw [hz1] at hO
      rcases h with ⟨hi, hl, hk, hRW⟩ | ⟨pre, hpre, c, hi, hl, hk, hRW⟩
      · have hend := run_endLoop (P := P) hl (by rw [hrec]; simp)
        rw [hrec] at hend
        exact ⟨none, _, hend, hdone D (Op O) _ (Nat.le_refl _) (.inl rfl) (hOp hO) (hRW.putObj _ _ (fun h => by have := hRw _ h; omega)) (hI _ (Op O) (Op O) W2 _ hi (hOp hO) ((Stays.refl _ _).putObj _ _ (fun h => h.2 (.inr (.inl rfl)))) (fun k hk => .inl hk)) ((World.putObj_heap_other (by omega)).trans hk)⟩
      · have hend := run_endLoop (P := P) hl (by rw [hrec]; simp)
        rw [hrec] at hend
        exact ⟨some c, _, hend, hstop D c pre (Op O) _ (Nat.le_refl _) (.inl rfl) (hOp hO) (hRW.putObj _ _ (fun h => by have := hRw _ h; omega)) hpre (hIx c _ (Op O) (Op O) W2 _ hi (hOp hO) ((Stays.refl _ _).putObj _ _ (fun h => h.2 (.inr (.inl rfl)))) (fun k hk => .inl hk)) ((World.putObj_heap_other (by omega)).trans hk)⟩

/--  .. where the assignments to the loop's variables lay no memory. -/
theorem range_so1 {α : Type} {P : Program} {n : Nat} {g : Operand} {ps : Array Tmp} {assign body : Code} {Q : Exit → Act → World → Prop} {a : Act} {w w0 : World} {gf : FuncId} {lb : Array Value} {encs : α → Array Value} {R S : Nat → Prop} {xs : List α}
    (hg : a.eval g = .func (.func gf) #[] lb) (eg : ∀ args w, (callFunc gf args).run P w = .ok (.enter gf args) w) (hseq : So P gf lb encs R S xs w0) (hR : Stays R w0 w) (hSS : Stays S w0 w) (hRw : ∀ k, R k → k < w.heap.size) (hSw : ∀ k, S k → k < w.heap.size) (hRS : ∀ k, R k → ¬ S k) (hps : ∀ x, (encs x).size = ps.size)
    (I : List α → (Nat → Prop) → World → Prop) (Ix : Code → List α → (Nat → Prop) → World → Prop) (hI : FootO (fun k => S k ∨ w.heap.size ≤ k) I) (hIx : ∀ c, FootO (fun k => S k ∨ w.heap.size ≤ k) (Ix c)) (h0 : I [] S w)
    (hround : ∀ (l : Nat) (pre : List α) (x : α) (O : Nat → Prop) (W1 : World), (∀ k, O k → S k ∨ w.heap.size ≤ k) → pre ++ [x] <+: xs →
      assign.wpIn (Fence.wide.inRound l) n P (Exit.then (fun a' Wa => Wa = W1 ∧ ∀ W, I pre O W → Stays R w W → O l → (∃ r, W.heap[l]? = some (.loop r)) → (∀ k, O k → (S k ∨ w.heap.size ≤ k) ∧ k < W.heap.size) →
        body.wpIn (Fence.wide.inRound l) n P (sqPost I Ix O R (pre ++ [x]) W) a' W) (fun _ _ _ => False)) { tmps := (ps.zip (encs x)).foldl (fun t (p, v) => t.setIfInBounds p v) a.tmps, defers := [] } W1)
    (hdone : ∀ (D : Nat) (O : Nat → Prop) (W : World), w.heap.size ≤ D → O D → (∀ k, O k → S k ∨ w.heap.size ≤ k) → Stays R w W → I xs O W → W.heap[D]? = some (.deferred (some [])) → Q .normal { a with defers := { target := .collected D, args := #[] } :: a.defers } W)
    (hstop : ∀ (D : Nat) (c : Code) (pre : List α) (O : Nat → Prop) (W : World), w.heap.size ≤ D → O D → (∀ k, O k → S k ∨ w.heap.size ≤ k) → Stays R w W → pre <+: xs → Ix c pre O W → W.heap[D]? = some (.deferred (some [])) → c.wpIn Fence.wide n P Q { a with defers := { target := .collected D, args := #[] } :: a.defers } W) :
    (Code.rangeFunc g ps assign body).wpIn Fence.wide n P Q a w :=
  range_so hg eg hseq hR hSS hRw hSw hRS hps I Ix hI hIx h0 (fun l pre x O W hi hRW hOl hrec hOW hpre => wpIn_mono (hround l pre x O W (fun k hk => (hOW k hk).1) hpre) fun e a' Wa he => by
    cases e with
    | normal =>
      obtain ⟨rfl, hb⟩ : Wa = W ∧ _ := he
      exact ⟨Stays.refl _ _, fun W2 hS hz hr => hb W2 (hI _ O O Wa W2 hi (fun k hk => (hOW k hk).1) (hS.mono fun k hk e => hk.2 (e ▸ hOl)) (fun k hk => .inl hk)) (hRW.trans (hS.mono fun k hk e => by subst e; exact (hOW _ hOl).1.elim (fun h => hRS _ hk h) (fun h => by have := hRw _ hk; omega))) hOl hr (fun k hk => ⟨(hOW k hk).1, by have := (hOW k hk).2; omega⟩)⟩
    | _ => exact he.elim) hdone hstop
end Go.Proofs.YtpdodknldhbbhaaGreatDoor.Sq
