/-
What the iterator unfolded has of its own between two lines, and what one line makes of it. Conditions: those that each theorem states.
-/
import Derived.Test.YtcclicgjklmihaaLnUnf
import Derived.Test.YtcclicgjklmihaaApp
namespace Go.Proofs.Ytcclicgjklmihaa.Ln
open Go.RowKit Strs Sq
attribute [local go_sem] Oper.semAt_some

theorem join_flat (l : List (List UInt8)) : Lib.join l [] = l.flatten := by
  cases l with
  | nil => rfl
  | cons x r =>
    rw [Lib.join_cons, List.flatten_cons]
    congr 1
    unfold Lib.joinTail
    simp
theorem join_any (v : Value) (l : List (List UInt8)) (hl : l ≠ []) (h1 : l.length ≤ 1099511627776) (h2 : bytes l ≤ 1099511627776) (w : World) (h : Reads w v l) :
    Calls Try.prog 31 #[v, .string { data := #[] }] w fun e w' => e = .returned (.string ⟨l.flatten.toArray⟩) ∧ Below w.heap.size w w' := by
  obtain ⟨a, cap, rfl, hc, b, o, hne, hcells⟩ := h
  obtain ⟨rfl, hb⟩ := hne hl
  have hm : (l.map (fun x => (⟨x.toArray⟩ : ByteArray))).map (·.data.toList) = l := by
    rw [List.map_map]; conv => rhs; rw [← List.map_id l]
    apply List.map_congr_left; intro x _; exact mk_list x
  have J := Try.strings_Join b o cap (l.map fun x => ⟨x.toArray⟩) { data := #[] } w (fun j x hj => by
    rw [List.getElem?_map] at hj
    cases hx : l[j]? with
    | none => rw [hx] at hj; simp at hj
    | some y =>
      rw [hx] at hj
      obtain ⟨hj2, rfl⟩ := List.getElem?_eq_some_iff.1 hx
      have := hcells j hj2
      rw [this]
      simpa using hj) hb (by rw [List.length_map]; omega) (by rw [List.length_map]; exact hc) (by
      rw [hm, show (({ data := #[] } : ByteArray).data.toList) = [] from rfl, join_flat]; unfold bytes at h2; omega)
  rw [hm, show (({ data := #[] } : ByteArray).data.toList) = [] from rfl, join_flat, List.length_map] at J
  exact J
theorem unfolded_any (v : Value) (w : World) (fn : Fn) (fi ca : Array Value) (hv : v = .func fn fi ca) :
    Calls Try.prog 22 #[v] w fun e w' => e = .returned (.func (.func 29) #[] #[.pointer (some ⟨w.heap.size, 0, none⟩)]) ∧ w' = w.alloc (.cells #[v] 39) := by
  subst hv
  go_enter Try.func22, Try.ntmps22
  go_wp2
  go_ret
  exact ⟨rfl, rfl⟩
theorem eg_unfolded (args : Array Value) (w : World) : (callFunc 29 args).run Try.prog w = .ok (.enter 29 args) w := enters_of Try.func29 (by kernel_rfl) rfl args w

/-- The line that is not at its end yet, in pieces. -/
def pend (bg : Nat) (ps : List (List UInt8)) : Option (Nat × List UInt8) := if ps = [] then none else some (bg, ps.flatten)
theorem drop_of {α : Type} {pre xs : List α} {x : α} (h : pre ++ [x] <+: xs) : xs.drop pre.length = x :: xs.drop (pre ++ [x]).length := by
  obtain ⟨r, rfl⟩ := h
  rw [List.append_assoc, List.drop_left]; simp
theorem goes_first {xs pre em all : List (Nat × List UInt8)} {x : Nat × List UInt8} {bg : Nat} (hp : pre ++ [x] <+: xs) (h : em ++ unf (pend bg []) (xs.drop pre.length) = all) :
    em ++ unf (pend x.1 [x.2]) (xs.drop (pre ++ [x]).length) = all := by
  rw [← h, drop_of hp]; simp [pend, unf]
theorem goes_on {xs pre em all : List (Nat × List UInt8)} {x : Nat × List UInt8} {bg : Nat} {ps : List (List UInt8)} (hp : pre ++ [x] <+: xs) (hps : ps ≠ []) (hg : goes x.2 = true) (h : em ++ unf (pend bg ps) (xs.drop pre.length) = all) :
    em ++ unf (pend bg (ps ++ [x.2])) (xs.drop (pre ++ [x]).length) = all := by
  rw [← h, drop_of hp]; simp [pend, unf, hps, hg]
theorem goes_new {xs pre em all : List (Nat × List UInt8)} {x : Nat × List UInt8} {bg : Nat} {ps : List (List UInt8)} (hp : pre ++ [x] <+: xs) (hps : ps ≠ []) (hg : goes x.2 = false) (h : em ++ unf (pend bg ps) (xs.drop pre.length) = all) :
    (em ++ [(bg, ps.flatten)]) ++ unf (pend x.1 [x.2]) (xs.drop (pre ++ [x]).length) = all := by
  rw [← h, drop_of hp]; simp [pend, unf, hps, hg]
theorem goes_end {xs em all : List (Nat × List UInt8)} {bg : Nat} (h : em ++ unf (pend bg []) (xs.drop xs.length) = all) : em = all := by
  rw [← h]; simp [pend, unf]
theorem goes_last {xs em all : List (Nat × List UInt8)} {bg : Nat} {ps : List (List UInt8)} (hps : ps ≠ []) (h : em ++ unf (pend bg ps) (xs.drop xs.length) = all) : em ++ [(bg, ps.flatten)] = all := by
  rw [← h]; simp [pend, unf, hps]
theorem bytes_pre {pre xs : List (Nat × List UInt8)} {x : Nat × List UInt8} (hp : pre ++ [x] <+: xs) : bytes (pre.map (·.2)) + x.2.length ≤ bytes (xs.map (·.2)) ∧ pre.length + 1 ≤ xs.length := by
  obtain ⟨r, rfl⟩ := hp
  simp [bytes]

/-- The iterator's own variables: whom it hands to, the number of the line that is not at its end yet, the row of its pieces. -/
structure St (H : Nat) (y : Value) (bg : Nat) (ps : List (List UInt8)) (v : Value) (V : World) : Prop where
  b2 : Boxed V H 45 y
  b3 : Boxed V (H + 1) 3 (.int .i64 (bg : Int))
  b4 : Boxed V (H + 2) 22 v
  row : Strs V H v ps
/-- The blocks that are its own. -/
def Mine (H : Nat) (v : Value) (O : Nat → Prop) : Nat → Prop := fun k => O k ∨ k = H ∨ k = H + 1 ∨ k = H + 2 ∨ v.ownBlock = some k
theorem St.le {H : Nat} {y : Value} {bg : Nat} {ps : List (List UInt8)} {v : Value} {V : World} (h : St H y bg ps v V) : ∀ g, v.ownBlock = some g → H + 3 ≤ g ∧ g < V.heap.size := fun g e => by
  have h1 := own_lt h.row g e
  have h2 := h.b2.not_row (by decide) h.row
  have h3 := h.b3.not_row (by decide) h.row
  have h4 := h.b4.not_row (by decide) h.row
  rw [e] at h2 h3 h4
  have n2 : H ≠ g := fun x => h2 (by rw [x])
  have n3 : H + 1 ≠ g := fun x => h3 (by rw [x])
  have n4 : H + 2 ≠ g := fun x => h4 (by rw [x])
  omega
theorem St.mine {H : Nat} {y : Value} {bg : Nat} {ps : List (List UInt8)} {v : Value} {V : World} (h : St H y bg ps v V) {O : Nat → Prop} (hO : ∀ k, O k → H + 3 ≤ k ∧ k < V.heap.size) : ∀ k, Mine H v O k → H ≤ k ∧ k < V.heap.size := fun k hk => by
  have h2 := h.b2.lt
  have h3 := h.b3.lt
  have h4 := h.b4.lt
  rcases hk with hk | rfl | rfl | rfl | hk
  · have := hO k hk; omega
  · omega
  · omega
  · omega
  · have := h.le k hk; omega
theorem St.mine' {H : Nat} {y : Value} {bg : Nat} {ps : List (List UInt8)} {v : Value} {V : World} (h : St H y bg ps v V) {O : Nat → Prop} (hO : ∀ k, O k → H ≤ k) : ∀ k, Mine H v O k → H ≤ k := fun k hk => by
  rcases hk with hk | rfl | rfl | rfl | hk
  · exact hO k hk
  · omega
  · omega
  · omega
  · have := h.le k hk; omega
theorem St.mine_lt {H : Nat} {y : Value} {bg : Nat} {ps : List (List UInt8)} {v : Value} {V : World} (h : St H y bg ps v V) {O : Nat → Prop} (hO : ∀ k, O k → k < V.heap.size) : ∀ k, Mine H v O k → k < V.heap.size := fun k hk => by
  rcases hk with hk | rfl | rfl | rfl | hk
  · exact hO k hk
  · exact h.b2.lt
  · exact h.b3.lt
  · exact h.b4.lt
  · exact (h.le k hk).2
theorem St.stays {H : Nat} {y : Value} {bg : Nat} {ps : List (List UInt8)} {v : Value} {V V' : World} {O : Nat → Prop} (h : St H y bg ps v V) (hS : Stays O V V') (h2 : O H) (h3 : O (H + 1)) (h4 : O (H + 2)) (hr : ∀ g, v.ownBlock = some g → O g) : St H y bg ps v V' :=
  ⟨hS.boxed h2 h.b2, hS.boxed h3 h.b3, hS.boxed h4 h.b4, hS.row h.row hr⟩
theorem St.keep {H : Nat} {y : Value} {bg : Nat} {ps : List (List UInt8)} {v : Value} {V V' : World} (h : St H y bg ps v V) (hb : Below V.heap.size V V') : St H y bg ps v V' :=
  h.stays (Stays.of_below (O := fun k => k < V.heap.size) hb fun _ h => h) h.b2.lt h.b3.lt h.b4.lt (fun g e => (h.le g e).2)
theorem St.begin {H : Nat} {y : Value} {bg : Nat} {ps : List (List UInt8)} {v : Value} {V : World} (h : St H y bg ps v V) (n : Nat) : St H y n ps v (V.setCell ⟨H + 1, 0, none⟩ (.int .i64 (n : Int))) := by
  have hS : Stays (fun k => k ≠ H + 1) V (V.setCell ⟨H + 1, 0, none⟩ (.int .i64 (n : Int))) := (Stays.refl _ _).setCell _ _ (fun h => h rfl)
  exact ⟨hS.boxed (by omega) h.b2, h.b3.set _, hS.boxed (by omega) h.b4, hS.row h.row (fun g e => by have := h.le g e; omega)⟩
theorem St.clear {H : Nat} {y : Value} {bg : Nat} {ps : List (List UInt8)} {v : Value} {V : World} (h : St H y bg ps v V) : St H y bg [] (.slice none 0 0) (V.setCell ⟨H + 2, 0, none⟩ (.slice none 0 0)) := by
  have hS : Stays (fun k => k ≠ H + 2) V (V.setCell ⟨H + 2, 0, none⟩ (.slice none 0 0)) := (Stays.refl _ _).setCell _ _ (fun h => h rfl)
  exact ⟨hS.boxed (by omega) h.b2, hS.boxed (by omega) h.b3, h.b4.set _, Strs.nil _ _⟩
/-- Behind an append, ahead of the store and behind it. -/
theorem St.append {H : Nat} {y : Value} {bg : Nat} {ps : List (List UInt8)} {v v' : Value} {x : List UInt8} {V V1 : World} {o : Obj} (h : St H y bg ps v V) (hown : V1.ownsRow H 9 1 v' (ps.length + 1) (scells ps ++ [.string ⟨x.toArray⟩])) (hg : (V.alloc o).grownBy V1 v.ownBlock) (hw : v'.ownBlock = v.ownBlock ∨ v'.ownBlock = some (V.alloc o).heap.size) :
    Boxed V1 (H + 2) 22 v ∧ St H y bg (ps ++ [x]) v' (V1.setCell ⟨H + 2, 0, none⟩ v') ∧ (∀ g, v'.ownBlock = some g → v.ownBlock = some g ∨ V.heap.size ≤ g) ∧ Stays (fun k => k < V.heap.size ∧ k ≠ H + 2 ∧ some k ≠ v.ownBlock) V (V1.setCell ⟨H + 2, 0, none⟩ v') := by
  have hS : Stays (fun k => k < V.heap.size ∧ some k ≠ v.ownBlock) V V1 := ((Stays.refl _ V).alloc o (fun k hk => hk.1)).grown hg (fun k hk => ⟨by have := hk.1; simp; omega, hk.2⟩)
  have hle := h.le
  have hne : ∀ k, k < H + 3 → some k ≠ v.ownBlock := fun k hk e => by have := hle k e.symm; omega
  have hlt := h.b4.lt
  have b4 := hS.boxed (b := H + 2) ⟨hlt, hne _ (by omega)⟩ h.b4
  have hfresh : ∀ g, v'.ownBlock = some g → v.ownBlock = some g ∨ V.heap.size ≤ g := fun g e => by
    rcases hw with hw | hw
    · exact .inl (hw ▸ e)
    · rw [e] at hw; cases hw; right; simp
  have hS2 : Stays (fun k => k ≠ H + 2) V1 (V1.setCell ⟨H + 2, 0, none⟩ v') := (Stays.refl _ _).setCell _ _ (fun h => h rfl)
  have hrow := Strs.snoc (l := ps) (x := x) rfl hown
  refine ⟨b4, ⟨hS2.boxed (by omega) (hS.boxed ⟨by omega, hne _ (by omega)⟩ h.b2), hS2.boxed (by omega) (hS.boxed ⟨by omega, hne _ (by omega)⟩ h.b3), b4.set _, hS2.row hrow (fun g e => ?_)⟩, hfresh, (hS.mono fun k hk => ⟨hk.1, hk.2.2⟩).trans (hS2.mono fun k hk => hk.2.1)⟩
  rcases hfresh g e with h | h
  · have := hle g h; omega
  · omega
/-- What the taker says goes on being so while the iterator turns its own blocks. -/
theorem mine_step {β : Type} {H : Nat} {J : β → (Nat → Prop) → World → Prop} (hJ : Foot H J) {s : β} {v v' : Value} {O : Nat → Prop} {A B : World} (h : J s (Mine H v O) A) (hO : ∀ k, Mine H v O k → H ≤ k) (hS : Stays (fun k => k < A.heap.size ∧ ¬ Mine H v O k) A B) (hv : ∀ g, v'.ownBlock = some g → v.ownBlock = some g ∨ A.heap.size ≤ g) : J s (Mine H v' O) B :=
  hJ s _ _ A B h hO hS (fun k hk => by
    rcases hk with hk | hk | hk | hk | hk
    · exact .inl (.inl hk)
    · exact .inl (.inr (.inl hk))
    · exact .inl (.inr (.inr (.inl hk)))
    · exact .inl (.inr (.inr (.inr (.inl hk))))
    · exact (hv k hk).imp (fun h => .inr (.inr (.inr (.inr h)))) id)
end Go.Proofs.Ytcclicgjklmihaa.Ln
