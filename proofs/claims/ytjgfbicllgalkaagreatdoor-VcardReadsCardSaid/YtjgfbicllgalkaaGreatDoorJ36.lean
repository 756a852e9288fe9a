/-
Texts joined in one file, each with its own conditions: The program's reader takes a line, in whatever state: it does what the plain machine does; the machine's states stay good. Conditions: the reader lies in memory as the plain machine's state; the line has at most 10000 bytes; the library's tables hold what the rows list. · The program's Parse of a card reads what the plain machine reads. Conditions: the text has at most 4000 bytes; the library's tables hold what the rows list. · The program's Parse of a card refuses a text that is too long. Conditions: the text has more than 4000 bytes. · Both Parses of a card answer the same reading of the text's lines: the program's at any text; the document's too, if its prop does as the plain descent. Conditions: the library's tables hold what the rows list. · The law VcardReads holds at any text, if the document's prop does as the plain descent. Conditions: the library's tables hold what the rows list. · Soft line ends, as the document's loop takes them off. Plain functions; no program in it, no conditions. · The document's prop under way: the result's box, the property's box, the reader. No conditions but those that each theorem states. · The document's prop does as the plain descent, if its card does. Conditions: the lines have at most 2^20 bytes. · The law VcardReads holds at any text. Conditions: the library's tables hold what the rows list.
-/
import Derived.Test.YtjgfbicllgalkaaGreatDoorJ32
import Derived.Test.YtjgfbicllgalkaaGreatDoorJ28
import Derived.Test.YtjgfbicllgalkaaGreatDoorJ29
import Derived.Test.YtjgfbicllgalkaaGreatDoorJ33
import Derived.Test.YtjgfbicllgalkaaGreatDoorJ04
import Derived.Test.YtjgfbicllgalkaaGreatDoorJ01
import Derived.Test.YtjgfbicllgalkaaGreatDoorJ16
import Derived.Test.YtjgfbicllgalkaaGreatDoorJ34
import Derived.Test.YtjgfbicllgalkaaGreatDoorJ35
import Derived.Deep.CutBlock
import Derived.Deep.CutRange
namespace Go.Proofs.YtjgfbicllgalkaaGreatDoor.Vc
set_option maxRecDepth 100000
open Go.RowKit Pp Sq

set_option maxHeartbeats 1600000 in
/-- A line of a value that goes on. -/
theorem take_on (rb base : Nat) (M : Nat → Prop) (k' k : Nat) (f : Fr) (os : List Fr) (c : Crd) (q : Par) (s : ByteArray) (w : World) (h : RdAt w rb base M (.on k (f :: os) c q)) (hos : os.length ≤ 2) (hf : f.length < 24)
    (hv : q.v.size + s.size ≤ 1048576) (hl : q.ps.length ≤ 100) (hps : ∀ x ∈ q.ps, x.2.size ≤ 1048576) (hqp : (wayV q.ps).toList = [81, 85, 79, 84, 69, 68, 45, 80, 82, 73, 78, 84, 65, 66, 76, 69]) (hbs : base ≤ w.heap.size) (HTab : ∀ W, Fin M w W → Qu.Tabs W) :
    Calls Tryz.prog 47 #[.pointer (some ⟨rb, 0, none⟩), .int .i64 (k' : Int), .string s] w (Took w rb base M (Vm.takeV (G := G) k (f :: os) c { q with v := q.v ++ s })) := by
  obtain ⟨ov, cv, pv, hR, hM, hown, hpvM, hO⟩ := h
  have hS : Stays (fun j => j ≠ rb) w (w.setCell ⟨rb, 7, none⟩ (.string (q.v ++ s))) := stays_set (Stays.refl _ w) (fun h => h rfl)
  have hz : (w.setCell ⟨rb, 7, none⟩ (.string (q.v ++ s))).heap.size = w.heap.size := World.size_setCell ..
  have hF1 : Fin M w (w.setCell ⟨rb, 7, none⟩ (.string (q.v ++ s))) := hS.mono fun j hj e => hj.2 (e ▸ hM)
  have hS2 : Stays (fun j => j ≠ rb) w (((w.setCell ⟨rb, 7, none⟩ (.string (q.v ++ s))).setCell ⟨rb, 7, none⟩ (.string (q.v ++ s))).setCell ⟨rb, 10, none⟩ (.bool false)) := stays_set (stays_set hS (fun h => h rfl)) (fun h => h rfl)
  have hqs : (q.v ++ s).size = q.v.size + s.size := ByteArray.size_append
  have hd := decW_size (wayV q.ps) (q.v ++ s)
  have CV := takeValue_any rb base M k f os c { q with v := q.v ++ s } true ov cv pv _ (hR.set7 (q.v ++ s)) (fun _ => hqp) hM (row_stays hown (fun g e => hS.block g (hpvM g e).2)) hpvM (hO.move (hS.mono fun j hj => hj.2.1) (fun j h _ => h) (fun j h => .inl h)) hos hf (by show (q.v ++ s).size ≤ _; omega) hl hps (by rw [hz]; exact hbs) (HTab _ hF1) (HTab _ (hS2.mono fun j hj e => hj.2 (e ▸ hM))) (by show (decW (wayV q.ps) (q.v ++ s)).1.size ≤ _; omega)
  obtain ⟨OUT, hOUT⟩ : ∃ O, Vm.takeV (G := G) k (f :: os) c { q with v := q.v ++ s } = O := ⟨_, rfl⟩
  rw [hOUT] at CV ⊢
  have HCV := Lib.hid CV
  have HF1 := Lib.hid (And.intro hF1 hz)
  have c10 := hR.c10
  have c7 := hR.c7
  have f7 := hR.f 7
  have hsz : q.v.size ≤ 1048576 := by omega
  have hsz2 : s.size ≤ 1048576 := by omega
  clear CV hOUT hd hqs hS2 hF1 hS hO hown hpvM hR HTab hps hqp hz
  go_enter Tryz.func47, Tryz.ntmps47
  go_wp2_with fail
  refine HCV.out.mono ?_
  rintro e w' ht
  obtain ⟨x, rfl⟩ : ∃ x, e = .returned (.int .i64 x) := by
    cases OUT with
    | go s => exact ⟨_, ht.1⟩
    | bad k' er => exact ⟨_, ht.1⟩
  go_wp2_with fail
  go_ret
  obtain ⟨hF1, hz⟩ := HF1.out
  have hF2 : ∀ W, Fin M (w.setCell ⟨rb, 7, none⟩ (.string (q.v ++ s))) W → Fin M w W := fun W h => Stays.trans hF1 (h.mono fun j hj => ⟨by rw [hz]; exact hj.1, hj.2⟩)
  unfold Took at ht ⊢
  rw [hz] at ht
  cases OUT with
  | go s => exact ⟨ht.1, ht.2.1, hF2 _ ht.2.2⟩
  | bad k' er => exact ⟨ht.1, ht.2.1, hF2 _ ht.2.2⟩

/-- A state that may be; N: the bytes of the value so far. -/
def Okay (N : Nat) : Vm.St G → Prop
  | .at_ wa os _ => os.length ≤ 3 ∧ (∀ f ∈ os, f.length ≤ 24) ∧ (∀ f ∈ os.tail, f ≠ []) ∧ wa ≤ 3 ∧ (wa = 0 → os.length ≤ 2 ∧ ∀ f ∈ os, f ≠ []) ∧ (wa = 1 ∨ wa = 2 → os ≠ [])
  | .on _ os _ q => os.length ≤ 3 ∧ (∀ f ∈ os, f.length ≤ 24) ∧ (∀ f ∈ os.tail, f ≠ []) ∧ (∃ f r, os = f :: r ∧ f.length < 24) ∧ q.v.size ≤ N ∧ q.ps.length ≤ 100 ∧ (∀ x ∈ q.ps, x.2.size ≤ 1048576) ∧ (wayV q.ps).toList = [81, 85, 79, 84, 69, 68, 45, 80, 82, 73, 78, 84, 65, 66, 76, 69]
theorem on_some {q q' : Par} (h : G.on q = some q') : (wayV q.ps).toList = [81, 85, 79, 84, 69, 68, 45, 80, 82, 73, 78, 84, 65, 66, 76, 69] ∧ q' = { q with v := cutM q.v } := by
  have h : (if (wayV q.ps).toList = [81, 85, 79, 84, 69, 68, 45, 80, 82, 73, 78, 84, 65, 66, 76, 69] ∧ markB q.v = true then some { q with v := cutM q.v } else none) = some q' := h
  split at h
  · rename_i hc; exact ⟨hc.1, (Option.some.inj h).symm⟩
  · cases h
theorem cutM_size (v : ByteArray) : (cutM v).size ≤ v.size := by
  unfold cutM
  rw [mk_size, List.length_dropLast]
  have : v.data.toList.length = v.size := by rw [Array.length_toList]; rfl
  omega
theorem okay_takeD {N k : Nat} {f : Fr} {os : List Fr} {c : Crd} {q : Par} {s : Vm.St G} (hos : os.length ≤ 2) (hall : ∀ g ∈ os, g.length ≤ 24) (hne : ∀ g ∈ os, g ≠ []) (hf : f.length < 24) (h : Vm.takeD (G := G) k (f :: os) c q = .go s) : Okay N s := by
  unfold Vm.takeD at h
  have hl : ∀ p : Pd × List Crd, ∀ g ∈ (f ++ [p]) :: os, g.length ≤ 24 := fun p g hg => by
    rcases List.mem_cons.1 hg with rfl | hg
    · simp; omega
    · exact hall g hg
  split at h
  · cases h
  · split at h
    · cases h
      exact ⟨by show ((f ++ [_]) :: os).length ≤ 3; simp; omega, hl _, hne, by decide, (fun e => by cases e), (fun _ e => by cases e)⟩
    · split at h
      · cases h
      · split at h
        · cases h
        · rename_i h3
          cases h
          refine ⟨by show ((f ++ [_]) :: os).length ≤ 3; simp; omega, hl _, hne, by decide, fun _ => ⟨?_, ?_⟩, (fun e => by rcases e with e | e <;> cases e)⟩
          · show ((f ++ [_]) :: os).length ≤ 2
            simp at h3 ⊢; omega
          · intro g hg
            rcases List.mem_cons.1 hg with rfl | hg
            · simp
            · exact hne g hg
theorem okay_takeV {N k : Nat} {f : Fr} {os : List Fr} {c : Crd} {q : Par} {s : Vm.St G} (hos : os.length ≤ 2) (hall : ∀ g ∈ os, g.length ≤ 24) (hne : ∀ g ∈ os, g ≠ []) (hf : f.length < 24) (hv : q.v.size ≤ N) (hl : q.ps.length ≤ 100) (hps : ∀ x ∈ q.ps, x.2.size ≤ 1048576) (h : Vm.takeV (G := G) k (f :: os) c q = .go s) : Okay N s := by
  unfold Vm.takeV at h
  cases ho : G.on q with
  | none => rw [ho] at h; exact okay_takeD hos hall hne hf h
  | some q' =>
    rw [ho] at h
    cases h
    obtain ⟨hqp, rfl⟩ := on_some ho
    refine ⟨by simp; omega, fun g hg => ?_, hne, ⟨f, os, rfl, hf⟩, Nat.le_trans (cutM_size _) hv, hl, hps, hqp⟩
    rcases List.mem_cons.1 hg with rfl | hg
    · omega
    · exact hall g hg
/-- The machine's states stay good. -/
theorem okay_step {N k : Nat} {s s' : Vm.St G} {t : ByteArray} (hN : 2400 ≤ N) (h : Okay N s) (hst : Vm.step (G := G) s (k, t) = .go s') : Okay (N + t.size) s' := by
  cases s with
  | on k' os c q =>
    obtain ⟨h1, h2, h3, ⟨f, r, rfl, hf⟩, h5, h6, h7, h8⟩ := h
    have hst : Vm.takeV (G := G) k' (f :: r) c { q with v := q.v ++ t } = .go s' := hst
    exact okay_takeV (q := { q with v := q.v ++ t }) (by simp at h1; omega) (fun g hg => h2 g (List.mem_cons_of_mem _ hg)) h3 hf (by show (q.v ++ t).size ≤ _; rw [ByteArray.size_append]; omega) h6 h7 hst
  | at_ wa os c =>
    obtain ⟨h1, h2, h3, h4, h5, h6⟩ := h
    unfold Vm.step at hst
    simp only at hst
    by_cases hbl : blank t.data.toList = true
    · have hbl' : G.bl t = true := hbl
      rw [if_pos hbl'] at hst
      cases hst
      exact ⟨h1, h2, h3, h4, h5, h6⟩
    · have hbl' : ¬ G.bl t = true := hbl
      rw [if_neg hbl'] at hst
      unfold Vm.takeL at hst
      split at hst
      · rename_i hc
        cases hst
        obtain ⟨hw, _⟩ := hc
        obtain ⟨g1, g2⟩ := h5 hw
        refine ⟨by simp; omega, fun g hg => ?_, g2, by decide, (fun e => by cases e), (fun _ e => by cases e)⟩
        rcases List.mem_cons.1 hg with rfl | hg
        · simp
        · exact h2 g hg
      · split at hst
        · rename_i hc
          cases hst
          exact ⟨h1, h2, h3, by decide, (fun e => by cases e), fun _ => h6 (.inl hc.1)⟩
        · split at hst
          · cases hst
          · split at hst
            · cases hst
            · rename_i hw1 hw3
              have hw2 : wa = 2 := by omega
              obtain ⟨f, r, rfl⟩ := List.exists_cons_of_ne_nil (h6 (.inr hw2))
              split at hst
              · cases hst
                cases r with
                | nil => exact ⟨by simp, (fun g hg => by cases hg), (fun g hg => by cases hg), by decide, (fun e => by cases e), (fun e => by rcases e with e | e <;> cases e)⟩
                | cons g r =>
                  have hg24 := h2 g (List.mem_cons_of_mem _ (List.mem_cons_self ..))
                  have hgne := h3 g (List.mem_cons_self ..)
                  refine ⟨by simp at h1 ⊢; omega, fun x hx => ?_, fun x hx => h3 x (List.mem_cons_of_mem _ hx), by decide, (fun e => by cases e), (fun _ e => by cases e)⟩
                  rcases List.mem_cons.1 hx with rfl | hx
                  · rw [← setF_eq]
                    unfold setF
                    rw [List.getLast?_eq_some_getLast hgne]
                    have := List.length_pos_iff.2 hgne
                    simp; omega
                  · exact h2 x (List.mem_cons_of_mem _ (List.mem_cons_of_mem _ hx))
              · unfold Vm.takeP at hst
                split at hst
                · cases hst
                · rename_i h24
                  split at hst
                  · cases hst
                  · rename_i her
                    have her' : (parse t).err = 0 := by
                      by_cases he : (parse t).err = 0
                      · exact he
                      · exact absurd he her
                    obtain ⟨p6, pv, pp⟩ := parse_few her'
                    have h24' : ¬ f.length = 24 := h24
                    exact okay_takeV (q := parse t) (by simp at h1; omega) (fun g hg => h2 g (List.mem_cons_of_mem _ hg)) h3 (by have := h2 f (List.mem_cons_self ..); omega) (by show (parse t).v.size ≤ _; omega) (by show (parse t).ps.length ≤ 100; omega) pp hst

/-- A line, in whatever state. -/
theorem take_any (rb base : Nat) (M : Nat → Prop) (N k : Nat) (s : Vm.St G) (t : ByteArray) (w : World) (h : RdAt w rb base M s) (hok : Okay N s) (hN : N + t.size ≤ 1048576) (ht : t.size ≤ 10000) (hbs : base ≤ w.heap.size) (HTab : ∀ W, Fin M w W → Qu.Tabs W) :
    Calls Tryz.prog 47 #[.pointer (some ⟨rb, 0, none⟩), .int .i64 (k : Int), .string t] w (Took w rb base M (Vm.step (G := G) s (k, t))) := by
  cases s with
  | on k' os c q =>
    obtain ⟨h1, h2, h3, ⟨f, r, rfl, hf⟩, h5, h6, h7, h8⟩ := hok
    exact take_on rb base M k k' f r c q t w h (by simp at h1; omega) hf (by omega) h6 h7 h8 hbs HTab
  | at_ wa os c =>
    obtain ⟨h1, h2, h3, h4, h5, h6⟩ := hok
    unfold Vm.step
    simp only
    cases hbl : blank t.data.toList
    · rw [if_neg (by simp : ¬ false = true)]
      unfold Vm.takeL
      have hw : wa = 0 ∨ wa = 1 ∨ wa = 2 ∨ wa = 3 := by omega
      rcases hw with rfl | rfl | rfl | rfl
      · by_cases hx : upS t = [66, 69, 71, 73, 78, 58, 86, 67, 65, 82, 68]
        · rw [if_pos ⟨rfl, by show decide _ = true; simp [hx]⟩]
          exact take_begin rb base M os c k t w h ht hbs hbl hx (h5 rfl).1
        · rw [if_neg (fun e => hx (of_decide_eq_true e.2)), if_neg (fun e => by cases e.1), if_pos (.inl rfl)]
          exact take_noBegin rb base M os c k t w h ht hbs hbl hx
      · by_cases hx : upS t = [86, 69, 82, 83, 73, 79, 78, 58, 50, 46, 49]
        · rw [if_neg (fun e => by cases e.1), if_pos ⟨rfl, by show decide _ = true; simp [hx]⟩]
          exact take_version rb base M os c k t w h ht hbs hbl hx
        · rw [if_neg (fun e => by cases e.1), if_neg (fun e => hx (of_decide_eq_true e.2)), if_pos (.inr rfl)]
          exact take_noVersion rb base M os c k t w h ht hbs hbl hx
      · obtain ⟨f, r, rfl⟩ := List.exists_cons_of_ne_nil (h6 (.inr rfl))
        rw [if_neg (fun e => by cases e.1), if_neg (fun e => by cases e.1), if_neg (by omega), if_neg (by omega)]
        by_cases hx : upS t = [69, 78, 68, 58, 86, 67, 65, 82, 68]
        · rw [if_pos (by show decide _ = true; simp [hx])]
          exact take_end rb base M f r c k t w h ht hbs hbl hx (by simp at h1; omega) (fun g hg => ⟨h3 g hg, h2 g (List.mem_cons_of_mem _ hg)⟩)
        · rw [if_neg (fun e => hx (of_decide_eq_true e))]
          exact take_prop rb base M f r c k t w h ht hbs hbl hx (by simp at h1; omega) (h2 f (List.mem_cons_self ..)) HTab
      · rw [if_neg (fun e => by cases e.1), if_neg (fun e => by cases e.1), if_neg (by omega), if_pos rfl]
        exact take_more rb base M os c k t w h ht hbs hbl
    · rw [if_pos rfl]
      exact take_blank rb base M wa os c k t w h ht hbs hbl
end Go.Proofs.YtjgfbicllgalkaaGreatDoor.Vc

namespace Go.Proofs.YtjgfbicllgalkaaGreatDoor.Vc
set_option maxRecDepth 100000
open Go.RowKit Pp Sq
attribute [local go_sem] Oper.semAt_some

/-- A line as bytes. -/
def toB (x : Nat × List UInt8) : Nat × ByteArray := (x.1, ⟨x.2.toArray⟩)
def st0 : Vm.St G := .at_ 0 [] (.node [])
/-- The machine behind some lines. -/
def steps : Vm.St G → List (Nat × ByteArray) → Option (Vm.St G)
  | s, [] => some s
  | s, x :: r => match Vm.step s x with
    | .go s' => steps s' r
    | .bad _ _ => none
theorem steps_snoc {x : Nat × ByteArray} : ∀ {l : List (Nat × ByteArray)} {s st st' : Vm.St G}, steps s l = some st → Vm.step st x = .go st' → steps s (l ++ [x]) = some st'
  | [], s, st, st', h, h2 => by cases h; show (match Vm.step s x with | .go s' => steps s' [] | .bad _ _ => none) = _; rw [h2]; rfl
  | y :: l, s, st, st', h, h2 => by
    show (match Vm.step s y with | .go s' => steps s' (l ++ [x]) | .bad _ _ => none) = _
    have h : (match Vm.step s y with | .go s' => steps s' l | .bad _ _ => none) = some st := h
    cases hy : Vm.step s y with
    | go s' => rw [hy] at h; exact steps_snoc h h2
    | bad k e => rw [hy] at h; cases h
theorem run_done : ∀ {l : List (Nat × ByteArray)} {s st : Vm.St G}, steps s l = some st → Vm.run s l = Vm.done st
  | [], s, st, h => by cases h; rfl
  | y :: l, s, st, h => by
    rw [Vm.run_cons]
    have h : (match Vm.step s y with | .go s' => steps s' l | .bad _ _ => none) = some st := h
    cases hy : Vm.step s y with
    | go s' => rw [hy] at h; exact run_done h
    | bad k e => rw [hy] at h; cases h
theorem run_bad {x : Nat × ByteArray} {r : List (Nat × ByteArray)} {k : Nat} {e : Int} : ∀ {l : List (Nat × ByteArray)} {s st : Vm.St G}, steps s l = some st → Vm.step st x = .bad k e → Vm.run s (l ++ x :: r) = Vm.fail k e
  | [], s, st, h, h2 => by cases h; rw [List.nil_append, Vm.run_cons, h2]; rfl
  | y :: l, s, st, h, h2 => by
    rw [List.cons_append, Vm.run_cons]
    have h : (match Vm.step s y with | .go s' => steps s' l | .bad _ _ => none) = some st := h
    cases hy : Vm.step s y with
    | go s' => rw [hy] at h; exact run_bad h h2
    | bad k e => rw [hy] at h; cases h
/-- What reading hands back. -/
def ReadAns (w : World) (a : Vm.Ans G) (e : Ending) (w' : World) : Prop :=
  ∃ cv, e = .returned (.tuple #[.agg #[cv], .int .i64 (a.1 : Int), .int .i64 a.2.1]) ∧ CAt w' w'.heap.size 3 a.2.2 cv ∧ Below w.heap.size w w'
theorem cat_nil (w : World) (B k : Nat) : CAt w B (k + 1) (.node []) (.slice none 0 0) := ⟨none, 0, rfl, fun h => absurd rfl h, fun _ _ e => by cases e⟩
theorem RdAt.move {w w' : World} {rb base : Nat} {M M' : Nat → Prop} (hs : Stays (fun k => M k ∧ k < w.heap.size) w w') (hM : ∀ k, M k → k < w.heap.size → M' k) : ∀ {s : Vm.St G}, RdAt w rb base M s → RdAt w' rb base M' s
  | .at_ _ _ _, ⟨nu, ov, cv, g, n, pv, v, av, en, h1, h2, h3, h4⟩ => ⟨nu, ov, cv, g, n, pv, v, av, en, h1.kept (hs.block rb ⟨h2, h1.lt⟩), hM _ h2 h1.lt, h3.move (hs.mono fun _ hk => ⟨hk.1, hk.2.2.2⟩) hM (fun _ h => .inl h), fun e => (h4 e).move (hs.mono fun _ hk => ⟨hk.1.1, hk.2⟩) (fun k h hl => ⟨hM k h.1 hl, h.2⟩)⟩
  | .on _ _ _ _, ⟨ov, cv, pv, h1, h2, h3, h4, h5⟩ => ⟨ov, cv, pv, h1.kept (hs.block rb ⟨h2, h1.lt⟩), hM _ h2 h1.lt, row_stays h3 (fun g e => hs.block g ⟨(h4 g e).1, (own_lt h3 g e).2⟩), fun g e => ⟨hM _ (h4 g e).1 (own_lt h3 g e).2, (h4 g e).2⟩, h5.move (hs.mono fun _ hk => ⟨hk.1, hk.2.2.2⟩) hM (fun _ h => .inl h)⟩

theorem unf_bytes : ∀ (o : Option (Nat × List UInt8)) (r : List (Nat × List UInt8)) {m : Nat}, (o.elim 0 fun p => p.2.length) = m → Ln.bytes ((Ln.unf o r).map (·.2)) = m + Ln.bytes (r.map (·.2))
  | none, [], m, h => by subst h; rfl
  | some p, [], m, h => by subst h; simp [Ln.unf, Ln.bytes]
  | none, x :: r, m, h => by
    subst h
    rw [Ln.unf, unf_bytes (some x) r rfl, List.map_cons, Ln.bytes_cons]
    simp
  | some p, x :: r, m, h => by
    subst h
    rw [Ln.unf]
    split
    · rw [unf_bytes (some (p.1, p.2 ++ x.2)) r rfl, List.map_cons, Ln.bytes_cons]
      simp; omega
    · rw [List.map_cons, Ln.bytes_cons, unf_bytes (some x) r rfl, List.map_cons, Ln.bytes_cons]
      simp

theorem done_not {wa : Nat} {os : List Fr} {c : Crd} (h : ¬ wa = 3) : Vm.done (G := G) (.at_ wa os c) = Vm.fail 0 1 := by
  unfold Vm.done
  split
  · rename_i e; cases e; exact absurd rfl h
  · rfl
theorem cat_put {V W : World} {F : Nat → Prop} {k D z : Nat} {c : Crd} {cv : Value} (h : CAf V F k c cv) (hs : Stays (fun k => z ≤ k) V W) (hF : ∀ j, F j → z ≤ j ∧ j ≠ D) : CAt (W.putObj D (.deferred none)) (W.putObj D (.deferred none)).heap.size k c cv :=
  CAf.ca (F := fun _ => True) ((h.move (F' := fun j => z ≤ j ∧ j ≠ D) (hs.mono fun j hj => (hF j hj.1).1) (fun j hj _ => hF j hj)).move (F' := fun _ => True) ((Stays.refl (fun j => (z ≤ j ∧ j ≠ D) ∧ j < W.heap.size) W).putObj D (.deferred none) (fun h => h.1.2 rfl)) (fun _ _ _ => trivial))
theorem step_bad {st : Vm.St G} {x : Nat × ByteArray} {k : Nat} {er : Int} (h : Vm.step (G := G) st x = .bad k er) : er ≠ 0 := by
  have hD : ∀ {k' : Nat} {os : List Fr} {c : Crd} {q : Par}, Vm.takeD (G := G) k' os c q = .bad k er → er ≠ 0 := fun {k' os c q} h => by
    unfold Vm.takeD at h
    split at h
    · rename_i hm; cases h; exact hm
    · split at h
      · cases h
      · split at h
        · cases h; decide
        · split at h
          · cases h; decide
          · cases h
  have hV : ∀ {k' : Nat} {os : List Fr} {c : Crd} {q : Par}, Vm.takeV (G := G) k' os c q = .bad k er → er ≠ 0 := fun {k' os c q} h => by
    unfold Vm.takeV at h
    split at h
    · cases h
    · exact hD h
  cases st with
  | on k' os c q => exact hV h
  | at_ wa os c =>
    unfold Vm.step at h
    simp only at h
    split at h
    · cases h
    · unfold Vm.takeL at h
      split at h
      · cases h
      · split at h
        · cases h
        · split at h
          · cases h; decide
          · split at h
            · cases h; decide
            · split at h
              · cases h
              · unfold Vm.takeP at h
                split at h
                · cases h; decide
                · split at h
                  · rename_i he; cases h; exact he
                  · exact hV h

set_option maxHeartbeats 16000000 in
theorem parse_in (s : ByteArray) (w : World) (hs : s.size ≤ 4000) (T : Qu.Tabs w) :
    Calls Tryz.prog 18 #[.string s] w (ReadAns w (Vm.run st0 ((Ln.eachL s).map toB))) := by
  have hsz : ¬ (4000 : Int) < (s.size : Int) := by omega
  refine (callsIn_wide (n := 5)).1 ?_
  refine callsIn_of_wp_marks Tryz.func18 rfl trivial ?_ rfl
  simp only [Tryz.ntmps18, List.size_toArray, List.length_cons, List.length_nil, Nat.reduceAdd, Nat.reduceSub, Array.replicate_succ, Array.replicate_zero, List.push_toArray, List.append_toArray, List.nil_append, List.cons_append]
  gi_wp2_with (refine ⟨trivial, ?_⟩; gi_at_call 46; refine (callsIn_wide.2 (Ln.each_any s _)).mono ?_; rintro e w' ⟨rfl, rfl⟩)
  obtain ⟨V1, hV1⟩ : ∃ V1, w.alloc (.cells #[.slice none 0 0] 24) = V1 := ⟨_, rfl⟩
  obtain ⟨V2, hV2⟩ : ∃ V2, V1.alloc (.cells #[.int .i64 0] 3) = V2 := ⟨_, rfl⟩
  obtain ⟨V3, hV3⟩ : ∃ V3, V2.alloc (.cells #[.int .i64 0] 26) = V3 := ⟨_, rfl⟩
  obtain ⟨V4, hV4⟩ : ∃ V4, V3.alloc (.cells #[.int .i64 0, .int .i64 0, .slice none 0 0, .slice none 0 0, .string ⟨#[]⟩, .string ⟨#[]⟩, .slice none 0 0, .string ⟨#[]⟩, .slice none 0 0, .string ⟨#[]⟩, .bool false] 67) = V4 := ⟨_, rfl⟩
  obtain ⟨V5, hV5⟩ : ∃ V5, V4.alloc (.cells #[.string s] 9) = V5 := ⟨_, rfl⟩
  obtain ⟨V0, hV0⟩ : ∃ V0, V5.alloc (.cells #[.func (.func 129) #[] #[.pointer (some ⟨w.heap.size + 1 + 1 + 1 + 1, 0, none⟩)]] 112) = V0 := ⟨_, rfl⟩
  have z1 : V1.heap.size = w.heap.size + 1 := by rw [← hV1]; simp
  have z2 : V2.heap.size = w.heap.size + 2 := by rw [← hV2]; simp; omega
  have z3 : V3.heap.size = w.heap.size + 3 := by rw [← hV3]; simp; omega
  have z4 : V4.heap.size = w.heap.size + 4 := by rw [← hV4]; simp; omega
  have z5 : V5.heap.size = w.heap.size + 5 := by rw [← hV5]; simp; omega
  have z0 : V0.heap.size = w.heap.size + 6 := by rw [← hV0]; simp; omega
  have b0 : Boxed V0 w.heap.size 24 (.slice none 0 0) := by
    have h := Boxed.new w 24 (.slice none 0 0); rw [hV1] at h
    rw [← hV0, ← hV5, ← hV4, ← hV3, ← hV2]; exact ((((h.alloc _).alloc _).alloc _).alloc _).alloc _
  have b1 : Boxed V0 (w.heap.size + 1) 3 (.int .i64 0) := by
    have h := Boxed.new V1 3 (.int .i64 0); rw [hV2, z1] at h
    rw [← hV0, ← hV5, ← hV4, ← hV3]; exact (((h.alloc _).alloc _).alloc _).alloc _
  have b2 : Boxed V0 (w.heap.size + 2) 26 (.int .i64 0) := by
    have h := Boxed.new V2 26 (.int .i64 0); rw [hV3, z2] at h
    rw [← hV0, ← hV5, ← hV4]; exact ((h.alloc _).alloc _).alloc _
  have b4 : Boxed V0 (w.heap.size + 4) 9 (.string s) := by
    have h := Boxed.new V4 9 (.string s); rw [hV5, z4] at h
    rw [← hV0]; exact h.alloc _
  have b5 : Boxed V0 (w.heap.size + 4 + 1) 112 (.func (.func 129) #[] #[.pointer (some ⟨w.heap.size + 4, 0, none⟩)]) := by
    have h := Boxed.new V5 112 (.func (.func 129) #[] #[.pointer (some ⟨w.heap.size + 1 + 1 + 1 + 1, 0, none⟩)]); rw [hV0, z5] at h; exact h
  have hR0 : RdC V0 (w.heap.size + 3) 0 0 (.slice none 0 0) (.slice none 0 0) ⟨#[]⟩ ⟨#[]⟩ (.slice none 0 0) ⟨#[]⟩ (.slice none 0 0) ⟨#[]⟩ false := by
    have h : V4.heap[V3.heap.size]? = some (.cells #[.int .i64 0, .int .i64 0, .slice none 0 0, .slice none 0 0, .string ⟨#[]⟩, .string ⟨#[]⟩, .slice none 0 0, .string ⟨#[]⟩, .slice none 0 0, .string ⟨#[]⟩, .bool false] 67 (0, 0)) := by rw [← hV4]; exact heap_alloc_new V3 _
    rw [z3] at h
    have h5 : V5.heap[w.heap.size + 3]? = V4.heap[w.heap.size + 3]? := by rw [← hV5]; exact ((Below.refl _ V4).alloc (Nat.le_refl _) _).block _ (by omega)
    have h6 : V0.heap[w.heap.size + 3]? = V5.heap[w.heap.size + 3]? := by rw [← hV0]; exact ((Below.refl _ V5).alloc (Nat.le_refl _) _).block _ (by omega)
    exact (h6.trans h5).trans h
  have hV : Below w.heap.size w V0 := by
    rw [← hV0, ← hV5, ← hV4, ← hV3, ← hV2, ← hV1]
    exact ((((((Below.refl _ w).alloc (Nat.le_refl _) _).alloc (by simp) _).alloc (by simp; omega) _).alloc (by simp; omega) _).alloc (by simp; omega) _).alloc (by simp; omega) _
  have hg : (((((w.alloc (.cells #[.slice none 0 0] 24)).alloc (.cells #[.int .i64 0] 3)).alloc (.cells #[.int .i64 0] 26)).alloc (.cells #[.int .i64 0, .int .i64 0, .slice none 0 0, .slice none 0 0, .string ⟨#[]⟩, .string ⟨#[]⟩, .slice none 0 0, .string ⟨#[]⟩, .slice none 0 0, .string ⟨#[]⟩, .bool false] 67)).alloc (.cells #[.string s] 9)).alloc (.cells #[.func (.func 129) #[] #[.pointer (some ⟨w.heap.size + 1 + 1 + 1 + 1, 0, none⟩)]] 112) = V0 := by rw [hV1, hV2, hV3, hV4, hV5, hV0]
  rw [hg]
  clear hg hV1 hV2 hV3 hV4 hV5 hV0 z1 z2 z3 z4 z5
  have hsq := Ln.each_sq s (by omega) (w.heap.size + 4) V0 b4 b5
  have hby : Ln.bytes ((Ln.eachL s).map (·.2)) ≤ 4000 := by
    unfold Ln.eachL
    rw [unf_bytes none _ (m := 0) rfl, Ln.num_snd]
    have := Ln.split_bytes s.data.toList
    have h2 : s.data.toList.length = s.size := by rw [Array.length_toList]; rfl
    omega
  obtain ⟨all, hall⟩ : ∃ all, Ln.eachL s = all := ⟨_, rfl⟩
  rw [hall] at hsq hby ⊢
  have hTab : ∀ W, Below w.heap.size w W → Qu.Tabs W := fun W h => T.below h
  have HALL := Lib.hid hall
  clear hall hs
  refine range_sq1 (gf := 126) (lb := #[.pointer (some ⟨w.heap.size + 4 + 1, 0, none⟩)]) rfl Ln.eg_unfolded hsq (Stays.refl _ _) (fun k hk => by omega) (fun _ => rfl)
    (fun pre O V => ∃ st, steps st0 (pre.map toB) = some st ∧ RdAt V (w.heap.size + 3) (w.heap.size + 3) (fun k => (k = w.heap.size + 3 ∨ w.heap.size + 6 ≤ k) ∧ ¬ O k) st ∧ Okay (2400 + Ln.bytes (pre.map (·.2))) st ∧ Below (w.heap.size + 3) V0 V)
    (fun c pre _ V => ∃ (k : Nat) (er : Int), (c = .ret ∧ ∃ pre' x st, pre = pre' ++ [x] ∧ steps st0 (pre'.map toB) = some st ∧ Vm.step st (toB x) = .bad k er) ∧ Boxed V w.heap.size 24 (.slice none 0 0) ∧ Boxed V (w.heap.size + 1) 3 (.int .i64 (k : Int)) ∧ Boxed V (w.heap.size + 2) 26 (.int .i64 er) ∧ Below w.heap.size w V)
    (fun pre O O' A B ⟨st, h1, h2, h3, h4⟩ hO hS hO' => ⟨st, h1, h2.move (hS.mono fun k hk => ⟨hk.2, hk.1.2⟩) (fun k hk hl => ⟨hk.1, fun e => (hO' k e).elim hk.2 (fun e => by omega)⟩), h3, Foot.below (β := List (Nat × List UInt8)) (H := V0.heap.size) (b := w.heap.size + 3) (w := V0) (by omega) (by omega) pre O O' A B h4 hO hS hO'⟩)
    (fun c => Foot.ex fun k => Foot.ex fun er => Foot.and (Foot.pure (fun (pre : List (Nat × List UInt8)) => c = .ret ∧ ∃ pre' x st, pre = pre' ++ [x] ∧ steps st0 (pre'.map toB) = some st ∧ Vm.step st (toB x) = .bad k er)) (Foot.and (Foot.boxed _ _ (fun _ => .slice none 0 0) (by omega)) (Foot.and (Foot.boxed _ _ (fun _ => .int .i64 (k : Int)) (by omega)) (Foot.and (Foot.boxed _ _ (fun _ => .int .i64 er) (by omega)) (Foot.below (by omega) (Nat.le_refl _))))))
    ⟨st0, rfl, ⟨0, .slice none 0 0, .slice none 0 0, ⟨#[]⟩, ⟨#[]⟩, .slice none 0 0, ⟨#[]⟩, .slice none 0 0, ⟨#[]⟩, hR0, ⟨.inl rfl, id⟩, ⟨fun _ => False, [], World.ownsRow_nil _ _ _ _, trivial, fun k hk => hk.elim, fun k hk => by simp [Value.ownBlock] at hk, fun u hu => by cases hu⟩, fun h => by cases h⟩, ⟨by simp, (fun f hf => by cases hf), (fun f hf => by cases hf), by decide, (fun _ => ⟨by simp, (fun f hf => by cases hf)⟩), (fun e => by rcases e with e | e <;> cases e)⟩, Below.refl _ _⟩ ?round ?done ?stop
  case round =>
    rintro l pre ⟨n, x⟩ O W1 hO hp
    unfold Ln.encL
    gi_wp2
    refine ⟨trivial, ?_⟩
    rintro V ⟨st, hst, hrd, hok, hB⟩ hRW hOl hrec hOW
    have hbp := Ln.bytes_pre hp
    dsimp only at hbp
    have hzV := hRW.size
    have hxs : (⟨x.toArray⟩ : ByteArray).size = x.length := mk_size x
    have hFb : ∀ W, Fin (fun k => (k = w.heap.size + 3 ∨ w.heap.size + 6 ≤ k) ∧ ¬ O k) V W → Below (w.heap.size + 3) V W := fun W h => ⟨h.os, h.tape, h.output, h.size, fun k hk => h.block k ⟨by omega, fun e => by rcases e.1 with e | e <;> omega⟩⟩
    have CT := Lib.hid (take_any (w.heap.size + 3) (w.heap.size + 3) (fun k => (k = w.heap.size + 3 ∨ w.heap.size + 6 ≤ k) ∧ ¬ O k) _ n st ⟨x.toArray⟩ V hrd hok (by omega) (by omega) (by omega) (fun W h => hTab W ((hV.trans (hB.mono (by omega))).trans ((hFb W h).mono (by omega)))))
    have hcast : toB (n, x) = (n, ⟨x.toArray⟩) := rfl
    cases hstep : Vm.step (G := G) st (n, ⟨x.toArray⟩) with
    | go st' =>
      rw [hstep] at CT
      have hok2 := okay_step (k := n) (t := ⟨x.toArray⟩) (by omega) hok hstep
      have HI := Lib.hid (And.intro hst (And.intro hok2 (And.intro hB hFb)))
      clear hst hok hok2 hB hFb hrd
      gi_wp2_with (refine ⟨trivial, ?_⟩; gi_at_call 47; refine (callsIn_wide.2 CT.out).mono ?_; rintro e w1 ⟨rfl, hat, hfin⟩)
      obtain ⟨hst, hok2, hB, hFb⟩ := HI.out
      refine ⟨hfin.mono fun k hk => ?_, st', by rw [List.map_append]; exact steps_snoc hst hstep, hat.mono (fun k hk => hk.elim id (fun e => ⟨.inr (by omega), fun h => by have := hOW k h; omega⟩)), ?_, hB.trans (hFb _ hfin)⟩
      · rcases hk with hk | hk
        · exact ⟨(hOW k hk).2, fun e => e.2 hk⟩
        · exact ⟨by omega, fun e => by rcases e.1 with e | e <;> omega⟩
      · have e : 2400 + Ln.bytes ((pre ++ [(n, x)]).map (·.2)) = 2400 + Ln.bytes (pre.map (·.2)) + (⟨x.toArray⟩ : ByteArray).size := by rw [List.map_append, Ln.bytes_append, hxs]; simp [Ln.bytes]; omega
        rw [e]; exact hok2
    | bad k er =>
      rw [hstep] at CT
      have her := step_bad hstep
      have heb : (er == 0) = false := by simpa using her
      have mixed : Tryz.prog.follows .mixedOrders = true := by kernel_rfl
      have c0 : Boxed V w.heap.size 24 (.slice none 0 0) := (hB.block _ (by omega)).trans b0
      have c1 : Boxed V (w.heap.size + 1) 3 (.int .i64 0) := (hB.block _ (by omega)).trans b1
      have c2 : Boxed V (w.heap.size + 2) 26 (.int .i64 0) := (hB.block _ (by omega)).trans b2
      have HI := Lib.hid (And.intro hst (And.intro hB hFb))
      have hlo : ∀ j, j < w.heap.size + 3 → j < V.heap.size ∧ ¬ ((j = w.heap.size + 3 ∨ w.heap.size + 6 ≤ j) ∧ ¬ O j) := fun j hj => ⟨by omega, fun e => by rcases e.1 with e | e <;> omega⟩
      clear hst hok hB hFb hrd
      gi_wp2_with (refine ⟨trivial, ?_⟩; gi_at_call 47; refine (callsIn_wide.2 CT.out).mono ?_; rintro e w1 ⟨rfl, hnum, hfin⟩; have d0 : Boxed w1 w.heap.size 24 (.slice none 0 0) := (hfin.block _ (hlo _ (by omega))).trans c0; have d1 : Boxed w1 (w.heap.size + 1) 3 (.int .i64 0) := (hfin.block _ (hlo _ (by omega))).trans c1; have d2 : Boxed w1 (w.heap.size + 2) 26 (.int .i64 0) := (hfin.block _ (hlo _ (by omega))).trans c2; have x0 := d0.cell; have x1 := d1.cell; have x2 := d2.cell; have y0 := d0.frozen; have y1 := d1.frozen; have y2 := d2.frozen)
      have n01 : w.heap.size + 1 ≠ w.heap.size := by omega
      have n02 : w.heap.size + 2 ≠ w.heap.size := by omega
      have n12 : w.heap.size + 2 ≠ w.heap.size + 1 := by omega
      have n3 : w.heap.size + 3 ≠ w.heap.size := by omega
      have g1 := (Boxed.other d1 n01 (.slice none 0 0)).cell
      have g2 := (Boxed.other (Boxed.other d2 n02 (.slice none 0 0)) n12 (.int .i64 (k : Int))).cell
      have gf1 := (Boxed.other d1 n01 (.slice none 0 0)).frozen
      have gf2 := (Boxed.other (Boxed.other d2 n02 (.slice none 0 0)) n12 (.int .i64 (k : Int))).frozen
      have g3 : (w1.setCell ⟨w.heap.size, 0, none⟩ (.slice none 0 0)).cell? ⟨w.heap.size + 3, 1, none⟩ = some (.int .i64 (k : Int)) := (World.cell?_of_block (a := ⟨w.heap.size + 3, 1, none⟩) (Below.heap_setCell w1 ⟨w.heap.size, 0, none⟩ _ _ n3)).trans hnum
      have n10 : w.heap.size ≠ w.heap.size + 1 := by omega
      have n20 : w.heap.size ≠ w.heap.size + 2 := by omega
      have n21 : w.heap.size + 1 ≠ w.heap.size + 2 := by omega
      obtain ⟨hst, hB, hFb⟩ := HI.out
      have hS3 : Stays (fun j => w.heap.size + 3 ≤ j) w1 ((((w1.setCell ⟨w.heap.size, 0, none⟩ (.slice none 0 0)).setCell ⟨w.heap.size + 1, 0, none⟩ (.int .i64 (k : Int))).setCell ⟨w.heap.size + 1 + 1, 0, none⟩ (.int .i64 er)).drew) := (stays_set (stays_set (stays_set (Stays.refl _ w1) (by show ¬ w.heap.size + 3 ≤ w.heap.size; omega)) (by show ¬ w.heap.size + 3 ≤ w.heap.size + 1; omega)) (by show ¬ w.heap.size + 3 ≤ w.heap.size + 1 + 1; omega)).drew
      have hBw : Below w.heap.size w w1 := (hV.trans (hB.mono (by omega))).trans ((hFb _ hfin).mono (by omega))
      have HZ := Lib.hid (show Stays (fun j => O j ∨ (j = w.heap.size + 4 + 1 ∨ j = w.heap.size + 4)) V ((((w1.setCell ⟨w.heap.size, 0, none⟩ (.slice none 0 0)).setCell ⟨w.heap.size + 1, 0, none⟩ (.int .i64 (k : Int))).setCell ⟨w.heap.size + 1 + 1, 0, none⟩ (.int .i64 er)).drew) ∧ ∃ (k2 : Nat) (er2 : Int), (Code.ret = .ret ∧ ∃ pre' x' st, pre ++ [(n, x)] = pre' ++ [x'] ∧ steps st0 (pre'.map toB) = some st ∧ Vm.step st (toB x') = .bad k2 er2) ∧ Boxed ((((w1.setCell ⟨w.heap.size, 0, none⟩ (.slice none 0 0)).setCell ⟨w.heap.size + 1, 0, none⟩ (.int .i64 (k : Int))).setCell ⟨w.heap.size + 1 + 1, 0, none⟩ (.int .i64 er)).drew) w.heap.size 24 (.slice none 0 0) ∧ Boxed ((((w1.setCell ⟨w.heap.size, 0, none⟩ (.slice none 0 0)).setCell ⟨w.heap.size + 1, 0, none⟩ (.int .i64 (k : Int))).setCell ⟨w.heap.size + 1 + 1, 0, none⟩ (.int .i64 er)).drew) (w.heap.size + 1) 3 (.int .i64 (k2 : Int)) ∧ Boxed ((((w1.setCell ⟨w.heap.size, 0, none⟩ (.slice none 0 0)).setCell ⟨w.heap.size + 1, 0, none⟩ (.int .i64 (k : Int))).setCell ⟨w.heap.size + 1 + 1, 0, none⟩ (.int .i64 er)).drew) (w.heap.size + 2) 26 (.int .i64 er2) ∧ Below w.heap.size w ((((w1.setCell ⟨w.heap.size, 0, none⟩ (.slice none 0 0)).setCell ⟨w.heap.size + 1, 0, none⟩ (.int .i64 (k : Int))).setCell ⟨w.heap.size + 1 + 1, 0, none⟩ (.int .i64 er)).drew) from
        ⟨(hfin.mono fun j hj => by
            rcases hj with hj | hj
            · exact ⟨(hOW j hj).2, fun e => e.2 hj⟩
            · exact ⟨by omega, fun e => by rcases e.1 with e | e <;> omega⟩).trans (hS3.mono fun j hj => by rcases hj with hj | hj; have := hOW j hj; omega; omega),
          k, er, ⟨rfl, pre, (n, x), st, rfl, hst, hstep⟩, Boxed.other (Boxed.other (d0.set _) n10 _) n20 _, Boxed.other ((Boxed.other d1 n01 _).set _) n21 _, (Boxed.other (Boxed.other d2 n02 _) n12 _).set _, ((((hBw.setCell (p := ⟨w.heap.size, 0, none⟩) (Nat.le_refl _) _).setCell (p := ⟨w.heap.size + 1, 0, none⟩) (by simp) _).setCell (p := ⟨w.heap.size + 1 + 1, 0, none⟩) (by show w.heap.size ≤ w.heap.size + 1 + 1; omega) _).drew)⟩)
      clear d0 d1 d2 c0 c1 c2 hst hB hFb hS3 hBw
      gi_region_with_o (fail)
      all_goals
        gi_wp2_with fail
        obtain ⟨h1, k', er', ⟨-, p', ⟨a', b'⟩, s', q1, q2, q3⟩, h3⟩ := HZ.out
        exact ⟨h1, k', er', ⟨rfl, p', a', b', q1, s', q2, q3⟩, h3⟩
  case stop =>
    rintro D c pre O V hD hOD hO hRW hpre ⟨k, er, ⟨rfl, pre', x, st, rfl, hst, hstep⟩, c0, c1, c2, hB⟩ hK
    obtain ⟨r, hr⟩ := hpre
    have hrun : Vm.run st0 (all.map toB) = Vm.fail k er := by
      rw [← hr, List.append_assoc, List.map_append]
      exact run_bad hst hstep
    have HR := Lib.hid hrun
    have hDl : D < V.heap.size := (Array.getElem?_eq_some_iff.1 hK).1
    have hp0 := (c0.kept (grownBy_putObj' V D (.deferred Option.none)) (by rintro ⟨⟩; omega)).cell
    have hp1 := (c1.kept (grownBy_putObj' V D (.deferred Option.none)) (by rintro ⟨⟩; omega)).cell
    have hp2 := (c2.kept (grownBy_putObj' V D (.deferred Option.none)) (by rintro ⟨⟩; omega)).cell
    clear hrun hsq
    gi_wp2_with fail
    refine ⟨by simp, .inl ⟨_, _, rfl, run_takeDeferred hK, ?_⟩⟩
    refine ⟨.tuple #[.agg #[.slice none 0 0], .int .i64 (k : Int), .int .i64 er], ?_, .slice none 0 0, by rw [HR.out]; rfl, by rw [HR.out]; exact cat_nil _ _ 2, Strs.below_put_p hB (by omega) hK _⟩
    simp [results, Tryz.f18, go_sem, hp0, hp1, hp2]
  case done =>
    rintro D O V hD hOD hO hRW ⟨st, hst, hrd, hok, hB⟩ hK
    have hrun : Vm.run st0 (all.map toB) = Vm.done st := run_done hst
    cases st with
    | on k' os c q =>
      obtain ⟨ov, cv, pv, hR, _⟩ := hrd
      have HR := Lib.hid (show Vm.run st0 ((Ln.eachL s).map toB) = Vm.fail 0 1 from by rw [HALL.out]; exact hrun)
      have hwb : ((2 : Int) == 3) = false := rfl
      clear hrun hok hst
      have c0 : Boxed V w.heap.size 24 (.slice none 0 0) := (hB.block _ (by omega)).trans b0
      have c1 : Boxed V (w.heap.size + 1) 3 (.int .i64 0) := (hB.block _ (by omega)).trans b1
      have c2 : Boxed V (w.heap.size + 2) 26 (.int .i64 0) := (hB.block _ (by omega)).trans b2
      have n01 : w.heap.size + 1 ≠ w.heap.size := by omega
      have n02 : w.heap.size + 2 ≠ w.heap.size := by omega
      have n12 : w.heap.size + 2 ≠ w.heap.size + 1 := by omega
      have n10 : w.heap.size ≠ w.heap.size + 1 := by omega
      have n20 : w.heap.size ≠ w.heap.size + 2 := by omega
      have n21 : w.heap.size + 1 ≠ w.heap.size + 2 := by omega
      have hzV := hRW.size
      have hDl : D < V.heap.size := (Array.getElem?_eq_some_iff.1 hK).1
      have d0 := c0.set (.slice none 0 0)
      have d1 := Boxed.other c1 n01 (.slice none 0 0)
      have d2 := Boxed.other c2 n02 (.slice none 0 0)
      have e0 := Boxed.other d0 n10 (.int .i64 0)
      have e1 := d1.set (.int .i64 0)
      have e2 := Boxed.other d2 n12 (.int .i64 0)
      have f0 := Boxed.other e0 n20 (.int .i64 1)
      have f1 := Boxed.other e1 n21 (.int .i64 1)
      have f2 := e2.set (.int .i64 1)
      have hS : Stays (fun k => w.heap.size + 3 ≤ k) V (((V.setCell ⟨w.heap.size, 0, none⟩ (.slice none 0 0)).setCell ⟨w.heap.size + 1, 0, none⟩ (.int .i64 0)).setCell ⟨w.heap.size + 2, 0, none⟩ (.int .i64 1)) := (((Stays.refl _ _).setCell _ _ (by omega)).setCell _ _ (by omega)).setCell _ _ (by omega)
      have hK' := (hS.block D (by omega)).trans hK
      have hB2 : Below w.heap.size w (((V.setCell ⟨w.heap.size, 0, none⟩ (.slice none 0 0)).setCell ⟨w.heap.size + 1, 0, none⟩ (.int .i64 0)).setCell ⟨w.heap.size + 2, 0, none⟩ (.int .i64 1)) := (((hV.trans (hB.mono (by omega))).setCell (p := ⟨w.heap.size, 0, none⟩) (Nat.le_refl _) _).setCell (p := ⟨w.heap.size + 1, 0, none⟩) (by simp) _).setCell (p := ⟨w.heap.size + 2, 0, none⟩) (by simp) _
      have hp0 := (f0.kept (grownBy_putObj' _ D (.deferred Option.none)) (by rintro ⟨⟩; omega)).cell
      have hp1 := (f1.kept (grownBy_putObj' _ D (.deferred Option.none)) (by rintro ⟨⟩; omega)).cell
      have hp2 := (f2.kept (grownBy_putObj' _ D (.deferred Option.none)) (by rintro ⟨⟩; omega)).cell
      have x0 := c0.cell
      have x1 := d1.cell
      have x2 := e2.cell
      have y0 := c0.frozen
      have y1 := d1.frozen
      have y2 := e2.frozen
      have r0 := hR.c0
      have r3 := hR.c3
      have hCT : CAt ((((V.setCell ⟨w.heap.size, 0, none⟩ (.slice none 0 0)).setCell ⟨w.heap.size + 1, 0, none⟩ (.int .i64 0)).setCell ⟨w.heap.size + 2, 0, none⟩ (.int .i64 1)).putObj D (.deferred none)) ((((V.setCell ⟨w.heap.size, 0, none⟩ (.slice none 0 0)).setCell ⟨w.heap.size + 1, 0, none⟩ (.int .i64 0)).setCell ⟨w.heap.size + 2, 0, none⟩ (.int .i64 1)).putObj D (.deferred none)).heap.size 3 (.node []) (.slice none 0 0) := cat_nil _ _ 2
      have HQ := Lib.hid (And.intro hCT hB2)
      clear hB2 hS hCT hR c0 c1 c2 d0 d1 d2 e0 e1 e2 f0 f1 f2 hsq
      gi_wp2_with fail
      refine ⟨by simp, .inl ⟨_, _, rfl, run_takeDeferred hK', ?_⟩⟩
      refine ⟨.tuple #[.agg #[.slice none 0 0], .int .i64 0, .int .i64 1], ?_, .slice none 0 0, by rw [HR.out]; rfl, by rw [HR.out]; exact HQ.out.1, Strs.below_put_p HQ.out.2 (by omega) hK' _⟩
      simp [results, Tryz.f18, go_sem, hp0, hp1, hp2]
    | at_ wa os c =>
      obtain ⟨nu, ov, cv, gg, nn, pv, vv, av, en, hR, _, _, hC⟩ := hrd
      by_cases hw3 : wa = 3
      · subst hw3
        have HR := Lib.hid (show Vm.run st0 ((Ln.eachL s).map toB) = (0, 0, c) from by rw [HALL.out]; exact hrun)
        have hC3 := hC rfl
        obtain ⟨ca, cn, cc, rfl⟩ := hC3.one
        have HCT2 := fun {W : World} (h : Stays (fun k => w.heap.size + 3 ≤ k) V W) => cat_put (D := D) hC3 h (fun k hk => ⟨by rcases hk.1.1 with e | e <;> omega, fun e => hk.1.2 (e ▸ hOD)⟩)
        clear hrun hok hst hC hC3
        have c0 : Boxed V w.heap.size 24 (.slice none 0 0) := (hB.block _ (by omega)).trans b0
        have c1 : Boxed V (w.heap.size + 1) 3 (.int .i64 0) := (hB.block _ (by omega)).trans b1
        have c2 : Boxed V (w.heap.size + 2) 26 (.int .i64 0) := (hB.block _ (by omega)).trans b2
        have n01 : w.heap.size + 1 ≠ w.heap.size := by omega
        have n02 : w.heap.size + 2 ≠ w.heap.size := by omega
        have n12 : w.heap.size + 2 ≠ w.heap.size + 1 := by omega
        have n10 : w.heap.size ≠ w.heap.size + 1 := by omega
        have n20 : w.heap.size ≠ w.heap.size + 2 := by omega
        have n21 : w.heap.size + 1 ≠ w.heap.size + 2 := by omega
        have hzV := hRW.size
        have hDl : D < V.heap.size := (Array.getElem?_eq_some_iff.1 hK).1
        have d0 := c0.set (.slice ca cn cc)
        have d1 := Boxed.other c1 n01 (.slice ca cn cc)
        have d2 := Boxed.other c2 n02 (.slice ca cn cc)
        have e0 := Boxed.other d0 n10 (.int .i64 0)
        have e1 := d1.set (.int .i64 0)
        have e2 := Boxed.other d2 n12 (.int .i64 0)
        have f0 := Boxed.other e0 n20 (.int .i64 0)
        have f1 := Boxed.other e1 n21 (.int .i64 0)
        have f2 := e2.set (.int .i64 0)
        have hS : Stays (fun k => w.heap.size + 3 ≤ k) V (((V.setCell ⟨w.heap.size, 0, none⟩ (.slice ca cn cc)).setCell ⟨w.heap.size + 1, 0, none⟩ (.int .i64 0)).setCell ⟨w.heap.size + 2, 0, none⟩ (.int .i64 0)) := (((Stays.refl _ _).setCell _ _ (by omega)).setCell _ _ (by omega)).setCell _ _ (by omega)
        have hK' := (hS.block D (by omega)).trans hK
        have hB2 : Below w.heap.size w (((V.setCell ⟨w.heap.size, 0, none⟩ (.slice ca cn cc)).setCell ⟨w.heap.size + 1, 0, none⟩ (.int .i64 0)).setCell ⟨w.heap.size + 2, 0, none⟩ (.int .i64 0)) := (((hV.trans (hB.mono (by omega))).setCell (p := ⟨w.heap.size, 0, none⟩) (Nat.le_refl _) _).setCell (p := ⟨w.heap.size + 1, 0, none⟩) (by simp) _).setCell (p := ⟨w.heap.size + 2, 0, none⟩) (by simp) _
        have hp0 := (f0.kept (grownBy_putObj' _ D (.deferred Option.none)) (by rintro ⟨⟩; omega)).cell
        have hp1 := (f1.kept (grownBy_putObj' _ D (.deferred Option.none)) (by rintro ⟨⟩; omega)).cell
        have hp2 := (f2.kept (grownBy_putObj' _ D (.deferred Option.none)) (by rintro ⟨⟩; omega)).cell
        have x0 := c0.cell
        have x1 := d1.cell
        have x2 := e2.cell
        have y0 := c0.frozen
        have y1 := d1.frozen
        have y2 := e2.frozen
        have r0 := hR.c0
        have r3 := hR.c3
        have hCT := HCT2 hS
        clear HCT2
        have HQ := Lib.hid (And.intro hCT hB2)
        clear hB2 hS hCT hR c0 c1 c2 d0 d1 d2 e0 e1 e2 f0 f1 f2 hsq
        gi_wp2_with fail
        refine ⟨by simp, .inl ⟨_, _, rfl, run_takeDeferred hK', ?_⟩⟩
        refine ⟨.tuple #[.agg #[.slice ca cn cc], .int .i64 0, .int .i64 0], ?_, .slice ca cn cc, by rw [HR.out]; rfl, by rw [HR.out]; exact HQ.out.1, Strs.below_put_p HQ.out.2 (by omega) hK' _⟩
        simp [results, Tryz.f18, go_sem, hp0, hp1, hp2]
      · have HR := Lib.hid (show Vm.run st0 ((Ln.eachL s).map toB) = Vm.fail 0 1 from by rw [HALL.out]; exact hrun.trans (done_not hw3))
        have hwb : ((wa : Int) == 3) = false := by simp; omega
        clear hrun hok hst hC
        have c0 : Boxed V w.heap.size 24 (.slice none 0 0) := (hB.block _ (by omega)).trans b0
        have c1 : Boxed V (w.heap.size + 1) 3 (.int .i64 0) := (hB.block _ (by omega)).trans b1
        have c2 : Boxed V (w.heap.size + 2) 26 (.int .i64 0) := (hB.block _ (by omega)).trans b2
        have n01 : w.heap.size + 1 ≠ w.heap.size := by omega
        have n02 : w.heap.size + 2 ≠ w.heap.size := by omega
        have n12 : w.heap.size + 2 ≠ w.heap.size + 1 := by omega
        have n10 : w.heap.size ≠ w.heap.size + 1 := by omega
        have n20 : w.heap.size ≠ w.heap.size + 2 := by omega
        have n21 : w.heap.size + 1 ≠ w.heap.size + 2 := by omega
        have hzV := hRW.size
        have hDl : D < V.heap.size := (Array.getElem?_eq_some_iff.1 hK).1
        have d0 := c0.set (.slice none 0 0)
        have d1 := Boxed.other c1 n01 (.slice none 0 0)
        have d2 := Boxed.other c2 n02 (.slice none 0 0)
        have e0 := Boxed.other d0 n10 (.int .i64 0)
        have e1 := d1.set (.int .i64 0)
        have e2 := Boxed.other d2 n12 (.int .i64 0)
        have f0 := Boxed.other e0 n20 (.int .i64 1)
        have f1 := Boxed.other e1 n21 (.int .i64 1)
        have f2 := e2.set (.int .i64 1)
        have hS : Stays (fun k => w.heap.size + 3 ≤ k) V (((V.setCell ⟨w.heap.size, 0, none⟩ (.slice none 0 0)).setCell ⟨w.heap.size + 1, 0, none⟩ (.int .i64 0)).setCell ⟨w.heap.size + 2, 0, none⟩ (.int .i64 1)) := (((Stays.refl _ _).setCell _ _ (by omega)).setCell _ _ (by omega)).setCell _ _ (by omega)
        have hK' := (hS.block D (by omega)).trans hK
        have hB2 : Below w.heap.size w (((V.setCell ⟨w.heap.size, 0, none⟩ (.slice none 0 0)).setCell ⟨w.heap.size + 1, 0, none⟩ (.int .i64 0)).setCell ⟨w.heap.size + 2, 0, none⟩ (.int .i64 1)) := (((hV.trans (hB.mono (by omega))).setCell (p := ⟨w.heap.size, 0, none⟩) (Nat.le_refl _) _).setCell (p := ⟨w.heap.size + 1, 0, none⟩) (by simp) _).setCell (p := ⟨w.heap.size + 2, 0, none⟩) (by simp) _
        have hp0 := (f0.kept (grownBy_putObj' _ D (.deferred Option.none)) (by rintro ⟨⟩; omega)).cell
        have hp1 := (f1.kept (grownBy_putObj' _ D (.deferred Option.none)) (by rintro ⟨⟩; omega)).cell
        have hp2 := (f2.kept (grownBy_putObj' _ D (.deferred Option.none)) (by rintro ⟨⟩; omega)).cell
        have x0 := c0.cell
        have x1 := d1.cell
        have x2 := e2.cell
        have y0 := c0.frozen
        have y1 := d1.frozen
        have y2 := e2.frozen
        have r0 := hR.c0
        have r3 := hR.c3
        have hCT : CAt ((((V.setCell ⟨w.heap.size, 0, none⟩ (.slice none 0 0)).setCell ⟨w.heap.size + 1, 0, none⟩ (.int .i64 0)).setCell ⟨w.heap.size + 2, 0, none⟩ (.int .i64 1)).putObj D (.deferred none)) ((((V.setCell ⟨w.heap.size, 0, none⟩ (.slice none 0 0)).setCell ⟨w.heap.size + 1, 0, none⟩ (.int .i64 0)).setCell ⟨w.heap.size + 2, 0, none⟩ (.int .i64 1)).putObj D (.deferred none)).heap.size 3 (.node []) (.slice none 0 0) := cat_nil _ _ 2
        have HQ := Lib.hid (And.intro hCT hB2)
        clear hB2 hS hCT hR c0 c1 c2 d0 d1 d2 e0 e1 e2 f0 f1 f2 hsq
        gi_wp2_with fail
        refine ⟨by simp, .inl ⟨_, _, rfl, run_takeDeferred hK', ?_⟩⟩
        refine ⟨.tuple #[.agg #[.slice none 0 0], .int .i64 0, .int .i64 1], ?_, .slice none 0 0, by rw [HR.out]; rfl, by rw [HR.out]; exact HQ.out.1, Strs.below_put_p HQ.out.2 (by omega) hK' _⟩
        simp [results, Tryz.f18, go_sem, hp0, hp1, hp2]
end Go.Proofs.YtjgfbicllgalkaaGreatDoor.Vc

namespace Go.Proofs.YtjgfbicllgalkaaGreatDoor.Vc
set_option maxRecDepth 100000
open Go.RowKit Pp Sq

set_option maxHeartbeats 2000000 in
theorem parse_long (s : ByteArray) (w : World) (hs : 4000 < s.size) :
    Calls Tryz.prog 18 #[.string s] w (ReadAns w (Vm.fail 0 8)) := by
  have hsz : (4000 : Int) < (s.size : Int) := by omega
  refine (callsIn_wide (n := 5)).1 ?_
  refine callsIn_of_wp_marks Tryz.func18 rfl trivial ?_ rfl
  simp only [Tryz.ntmps18, List.size_toArray, List.length_cons, List.length_nil, Nat.reduceAdd, Nat.reduceSub, Array.replicate_succ, Array.replicate_zero, List.push_toArray, List.append_toArray, List.nil_append, List.cons_append]
  have hx := ((Boxed.new w 24 (.slice none 0 0)).alloc (.cells #[.int .i64 0] 3)).alloc (.cells #[.int .i64 8] 26)
  have hy := (Boxed.new (w.alloc (.cells #[.slice none 0 0] 24)) 3 (.int .i64 0)).alloc (.cells #[.int .i64 8] 26)
  have hz := Boxed.new ((w.alloc (.cells #[.slice none 0 0] 24)).alloc (.cells #[.int .i64 0] 3)) 26 (.int .i64 8)
  rw [World.size_alloc] at hy
  rw [World.size_alloc, World.size_alloc] at hz
  have q0 := hx.cell
  have q1 := hy.cell
  have q2 := hz.cell
  have hb : Below w.heap.size w (((w.alloc (.cells #[.slice none 0 0] 24)).alloc (.cells #[.int .i64 0] 3)).alloc (.cells #[.int .i64 8] 26)) := (((Below.refl _ w).alloc (Nat.le_refl _) _).alloc (by simp) _).alloc (by simp; omega) _
  clear hx hy hz
  gi_wp2_with fail
  refine ⟨.tuple #[.agg #[.slice none 0 0], .int .i64 0, .int .i64 8], ?_, .slice none 0 0, rfl, cat_nil _ _ 2, hb⟩
  simp [results, Tryz.results18, go_sem, q0, q1, q2]
end Go.Proofs.YtjgfbicllgalkaaGreatDoor.Vc

namespace Go.Proofs.YtjgfbicllgalkaaGreatDoor.Vc
set_option maxRecDepth 100000
open Go.RowKit Pp Sq

theorem tot_bytes : ∀ (l : List (Nat × List UInt8)), tot (l.map lnB) = Ln.bytes (l.map (·.2))
  | [] => rfl
  | x :: l => by
    have h := tot_bytes l
    unfold tot at h ⊢
    rw [List.map_cons, List.map_cons, List.sum_cons, h, List.map_cons, Ln.bytes_cons]
    rfl
theorem lines_few (s : ByteArray) (hs : s.size ≤ 4000) : ((Ln.eachL s).map lnB).length < 1048576 ∧ tot ((Ln.eachL s).map lnB) ≤ 1048576 := by
  have h2 : s.data.toList.length = s.size := by rw [Array.length_toList]; rfl
  constructor
  · rw [List.length_map]
    have h := Ln.unf_length none (Ln.num 1 (Ln.split s.data.toList))
    have h1 := Ln.split_length s.data.toList
    rw [Ln.num_length] at h
    simp only [Option.toList_none, List.length_nil, Nat.zero_add] at h
    unfold Ln.eachL
    omega
  · rw [tot_bytes]
    unfold Ln.eachL
    rw [unf_bytes none _ (m := 0) rfl, Ln.num_snd]
    have := Ln.split_bytes s.data.toList
    omega
/-- What reading a text answers. -/
def readA (s : ByteArray) : Vm.Ans G := if 4000 < s.size then Vm.fail 0 8 else Vm.parseR G 1048576 ((Ln.eachL s).map lnB)
theorem progParse_any (s : ByteArray) (w : World) (T : Qu.Tabs w) : Calls Tryz.prog 18 #[.string s] w (ReadAns w (readA s)) := by
  unfold readA
  by_cases h : 4000 < s.size
  · rw [if_pos h]; exact parse_long s w h
  · rw [if_neg h, ← Vm.run_all 1048576 _ (.node []) (lines_few s (by omega)).1]
    exact parse_in s w (by omega) T
theorem refParse_any (HP : ∀ d, d ≤ 2 → PropOk 1048576 d) (s : ByteArray) (w : World) : Calls Tryz.prog 19 #[.string s] w (RefAns w (readA s)) := by
  unfold readA
  by_cases h : 4000 < s.size
  · rw [if_pos h]; exact refParse_long s w h
  · rw [if_neg h]
    exact refParse_in 1048576 s w (by omega) (lines_few s (by omega)).1 (Nat.le_refl _) (lines_few s (by omega)).2 (refCard_step _ 2 (HP 2 (Nat.le_refl _)))
/-- What is read may be read. -/
theorem readA_nice (s : ByteArray) : Vm.Nice Okp 3 (readA s).2.2 := by
  unfold readA
  split
  · exact ⟨Nat.zero_le _, fun p hp => by cases hp⟩
  · exact Vm.parse_nice mean_okp _ _
end Go.Proofs.YtjgfbicllgalkaaGreatDoor.Vc

namespace Go.Proofs.YtjgfbicllgalkaaGreatDoor.Vc
set_option maxRecDepth 100000
open Go.RowKit Pp Sq

set_option maxHeartbeats 2000000 in
theorem refSameTop_any (k k' : Nat) (c c' : Crd) (sv sv' : Value) (w : World) (hf : Fits k c) (hf' : Fits k' c') (hc : CAt w w.heap.size k c sv) (hc' : CAt w w.heap.size k' c' sv') :
    Calls Tryz.prog 20 #[.agg #[sv], .agg #[sv']] w fun e w' => e = .returned (.bool (sameC 9 c c')) ∧ Below w.heap.size w w' := by
  obtain ⟨a, n, cp, rfl⟩ := hc.one
  obtain ⟨a', n', cp', rfl⟩ := hc'.one
  have hx := two_boxes w (.cells #[.slice a n cp] 24) (.cells #[.slice a' n' cp'] 24)
  have hb : Below w.heap.size w ((w.alloc (.cells #[.slice a n cp] 24)).alloc (.cells #[.slice a' n' cp'] 24)) := ((Below.refl _ _).alloc (Nat.le_refl _) _).alloc (by simp) _
  have C := Lib.hid (refSame_any 9 k c k' c' (.slice a n cp) (.slice a' n' cp') _ hf hf' (hc.on hb) (hc'.on hb) (Nat.le_refl _))
  have HB := Lib.hid hb
  clear hc hc' hb hx hf hf'
  go_enter Tryz.func20, Tryz.ntmps20
  go_wp2_with fail
  refine C.out.mono ?_
  rintro e w1 ⟨rfl, b1⟩
  go_wp2_with fail
  go_ret
  exact ⟨rfl, HB.out.trans (b1.mono HB.out.size)⟩

set_option maxHeartbeats 2000000 in
theorem vcardReads_law (HP : ∀ d, d ≤ 2 → PropOk 1048576 d) (s : ByteArray) (w : World) (T : Qu.Tabs w) :
    Calls Tryz.prog 4 #[.string s] w fun e w' => e = .returned (.bool true) ∧ Below w.heap.size w w' := by
  by_cases hs : 5000 < s.size
  · have hsz : (5000 : Int) < (s.size : Int) := by omega
    clear HP
    go_enter Tryz.func4, Tryz.ntmps4
    go_wp2_with fail
    go_ret
    exact ⟨rfl, Below.refl _ _⟩
  · have hsz : ¬ (5000 : Int) < (s.size : Int) := by omega
    have C1 := Lib.hid (progParse_any s w T)
    have C2 := Lib.hid (fun W => refParse_any HP s W)
    have HN := Lib.hid (readA_nice s)
    clear HP T
    obtain ⟨⟨k, er, t⟩, hA⟩ : ∃ A, readA s = A := ⟨_, rfl⟩
    rw [hA] at C1 C2 HN
    clear hA
    have CS : Hid (∀ W sv sv', CAt W W.heap.size 3 t sv → CAt W W.heap.size 3 t sv' → Calls Tryz.prog 20 #[.agg #[sv], .agg #[sv']] W fun e w' => e = .returned (.bool true) ∧ Below W.heap.size W w') := Lib.hid (fun W sv sv' h h' => by
      have := refSameTop_any 3 3 t t sv sv' W (nice_fits HN.out) (nice_fits HN.out) h h'
      rw [sameC_self HN.out (by omega)] at this
      exact this)
    clear HN
    go_enter Tryz.func4, Tryz.ntmps4
    go_wp2_with fail
    refine C1.out.mono ?_
    rintro e w1 ⟨cv, rfl, hc1, b1⟩
    obtain ⟨a, n, cp, rfl⟩ := hc1.one
    have ba : Below w1.heap.size w1 (w1.alloc (.cells #[.slice a n cp] 24)) := (Below.refl _ _).alloc (Nat.le_refl _) _
    have hx : (w1.alloc (.cells #[.slice a n cp] 24)).heap[w1.heap.size]? = some (.cells #[.slice a n cp] 24 (0, 0)) := heap_alloc_new w1 _
    have H1 := Lib.hid (And.intro (hc1.on ba) (And.intro (b1.trans (ba.mono b1.size)) hx))
    clear hc1 b1 ba hx
    go_wp2_with fail
    refine (C2.out _).mono ?_
    rintro e w3 ⟨cv', rfl, hc3, b3⟩
    obtain ⟨a', n', cp', rfl⟩ := hc3.one
    have hx3 := (b3.block _ (Array.getElem?_eq_some_iff.1 H1.out.2.2).1).trans H1.out.2.2
    have ba : Below w3.heap.size w3 (w3.alloc (.cells #[.slice a' n' cp'] 24)) := (Below.refl _ _).alloc (Nat.le_refl _) _
    have hy : (w3.alloc (.cells #[.slice a' n' cp'] 24)).heap[w3.heap.size]? = some (.cells #[.slice a' n' cp'] 24 (0, 0)) := heap_alloc_new w3 _
    have hx4 := (ba.block _ (Array.getElem?_eq_some_iff.1 hx3).1).trans hx3
    have x0 := cell_of_row _ w1.heap.size 0 _ _ _ hx4
    have y0 := cell_of_row _ w3.heap.size 0 _ _ _ hy
    have C := Lib.hid (CS.out _ _ _ ((H1.out.1.on b3).on ba) (hc3.on ba))
    have HB := Lib.hid ((H1.out.2.1.trans (b3.mono H1.out.2.1.size)).trans (ba.mono (Nat.le_trans H1.out.2.1.size b3.size)))
    clear hx3 ba hy hx4 hc3 b3 H1 CS C1 C2
    go_wp2_with fail
    refine C.out.mono ?_
    rintro e w5 ⟨rfl, b5⟩
    go_wp2_with fail
    go_ret
    exact ⟨rfl, HB.out.trans (b5.mono HB.out.size)⟩
end Go.Proofs.YtjgfbicllgalkaaGreatDoor.Vc

namespace Go.Proofs.YtjgfbicllgalkaaGreatDoor.Vc
set_option maxRecDepth 100000
open Go.RowKit Pp Sq

/-- Is the value written so that it may go on? -/
def qpB (P : Par) : Bool := decide ((wayV P.ps).toList = [81, 85, 79, 84, 69, 68, 45, 80, 82, 73, 78, 84, 65, 66, 76, 69])
theorem on_no {P : Par} (h : qpB P = false) : G.on P = none := by
  have h' : ¬ (wayV P.ps).toList = [81, 85, 79, 84, 69, 68, 45, 80, 82, 73, 78, 84, 65, 66, 76, 69] := of_decide_eq_false h
  show (if _ then _ else none) = none
  rw [if_neg (fun e => h' e.1)]
theorem on_mark {P : Par} (h : markB P.v = false) : G.on P = none := by
  show (if _ then _ else none) = none
  rw [if_neg (fun e => by rw [h] at e; exact absurd e.2 (by simp))]
theorem on_yes {P : Par} (h : qpB P = true) (hm : markB P.v = true) : G.on P = some { P with v := cutM P.v } := by
  show (if _ then _ else none) = _
  rw [if_pos ⟨of_decide_eq_true h, hm⟩]
theorem soft_none {q : Par} (h : G.on q = none) (l : Vm.Ls) : Vm.soft G q l = some (q, l) := by
  cases l with
  | nil => unfold Vm.soft; rw [h]
  | cons x r => unfold Vm.soft; rw [h]
theorem soft_end {q q' : Par} (h : G.on q = some q') : Vm.soft G q [] = none := by
  unfold Vm.soft; rw [h]
theorem soft_go {q q' : Par} (h : G.on q = some q') (x : Nat × ByteArray) (r : Vm.Ls) : Vm.soft G q (x :: r) = Vm.soft G { q' with v := q'.v ++ x.2 } r := by
  rw [Vm.soft, h]
theorem cutM_le (v : ByteArray) : (cutM v).size ≤ v.size := by
  show (cutM v).data.size ≤ v.data.size
  unfold cutM
  simp only [List.size_toArray, List.length_dropLast, Array.length_toList]
  omega
theorem cutM_ext {v : ByteArray} : v.extract 0 (v.size - 1) = cutM v := by
  have hl : v.data.toList.length = v.size := by rw [Array.length_toList]; rfl
  apply ByteArray.ext
  apply Array.toList_inj.1
  unfold cutM
  rw [ByteArray.data_extract]
  simp only [Array.toList_extract, List.extract_eq_take_drop, List.drop_zero, Nat.sub_zero]
  rw [List.dropLast_eq_take, hl]
theorem mark_last {v : ByteArray} (h : 0 < v.size) : markB v = decide (v[v.size - 1]'(by omega) = 61) := by
  unfold markB
  have hl : v.data.toList.length = v.size := by rw [Array.length_toList]; rfl
  rw [List.getLast?_eq_getElem?, hl, List.getElem?_eq_getElem (by omega)]
  simp only [Option.some.injEq]
  have : v.data.toList[v.size - 1]'(by omega) = v[v.size - 1]'(by omega) := by simp; rfl
  rw [this]
theorem mark_empty {v : ByteArray} (h : v.size = 0) : markB v = false := by
  unfold markB
  have hl : v.data.toList.length = v.size := by rw [Array.length_toList]; rfl
  have : v.data.toList = [] := List.eq_nil_of_length_eq_zero (by omega)
  rw [this]; rfl
end Go.Proofs.YtjgfbicllgalkaaGreatDoor.Vc

namespace Go.Proofs.YtjgfbicllgalkaaGreatDoor.Vc
set_option maxRecDepth 100000
open Go.RowKit Pp Sq

/-- prop under way; all that it speaks of lies at Z or ahead of it. -/
structure Pq (w W : World) (b Z : Nat) (nv lv : Value) (j : Nat) (g n : ByteArray) (pv : Value) (v : ByteArray) (ps : List (ByteArray × ByteArray)) : Prop where
  p : PrAt W Z g n pv v (.slice none 0 0)
  r : PrAt W w.heap.size ⟨#[]⟩ ⟨#[]⟩ (.slice none 0 0) ⟨#[]⟩ (.slice none 0 0)
  o : PsF W (fun k => w.heap.size < k ∧ k < Z) pv ps
  d : Rdr W b nv lv j
  g : w.grownBy W (some b)
  z : w.heap.size < Z
  b : b < w.heap.size
section
variable {w W W' : World} {b Z j j' : Nat} {nv lv pv : Value} {g n v : ByteArray} {ps : List (ByteArray × ByteArray)}
theorem Pq.zlt (h : Pq w W b Z nv lv j g n pv v ps) : Z < W.heap.size := h.p.lt
theorem Pq.keep (h : Pq w W b Z nv lv j g n pv v ps) (hS : Stays (fun k => k ≤ Z ∧ k ≠ b) W W') (hd : Rdr W' b nv lv j') : Pq w W' b Z nv lv j' g n pv v ps := by
  have hz := h.z
  have hb := h.b
  refine ⟨(hS.block Z ⟨Nat.le_refl _, by omega⟩).trans h.p, (hS.block w.heap.size ⟨by omega, by omega⟩).trans h.r, h.o.move (hS.mono fun k hk => ⟨by have := hk.1.2; omega, by have := hk.1.1; omega⟩) (fun _ hk _ => hk), hd, ?_, hz, hb⟩
  exact ⟨hS.os.trans h.g.os, hS.tape.trans h.g.tape, hS.output.trans h.g.output, Nat.le_trans h.g.size hS.size, fun k hk hne => (hS.block k ⟨by omega, fun e => hne (by rw [e])⟩).trans (h.g.block k hk hne)⟩
theorem Pq.below (h : Pq w W b Z nv lv j g n pv v ps) (hb : Below W.heap.size W W') : Pq w W' b Z nv lv j g n pv v ps :=
  h.keep ⟨hb.os, hb.tape, hb.output, hb.size, fun k hk => hb.block k (by have := h.zlt; omega)⟩ ((hb.block b (by have := h.d.lt; omega)).trans h.d)
theorem Pq.grown (h : Pq w W b Z nv lv j g n pv v ps) (hg : W.grownBy W' (some b)) (hd : Rdr W' b nv lv j') : Pq w W' b Z nv lv j' g n pv v ps :=
  h.keep ⟨hg.os, hg.tape, hg.output, hg.size, fun k hk => hg.block k (by have := h.zlt; omega) (fun e => hk.2 (by injection e))⟩ hd
theorem Pq.pss (h : Pq w W b Z nv lv j g n pv v ps) : Ps W W.heap.size pv ps := h.o.ps
/-- A cell of the property's box is written: all else stays. -/
theorem Pq.at3 (h : Pq w W b Z nv lv j g n pv v ps) (i : Nat) (u : Value) : PrAt (W.setCell ⟨Z, i, none⟩ u) w.heap.size ⟨#[]⟩ ⟨#[]⟩ (.slice none 0 0) ⟨#[]⟩ (.slice none 0 0) ∧ PsF (W.setCell ⟨Z, i, none⟩ u) (fun k => w.heap.size < k ∧ k < Z) pv ps ∧ Rdr (W.setCell ⟨Z, i, none⟩ u) b nv lv j ∧ w.grownBy (W.setCell ⟨Z, i, none⟩ u) (some b) := by
  have hz := h.z
  have hb := h.b
  have E : ∀ k, k ≠ Z → (W.setCell ⟨Z, i, none⟩ u).heap[k]? = W.heap[k]? := fun k hk => Below.heap_setCell W ⟨Z, i, none⟩ u k hk
  have hS : Stays (fun k => (w.heap.size < k ∧ k < Z) ∧ k < W.heap.size) W (W.setCell ⟨Z, i, none⟩ u) := ⟨rfl, rfl, rfl, by rw [World.size_setCell]; exact Nat.le_refl _, fun k hk => E k (by have := hk.1.2; omega)⟩
  refine ⟨(E _ (by omega)).trans h.r, h.o.move hS (fun _ hk _ => hk), (E _ (by omega)).trans h.d, ?_⟩
  exact ⟨h.g.os, h.g.tape, h.g.output, by rw [World.size_setCell]; exact h.g.size, fun k hk hne => (E k (by omega)).trans (h.g.block k hk hne)⟩
theorem Pq.setv (h : Pq w W b Z nv lv j g n pv v ps) (x : ByteArray) : Pq w (W.setCell ⟨Z, 3, none⟩ (.string x)) b Z nv lv j g n pv x ps := by
  obtain ⟨h1, h2, h3, h4⟩ := h.at3 3 (.string x)
  exact ⟨h.p.set3 x, h1, h2, h3, h4, h.z, h.b⟩
/-- The result's five cells are written. -/
theorem Pq.ret (h : Pq w W b Z nv lv j g n pv v ps) (u0 u1 u2 u3 u4 : Value) : w.grownBy (((((W.setCell ⟨w.heap.size, 0, none⟩ u0).setCell ⟨w.heap.size, 1, none⟩ u1).setCell ⟨w.heap.size, 2, none⟩ u2).setCell ⟨w.heap.size, 3, none⟩ u3).setCell ⟨w.heap.size, 4, none⟩ u4) (some b) := set5 h.g (Nat.le_refl _) _ _ _ _ _
end
/-- Parameters in a row of the call's own, by a set of blocks. -/
theorem own_psF {W : World} {base : Nat} {F : Nat → Prop} {v : Value} {ps : List (ByteArray × ByteArray)} (h : Pp.Own W base v ps) (hF : ∀ k, base ≤ k → k < W.heap.size → F k) : PsF W F v ps := by
  obtain ⟨_, ⟨rfl, h0⟩ | ⟨g, cap, cur, rfl, hb, hg, h1, _, _, ht⟩⟩ := h
  · exact .inl ⟨List.eq_nil_of_length_eq_zero h0, .inl rfl⟩
  · refine .inr ⟨g, 0, cap, rfl, hF g hb (Array.getElem?_eq_some_iff.1 hg).1, (Array.getElem?_eq_some_iff.1 hg).1, fun i hi => ?_⟩
    obtain ⟨p1, p2⟩ := pcells_at ps i hi
    rw [← ht] at p1 p2
    have q1 := Lib.cells_of_row hg _ _ _ p1
    have q2 := Lib.cells_of_row hg _ _ _ p2
    rw [Lib.addr_add] at q1 q2
    exact ⟨q1, by rw [Nat.add_assoc]; exact q2⟩
theorem grown_set {w W : World} {b Z i : Nat} (h : w.grownBy W (some b)) (hZ : w.heap.size < Z) (u : Value) : w.grownBy (W.setCell ⟨Z, i, none⟩ u) (some b) :=
  ⟨h.os, h.tape, h.output, by rw [World.size_setCell]; exact h.size, fun k hk hne => (Below.heap_setCell W ⟨Z, i, none⟩ u k (by show k ≠ Z; omega)).trans (h.block k hk hne)⟩
/-- prop under way, its parameters in a row of its own from B0 on. -/
structure Pz (w W : World) (b Z B0 : Nat) (nv lv : Value) (j : Nat) (g n : ByteArray) (av : Value) (x : ByteArray) (L : List (ByteArray × ByteArray)) : Prop where
  p : PrAt W Z g n av x (.slice none 0 0)
  r : PrAt W w.heap.size ⟨#[]⟩ ⟨#[]⟩ (.slice none 0 0) ⟨#[]⟩ (.slice none 0 0)
  o : Pp.Own W B0 av L
  d : Rdr W b nv lv j
  g : w.grownBy W (some b)
  zb : Z < B0
  z : w.heap.size < Z
  b : b < w.heap.size
section
variable {w W W' : World} {b Z B0 j j' : Nat} {nv lv pv av : Value} {g n v x : ByteArray} {ps L : List (ByteArray × ByteArray)}
theorem Pq.put2 (h : Pq w W b Z nv lv j g n pv v ps) (ho : Pp.Own W B0 av L) (hz : Z < B0) : Pz w (W.setCell ⟨Z, 2, none⟩ av) b Z B0 nv lv j g n av v L := by
  obtain ⟨h1, h2, h3, h4⟩ := h.at3 2 av
  exact ⟨h.p.set2 av, h1, Pp.Own.set ho (a := ⟨Z, 2, none⟩) hz av, h3, h4, hz, h.z, h.b⟩
theorem Pz.keep (h : Pz w W b Z B0 nv lv j g n av x L) (hS : Stays (fun k => k < W.heap.size ∧ k ≠ b) W W') (hd : Rdr W' b nv lv j') : Pz w W' b Z B0 nv lv j' g n av x L := by
  have hz := h.z
  have hb := h.b
  have hzw := h.p.lt
  have hzb := h.zb
  refine ⟨(hS.block Z ⟨hzw, by omega⟩).trans h.p, (hS.block w.heap.size ⟨by omega, by omega⟩).trans h.r, row_stays h.o (fun k hk => ?_), hd, ?_, hzb, hz, hb⟩
  · have := own_blk h.o k hk
    exact hS.block k ⟨this.2, by omega⟩
  · exact ⟨hS.os.trans h.g.os, hS.tape.trans h.g.tape, hS.output.trans h.g.output, Nat.le_trans h.g.size hS.size, fun k hk hne => (hS.block k ⟨by omega, fun e => hne (by rw [e])⟩).trans (h.g.block k hk hne)⟩
theorem Pz.below (h : Pz w W b Z B0 nv lv j g n av x L) (hb : Below W.heap.size W W') : Pz w W' b Z B0 nv lv j g n av x L :=
  h.keep ⟨hb.os, hb.tape, hb.output, hb.size, fun k hk => hb.block k hk.1⟩ ((hb.block b h.d.lt).trans h.d)
theorem Pz.grown (h : Pz w W b Z B0 nv lv j g n av x L) (hg : W.grownBy W' (some b)) (hd : Rdr W' b nv lv j') : Pz w W' b Z B0 nv lv j' g n av x L :=
  h.keep ⟨hg.os, hg.tape, hg.output, hg.size, fun k hk => hg.block k hk.1 (fun e => hk.2 (by injection e))⟩ hd
theorem Pz.ret (h : Pz w W b Z B0 nv lv j g n av x L) (u0 u1 u2 u3 u4 : Value) : w.grownBy (((((W.setCell ⟨w.heap.size, 0, none⟩ u0).setCell ⟨w.heap.size, 1, none⟩ u1).setCell ⟨w.heap.size, 2, none⟩ u2).setCell ⟨w.heap.size, 3, none⟩ u3).setCell ⟨w.heap.size, 4, none⟩ u4) (some b) := set5 h.g (Nat.le_refl _) _ _ _ _ _
theorem stays5 (W : World) (z : Nat) (u0 u1 u2 u3 u4 : Value) : Stays (fun k => k ≠ z) W (((((W.setCell ⟨z, 0, none⟩ u0).setCell ⟨z, 1, none⟩ u1).setCell ⟨z, 2, none⟩ u2).setCell ⟨z, 3, none⟩ u3).setCell ⟨z, 4, none⟩ u4) :=
  stays_set (stays_set (stays_set (stays_set (stays_set (Stays.refl _ W) (fun e => e rfl)) (fun e => e rfl)) (fun e => e rfl)) (fun e => e rfl)) (fun e => e rfl)
/-- What is handed back. -/
theorem Pz.ok (h : Pz w W b Z B0 nv lv j g n av x L) (hS : Stays (fun k => k ≠ w.heap.size) W W') {α : Type} {C : α → Value → Prop} : PcF W' (fun k => w.heap.size ≤ k) C (⟨g, n, L, x⟩, ([] : List α)) (.string g) (.string n) av (.string x) (.slice none 0 0) := by
  have hz := h.z
  have hzb := h.zb
  refine ⟨rfl, rfl, rfl, ?_, AgF.nil⟩
  exact (own_psF (F := fun k => B0 ≤ k) h.o (fun k hk _ => hk)).move (hS.mono fun k hk => by have := hk.1; omega) (fun k hk _ => by have : B0 ≤ k := hk; omega)
theorem Pz.rd (h : Pz w W b Z B0 nv lv j g n av x L) (hS : Stays (fun k => k ≠ w.heap.size) W W') : Rdr W' b nv lv j := (hS.block b (by have := h.b; omega)).trans h.d
end
/-- What has been read is what the descent says: the tail of prop. -/
def tlR (N d k : Nat) (P : Par) (v : ByteArray) (r : List (Nat × ByteArray)) : Vm.Res (Pd × List Crd) := Vm.tailR G (Vm.cardR G N d) (d == 0) k { P with v := v } r
/-- The card of AGENT. -/
def crC (p : Pd) : Vm.Res Crd → Vm.Res (Pd × List Crd)
  | .end_ => .end_
  | .bad k e => .bad k e
  | .ok c r' => .ok (p, [c]) r'
/-- .. once the value's bytes are known. -/
def tlC (N d k : Nat) (y : Int × Pd) (r : List (Nat × ByteArray)) : Vm.Res (Pd × List Crd) :=
  if y.1 ≠ 0 then .bad k y.1 else if decide (y.2.n.toList = [65, 71, 69, 78, 84]) = false then .ok (y.2, []) r else
  if (!decide (y.2.v.size = 0)) = true then .bad k 5 else if (d == 0) = true then .bad k 9 else crC y.2 (Vm.cardR G N d r)
theorem tlR_eq (N d k : Nat) (P : Par) (v : ByteArray) (r : List (Nat × ByteArray)) : tlR N d k P v r = tlC N d k (meanW (wayV P.ps) P.g P.n P.ps v) r := by
  unfold tlR Vm.tailR tlC
  cases Vm.cardR G N d r <;> rfl
/-- The result's box, and how far all has grown. -/
structure Rz (w W : World) (b : Nat) : Prop where
  r : PrAt W w.heap.size ⟨#[]⟩ ⟨#[]⟩ (.slice none 0 0) ⟨#[]⟩ (.slice none 0 0)
  g : w.grownBy W (some b)
  b : b < w.heap.size
section
variable {w W W' : World} {b Z B0 B1 B j d : Nat} {nv lv av sv : Value} {g n x : ByteArray} {L : List (ByteArray × ByteArray)} {t : Crd}
theorem Pz.rz (h : Pz w W b Z B0 nv lv j g n av x L) : Rz w W b := ⟨h.r, h.g, h.b⟩
theorem Rz.grown (h : Rz w W b) (hg : W.grownBy W' (some b)) : Rz w W' b :=
  ⟨(hg.block _ h.r.lt (fun e => by have := h.b; injection e with e; omega)).trans h.r, ⟨hg.os.trans h.g.os, hg.tape.trans h.g.tape, hg.output.trans h.g.output, Nat.le_trans h.g.size hg.size, fun k hk hne => (hg.block k (Nat.lt_of_lt_of_le hk h.g.size) hne).trans (h.g.block k hk hne)⟩, h.b⟩
theorem Rz.below (h : Rz w W b) (hb : Below W.heap.size W W') : Rz w W' b := h.grown (grown_of_below hb)
theorem Rz.ret (h : Rz w W b) (u0 u1 u2 u3 u4 : Value) : w.grownBy (((((W.setCell ⟨w.heap.size, 0, none⟩ u0).setCell ⟨w.heap.size, 1, none⟩ u1).setCell ⟨w.heap.size, 2, none⟩ u2).setCell ⟨w.heap.size, 3, none⟩ u3).setCell ⟨w.heap.size, 4, none⟩ u4) (some b) := set5 h.g (Nat.le_refl _) _ _ _ _ _
/-- What is handed back of AGENT. -/
theorem Pz.okA (h : Pz w W b Z B0 nv lv j g n av x L) (hca : CAf W (fun k => B1 ≤ k) d t sv) (hB1 : Z < B1) (hS : Stays (fun k => k < W.heap.size ∧ k ≠ Z ∧ k ≠ w.heap.size) W W') (hc : W'.cell? ⟨B, 0, none⟩ = some sv) (hB : W.heap.size ≤ B) :
    PcF W' (fun k => w.heap.size ≤ k) (CAf W' (fun k => w.heap.size ≤ k) d) (⟨g, n, L, x⟩, [t]) (.string g) (.string n) av (.string x) (.slice (some ⟨B, 0, none⟩) 1 1) := by
  have hz := h.z
  have hzb := h.zb
  have hzw := h.p.lt
  refine ⟨rfl, rfl, rfl, ?_, some ⟨B, 0, none⟩, 1, rfl, fun _ => ⟨B, 0, rfl, by omega, World.block_lt_of_cell? W' _ hc⟩, fun b' o' e i hi => ?_⟩
  · exact (own_psF (F := fun k => B0 ≤ k) h.o (fun k hk _ => hk)).move (hS.mono fun k hk => ⟨hk.2, by have : B0 ≤ k := hk.1; omega, by have : B0 ≤ k := hk.1; omega⟩) (fun k hk _ => by have : B0 ≤ k := hk; omega)
  · have hi0 : i = 0 := by simp at hi; omega
    subst hi0
    cases e
    exact ⟨sv, hc, CAf.move (hS.mono fun k hk => ⟨hk.2, by have : B1 ≤ k := hk.1; omega, by have : B1 ≤ k := hk.1; omega⟩) (fun k hk _ => by have : B1 ≤ k := hk; omega) hca⟩
end
end Go.Proofs.YtjgfbicllgalkaaGreatDoor.Vc

namespace Go.Proofs.YtjgfbicllgalkaaGreatDoor.Vc
set_option maxRecDepth 100000
open Go.RowKit Pp Sq

/-- What follows the soft line ends. -/
def prC (N d k : Nat) (o : Option (Par × List (Nat × ByteArray))) : Vm.Res (Pd × List Crd) :=
  match o with
  | none => .end_
  | some (q, r) => Vm.tailR G (Vm.cardR G N d) (d == 0) k q r
theorem prop_eq (N d k : Nat) (s : ByteArray) (r : List (Nat × ByteArray)) : Vm.propR G (Vm.cardR G N d) (d == 0) s k r = if (parse s).err ≠ 0 then .bad k (parse s).err else prC N d k (Vm.soft G (parse s) r) := by
  unfold Vm.propR prC
  by_cases h : (parse s).err = 0
  · rw [if_neg (fun e => e h), if_neg (fun e => e h)]
    rw [show Vm.soft G (G.rd s).2 r = Vm.soft G (parse s) r from rfl]
    cases Vm.soft G (parse s) r with
    | none => rfl
    | some y => rfl
  · rw [if_pos h, if_pos h]
/-- Behind the switch: the error, and where there is none the value's bytes. -/
def SwR (w : World) (b Z : Nat) (nv lv : Value) (l : List (Nat × ByteArray)) (P : Par) (pv : Value) (m : ByteArray) (N d k : Nat) (R : Vm.Res (Pd × List Crd)) (ev : Value) (wc : World) : Prop :=
  ∃ (v x y : ByteArray) (de : Int) (j : Nat), ev = .int .i64 de ∧ decW m v = (y, de) ∧ j ≤ l.length ∧ tlR N d k P v (l.drop j) = R ∧ v.size ≤ 2097152 ∧ (de = 0 → x = y) ∧ Pq w wc b Z nv lv j P.g P.n pv x P.ps
/-- Behind the charset: the value's letters. -/
def ChR (w : World) (b Z : Nat) (nv lv : Value) (l : List (Nat × ByteArray)) (P : Par) (pv : Value) (N d k : Nat) (R : Vm.Res (Pd × List Crd)) (wc : World) : Prop :=
  ∃ (x : ByteArray) (j : Nat), j ≤ l.length ∧ tlC N d k (restP P.g P.n P.ps x) (l.drop j) = R ∧ Pq w wc b Z nv lv j P.g P.n pv x P.ps

set_option maxHeartbeats 32000000 in
theorem refProp_step (N d : Nat) (hd2 : d ≤ 2) (HC : 0 < d → CardOk N d) : PropOk N d := by
  intro w b i nv lv l s k hr hls hi hlN hN htl ht
  have hbw := hr.lt
  have hss : s.size ≤ 1048576 := by omega
  have hf := fun h => parse_few (s := s) h
  rw [prop_eq]
  have CP := Lib.hid (fun W => Pp.rParse_any s W (by omega))
  obtain ⟨P, hP⟩ : ∃ P, parse s = P := ⟨_, rfl⟩
  rw [hP] at hf CP ⊢
  obtain ⟨R, hR⟩ : ∃ R, (if P.err ≠ 0 then .bad k P.err else prC N d k (Vm.soft G P (l.drop i))) = R := ⟨_, rfl⟩
  rw [hR]
  have HR := Lib.hid hR
  have HF := Lib.hid hf
  have HLS := Lib.hid hls
  have HT := Lib.hid (And.intro ht (And.intro hlN (And.intro hN htl)))
  have HRD := Lib.hid hr
  have HI := Lib.hid hi
  have HCC := Lib.hid HC
  have HBW := Lib.hid hbw
  obtain ⟨q, hqd⟩ : ∃ q : Nat, q = 3 - d := ⟨_, rfl⟩
  have HQ3 := Lib.hid (And.intro hqd hd2)
  rw [show (3 : Int) - (d : Int) = (q : Int) by omega]
  have HA0 := Lib.hid (And.intro (show Below w.heap.size w (w.alloc (.cells #[.string ⟨#[]⟩, .string ⟨#[]⟩, .slice none 0 0, .string ⟨#[]⟩, .slice none 0 0] 56)) from (Below.refl _ _).alloc (Nat.le_refl _) _) (And.intro (show PrAt (w.alloc (.cells #[.string ⟨#[]⟩, .string ⟨#[]⟩, .slice none 0 0, .string ⟨#[]⟩, .slice none 0 0] 56)) w.heap.size ⟨#[]⟩ ⟨#[]⟩ (.slice none 0 0) ⟨#[]⟩ (.slice none 0 0) from heap_alloc_new w _) (World.size_alloc w (.cells #[.string ⟨#[]⟩, .string ⟨#[]⟩, .slice none 0 0, .string ⟨#[]⟩, .slice none 0 0] 56))))
  clear hqd hR hf hls ht htl hlN hN hr hi HC hd2 hbw hP hss
  go_enter Tryz.func86, Tryz.ntmps86
  go_wp2_with fail
  refine (CP.out _).mono ?_
  rintro e w1 ⟨pv, rfl, ho, b1⟩
  obtain ⟨pa, pc, rfl⟩ := ho.ps.shape
  have hpq : Pq w (w1.alloc (.cells #[.string P.g, .string P.n, .slice pa P.ps.length pc, .string P.v, .slice none 0 0] 56)) b w1.heap.size nv lv i P.g P.n (.slice pa P.ps.length pc) P.v P.ps := by
    obtain ⟨a0, r0, z0⟩ := HA0.out
    have hz := b1.size
    have hb2 : Below w1.heap.size w1 (w1.alloc (.cells #[.string P.g, .string P.n, .slice pa P.ps.length pc, .string P.v, .slice none 0 0] 56)) := (Below.refl _ _).alloc (Nat.le_refl _) _
    have hB : Below w.heap.size w (w1.alloc (.cells #[.string P.g, .string P.n, .slice pa P.ps.length pc, .string P.v, .slice none 0 0] 56)) := (a0.trans (b1.mono a0.size)).trans (hb2.mono (Nat.le_trans a0.size hz))
    refine ⟨heap_alloc_new w1 _, (r0.below b1).below hb2, (own_psF (F := fun k => w.heap.size < k ∧ k < w1.heap.size) ho (fun k h1 h2 => ⟨by omega, h2⟩)).move ⟨hb2.os, hb2.tape, hb2.output, hb2.size, fun k hk => hb2.block k hk.2⟩ (fun _ h _ => h), HRD.out.below hB, grown_of_below hB, by omega, HBW.out⟩
  clear CP HA0 ho b1 HRD HBW
  unfold prV
  by_cases he : P.err = 0
  rotate_left
  · have heb : (P.err == 0) = false := by simpa using he
    have HE : Hid (R = .bad k P.err) := Lib.hid (by rw [← HR.out, if_pos he])
    clear HR HF HLS HT HI HCC
    have q0 := hpq.r.c0
    have q1 := hpq.r.c1
    have q2 := hpq.r.c2
    have q3 := hpq.r.c3
    have q4 := hpq.r.c4
    have s0 := hpq.r.f 0
    have s1 := hpq.r.f 1
    have s2 := hpq.r.f 2
    have s3 := hpq.r.f 3
    have s4 := hpq.r.f 4
    have HG := Lib.hid (hpq.ret (.string ⟨#[]⟩) (.string ⟨#[]⟩) (.slice none 0 0) (.string ⟨#[]⟩) (.slice none 0 0))
    clear  hpq
    go_wp2_with fail
    exact bodyPost_ret (v := .tuple #[.agg #[.string ⟨#[]⟩, .string ⟨#[]⟩, .slice none 0 0, .string ⟨#[]⟩, .slice none 0 0], .int .i64 (k : Int), .int .i64 P.err]) (by simp [results, Tryz.results86, go_sem, q0, q1, q2, q3, q4]) rfl ⟨HG.out, by rw [HE.out]⟩
  have heb : (P.err == 0) = true := by simpa using he
  have HRS : Hid (prC N d k (Vm.soft G P (l.drop i)) = R) := Lib.hid (by rw [← HR.out, if_neg (fun e => e he)])
  obtain ⟨hf1, hf2, hf3⟩ := HF.out he
  have HF3 := Lib.hid hf3
  have CW := Lib.hid (refWay_any P.g P.n (.slice pa P.ps.length pc) P.v (.slice none 0 0) P.ps (w1.alloc (.cells #[.string P.g, .string P.n, .slice pa P.ps.length pc, .string P.v, .slice none 0 0] 56)) hpq.pss (by omega) (fun x hx => by have := hf3 x hx; omega))
  obtain ⟨m, hm⟩ : ∃ m, wayV P.ps = m := ⟨_, rfl⟩
  rw [hm] at CW
  have HM := Lib.hid hm
  have HPQ := Lib.hid hpq
  have HF1 := Lib.hid hf1
  have HE0 := Lib.hid he
  have HV := Lib.hid hf2
  have HVT : Hid (P.v.size + tot (l.drop i) ≤ 2097152) := Lib.hid (by have := HT.out.1; omega)
  have z0 := hpq.p.c0
  have z1 := hpq.p.c1
  have z2 := hpq.p.c2
  have z3 := hpq.p.c3
  have z4 := hpq.p.c4
  clear HR HF hf3 hm hpq he hf1 hf2
  unfold prV at CW
  go_wp2_with fail
  refine CW.out.mono ?_
  rintro e w3 ⟨rfl, b3⟩
  have hpq := HPQ.out.below b3
  clear CW HPQ b3 heb z0 z1 z2 z3 z4
  generalize w1.heap.size = Z at hpq ⊢
  clear w1
  have z0 := hpq.p.c0
  have z1 := hpq.p.c1
  have z2 := hpq.p.c2
  have z3 := hpq.p.c3
  have z4 := hpq.p.c4
  have f3 := hpq.p.f 3
  have HPQ := Lib.hid hpq
  clear hpq
  go_upto_block 0 with fail
  go_cut [13, 16, 17, 18] from 44 to 98 (fun ev _ _ _ wc => SwR w b Z nv lv l P (.slice pa P.ps.length pc) m N d k R ev wc)
  case first =>
    by_cases h0 : m.toList = [81, 85, 79, 84, 69, 68, 45, 80, 82, 73, 78, 84, 65, 66, 76, 69]
    · have b0 : (m.toList == [81, 85, 79, 84, 69, 68, 45, 80, 82, 73, 78, 84, 65, 66, 76, 69]) = true := by simp [h0]
      have hq : qpB P = true := by unfold qpB; rw [HM.out]; exact decide_eq_true h0
      have HH0 := Lib.hid h0
      have HQ := Lib.hid hq
      have CQ := Lib.hid (fun W v h => Qu.refDecode_any v W h)
      have CN := Lib.hid (fun W j h1 h2 h3 => refNext_any true l b j nv lv W h1 h2 h3 (by have := HT.out; omega) (fun x hx => by have := le_tot hx; have := HT.out; omega))
      have HV0 := Lib.hid (show P.v.size + tot (l.drop i) ≤ 2097152 from HVT.out)
      clear h0 hq HM HF3 HF1 HCC HV HVT
      go_wp2_with fail
      go_loopg [16, 17, 18] (l.length - i) (fun gk tv av ov wr => ∃ (v : ByteArray) (j : Nat), gk = l.length - j ∧ j ≤ l.length ∧ Hid (prC N d k (Vm.soft G { P with v := v } (l.drop j)) = R) ∧ Hid (v.size + tot (l.drop j) ≤ 2097152) ∧ Pq w wr b Z nv lv j P.g P.n (.slice pa P.ps.length pc) v P.ps)
      case atStart => exact ⟨P.v, i, by rfl, HI.out, HRS, HV0, HPQ.out⟩
      case round =>
        clear HPQ z0 z1 z2 z3 z4 f3 HRS HV0
        obtain ⟨v, j, hgk, hj, hs, hsz, hpq⟩ := hrel
        have z3 := hpq.p.c3
        have f3 := hpq.p.f 3
        have HPJ := Lib.hid hpq
        have HJ := Lib.hid (And.intro hgk hj)
        have hv20 : v.size ≤ 2097152 := by have := hsz.out; omega
        cases hm : markB v
        · have HS2 : Hid (tlR N d k P v (l.drop j) = R) := Lib.hid (by have h := hs.out; rw [soft_none (on_mark (P := { P with v := v }) hm)] at h; exact h)
          clear hs hpq hgk hj CN hsz
          by_cases hv0 : v.size = 0
          · have hs0 := str_none hv0
            clear hm
            have HVV := Lib.hid hv20
            have HDW : Hid (decW m v = (⟨(Qu.dec v.data.toList).1.toArray⟩, ((Qu.dec v.data.toList).2 : Int))) := Lib.hid (by unfold decW; rw [if_pos HH0.out])
            have C5 := Lib.hid (fun W => CQ.out W v (by omega))
            clear CQ
            go_wp2_with fail
            refine (C5.out _).mono ?_
            rintro e w4 ⟨rfl, b4⟩
            have hpq := HPJ.out.below b4
            clear C5 HPJ b4 z3 f3
            have z3 := hpq.p.c3
            have f3 := hpq.p.f 3
            have H4 := Lib.hid (hpq.setv ⟨(Qu.dec v.data.toList).1.toArray⟩)
            clear hpq
            go_wp2_with fail
            go_meet
            exact ⟨v, _, _, _, j, rfl, HDW.out, HJ.out.2, HS2.out, HVV.out, fun _ => rfl, H4.out⟩
          · have hs0 := str_some hv0
            have hv1 : v.size - 1 < v.size := by omega
            have h61 : (v[v.size - 1].toNat : Int) ≠ 61 := fun e => by
              rw [mark_last (by omega)] at hm
              have h2 := of_decide_eq_false hm
              exact h2 (UInt8.toNat_inj.1 (by have : v[v.size - 1].toNat = 61 := by omega
                                              rw [this]; rfl))
            have h61b : ((v[v.size - 1].toNat : Int) == 61) = false := by simpa using h61
            have hix : ((v.size : Int) - 1).toNat = v.size - 1 := by omega
            clear hm h61
            have HVV := Lib.hid hv20
            have HDW : Hid (decW m v = (⟨(Qu.dec v.data.toList).1.toArray⟩, ((Qu.dec v.data.toList).2 : Int))) := Lib.hid (by unfold decW; rw [if_pos HH0.out])
            have C5 := Lib.hid (fun W => CQ.out W v (by omega))
            clear CQ
            go_wp2_with fail
            refine (C5.out _).mono ?_
            rintro e w4 ⟨rfl, b4⟩
            have hpq := HPJ.out.below b4
            clear C5 HPJ b4 z3 f3
            have z3 := hpq.p.c3
            have f3 := hpq.p.f 3
            have H4 := Lib.hid (hpq.setv ⟨(Qu.dec v.data.toList).1.toArray⟩)
            clear hpq
            go_wp2_with fail
            go_meet
            exact ⟨v, _, _, _, j, rfl, HDW.out, HJ.out.2, HS2.out, HVV.out, fun _ => rfl, H4.out⟩
        · have hv0 : ¬ v.size = 0 := fun e => by rw [mark_empty e] at hm; cases hm
          have hs0 := str_some hv0
          have hv1 : v.size - 1 < v.size := by omega
          have h61b : ((v[v.size - 1].toNat : Int) == 61) = true := by
            rw [mark_last (by omega)] at hm
            have h2 := of_decide_eq_true hm
            rw [h2]; rfl
          have hix : ((v.size : Int) - 1).toNat = v.size - 1 := by omega
          have hon := on_yes (P := { P with v := v }) HQ.out hm
          have CJ := Lib.hid (CN.out wr j hpq.d (HLS.out.grown hpq.g (Nat.le_of_lt hpq.b)) hj)
          have hsl : ∀ W : World, (Instr.slice 9 (.string v) none (some (.int .i64 ((v.size : Int) - 1))) none).run Tryz.prog W = .ok (.string (cutM v)) W := fun W => by
            rw [← cutM_ext]; simp [Instr.slice, go_sem]; omega
          unfold nextAns at CJ
          cases hl : l.drop j with
          | nil =>
            rw [hl] at CJ
            have HE : Hid (R = .end_) := Lib.hid (by have h := hs.out; rw [hl, soft_end hon] at h; exact h.symm)
            rw [show nextL true [] = none from rfl] at CJ
            simp only at CJ
            clear hs hpq hgk hj CN hsz hon hm hl HJ
            go_wp2_with fail
            refine CJ.out.mono ?_
            rintro e w4 ⟨rfl, ⟨j2, hj2, hr2, -⟩, hg4⟩
            have hpq := HPJ.out.grown hg4 hr2
            clear hg4 hr2 hj2 CJ HPJ z3 f3
            have q0 := hpq.r.c0
            have q1 := hpq.r.c1
            have q2 := hpq.r.c2
            have q3 := hpq.r.c3
            have q4 := hpq.r.c4
            have s0 := hpq.r.f 0
            have s1 := hpq.r.f 1
            have s2 := hpq.r.f 2
            have s3 := hpq.r.f 3
            have s4 := hpq.r.f 4
            have HG := Lib.hid (hpq.ret (.string ⟨#[]⟩) (.string ⟨#[]⟩) (.slice none 0 0) (.string ⟨#[]⟩) (.slice none 0 0))
            clear  hpq
            go_wp2_with fail
            exact bodyPost_ret (v := .tuple #[.agg #[.string ⟨#[]⟩, .string ⟨#[]⟩, .slice none 0 0, .string ⟨#[]⟩, .slice none 0 0], .int .i64 0, .int .i64 1]) (by simp [results, Tryz.results86, go_sem, q0, q1, q2, q3, q4]) rfl ⟨HG.out, by rw [HE.out]⟩
          | cons x r =>
            rw [hl] at CJ
            have hnx : nextL true (x :: r) = some (x, r) := by rw [nextL, if_pos (by simp)]
            have HS2 : Hid (prC N d k (Vm.soft G { P with v := cutM v ++ x.2 } r) = R) := Lib.hid (by have h := hs.out; rw [hl, soft_go hon] at h; exact h)
            have HZ : Hid ((cutM v ++ x.2).size + tot r ≤ 2097152) := Lib.hid (by have h := hsz.out; rw [hl] at h; have h2 := cutM_le v; unfold tot at h ⊢; rw [List.map_cons, List.sum_cons] at h; rw [ByteArray.size_append]; omega)
            have HRB : Hid (nextRest true (x :: r) = r) := Lib.hid (by unfold nextRest; rw [hnx])
            rw [hnx] at CJ
            obtain ⟨xn, xs⟩ := x
            simp only at CJ HS2 HZ HRB
            clear hs hpq hgk hj CN hsz hon hm hnx
            have HL := Lib.hid hl
            have hz1 : (cutM v).size ≤ 2097152 := by have := HZ.out; rw [ByteArray.size_append] at this; omega
            have hz2 : xs.size ≤ 2097152 := by have := HZ.out; rw [ByteArray.size_append] at this; omega
            clear hl
            go_wp2_with fail
            refine CJ.out.mono ?_
            rintro e w4 ⟨rfl, ⟨j2, hj2, hr2, hd2⟩, hg4⟩
            rw [HRB.out] at hd2
            have hpq := HPJ.out.grown hg4 hr2
            have HD2 := Lib.hid (And.intro hj2 hd2)
            clear hg4 hr2 hj2 hd2 CJ HPJ z3 f3 HRB
            have z3 := hpq.p.c3
            have f3 := hpq.p.f 3
            have H4 := Lib.hid (hpq.setv (cutM v ++ xs))
            clear hpq
            go_wp2_with fail
            go_roundg (l.length - j2)
            case measure =>
              obtain ⟨hj2, hd2⟩ := HD2.out
              obtain ⟨hgk, hj⟩ := HJ.out
              have e1 : (l.drop j).length = r.length + 1 := by rw [HL.out]; rfl
              have e2 : (l.drop j2).length = r.length := by rw [hd2]
              rw [List.length_drop] at e1 e2
              omega
            case rel => exact ⟨cutM v ++ xs, j2, rfl, HD2.out.1, by rw [HD2.out.2]; exact HS2, by rw [HD2.out.2]; exact HZ, H4.out⟩
    have b0 : (m.toList == [81, 85, 79, 84, 69, 68, 45, 80, 82, 73, 78, 84, 65, 66, 76, 69]) = false := by simpa using h0
    have hq : qpB P = false := by unfold qpB; rw [HM.out]; exact decide_eq_false h0
    have HS : Hid (tlR N d k P P.v (l.drop i) = R) := Lib.hid (by have h := HRS.out; rw [soft_none (on_no hq)] at h; exact h)
    have hv := HV.out
    clear HRS HV HVT hq HLS HT HCC HF3 HF1
    by_cases h1 : m.toList = [66, 65, 83, 69, 54, 52]
    · have b1 : (m.toList == [66, 65, 83, 69, 54, 52]) = true := by simp [h1]
      have HVV : Hid (P.v.size ≤ 2097152) := Lib.hid (by omega)

      have HDW : Hid (decW m P.v = (⟨(Sx.dec P.v.data.toList).1.toArray⟩, ((Sx.dec P.v.data.toList).2 : Int))) := Lib.hid (by simp [decW, *])
      have CS := Lib.hid (fun W => Sx.refDecode_any P.v W (by omega))
      clear h0 h1 HM hv
      go_wp2_with fail
      refine (CS.out _).mono ?_
      rintro e w4 ⟨rfl, b4⟩
      have hpq := HPQ.out.below b4
      clear CS HPQ b4 z0 z1 z2 z3 z4 f3
      have z3 := hpq.p.c3
      have f3 := hpq.p.f 3
      have H4 := Lib.hid (hpq.setv ⟨(Sx.dec P.v.data.toList).1.toArray⟩)
      clear hpq
      go_wp2_with fail
      go_meet
      exact ⟨P.v, _, _, _, i, rfl, HDW.out, HI.out, HS.out, HVV.out, fun _ => rfl, H4.out⟩
    have b1 : (m.toList == [66, 65, 83, 69, 54, 52]) = false := by simpa using h1
    by_cases h2 : m.toList = [66]
    · have b2 : (m.toList == [66]) = true := by simp [h2]
      have HVV : Hid (P.v.size ≤ 2097152) := Lib.hid (by omega)

      have HDW : Hid (decW m P.v = (⟨(Sx.dec P.v.data.toList).1.toArray⟩, ((Sx.dec P.v.data.toList).2 : Int))) := Lib.hid (by simp [decW, *])
      have CS := Lib.hid (fun W => Sx.refDecode_any P.v W (by omega))
      clear h0 h1 HM hv
      clear h2
      go_wp2_with fail
      refine (CS.out _).mono ?_
      rintro e w4 ⟨rfl, b4⟩
      have hpq := HPQ.out.below b4
      clear CS HPQ b4 z0 z1 z2 z3 z4 f3
      have z3 := hpq.p.c3
      have f3 := hpq.p.f 3
      have H4 := Lib.hid (hpq.setv ⟨(Sx.dec P.v.data.toList).1.toArray⟩)
      clear hpq
      go_wp2_with fail
      go_meet
      exact ⟨P.v, _, _, _, i, rfl, HDW.out, HI.out, HS.out, HVV.out, fun _ => rfl, H4.out⟩
    have b2 : (m.toList == [66]) = false := by simpa using h2
    by_cases h3 : m.toList = [56, 66, 73, 84]
    · have b3 : (m.toList == [56, 66, 73, 84]) = true := by simp [h3]
      have HVV : Hid (P.v.size ≤ 2097152) := Lib.hid (by omega)
      have HDW : Hid (decW m P.v = (P.v, 0)) := Lib.hid (by simp [decW, *])
      clear h0 h1 h2 h3 HM hv
      go_wp2_with fail
      go_meet
      exact ⟨P.v, P.v, _, _, i, by rw [HE0.out], HDW.out, HI.out, HS.out, HVV.out, fun h => rfl, HPQ.out⟩
    have b3 : (m.toList == [56, 66, 73, 84]) = false := by simpa using h3
    by_cases h4 : m.toList = [55, 66, 73, 84]
    · have b4 : (m.toList == [55, 66, 73, 84]) = true := by simp [h4]
      have HVV : Hid (P.v.size ≤ 2097152) := Lib.hid (by omega)
      have HDW : Hid (decW m P.v = (P.v, 0)) := Lib.hid (by simp [decW, *])
      clear h0 h1 h2 h3 h4 HM hv
      go_wp2_with fail
      go_meet
      exact ⟨P.v, P.v, _, _, i, by rw [HE0.out], HDW.out, HI.out, HS.out, HVV.out, fun h => rfl, HPQ.out⟩
    have b4 : (m.toList == [55, 66, 73, 84]) = false := by simpa using h4
    have HVV : Hid (P.v.size ≤ 2097152) := Lib.hid (by omega)
    have HDW : Hid (decW m P.v = (⟨#[]⟩, 5)) := Lib.hid (by simp [decW, *])
    clear h0 h1 h2 h3 h4 HM hv
    go_wp2_with fail
    go_meet
    exact ⟨P.v, P.v, _, _, i, rfl, HDW.out, HI.out, HS.out, HVV.out, fun h => absurd h (by decide), HPQ.out⟩
  case rest =>
    obtain ⟨v, x, y, de, j, rfl, hdw, hj, hR, hv, hx, hpq⟩ := hcut
    have hys : y.size ≤ 2097152 := by have := decW_size m v; rw [hdw] at this; simp only at this; omega
    have HRC : Hid (tlC N d k (if de ≠ 0 then (de, nilP) else if (setC P.ps y).2 ≠ 0 then ((setC P.ps y).2, nilP) else restP P.g P.n P.ps (setC P.ps y).1) (l.drop j) = R) := Lib.hid (by rw [← hR, tlR_eq, HM.out]; unfold meanW; rw [hdw])
    have HJ := Lib.hid hj
    have HYS := Lib.hid hys
    clear hdw hj hR hv hys HM HRS z0 z1 z2 z3 z4 f3 HPQ HV HI HVT
    by_cases hde : de = 0
    rotate_left
    · have hdb : (de == 0) = false := by simpa using hde
      have HE : Hid (R = .bad k de) := Lib.hid (by rw [← HRC.out, if_pos hde]; unfold tlC; rw [if_pos hde])
      clear HRC hx hde
      have q0 := hpq.r.c0
      have q1 := hpq.r.c1
      have q2 := hpq.r.c2
      have q3 := hpq.r.c3
      have q4 := hpq.r.c4
      have s0 := hpq.r.f 0
      have s1 := hpq.r.f 1
      have s2 := hpq.r.f 2
      have s3 := hpq.r.f 3
      have s4 := hpq.r.f 4
      have HG := Lib.hid (hpq.ret (.string ⟨#[]⟩) (.string ⟨#[]⟩) (.slice none 0 0) (.string ⟨#[]⟩) (.slice none 0 0))
      clear  hpq
      go_wp2_with fail
      exact bodyPost_ret (v := .tuple #[.agg #[.string ⟨#[]⟩, .string ⟨#[]⟩, .slice none 0 0, .string ⟨#[]⟩, .slice none 0 0], .int .i64 (k : Int), .int .i64 de]) (by simp [results, Tryz.results86, go_sem, q0, q1, q2, q3, q4]) rfl ⟨HG.out, by rw [HE.out]⟩
    subst hde
    obtain rfl := hx rfl
    have HRD : Hid (tlC N d k (if (setC P.ps x).2 ≠ 0 then ((setC P.ps x).2, nilP) else restP P.g P.n P.ps (setC P.ps x).1) (l.drop j) = R) := Lib.hid (by have h := HRC.out; rw [if_neg (fun h => h rfl)] at h; exact h)
    have CG : Hid (∀ W, Ps W W.heap.size (.slice pa P.ps.length pc) P.ps → Calls Tryz.prog 148 #[.agg #[.string P.g, .string P.n, .slice pa P.ps.length pc, .string x, .slice none 0 0], .string ⟨#[67, 72, 65, 82, 83, 69, 84]⟩] W fun e w' => e = .returned (.tuple #[.string (getV P.ps chsB), .bool (getB P.ps chsB)]) ∧ Below W.heap.size W w') := Lib.hid (fun W h => rGet_any P.g P.n (.slice pa P.ps.length pc) x (.slice none 0 0) chsB P.ps W h (by have := HF1.out; omega))
    have CG3 := Lib.hid (CG.out _ hpq.pss)
    have HPQ := Lib.hid hpq
    have z0 := hpq.p.c0
    have z1 := hpq.p.c1
    have z2 := hpq.p.c2
    have z3 := hpq.p.c3
    have z4 := hpq.p.c4
    clear CG hpq HRC hx
    go_wp2_with fail
    refine CG3.out.mono ?_
    rintro e w4 ⟨rfl, b4⟩
    have hpq := HPQ.out.below b4
    clear CG3 HPQ b4 z0 z1 z2 z3 z4
    have z3 := hpq.p.c3
    have f3 := hpq.p.f 3
    have HPQ := Lib.hid hpq
    clear hpq
    go_upto_if 109 with fail
    go_cut [13, 19, 20, 21] from 104 to 128 (fun _ _ _ _ wc => ChR w b Z nv lv l P (.slice pa P.ps.length pc) N d k R wc)
    case first =>
      cases hg : getB P.ps chsB
      · have HR2 : Hid (tlC N d k (restP P.g P.n P.ps x) (l.drop j) = R) := Lib.hid (by have h := HRD.out; rw [show setC P.ps x = (x, 0) by unfold setC; rw [hg, if_neg (by simp)], if_neg (fun h => h rfl)] at h; exact h)
        clear HRD hg
        go_wp2_with fail
        go_meet
        exact ⟨x, j, HJ.out, HR2.out, HPQ.out⟩
      · have HRL : Hid (tlC N d k (if (letC (getV P.ps chsB) x).2 ≠ 0 then ((letC (getV P.ps chsB) x).2, nilP) else restP P.g P.n P.ps (letC (getV P.ps chsB) x).1) (l.drop j) = R) := Lib.hid (by have h := HRD.out; rw [show setC P.ps x = letC (getV P.ps chsB) x by unfold setC; rw [hg, if_pos rfl]] at h; exact h)
        have hcs : (getV P.ps chsB).size ≤ 1048576 := getV_size HF3.out
        clear HRD hg
        generalize getV P.ps chsB = cn at HRL hcs
        have CNm := Lib.hid (fun W => Cs.refNamed_any cn W (by omega))
        have CDd := Lib.hid (fun kk W => CsR.refDecode_turns kk x (by have := HYS.out; omega) W)
        unfold letC at HRL
        clear hcs
        generalize Cs.named cn.data.toList = kk at CNm HRL
        by_cases hk0 : kk = 0
        · subst hk0
          have HE : Hid (R = .bad k 14) := Lib.hid (by rw [← HRL.out, if_pos rfl]; rfl)
          clear HRL CDd
          go_wp2_with fail
          refine (CNm.out _).mono ?_
          rintro e w5 ⟨rfl, b5⟩
          have hpq := HPQ.out.below b5
          clear CNm HPQ b5 z3 f3

          have q0 := hpq.r.c0
          have q1 := hpq.r.c1
          have q2 := hpq.r.c2
          have q3 := hpq.r.c3
          have q4 := hpq.r.c4
          have s0 := hpq.r.f 0
          have s1 := hpq.r.f 1
          have s2 := hpq.r.f 2
          have s3 := hpq.r.f 3
          have s4 := hpq.r.f 4
          have HG := Lib.hid (hpq.ret (.string ⟨#[]⟩) (.string ⟨#[]⟩) (.slice none 0 0) (.string ⟨#[]⟩) (.slice none 0 0))
          clear  hpq
          go_wp2_with fail
          exact bodyPost_ret (v := .tuple #[.agg #[.string ⟨#[]⟩, .string ⟨#[]⟩, .slice none 0 0, .string ⟨#[]⟩, .slice none 0 0], .int .i64 (k : Int), .int .i64 14]) (by simp [results, Tryz.results86, go_sem, q0, q1, q2, q3, q4]) rfl ⟨HG.out, by rw [HE.out]⟩
        · have hkb : (kk == 0) = false := by simpa using hk0
          have HRM : Hid (tlC N d k (if (Cs.dec kk x.data.toList).2 ≠ 0 then ((Cs.dec kk x.data.toList).2, nilP) else restP P.g P.n P.ps ⟨(Cs.dec kk x.data.toList).1.toArray⟩) (l.drop j) = R) := Lib.hid (by have h := HRL.out; rw [if_neg hk0] at h; exact h)
          have CD2 := Lib.hid (fun W => CDd.out kk W)
          unfold Cs.Pair at CD2
          clear HRL CDd hk0
          generalize Cs.dec kk x.data.toList = q at CD2 HRM
          obtain ⟨qs, qe⟩ := q
          simp only at CD2 HRM
          go_wp2_with fail
          refine (CNm.out _).mono ?_
          rintro e w5 ⟨rfl, b5⟩
          have hpq := HPQ.out.below b5
          clear CNm HPQ b5 z3 f3
          have z3 := hpq.p.c3
          have HPQ := Lib.hid hpq
          clear hpq
          go_wp2_with fail
          refine (CD2.out _).mono ?_
          rintro e w6 h6
          obtain ⟨rfl, b6⟩ := h6
          have hpq := HPQ.out.below b6
          clear CD2 HPQ b6 z3
          have z3 := hpq.p.c3
          have f3 := hpq.p.f 3
          have hpq2 := hpq.setv ⟨qs.toArray⟩
          clear hpq
          by_cases hqe : qe = 0
          · subst hqe
            have HR2 : Hid (tlC N d k (restP P.g P.n P.ps ⟨qs.toArray⟩) (l.drop j) = R) := Lib.hid (by have h := HRM.out; rw [if_neg (fun h => h rfl)] at h; exact h)
            have HPQ := Lib.hid hpq2
            clear HRM hpq2
            go_wp2_with fail
            go_meet
            exact ⟨_, j, HJ.out, HR2.out, HPQ.out⟩
          · have hqb : (qe == 0) = false := by simpa using hqe
            have HE : Hid (R = .bad k qe) := Lib.hid (by rw [← HRM.out, if_pos hqe]; unfold tlC; rw [if_pos hqe])
            clear HRM hqe
            have q0 := hpq2.r.c0
            have q1 := hpq2.r.c1
            have q2 := hpq2.r.c2
            have q3 := hpq2.r.c3
            have q4 := hpq2.r.c4
            have s0 := hpq2.r.f 0
            have s1 := hpq2.r.f 1
            have s2 := hpq2.r.f 2
            have s3 := hpq2.r.f 3
            have s4 := hpq2.r.f 4
            have HG := Lib.hid (hpq2.ret (.string ⟨#[]⟩) (.string ⟨#[]⟩) (.slice none 0 0) (.string ⟨#[]⟩) (.slice none 0 0))
            clear  hpq2
            go_wp2_with fail
            exact bodyPost_ret (v := .tuple #[.agg #[.string ⟨#[]⟩, .string ⟨#[]⟩, .slice none 0 0, .string ⟨#[]⟩, .slice none 0 0], .int .i64 (k : Int), .int .i64 qe]) (by simp [results, Tryz.results86, go_sem, q0, q1, q2, q3, q4]) rfl ⟨HG.out, by rw [HE.out]⟩
    case rest =>
      clear HPQ z3 f3 HRD HJ HYS HF3
      obtain ⟨x, j, hj, hR, hpq⟩ := hcut
      have HJ := Lib.hid hj
      have HRE := Lib.hid hR
      clear hj hR
      by_cases h6 : 600 < x.size
      · have h6z : (600 : Int) < (x.size : Int) := by omega
        have HE : Hid (R = .bad k 8) := Lib.hid (by rw [← HRE.out]; unfold restP; rw [if_pos h6]; rfl)
        have z3 := hpq.p.c3
        clear HRE h6
        have q0 := hpq.r.c0
        have q1 := hpq.r.c1
        have q2 := hpq.r.c2
        have q3 := hpq.r.c3
        have q4 := hpq.r.c4
        have s0 := hpq.r.f 0
        have s1 := hpq.r.f 1
        have s2 := hpq.r.f 2
        have s3 := hpq.r.f 3
        have s4 := hpq.r.f 4
        have HG := Lib.hid (hpq.ret (.string ⟨#[]⟩) (.string ⟨#[]⟩) (.slice none 0 0) (.string ⟨#[]⟩) (.slice none 0 0))
        clear hpq
        go_wp2_with fail
        exact bodyPost_ret (v := .tuple #[.agg #[.string ⟨#[]⟩, .string ⟨#[]⟩, .slice none 0 0, .string ⟨#[]⟩, .slice none 0 0], .int .i64 (k : Int), .int .i64 8]) (by simp [results, Tryz.results86, go_sem, q0, q1, q2, q3, q4]) rfl ⟨HG.out, by rw [HE.out]⟩
      have h6z : ¬ (600 : Int) < (x.size : Int) := by omega
      have HRF : Hid (tlC N d k (if 4 < (drp P.ps).length then (4, nilP) else if framed P.n = true then (14, nilP) else (0, ⟨P.g, P.n, drp P.ps, x⟩)) (l.drop j) = R) := Lib.hid (by have h := HRE.out; unfold restP at h; rw [if_neg h6] at h; exact h)
      have z3 := hpq.p.c3
      have HPQ := Lib.hid hpq
      have HZ0 := hpq.zlt
      clear HRE h6 hpq
      go_wp2_with fail
      obtain ⟨B0, hB0⟩ : ∃ B0, wc.heap.size = B0 := ⟨_, rfl⟩
      have HB0 := Lib.hid hB0
      clear hB0 HZ0
      obtain ⟨i0, hi, hz0, hz1, hz2⟩ := info_parts infoP
      go_loopw [22, 23] (fun ov iv wr => ∃ t : Nat, t ≤ P.ps.length ∧ iv = .int .i64 (t : Int) ∧ Hid (Pp.Own wr B0 ov (drp (P.ps.take t))) ∧ Hid (Z < B0 ∧ B0 ≤ wr.heap.size) ∧ Pq w wr b Z nv lv j P.g P.n (.slice pa P.ps.length pc) x P.ps) (fun _ iv _ => P.ps.length - (intOf iv).toNat)
      case atStart => exact ⟨0, Nat.zero_le _, rfl, Lib.hid (Own.nil _ _), Lib.hid ⟨by have := HPQ.out.zlt; have := HB0.out; omega, by have := HB0.out; omega⟩, HPQ.out⟩
      case round =>
        clear HPQ z3
        obtain ⟨t, ht, rfl, hown, hzb, hpq⟩ := hrel
        have z2 := hpq.p.c2
        have h6 := HF1.out
        by_cases hlt : t < P.ps.length
        · have hlz : (t : Int) < (P.ps.length : Int) := by omega
          obtain ⟨bb, o, cap, hv1, hbB, hc0, hc1⟩ := hpq.pss.at_ hlt
          simp only [Value.slice.injEq, true_and] at hv1
          obtain ⟨rfl, rfl⟩ := hv1
          have HN := Lib.hid (drp_no (ps := P.ps) hlt)
          have HY := Lib.hid (drp_yes (ps := P.ps) hlt)
          have hdl : (drp (P.ps.take t)).length ≤ 6 := Nat.le_trans (drp_len _) (by rw [List.length_take]; omega)
          generalize P.ps[t] = y at hc0 hc1 HN HY
          obtain ⟨n', v'⟩ := y
          simp only at HN HY hc0 hc1
          obtain ⟨dl, hdle⟩ : ∃ dl, drp (P.ps.take t) = dl := ⟨_, rfl⟩
          rw [hdle] at hown hdl HN HY
          have hX := heap_alloc_new wr (.cells #[.string n', .string v'] 58)
          have bX : Below wr.heap.size wr (wr.alloc (.cells #[.string n', .string v'] 58)) := (Below.refl _ _).alloc (Nat.le_refl _) _
          have x0 := cell_of_row _ _ 0 _ _ _ hX
          have x1 := cell_of_row _ _ 1 _ _ _ hX
          have hpqX := hpq.below bX
          have hownX := Own.below hown.out bX
          have HX := Lib.hid (And.intro hpqX (And.intro hownX bX))
          have CH := Lib.hid (fun W => how_any v' W)
          have HT0 := Lib.hid ht
          clear hX bX hpqX hownX hpq hdle ht hown
          obtain ⟨b1, hb1⟩ : ∃ b1, (n'.toList == [69, 78, 67, 79, 68, 73, 78, 71]) = b1 := ⟨_, rfl⟩
          obtain ⟨b2, hb2⟩ : ∃ b2, (n'.toList == [67, 72, 65, 82, 83, 69, 84]) = b2 := ⟨_, rfl⟩
          have hsay : Hid (sayHow (n', v') = (b1 || (decide (n'.size = 0) && how v') || b2)) := Lib.hid (by
            rw [← hb1, ← hb2]
            unfold sayHow tells
            have e1 : ∀ u : List UInt8, decide (n'.toList = u) = (n'.toList == u) := fun u => by rw [Bool.eq_iff_iff, decide_eq_true_eq, beq_iff_eq]
            simp only [e1])
          cases b1
          rotate_left
          · have HY2 := Lib.hid (HY.out (by rw [hsay.out]; rfl))
            clear CH HN HY hsay hb2
            go_wp2_with fail
            go_roundw
            case rel => exact ⟨t + 1, by omega, by go_num, by rw [HY2.out]; exact Lib.hid HX.out.2.1, Lib.hid ⟨hzb.out.1, Nat.le_trans hzb.out.2 HX.out.2.2.size⟩, HX.out.1⟩
            case measure => simp [intOf] <;> omega
          cases b2
          rotate_left
          · have HY2 := Lib.hid (HY.out (by rw [hsay.out]; simp))
            clear CH HN HY hsay
            go_wp2_with fail
            go_roundw
            case rel => exact ⟨t + 1, by omega, by go_num, by rw [HY2.out]; exact Lib.hid HX.out.2.1, Lib.hid ⟨hzb.out.1, Nat.le_trans hzb.out.2 HX.out.2.2.size⟩, HX.out.1⟩
            case measure => simp [intOf] <;> omega
          by_cases hn0 : n'.size = 0
          · have hs0 := str_none hn0
            cases hq : how v'
            · rw [hq] at CH
              have HN2 := Lib.hid (HN.out (by rw [hsay.out, hq]; simp))
              clear HN HY hsay hq hn0
              go_wp2_with fail
              refine (CH.out _).mono ?_
              rintro e wh ⟨rfl, rfl⟩
              have hm1 : dl.length + 1 ≤ maxLen := by unfold maxLen; omega
              have hm2 : (dl.length + 1) * 32 ≤ 140737488355328 := by omega
              obtain ⟨wX, hwX⟩ : ∃ wX, wr.alloc (.cells #[.string n', .string v'] 58) = wX := ⟨_, rfl⟩
              rw [hwX] at HX x0 x1
              have hown8 := HX.out.2.1
              obtain ⟨a1, c1, rfl⟩ := shapeP hown8
              have hone : ∀ u ∈ [Value.string n', Value.string v'], u.oneCell' = true := by simp [Value.oneCell']
              have hnew := heap_alloc_new wX (.cells #[.string n', .string v'] 58)
              have hns : ∀ j u, [Value.string n', Value.string v'][j]? = some u → (wX.alloc (.cells #[.string n', .string v'] 58)).cell? (Addr.add ⟨wX.heap.size, 0, none⟩ j) = some u := World.news_of_block (cs := #[.string n', .string v']) (t := 58) (fr := (0, 0)) hnew
              have hown1 := World.ownsRow.alloc hown8 (.cells #[.string n', .string v'] 58)
              have hsz1 : B0 ≤ (wX.alloc (.cells #[.string n', .string v'] 58)).heap.size := by rw [World.size_alloc]; have := hzb.out.2; have := HX.out.2.2.size; omega
              have HGR := Lib.hid (fun w9 (hg : World.grownBy (wX.alloc (.cells #[.string n', .string v'] 58)) w9 (Value.slice a1 dl.length c1).ownBlock) => show Pq w w9 b Z nv lv j P.g P.n (.slice (some ⟨bb, o, none⟩) P.ps.length pc) x P.ps ∧ Hid (Z < B0 ∧ B0 ≤ w9.heap.size) from by
                have h1 := HX.out.1
                have h2 := own_blk hown8
                have h3 := hzb.out
                have h4 := h1.zlt
                have h5 := HX.out.2.2.size
                have hg2 : wX.heap.size ≤ w9.heap.size := Nat.le_trans (by rw [World.size_alloc]; omega) hg.size
                have hS : Stays (fun k => k ≤ Z) wX w9 := ⟨hg.os, hg.tape, hg.output, hg2, fun k hk => (hg.block k (by rw [World.size_alloc]; omega) (fun e => by have := h2 k e.symm; omega)).trans (((Below.refl _ wX).alloc (Nat.le_refl _) _).block k (by omega))⟩
                have hbz := h1.b
                have hzz := h1.z
                exact ⟨h1.keep (hS.mono fun k hk => hk.1) ((hS.block b (by omega)).trans h1.d), Lib.hid ⟨h3.1, by omega⟩⟩)
              clear hnew
              go_wp2_with (at_builtin; refine wpList_append_own _ rfl _ _ 53 rfl B0 58 i0 (.agg #[.string .empty, .string .empty]) 2 32 Tryz.underlying53 hi hz0 hz1 hz2 rfl (by decide) _ _ _ rfl hown1 ⟨wX.heap.size, 0, none⟩ 1 1 [.string n', .string v'] rfl rfl hns hone hm1 hm2 hsz1 ?_; intro v1 w9 hown9 hgrow _)
              go_roundw
              case rel => exact ⟨t + 1, by omega, by go_num, by rw [HN2.out]; exact Lib.hid (Own.snoc hown9), (HGR.out _ hgrow).2, (HGR.out _ hgrow).1⟩
              case measure => simp [intOf] <;> omega
            · rw [hq] at CH
              have HY2 := Lib.hid (HY.out (by rw [hsay.out, hq]; simp [hn0]))
              clear HN HY hsay hq hn0
              go_wp2_with fail
              refine (CH.out _).mono ?_
              rintro e wh ⟨rfl, rfl⟩
              go_wp2_with fail
              go_roundw
              case rel => exact ⟨t + 1, by omega, by go_num, by rw [HY2.out]; exact Lib.hid HX.out.2.1, Lib.hid ⟨hzb.out.1, Nat.le_trans hzb.out.2 HX.out.2.2.size⟩, HX.out.1⟩
              case measure => simp [intOf] <;> omega
          · have hs0 := str_some hn0
            have HN2 := Lib.hid (HN.out (by rw [hsay.out]; simp [hn0]))
            clear HN HY hsay hn0 CH
            have hm1 : dl.length + 1 ≤ maxLen := by unfold maxLen; omega
            have hm2 : (dl.length + 1) * 32 ≤ 140737488355328 := by omega
            obtain ⟨wX, hwX⟩ : ∃ wX, wr.alloc (.cells #[.string n', .string v'] 58) = wX := ⟨_, rfl⟩
            rw [hwX] at HX x0 x1
            have hown8 := HX.out.2.1
            obtain ⟨a1, c1, rfl⟩ := shapeP hown8
            have hone : ∀ u ∈ [Value.string n', Value.string v'], u.oneCell' = true := by simp [Value.oneCell']
            have hnew := heap_alloc_new wX (.cells #[.string n', .string v'] 58)
            have hns : ∀ j u, [Value.string n', Value.string v'][j]? = some u → (wX.alloc (.cells #[.string n', .string v'] 58)).cell? (Addr.add ⟨wX.heap.size, 0, none⟩ j) = some u := World.news_of_block (cs := #[.string n', .string v']) (t := 58) (fr := (0, 0)) hnew
            have hown1 := World.ownsRow.alloc hown8 (.cells #[.string n', .string v'] 58)
            have hsz1 : B0 ≤ (wX.alloc (.cells #[.string n', .string v'] 58)).heap.size := by rw [World.size_alloc]; have := hzb.out.2; have := HX.out.2.2.size; omega
            have HGR := Lib.hid (fun w9 (hg : World.grownBy (wX.alloc (.cells #[.string n', .string v'] 58)) w9 (Value.slice a1 dl.length c1).ownBlock) => show Pq w w9 b Z nv lv j P.g P.n (.slice (some ⟨bb, o, none⟩) P.ps.length pc) x P.ps ∧ Hid (Z < B0 ∧ B0 ≤ w9.heap.size) from by
              have h1 := HX.out.1
              have h2 := own_blk hown8
              have h3 := hzb.out
              have h4 := h1.zlt
              have h5 := HX.out.2.2.size
              have hg2 : wX.heap.size ≤ w9.heap.size := Nat.le_trans (by rw [World.size_alloc]; omega) hg.size
              have hS : Stays (fun k => k ≤ Z) wX w9 := ⟨hg.os, hg.tape, hg.output, hg2, fun k hk => (hg.block k (by rw [World.size_alloc]; omega) (fun e => by have := h2 k e.symm; omega)).trans (((Below.refl _ wX).alloc (Nat.le_refl _) _).block k (by omega))⟩
              have hbz := h1.b
              have hzz := h1.z
              exact ⟨h1.keep (hS.mono fun k hk => hk.1) ((hS.block b (by omega)).trans h1.d), Lib.hid ⟨h3.1, by omega⟩⟩)
            clear hnew
            go_wp2_with (at_builtin; refine wpList_append_own _ rfl _ _ 53 rfl B0 58 i0 (.agg #[.string .empty, .string .empty]) 2 32 Tryz.underlying53 hi hz0 hz1 hz2 rfl (by decide) _ _ _ rfl hown1 ⟨wX.heap.size, 0, none⟩ 1 1 [.string n', .string v'] rfl rfl hns hone hm1 hm2 hsz1 ?_; intro v1 w9 hown9 hgrow _)
            go_roundw
            case rel => exact ⟨t + 1, by omega, by go_num, by rw [HN2.out]; exact Lib.hid (Own.snoc hown9), (HGR.out _ hgrow).2, (HGR.out _ hgrow).1⟩
            case measure => simp [intOf] <;> omega
        · obtain rfl : t = P.ps.length := by omega
          have hlz : ¬ (P.ps.length : Int) < (P.ps.length : Int) := by omega
          have hown2 := hown.out
          rw [List.take_length] at hown2
          have hdl : (drp P.ps).length ≤ 6 := Nat.le_trans (drp_len _) h6
          obtain ⟨la, lc, rfl⟩ := shapeP hown2
          have f2 := hpq.p.f 2
          have hpz := hpq.put2 hown2 hzb.out.1
          clear hown hown2 hpq hzb hlt ht h6
          generalize drp P.ps = L at hpz hdl HRF ⊢
          have H5 := Lib.hid hpz
          have m0 := hpz.p.c0
          have m1 := hpz.p.c1
          have m2 := hpz.p.c2
          have m3 := hpz.p.c3
          have m4 := hpz.p.c4
          by_cases h4 : 4 < L.length
          · have h4z : (4 : Int) < (L.length : Int) := by omega
            have HE : Hid (R = .bad k 4) := Lib.hid (by rw [← HRF.out, if_pos h4]; rfl)
            clear HRF h4 H5
            have q0 := hpz.r.c0
            have q1 := hpz.r.c1
            have q2 := hpz.r.c2
            have q3 := hpz.r.c3
            have q4 := hpz.r.c4
            have s0 := hpz.r.f 0
            have s1 := hpz.r.f 1
            have s2 := hpz.r.f 2
            have s3 := hpz.r.f 3
            have s4 := hpz.r.f 4
            have HG := Lib.hid (hpz.ret (.string ⟨#[]⟩) (.string ⟨#[]⟩) (.slice none 0 0) (.string ⟨#[]⟩) (.slice none 0 0))
            clear  hpz
            go_wp2_with fail
            exact bodyPost_ret (v := .tuple #[.agg #[.string ⟨#[]⟩, .string ⟨#[]⟩, .slice none 0 0, .string ⟨#[]⟩, .slice none 0 0], .int .i64 (k : Int), .int .i64 4]) (by simp [results, Tryz.results86, go_sem, q0, q1, q2, q3, q4]) rfl ⟨HG.out, by rw [HE.out]⟩
          have h4z : ¬ (4 : Int) < (L.length : Int) := by omega
          have CLN := Lib.hid (fun W => framed_any P.n W)
          cases hfr : framed P.n <;> rw [hfr] at CLN
          rotate_left
          · have HE : Hid (R = .bad k 14) := Lib.hid (by rw [← HRF.out, if_neg h4, if_pos hfr]; rfl)
            clear HRF h4 H5 hfr
            have q0 := hpz.r.c0
            have q1 := hpz.r.c1
            have q2 := hpz.r.c2
            have q3 := hpz.r.c3
            have q4 := hpz.r.c4
            have s0 := hpz.r.f 0
            have s1 := hpz.r.f 1
            have s2 := hpz.r.f 2
            have s3 := hpz.r.f 3
            have s4 := hpz.r.f 4
            have HG := Lib.hid (hpz.ret (.string ⟨#[]⟩) (.string ⟨#[]⟩) (.slice none 0 0) (.string ⟨#[]⟩) (.slice none 0 0))
            clear  hpz
            go_wp2_with fail
            refine (CLN.out _).mono ?_
            rintro e w8 ⟨rfl, rfl⟩
            go_wp2_with fail
            exact bodyPost_ret (v := .tuple #[.agg #[.string ⟨#[]⟩, .string ⟨#[]⟩, .slice none 0 0, .string ⟨#[]⟩, .slice none 0 0], .int .i64 (k : Int), .int .i64 14]) (by simp [results, Tryz.results86, go_sem, q0, q1, q2, q3, q4]) rfl ⟨HG.out, by rw [HE.out]⟩
          have HRG : Hid (tlC N d k (0, ⟨P.g, P.n, L, x⟩) (l.drop j) = R) := Lib.hid (by have h := HRF.out; rw [if_neg h4, if_neg (by rw [hfr]; simp)] at h; exact h)
          clear HRF h4 hfr
          by_cases ha : P.n.toList = [65, 71, 69, 78, 84]
          rotate_left
          · have hab : (P.n.toList == [65, 71, 69, 78, 84]) = false := by simpa using ha
            have HE : Hid (R = .ok (⟨P.g, P.n, L, x⟩, []) (l.drop j)) := Lib.hid (by rw [← HRG.out]; unfold tlC; rw [if_neg (fun h => h rfl), if_pos (decide_eq_false ha)])
            clear HRG ha
            have q0 := hpz.r.c0
            have q1 := hpz.r.c1
            have q2 := hpz.r.c2
            have q3 := hpz.r.c3
            have q4 := hpz.r.c4
            have s0 := hpz.r.f 0
            have s1 := hpz.r.f 1
            have s2 := hpz.r.f 2
            have s3 := hpz.r.f 3
            have s4 := hpz.r.f 4
            have HG := Lib.hid (hpz.ret (.string P.g) (.string P.n) (.slice la L.length lc) (.string x) (.slice none 0 0))
            clear hpz
            go_wp2_with fail
            refine (CLN.out _).mono ?_
            rintro e w8 ⟨rfl, rfl⟩
            go_wp2_with fail
            refine bodyPost_ret (v := .tuple #[.agg #[.string P.g, .string P.n, .slice la L.length lc, .string x, .slice none 0 0], .int .i64 0, .int .i64 0]) (by simp [results, Tryz.results86, go_sem, q0, q1, q2, q3, q4]) rfl ⟨HG.out, ?_⟩
            rw [HE.out]
            exact ⟨_, _, _, _, _, rfl, H5.out.ok (stays5 _ _ _ _ _ _ _), j, HJ.out, H5.out.rd (stays5 _ _ _ _ _ _ _), rfl⟩
          have hab : (P.n.toList == [65, 71, 69, 78, 84]) = true := by simp [ha]
          by_cases hx0 : x.size = 0
          rotate_left
          · have hs0 := str_some hx0
            have HE : Hid (R = .bad k 5) := Lib.hid (by rw [← HRG.out]; unfold tlC; rw [if_neg (fun h => h rfl), if_neg (by simp [ha]), if_pos (by simp [hx0])])
            clear HRG ha hx0 H5
            have q0 := hpz.r.c0
            have q1 := hpz.r.c1
            have q2 := hpz.r.c2
            have q3 := hpz.r.c3
            have q4 := hpz.r.c4
            have s0 := hpz.r.f 0
            have s1 := hpz.r.f 1
            have s2 := hpz.r.f 2
            have s3 := hpz.r.f 3
            have s4 := hpz.r.f 4
            have HG := Lib.hid (hpz.ret (.string ⟨#[]⟩) (.string ⟨#[]⟩) (.slice none 0 0) (.string ⟨#[]⟩) (.slice none 0 0))
            clear  hpz
            go_wp2_with fail
            refine (CLN.out _).mono ?_
            rintro e w8 ⟨rfl, rfl⟩
            go_wp2_with fail
            exact bodyPost_ret (v := .tuple #[.agg #[.string ⟨#[]⟩, .string ⟨#[]⟩, .slice none 0 0, .string ⟨#[]⟩, .slice none 0 0], .int .i64 (k : Int), .int .i64 5]) (by simp [results, Tryz.results86, go_sem, q0, q1, q2, q3, q4]) rfl ⟨HG.out, by rw [HE.out]⟩
          have hs0 := str_none hx0
          have HRH : Hid ((if (d == 0) = true then .bad k 9 else crC ⟨P.g, P.n, L, x⟩ (Vm.cardR G N d (l.drop j))) = R) := Lib.hid (by have h := HRG.out; unfold tlC at h; rw [if_neg (fun h => h rfl), if_neg (by simp [ha]), if_neg (by simp [hx0])] at h; exact h)
          clear HRG ha hx0
          by_cases hd0 : d = 0
          · have hq3 : ((q : Int) == 3) = true := by have := HQ3.out; rw [beq_iff_eq]; omega
            have HE : Hid (R = .bad k 9) := Lib.hid (by rw [← HRH.out, if_pos (by simp [hd0])])
            clear HRH hd0 H5
            have q0 := hpz.r.c0
            have q1 := hpz.r.c1
            have q2 := hpz.r.c2
            have q3 := hpz.r.c3
            have q4 := hpz.r.c4
            have s0 := hpz.r.f 0
            have s1 := hpz.r.f 1
            have s2 := hpz.r.f 2
            have s3 := hpz.r.f 3
            have s4 := hpz.r.f 4
            have HG := Lib.hid (hpz.ret (.string ⟨#[]⟩) (.string ⟨#[]⟩) (.slice none 0 0) (.string ⟨#[]⟩) (.slice none 0 0))
            clear  hpz
            go_wp2_with fail
            refine (CLN.out _).mono ?_
            rintro e w8 ⟨rfl, rfl⟩
            go_wp2_with fail
            exact bodyPost_ret (v := .tuple #[.agg #[.string ⟨#[]⟩, .string ⟨#[]⟩, .slice none 0 0, .string ⟨#[]⟩, .slice none 0 0], .int .i64 (k : Int), .int .i64 9]) (by simp [results, Tryz.results86, go_sem, q0, q1, q2, q3, q4]) rfl ⟨HG.out, by rw [HE.out]⟩
          have hq3 : ((q : Int) == 3) = false := by have := HQ3.out; rw [beq_eq_false_iff_ne]; omega
          have hqw : IntKind.i64.wrap ((q : Int) + 1) = (q : Int) + 1 := IntWalk.i64_in _ (by have := HQ3.out; omega)
          have C6 : Hid (Calls Tryz.prog 50 #[.pointer (some ⟨b, 0, none⟩), .int .i64 ((q : Int) + 1)] (wr.setCell ⟨Z, 2, none⟩ (.slice la L.length lc)) (CardAns (wr.setCell ⟨Z, 2, none⟩ (.slice la L.length lc)) b nv lv l d (Vm.cardR G N d (l.drop j)))) := Lib.hid (by
            have hc : (q : Int) + 1 = 4 - (d : Int) := by have := HQ3.out; omega
            rw [hc]
            exact HCC.out (by omega) _ b j nv lv l hpz.d (HLS.out.grown hpz.g (Nat.le_of_lt hpz.b)) HJ.out HT.out.2.1 HT.out.2.2.1 HT.out.2.2.2)
          have HRI := Lib.hid (by have h := HRH.out; rw [if_neg (by simp [hd0])] at h; exact h)
          have HRI2 : Hid (crC ⟨P.g, P.n, L, x⟩ (Vm.cardR G N d (l.drop j)) = R) := HRI
          have hbad := fun a e h => Vm.card_bad (G := G) (N := N) d (l.drop j) a e h
          clear HRH hd0 HCC hpz HRI
          generalize Vm.cardR G N d (l.drop j) = rc at C6 HRI2 hbad
          cases rc with
          | end_ =>
            have HE : Hid (R = .end_) := Lib.hid HRI2.out.symm
            have HRZ := Lib.hid H5.out.rz
            clear HRI2 hbad H5
            go_wp2_with fail
            refine (CLN.out _).mono ?_
            rintro e w8 ⟨rfl, rfl⟩
            go_wp2_with fail
            refine C6.out.mono ?_

            rintro e w9 ⟨hg9, rfl⟩
            have hrz := (HRZ.out.grown hg9).below ((Below.refl w9.heap.size w9).alloc (Nat.le_refl _) (.cells #[.slice none 0 0] 24))
            clear hg9 C6 CLN HRZ m0 m1 m2 m3 m4

            have q0 := hrz.r.c0
            have q1 := hrz.r.c1
            have q2 := hrz.r.c2
            have q3 := hrz.r.c3
            have q4 := hrz.r.c4
            have s0 := hrz.r.f 0
            have s1 := hrz.r.f 1
            have s2 := hrz.r.f 2
            have s3 := hrz.r.f 3
            have s4 := hrz.r.f 4
            have HG := Lib.hid (hrz.ret (.string ⟨#[]⟩) (.string ⟨#[]⟩) (.slice none 0 0) (.string ⟨#[]⟩) (.slice none 0 0))
            clear  hrz
            go_wp2_with fail
            exact bodyPost_ret (v := .tuple #[.agg #[.string ⟨#[]⟩, .string ⟨#[]⟩, .slice none 0 0, .string ⟨#[]⟩, .slice none 0 0], .int .i64 0, .int .i64 1]) (by simp [results, Tryz.results86, go_sem, q0, q1, q2, q3, q4]) rfl ⟨HG.out, by rw [HE.out]⟩
          | bad k2 er =>
            have HE : Hid (R = .bad k2 er) := Lib.hid HRI2.out.symm
            have hne : (er == 0) = false := by simpa using hbad _ _ rfl
            have HRZ := Lib.hid H5.out.rz
            clear HRI2 hbad H5
            go_wp2_with fail
            refine (CLN.out _).mono ?_
            rintro e w8 ⟨rfl, rfl⟩
            go_wp2_with fail
            refine C6.out.mono ?_

            rintro e w9 ⟨hg9, rfl⟩
            have hrz := (HRZ.out.grown hg9).below ((Below.refl w9.heap.size w9).alloc (Nat.le_refl _) (.cells #[.slice none 0 0] 24))
            clear hg9 C6 CLN HRZ m0 m1 m2 m3 m4

            have q0 := hrz.r.c0
            have q1 := hrz.r.c1
            have q2 := hrz.r.c2
            have q3 := hrz.r.c3
            have q4 := hrz.r.c4
            have s0 := hrz.r.f 0
            have s1 := hrz.r.f 1
            have s2 := hrz.r.f 2
            have s3 := hrz.r.f 3
            have s4 := hrz.r.f 4
            have HG := Lib.hid (hrz.ret (.string ⟨#[]⟩) (.string ⟨#[]⟩) (.slice none 0 0) (.string ⟨#[]⟩) (.slice none 0 0))
            clear  hrz
            go_wp2_with fail
            exact bodyPost_ret (v := .tuple #[.agg #[.string ⟨#[]⟩, .string ⟨#[]⟩, .slice none 0 0, .string ⟨#[]⟩, .slice none 0 0], .int .i64 (k2 : Int), .int .i64 er]) (by simp [results, Tryz.results86, go_sem, q0, q1, q2, q3, q4]) rfl ⟨HG.out, by rw [HE.out]⟩
          | ok tt r2 =>
            have HE : Hid (R = .ok (⟨P.g, P.n, L, x⟩, [tt]) r2) := Lib.hid HRI2.out.symm
            clear HRI2 hbad
            go_wp2_with fail
            refine (CLN.out _).mono ?_
            rintro e w8 ⟨rfl, rfl⟩
            go_wp2_with fail
            refine C6.out.mono ?_

            rintro e w9 ⟨hg9, sv, rfl, hca, j2, hj2, hr2, hd2⟩
            obtain ⟨sa, sn, sc, rfl⟩ := hca.one
            have hp9 := H5.out.grown hg9 hr2
            have hz1 := H5.out.p.lt
            have ba : Below w9.heap.size w9 (w9.alloc (.cells #[.slice sa sn sc] 24)) := (Below.refl _ _).alloc (Nat.le_refl _) _
            have hxA := heap_alloc_new w9 (.cells #[.slice sa sn sc] 24)
            have hsA := World.size_alloc w9 (.cells #[.slice sa sn sc] 24)
            obtain ⟨wA, hwA⟩ : ∃ wA, w9.alloc (.cells #[.slice sa sn sc] 24) = wA := ⟨_, rfl⟩
            rw [hwA] at ba hxA hsA
            have bb : Below wA.heap.size wA (wA.alloc (.cells #[.slice sa sn sc] 24)) := (Below.refl _ _).alloc (Nat.le_refl _) _
            have hxB := heap_alloc_new wA (.cells #[.slice sa sn sc] 24)
            have k0 := cell_of_row _ w9.heap.size 0 _ _ _ hxA
            have hpB := (hp9.below ba).below bb
            have hS9 : Stays (fun k => k < w9.heap.size) w9 (wA.alloc (.cells #[.slice sa sn sc] 24)) := ⟨bb.os.trans ba.os, bb.tape.trans ba.tape, bb.output.trans ba.output, Nat.le_trans ba.size bb.size, fun k hk => (bb.block k (by omega)).trans (ba.block k hk)⟩
            have hS12 : Stays (fun k => k < w9.heap.size ∧ k ≠ Z ∧ k ≠ w.heap.size) w9 ((wA.alloc (.cells #[.slice sa sn sc] 24)).setCell ⟨Z, 4, none⟩ (.slice (some ⟨wA.heap.size, 0, none⟩) 1 1)) := stays_set (hS9.mono fun k hk => hk.1) (fun e => e.2.1 rfl)
            have z0 := hpB.p.c0
            have z1 := hpB.p.c1
            have z2 := hpB.p.c2
            have z3 := hpB.p.c3
            have z4 := hpB.p.c4
            have f4 := hpB.p.f 4
            have hQ := hpB.p.set4 (.slice (some ⟨wA.heap.size, 0, none⟩) 1 1)
            have hwz := hpB.z
            have hR := hpB.r.other (a := ⟨Z, 4, none⟩) (by show w.heap.size ≠ Z; omega) (.slice (some ⟨wA.heap.size, 0, none⟩) 1 1)
            have y0 := hQ.c0
            have y1 := hQ.c1
            have y2 := hQ.c2
            have y3 := hQ.c3
            have y4 := hQ.c4
            have q0 := hR.c0
            have q1 := hR.c1
            have q2 := hR.c2
            have q3 := hR.c3
            have q4 := hR.c4
            have s0 := hR.f 0
            have s1 := hR.f 1
            have s2 := hR.f 2
            have s3 := hR.f 3
            have s4 := hR.f 4
            have hcB : ((wA.alloc (.cells #[.slice sa sn sc] 24)).setCell ⟨Z, 4, none⟩ (.slice (some ⟨wA.heap.size, 0, none⟩) 1 1)).heap[wA.heap.size]? = some (.cells #[.slice sa sn sc] 24 (0, 0)) := (Below.heap_setCell _ ⟨Z, 4, none⟩ _ wA.heap.size (by have := hp9.p.lt; show wA.heap.size ≠ Z; omega)).trans hxB
            have hgB := grown_set (i := 4) (hpB.g) hwz (.slice (some ⟨wA.heap.size, 0, none⟩) 1 1)
            have HH := Lib.hid (And.intro hp9 (And.intro hca (And.intro hS12 (And.intro hcB (And.intro hz1 (And.intro hj2 (And.intro hd2 (And.intro hsA hgB))))))))
            clear hp9 hca hS12 hcB hz1 hj2 hd2 hsA hgB hpB hQ hR hS9 bb ba hxA hxB hg9 hr2 C6 CLN H5 hwz m0 m1 m2 m3 m4
            go_wp2_with fail
            refine bodyPost_ret (v := .tuple #[.agg #[.string P.g, .string P.n, .slice la L.length lc, .string x, .slice (some ⟨wA.heap.size, 0, none⟩) 1 1], .int .i64 0, .int .i64 0]) (by simp [results, Tryz.results86, go_sem, q0, q1, q2, q3, q4]) rfl ⟨set5 HH.out.2.2.2.2.2.2.2.2 (Nat.le_refl _) _ _ _ _ _, ?_⟩
            rw [HE.out]
            obtain ⟨hp9, hca, hS12, hcB, hz1, hj2, hd2, hsA, hgB⟩ := HH.out
            have hzz := hp9.z
            have hbw := hp9.b
            have hF := (hS12.trans ((stays5 _ w.heap.size (.string P.g) (.string P.n) (.slice la L.length lc) (.string x) (.slice (some ⟨wA.heap.size, 0, none⟩) 1 1)).mono fun k hk => hk.2.2))
            refine ⟨_, _, _, _, _, rfl, hp9.okA hca hz1 hF ?_ (by omega), j2, hj2, (hF.block b ⟨hp9.d.lt, by omega, by omega⟩).trans hp9.d, hd2⟩
            exact (World.cell?_of_block (a := ⟨wA.heap.size, 0, none⟩) ((stays5 _ w.heap.size _ _ _ _ _).block wA.heap.size (by have := hp9.r.lt; omega))).trans (cell_of_row _ wA.heap.size 0 _ _ _ hcB)
end Go.Proofs.YtjgfbicllgalkaaGreatDoor.Vc

namespace Go.Proofs.YtjgfbicllgalkaaGreatDoor.Vc
set_option maxRecDepth 100000
open Go.RowKit Pp Sq

theorem propOk_two (N : Nat) : ∀ d, d ≤ 2 → PropOk N d := by
  have h0 : PropOk N 0 := refProp_step N 0 (by omega) (fun h => absurd h (Nat.lt_irrefl 0))
  have h1 : PropOk N 1 := refProp_step N 1 (by omega) (fun _ => refCard_step N 0 h0)
  have h2 : PropOk N 2 := refProp_step N 2 (by omega) (fun _ => refCard_step N 1 h1)
  intro d hd
  match d, hd with
  | 0, _ => exact h0
  | 1, _ => exact h1
  | 2, _ => exact h2
theorem reads_law (s : ByteArray) (w : World) (T : Qu.Tabs w) :
    Calls Tryz.prog 4 #[.string s] w fun e w' => e = .returned (.bool true) ∧ Below w.heap.size w w' := vcardReads_law (propOk_two _) s w T
end Go.Proofs.YtjgfbicllgalkaaGreatDoor.Vc
