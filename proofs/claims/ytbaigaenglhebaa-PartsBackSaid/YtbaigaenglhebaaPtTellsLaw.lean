/-
For every text and every list of texts the law PartsTells returns true and changes nothing that was there. Conditions: the list has at most maxLen texts, each of at most 2^47 bytes.
-/
import Derived.Test.YtbaigaenglhebaaPtRef
import Derived.Test.YtbaigaenglhebaaPtJoin
import Derived.Test.YtbaigaenglhebaaPtSame
import Derived.Laws.AppendOwnNone
namespace Go.Proofs.Ytbaigaenglhebaa.Pt
open Go.RowKit Strs

theorem splitL_length (t : List UInt8) : (splitL t).1.length ≤ t.length + 1 := by
  unfold splitL
  have := (sm_length t [] 0).1
  cases (parts t).2 with
  | none => exact this
  | some k => simp
theorem splitL_bytes (t : List UInt8) : bytes (splitL t).1 ≤ t.length := by
  unfold splitL
  have := sm_bytes t [] 0
  cases (parts t).2 with
  | none => simp only [List.length_nil, Nat.zero_add] at this; exact this
  | some k => simp [bytes]

/-- append onto a row of the call's own, under a guard that lets it by. -/
theorem append_wanted {P : Program} (w : World) {ops : Array Oper} {rest : List Oper} {o : Oper} {a : Act} {Q : Exit → Act → World → Prop}
    (hw : Region.wanted o (yielded ops a.tmps) = true) (s x : Operand) (t : TypeId) (hop : o.op = Op.call { callee := Callee.builtin Builtin.append, args := #[s, x], argTypes := #[t, t] })
    (base : Nat) (e : TypeId) (i : TypeInfo) (z : Value) (size bytes : Nat) (h1 : P.underlying t = some (.slice e)) (h2 : P.info? e = some i) (h3 : i.zero = some z) (h4 : i.size = size) (h5 : i.bytes = bytes) (h6 : z.cells.size = size) (h7 : 0 < size)
    (v : Value) (k : Nat) (xs : List Value) (hs : a.eval s = v) (hown : w.ownsRow base e size v k xs) (ad : Addr) (m c : Nat) (news : List Value) (hx : a.eval x = .slice (some ad) m c) (hn : news.length = m * size)
    (hc : ∀ j u, news[j]? = some u → w.cell? (ad.add j) = some u) (h1c : ∀ u ∈ news, u.oneCell' = true) (b1 : k + m ≤ maxLen) (b2 : (k + m) * bytes ≤ 140737488355328) (b3 : base ≤ w.heap.size)
    (hK : ∀ v' w', w'.ownsRow base e size v' (k + m) (xs ++ news) → w.grownBy w' v.ownBlock → wpList P ops Q rest (a.put o.dst v') w') :
    wpList P ops Q (o :: rest) a w := by
  obtain ⟨v', w', hrun, r1, r2, _⟩ := run_append_own (P := P) w base t o.type e i z size bytes h1 h2 h3 h4 h5 h6 h7 v k xs hown ad m c news hn hc h1c b1 b2 b3
  unfold wpList
  rw [if_pos hw]
  left
  unfold Oper.wp
  simp [execOp, hop, resolve, invoke, builtin, hs, hx, hrun, Result.andThen]
  exact hK v' w' r1 r2

set_option maxRecDepth 100000 in
set_option maxHeartbeats 2000000 in
theorem tells_law (s : ByteArray) (v : Value) (l : List (List UInt8)) (hb : ∀ x ∈ l, x.length ≤ 140737488355328) (hf : v = .slice none 0 0 ∨ ∃ ad n c, v = .slice (some ad) n c) (w : World) (h : Reads w v l) :
    Calls Try.prog 4 #[.string s, v] w fun e W' => e = .returned (.bool true) ∧ Below w.heap.size w W' := by
  obtain ⟨a, cap, rfl⟩ := h.shape
  by_cases hs : 3000 < s.size
  · have hs' : (3000 : Int) < (s.size : Int) := by omega
    go_enter Try.func4, Try.ntmps4
    go_wp2_with fail
    go_ret
    exact ⟨rfl, Below.refl _ _⟩
  · have CG := Lib.hid (great_any _ l hb w h)
    have hs' : ¬ (3000 : Int) < (s.size : Int) := by omega
    cases hg : gr 0 0 l
    · obtain ⟨g1, g2⟩ := gr_small l 0 0 (by omega) (by omega) hg
      rw [hg] at CG
      have H := Lib.hid h
      have CS := Lib.hid (fun W => split_any s (by omega) W)
      have CR := Lib.hid (fun W => refSplit_any s (by omega) W)
      have hsl := splitL_length s.data.toList
      rw [list_size] at hsl
      have CM := Lib.hid (fun v v' W h h' => same_any v v' (splitL s.data.toList).1 (by unfold maxLen; omega) W h h')
      have CJ := Lib.hid (fun v W h => join_any v l (by omega) (by omega) W h)
      have CRJ := Lib.hid (fun v W h => refJoin_any v l (by omega) (by omega) W h)
      generalize splitL s.data.toList = q at CS CR CM
      generalize jn l = jl at CJ CRJ
      obtain ⟨q1, q2, q3⟩ := q
      have hjj : ((⟨jl.toArray⟩ : ByteArray).toList == (⟨jl.toArray⟩ : ByteArray).toList) = true := by simp
      obtain ⟨i0, hi, hz0, hz1, hz2⟩ := info_parts infoStr
      have hown0 : ∀ W : World, w.heap.size ≤ W.heap.size → (W.alloc (.cells #[] 9)).ownsRow w.heap.size 9 1 (.slice (some ⟨W.heap.size, 0, none⟩) 0 0) 0 [] := fun W hW => World.ownsRow_made W #[] 0 hW (by decide) rfl
      have hm1 : 0 + l.length ≤ maxLen := by unfold maxLen; omega
      have hm2 : (0 + l.length) * 16 ≤ 140737488355328 := by omega
      rcases hf with hf | ⟨ad, n', c', hf⟩
      · simp only [Value.slice.injEq] at hf
        obtain ⟨rfl, hl0, rfl⟩ := hf
        have hl := List.eq_nil_of_length_eq_zero hl0
        rw [hl0] at CG
        have H2 : Hid (Reads w (.slice none 0 0) l) := by rw [hl0] at H; exact H
        rw [hl0]
        clear H hsl hg g1 g2 hl0 h hs
        go_enter Try.func4, Try.ntmps4
        go_wp2_with (go_at_call 14; refine CG.out.mono ?_; rintro e w' ⟨rfl, rfl⟩)
        refine (CS.out _).mono ?_
        rintro e w2 ⟨v2, rfl, hS2, b2⟩
        go_wp2_with fail
        refine (CR.out _).mono ?_
        rintro e w3 ⟨v3, rfl, hS3, b3⟩
        have B3 := b2.trans (b3.mono b2.size)
        go_wp2_with fail
        refine (CM.out _ _ _ (hS2.reads.keep (Nat.le_refl _) b3) hS3.reads).mono ?_
        rintro e w4 ⟨rfl, b4⟩
        have B4 := B3.trans (b4.mono B3.size)
        have hown4 := hown0 w4 B4.size
        have hq2 : ((q2 : Int) == (q2 : Int)) = true := by simp
        have hq3 : ((q3 : Int) == (q3 : Int)) = true := by simp
        have H5 := (H2.out.keep (Nat.le_refl _) (B4.alloc B4.size (.cells #[] 9)))
        go_wp2_with (at_builtin; refine wpList_append_own_none rfl _ _ 33 rfl w.heap.size 9 i0 1 Try.underlying33 hi _ 0 [] rfl hown4 rfl ?_)
        subst hl
        have hS5 : Strs (w4.alloc (.cells #[] 9)) w.heap.size (.slice (some ⟨w4.heap.size, 0, none⟩) 0 0) [] := hown4
        have B5 := B4.alloc B4.size (.cells #[] 9)
        refine (CJ.out _ _ hS5.reads).mono ?_
        rintro e w6 ⟨rfl, b6⟩
        have B6 := B5.trans (b6.mono B5.size)
        go_wp2_with fail
        refine (CRJ.out _ _ (H2.out.keep (Nat.le_refl _) B6)).mono ?_
        rintro e w7 ⟨rfl, b7⟩
        have B7 := B6.trans (b7.mono B6.size)
        go_wp2_with fail
        go_ret
        exact ⟨rfl, B7⟩
      · simp only [Value.slice.injEq] at hf
        obtain ⟨rfl, rfl, rfl⟩ := hf
        have hnews : ∀ W, Below w.heap.size w W → ∀ j u, (scells l)[j]? = some u → (W.alloc (.cells #[] 9)).cell? (ad.add j) = some u := fun W hW j u hu => by
          have hj : j < l.length := by rw [← scells_length]; exact (List.getElem?_eq_some_iff.1 hu).1
          obtain ⟨_, b, o, he, _, hc⟩ := (h.keep (Nat.le_refl _) (hW.alloc hW.size (.cells #[] 9))).at_ j hj
          cases he
          rw [Lib.addr_add, hc]
          simp [scells, hj] at hu
          rw [← hu]
        have hone : ∀ u ∈ scells l, u.oneCell' = true := fun u hu => by
          obtain ⟨x, _, rfl⟩ := List.mem_map.1 hu
          simp [Value.oneCell']
        have hsl2 := scells_length l
        have HSL := Lib.hid (show (scells l).length = l.length * 1 by rw [hsl2, Nat.mul_one])
        have HN := Lib.hid hnews
        clear hsl hg g1 g2 hsl2 h hnews hs
        go_enter Try.func4, Try.ntmps4
        go_wp2_with (go_at_call 14; refine CG.out.mono ?_; rintro e w' ⟨rfl, rfl⟩)
        refine (CS.out _).mono ?_
        rintro e w2 ⟨v2, rfl, hS2, b2⟩
        go_wp2_with fail
        refine (CR.out _).mono ?_
        rintro e w3 ⟨v3, rfl, hS3, b3⟩
        have B3 := b2.trans (b3.mono b2.size)
        go_wp2_with fail
        refine (CM.out _ _ _ (hS2.reads.keep (Nat.le_refl _) b3) hS3.reads).mono ?_
        rintro e w4 ⟨rfl, b4⟩
        have B4 := B3.trans (b4.mono B3.size)
        have hown4 := hown0 w4 B4.size
        have hnews := HN.out w4 B4
        have B5 := B4.alloc B4.size (.cells #[] 9)
        have hq2 : ((q2 : Int) == (q2 : Int)) = true := by simp
        have hq3 : ((q3 : Int) == (q3 : Int)) = true := by simp
        go_wp2_with (at_builtin; refine append_wanted _ rfl _ _ 33 rfl w.heap.size 9 i0 (.string .empty) 1 16 Try.underlying33 hi hz0 hz1 hz2 rfl (by decide) _ 0 [] rfl hown4 ad l.length _ (scells l) rfl HSL.out hnews hone hm1 hm2 B5.size ?_; intro v5 w5 hown5 hgrow5; have hS5 : Strs w5 w.heap.size v5 l := (by unfold Strs; rw [Nat.zero_add, List.nil_append] at hown5; exact hown5); have B5' : Below w.heap.size w w5 := B5.grown hgrow5 B5.size (fun k e => (World.ownsRow.lt hown4 k e).1))
        refine (CJ.out _ _ hS5.reads).mono ?_
        rintro e w6 ⟨rfl, b6⟩
        have B6 := B5'.trans (b6.mono B5'.size)
        go_wp2_with fail
        refine (CRJ.out _ _ (H.out.keep (Nat.le_refl _) B6)).mono ?_
        rintro e w7 ⟨rfl, b7⟩
        have B7 := B6.trans (b7.mono B6.size)
        go_wp2_with fail
        go_ret
        exact ⟨rfl, B7⟩
    · rw [hg] at CG
      go_enter Try.func4, Try.ntmps4
      go_wp2_with (go_at_call 14; refine CG.out.mono ?_; rintro e w' ⟨rfl, rfl⟩)
      go_ret
      exact ⟨rfl, Below.refl _ _⟩
end Go.Proofs.Ytbaigaenglhebaa.Pt
