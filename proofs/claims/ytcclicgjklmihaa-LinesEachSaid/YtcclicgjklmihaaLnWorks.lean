/-
'works' of the law LinesEach answers true. No conditions.
-/
import Derived.Test.YtcclicgjklmihaaLnEach
import Derived.Test.YtcclicgjklmihaaLnFold
import Derived.Test.YtcclicgjklmihaaLnJoin
namespace Go.Proofs.Ytcclicgjklmihaa.Ln
open Go.RowKit Strs Sq

theorem works_split : split [97, 13, 10, 13, 10, 98] = [[97], [], [98]] := by decide +kernel
theorem works_each : eachL { data := #[97, 13, 10, 32, 98, 13, 10, 99] } = [(1, [97, 32, 98]), (3, [99])] := by decide +kernel
theorem works_fold : fold (wid 5) [97, 98, 32, 99, 100, 32, 101, 102] = [[97, 98, 32, 99, 100], [32, 101, 102]] := by
  have h1 : place (wid 5) [97, 98, 32, 99, 100, 32, 101, 102] = 5 := by decide +kernel
  have h2 : place (wid 5) [32, 101, 102] = 0 := by decide +kernel
  rw [fold_more (by rw [h1]; decide), h1]
  rw [show ([97, 98, 32, 99, 100, 32, 101, 102] : List UInt8).drop 5 = [32, 101, 102] from rfl, fold_end h2]
  rfl
theorem works_join : join [[97]] = [97, 13, 10] := rfl
theorem eg_works (args : Array Value) (w : World) : (callFunc 24 args).run Try.prog w = .ok (.enter 24 args) w := enters_of Try.func24 (by kernel_rfl) rfl args w
theorem add_any (n at_ : Nat) (x : ByteArray) (B : Nat) (w : World) (hB : Boxed w B 3 (.int .i64 (n : Int))) (hn : n ≤ 1000) (ha : at_ ≤ 1000) (hx : x.size ≤ 1000) (q : Nat) (hq : n + at_ * x.size = q) :
    Calls Try.prog 24 #[.int .i64 (at_ : Int), .string x, .pointer (some ⟨B, 0, none⟩)] w fun e w' => e = .returned (.bool true) ∧ w' = w.setCell ⟨B, 0, none⟩ (.int .i64 (q : Int)) := by
  have hc := hB.cell
  have hf := hB.frozen
  have h1 : at_ * x.size ≤ 1000000 := Nat.mul_le_mul ha hx
  have h2 : (at_ : Int) * (x.size : Int) = ((at_ * x.size : Nat) : Int) := by rw [Int.natCast_mul]
  obtain ⟨p, hp⟩ : ∃ p, at_ * x.size = p := ⟨_, rfl⟩
  rw [hp] at h1 h2 hq
  subst hq
  clear hp
  go_enter Try.func24, Try.ntmps24
  go_wp2
  go_ret
  exact ⟨rfl, by rw [Int.natCast_add]⟩

/-- What the sum is when some have been handed on. -/
def accW (pre : List (Nat × List UInt8)) : Nat := (pre.map fun x => x.1 * x.2.length).sum
theorem accW_pre {pre l : List (Nat × List UInt8)} (h : pre <+: l) : accW pre ≤ accW l := by
  obtain ⟨r, rfl⟩ := h
  unfold accW
  rw [List.map_append, List.sum_append]; omega
theorem accW_snoc (pre : List (Nat × List UInt8)) (x : Nat × List UInt8) : accW pre + x.1 * x.2.length = accW (pre ++ [x]) := by
  unfold accW
  rw [List.map_append, List.sum_append]; simp
theorem one_text (W : World) : Reads (W.alloc (.cells #[.string { data := #[97] }] 9)) (.slice (some ⟨W.heap.size, 0, none⟩) 1 1) [[97]] := by
  refine ⟨_, 1, rfl, Nat.le_refl _, W.heap.size, 0, fun _ => ⟨rfl, by simp⟩, fun i hi => ?_⟩
  obtain rfl : i = 0 := by simp at hi; exact hi
  exact (Boxed.new W 9 (.string { data := #[97] })).cell

set_option maxRecDepth 100000 in
set_option maxHeartbeats 2000000 in
theorem works_any (w : World) : Calls Try.prog 18 #[] w fun e w' => e = .returned (.bool true) ∧ Below w.heap.size w w' := by
  have CF := Lib.hid (fun W => fold_any { data := #[97, 98, 32, 99, 100, 32, 101, 102] } 5 (by decide) W)
  rw [show ({ data := #[97, 98, 32, 99, 100, 32, 101, 102] } : ByteArray).data.toList = [97, 98, 32, 99, 100, 32, 101, 102] from rfl, works_fold] at CF
  have CS := Lib.hid (fun W => split_any { data := #[97, 13, 10, 13, 10, 98] } (by decide) W)
  rw [show ({ data := #[97, 13, 10, 13, 10, 98] } : ByteArray).data.toList = [97, 13, 10, 13, 10, 98] from rfl, works_split] at CS
  have CE := Lib.hid (fun W => each_any { data := #[97, 13, 10, 32, 98, 13, 10, 99] } W)
  have hnf := fun (W : World) (B : Nat) => Laws.run_eql_func_nil W 31 _ _ _ (.func 29) #[] #[.pointer (some ⟨B, 0, none⟩)] Try.underlying31
  have eu := eg_unfolded
  go_enter Try.func18, Try.ntmps18
  go_wp2_with fail
  refine (CF.out _).mono ?_
  rintro e w1 ⟨v1, rfl, hS1, b1⟩
  go_wp2_with (go_at_call 16; refine (CE.out _).mono ?_; rintro e w' ⟨rfl, rfl⟩)
  have bn := Boxed.new w1 3 (.int .i64 0)
  have bs := Boxed.new (w1.alloc (.cells #[.int .i64 0] 3)) 9 (.string { data := #[97, 13, 10, 32, 98, 13, 10, 99] })
  have bf := Boxed.new ((w1.alloc (.cells #[.int .i64 0] 3)).alloc (.cells #[.string { data := #[97, 13, 10, 32, 98, 13, 10, 99] }] 9)) 39 (.func (.func 25) #[] #[.pointer (some ⟨w1.heap.size + 1, 0, none⟩)])
  simp only [World.size_alloc] at bs bf
  have bn' := (bn.alloc (.cells #[.string { data := #[97, 13, 10, 32, 98, 13, 10, 99] }] 9)).alloc (.cells #[.func (.func 25) #[] #[.pointer (some ⟨w1.heap.size + 1, 0, none⟩)]] 39)
  have bs' := bs.alloc (.cells #[.func (.func 25) #[] #[.pointer (some ⟨w1.heap.size + 1, 0, none⟩)]] 39)
  have hV : Below w1.heap.size w1 (((w1.alloc (.cells #[.int .i64 0] 3)).alloc (.cells #[.string { data := #[97, 13, 10, 32, 98, 13, 10, 99] }] 9)).alloc (.cells #[.func (.func 25) #[] #[.pointer (some ⟨w1.heap.size + 1, 0, none⟩)]] 39)) := (((Below.refl _ w1).alloc (Nat.le_refl _) _).alloc (by simp) _).alloc (by simp; omega) _
  have hz : (((w1.alloc (.cells #[.int .i64 0] 3)).alloc (.cells #[.string { data := #[97, 13, 10, 32, 98, 13, 10, 99] }] 9)).alloc (.cells #[.func (.func 25) #[] #[.pointer (some ⟨w1.heap.size + 1, 0, none⟩)]] 39)).heap.size = w1.heap.size + 3 := by simp
  clear bn bs
  generalize (((w1.alloc (.cells #[.int .i64 0] 3)).alloc (.cells #[.string { data := #[97, 13, 10, 32, 98, 13, 10, 99] }] 9)).alloc (.cells #[.func (.func 25) #[] #[.pointer (some ⟨w1.heap.size + 1, 0, none⟩)]] 39)) = V0 at *
  have sq := each_sq { data := #[97, 13, 10, 32, 98, 13, 10, 99] } (by decide) (w1.heap.size + 1) V0 bs' bf
  rw [works_each] at sq
  refine (sq (.func (.func 24) #[] #[.pointer (some ⟨w1.heap.size, 0, none⟩)]) (fun pre _ V => Boxed V w1.heap.size 3 (.int .i64 (accW pre : Int)) ∧ Below w1.heap.size V0 V) (fun _ _ _ => False) V0 (.inr ⟨_, _, rfl, eg_works⟩) (Stays.refl _ _)
    (Foot.and (Foot.boxed w1.heap.size 3 (fun pre => .int .i64 (accW pre : Int)) (by omega)) (Foot.below (by omega) (by omega))) (fun _ _ _ _ _ h _ _ _ => h) ?_ ⟨bn', Below.refl _ _⟩).mono ?_
  · rintro pre ⟨n, x⟩ O W1 ⟨hb, hB⟩ hO hzz hp
    have hmem := hp.subset (List.mem_append_right pre (List.mem_singleton.2 rfl))
    have hnx : n ≤ 1000 ∧ x.length ≤ 1000 := by
      simp only [List.mem_cons, Prod.mk.injEq, List.not_mem_nil, or_false] at hmem
      rcases hmem with ⟨rfl, rfl⟩ | ⟨rfl, rfl⟩ <;> decide
    have hacc := accW_pre ((List.prefix_append pre _).trans hp)
    have hacc2 : accW pre ≤ 1000 := Nat.le_trans hacc (by decide)
    refine .inr ⟨_, _, rfl, eg_works, (add_any (accW pre) n ⟨x.toArray⟩ w1.heap.size W1 hb hacc2 hnx.1 (by rw [mk_size]; exact hnx.2) (accW (pre ++ [(n, x)])) (by rw [mk_size]; exact accW_snoc pre (n, x))).mono ?_⟩
    rintro e W' ⟨rfl, rfl⟩
    exact ⟨(Stays.refl _ _).setCell _ _ (fun h => by rcases h with h | h | h; have := (hO _ h).1; omega; omega; omega), .inl ⟨rfl, hb.set _, hB.setCell (p := ⟨w1.heap.size, 0, none⟩) (Nat.le_refl _) _⟩⟩
  · rintro e W2 ⟨⟨rv, rfl⟩, O, hO, ⟨hb, hB⟩ | ⟨_, _, h⟩⟩
    · have hb6 : Boxed W2 w1.heap.size 3 (.int .i64 6) := hb
      have hB2 : Below w1.heap.size w1 W2 := hV.trans hB
      have hS2 := hS1.keep hB2
      obtain ⟨a, c, rfl, hat⟩ := strs_at hS2
      obtain ⟨g, rfl, hg, hd0⟩ := hat 0 (by decide)
      obtain ⟨g', he, _, hd1⟩ := hat 1 (by decide)
      cases he
      have hc0 : W2.cell? ⟨g, 0, none⟩ = some (.string { data := #[97, 98, 32, 99, 100] }) := hd0
      have hc1 : W2.cell? ⟨g, 1, none⟩ = some (.string { data := #[32, 101, 102] }) := hd1
      have hc6 := hb6.cell
      have CJ := Lib.hid (progJoin_any (.slice (some ⟨W2.heap.size, 0, none⟩) 1 1) [[97]] (by decide) (by decide) _ (one_text W2))
      rw [works_join] at CJ
      have HB := Lib.hid (b1.trans (hB2.mono b1.size))
      clear hat hd0 hd1 hb hB2 hS2 hS1 b1 hV hB sq bs' bf bn'
      go_wp2_with fail
      refine CJ.out.mono ?_
      rintro e w3 ⟨rfl, b3⟩
      go_wp2_with fail
      refine (CS.out _).mono ?_
      rintro e w4 ⟨v4, rfl, hS4, b4⟩
      obtain ⟨a4, c4, rfl, _⟩ := strs_at hS4
      have hz2 : w.heap.size ≤ W2.heap.size := HB.out.size
      have B3 : Below w.heap.size w w3 := (HB.out.alloc hz2 _).trans (b3.mono (by simp; omega))
      have B4 := B3.trans (b4.mono B3.size)
      go_wp2_with fail
      go_ret
      exact ⟨rfl, B4⟩
    · exact h.elim
end Go.Proofs.Ytcclicgjklmihaa.Ln
