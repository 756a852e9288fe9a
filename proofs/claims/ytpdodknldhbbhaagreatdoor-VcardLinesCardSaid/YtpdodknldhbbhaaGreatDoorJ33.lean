/-
Texts joined in one file, each with its own conditions: The program's reader takes a line, as the plain machine does. Conditions: the reader lies in memory as the plain machine's state; the line has at most 10000 bytes; the library's tables hold what the rows list. · The program's reader takes a line, in whatever state: it does what the plain machine does; the machine's states stay good. Conditions: the reader lies in memory as the plain machine's state; the line has at most 10000 bytes; the library's tables hold what the rows list. · The program's Parse of a card reads what the plain machine reads. Conditions: the text has at most 4000 bytes; the library's tables hold what the rows list. · Closed facts of one card, its text, and a text that is none. No program in it, no conditions. · The law's Great answers the plain one, at cards of any size. Conditions: the card lies below the caller's blocks. · The statement on lines holds, if the program's Print answers the plain text, and works() answers true. Conditions: the card lies below the caller's blocks, and no list of it is longer than 2^40.
-/
import Derived.Test.YtpdodknldhbbhaaGreatDoorJ32
import Derived.Test.YtpdodknldhbbhaaGreatDoorJ29
import Derived.Test.YtpdodknldhbbhaaGreatDoorJ30
import Derived.Test.YtpdodknldhbbhaaGreatDoorJ04
import Derived.Test.YtpdodknldhbbhaaGreatDoorJ03
import Derived.Test.YtpdodknldhbbhaaGreatDoorJ07
import Derived.Test.YtpdodknldhbbhaaGreatDoorJ26
import Derived.BigQuiet
import Derived.Deep.QuietTactic
import Derived.RegionTactic
namespace Go.Proofs.YtpdodknldhbbhaaGreatDoor.Vc
set_option maxRecDepth 100000
open Go.RowKit Pp Sq

theorem upB_list (s : ByteArray) : (upB s).toList = upS s := by
  unfold upB upS
  rw [ByteArray.toList_eq]
theorem trim_empty (s : ByteArray) : (⟨(Lib.trimS s.data.toList [32, 9]).toArray⟩ : ByteArray).toList.isEmpty = blank s.data.toList := by
  rw [← trimS_nil, ByteArray.toList_eq]
/-- append of a card to the open ones. -/
theorem OpAt.open_ {U : World} {rb base : Nat} {M : Nat → Prop} {os : List Fr} {ov : Value}
    (h : OpAt U rb base M (fun _ => False) os ov) (hlen : os.length ≤ 2) (hrb : rb < U.heap.size) (hbase : base ≤ U.heap.size) :
    ∃ v' w', (∀ ty, (Builtin.append_ #[49, 49] ty #[ov, .slice (some ⟨U.heap.size, 0, none⟩) 1 1]).run Tryz.prog (U.alloc (.cells #[.slice none 0 0] 24)) = .ok v' w') ∧
      OpAt w' rb base (fun k => M k ∨ U.heap.size ≤ k) (fun _ => False) ([] :: os) v' ∧ Stays (fun k => k < U.heap.size ∧ (k = rb ∨ ¬ M k)) U w' ∧ (∃ a c, v' = .slice a (os.length + 1) c) := by
  have hS : Stays (fun k => k < U.heap.size) U (U.alloc (.cells #[.slice none 0 0] 24)) := (Stays.refl _ U).alloc _ (fun k hk => hk)
  obtain ⟨F, vs, h1, h2, h3, h4, h5⟩ := h
  have hlz := h2.lt
  have hnX := h2.notX
  have h1' := row_stays h1 (w' := U.alloc (.cells #[.slice none 0 0] 24)) (fun k hk => hS.block k (own_lt h1 k hk).2)
  have h2' := FrsAt.move (F' := fun k => F k ∧ k < U.heap.size) (X' := fun k => k = rb ∨ ov.ownBlock = some k ∨ False) h2 (hS.mono fun k hk => hk.2) (fun b hb hlt => ⟨hb, hlt⟩) (fun w hw k hk => hS.block k (hlz w hw k hk).2) (fun w hw k hk => ⟨fun e => (hnX w hw k hk).1 e.1, (hnX w hw k hk).2⟩)
  obtain ⟨i0, hi, hz0, hz1, hz2⟩ := info_parts infoCd
  have hb : (U.alloc (.cells #[.slice none 0 0] 24)).heap[U.heap.size]? = some (.cells #[.slice none 0 0] 24 (0, 0)) := heap_alloc_new U _
  have hzs : (U.alloc (.cells #[.slice none 0 0] 24)).heap.size = U.heap.size + 1 := World.size_alloc _ _
  obtain ⟨v', w', hrun, hown, hgr, hpl⟩ := App.run_append_where (P := Tryz.prog) _ base 49 0 24 i0 _ 1 24 Tryz.underlying49 hi hz0 hz1 hz2 rfl (by decide) ov os.length vs.reverse h1' ⟨U.heap.size, 0, none⟩ 1 1 [.slice none 0 0] rfl
    (fun j u hj => by
      have hj5 : j = 0 := by have := (List.getElem?_eq_some_iff.1 hj).1; simp at this; exact this
      subst hj5
      have := cell_of_row _ U.heap.size 0 _ _ _ hb
      rw [Addr.add_block0, this]
      exact hj)
    (fun u hu => by simp only [List.mem_cons, List.not_mem_nil, or_false] at hu; subst hu; rfl) (by unfold maxLen; omega) (by omega) (by rw [hzs]; omega) (by decide)
  have hO := OpAt.push (M := M) (X := fun _ => False) h2' (fun k hk => h3 k hk.1) h4 h5 (by rw [hzs]; omega) (fun k hk => hk.elim) hown hgr (fun g e => by
    rcases hpl with h | h
    · exact .inl (h ▸ e)
    · rw [e] at h; cases h; exact .inr (Nat.le_refl _))
  refine ⟨v', w', fun ty => hrun, hO.move (Stays.refl _ _) (fun k h _ => h.imp id (fun e => by rw [hzs] at e; omega)) (fun k h => .inl h), ⟨hgr.os.trans hS.os, hgr.tape.trans hS.tape, hgr.output.trans hS.output, Nat.le_trans hS.size hgr.size, fun k hk => (hgr.block k (by rw [hzs]; have := hk.1; omega) (fun e => ?_)).trans (hS.block k hk.1)⟩, row_shape hown⟩
  rcases hk.2 with h | h
  · exact (h4 k e.symm).2.1 h
  · exact h (h4 k e.symm).1


set_option maxHeartbeats 800000 in
theorem take_blank (rb base : Nat) (M : Nat → Prop) (wa : Nat) (os : List Fr) (c : Crd) (k : Nat) (s : ByteArray) (w : World) (h : RdAt w rb base M (.at_ wa os c)) (hs : s.size ≤ 10000) (hbs : base ≤ w.heap.size) (hb : blank s.data.toList = true) :
    Calls Tryz.prog 29 #[.pointer (some ⟨rb, 0, none⟩), .int .i64 (k : Int), .string s] w (Took w rb base M (.go (.at_ wa os c))) := by
  obtain ⟨nu, ov, cv, g, n, pv, v, av, en, hR, hM, hO, hC⟩ := h
  have CT := Lib.hid (trim_any s w (by omega))
  have hbt := trim_empty s
  have CU := Lib.hid (fun W => pCaps_any s W (by omega))
  have hul := upB_list s
  have hrb := hR.lt
  have c10 := hR.c10
  have HR := Lib.hid hR
  have HO := Lib.hid hO
  have HC := Lib.hid hC
  have HBS := Lib.hid hbs
  clear hR hO hC hbs
  rw [hb] at hbt
  generalize (⟨(Lib.trimS s.data.toList [32, 9]).toArray⟩ : ByteArray) = T at CT hbt
  clear CU hul hb
  go_enter Tryz.func29, Tryz.ntmps29
  go_wp2_with fail
  refine CT.out.mono ?_
  rintro e w1 ⟨rfl, b1⟩
  have R1 := HR.out.kept (b1.block rb hrb)
  have hS : Stays (fun k => k < w.heap.size) w w1 := ⟨b1.os, b1.tape, b1.output, b1.size, fun k hk => b1.block k hk⟩
  go_wp2_with fail
  go_ret
  exact ⟨rfl, ⟨nu, ov, cv, g, n, pv, v, av, en, R1, .inl hM, HO.out.move (hS.mono fun k hk => hk.2.2.2) (fun k h _ => .inl h) (fun k h => .inl h), fun e => (HC.out e).move (hS.mono fun k hk => hk.2) (fun k h _ => ⟨.inl h.1, h.2⟩)⟩, hS.mono fun k hk => hk.1⟩

set_option maxHeartbeats 1600000 in
theorem take_begin (rb base : Nat) (M : Nat → Prop) (os : List Fr) (c : Crd) (k : Nat) (s : ByteArray) (w : World) (h : RdAt w rb base M (.at_ 0 os c)) (hs : s.size ≤ 10000) (hbs : base ≤ w.heap.size) (hb : blank s.data.toList = false) (hx : upS s = [66, 69, 71, 73, 78, 58, 86, 67, 65, 82, 68]) (hlen : os.length ≤ 2) :
    Calls Tryz.prog 29 #[.pointer (some ⟨rb, 0, none⟩), .int .i64 (k : Int), .string s] w (Took w rb base M (.go (.at_ 1 ([] :: os) c))) := by
  obtain ⟨nu, ov, cv, g, n, pv, v, av, en, hR, hM, hO, hC⟩ := h
  have CT := Lib.hid (trim_any s w (by omega))
  have hbt := trim_empty s
  have CU := Lib.hid (fun W => pCaps_any s W (by omega))
  have hul := upB_list s
  have hrb := hR.lt
  have c10 := hR.c10
  have HR := Lib.hid hR
  have HO := Lib.hid hO
  have HC := Lib.hid hC
  have HBS := Lib.hid hbs
  clear hR hO hC hbs
  obtain ⟨oa, oc, rfl⟩ := HO.out.shape
  rw [hb] at hbt
  generalize (⟨(Lib.trimS s.data.toList [32, 9]).toArray⟩ : ByteArray) = T at CT hbt
  have q1 : ((upB s).toList == [66, 69, 71, 73, 78, 58, 86, 67, 65, 82, 68]) = true := by rw [hul]; simpa using hx
  generalize upB s = X at CU hul q1
  clear hb hul
  go_enter Tryz.func29, Tryz.ntmps29
  go_wp2_with fail
  refine CT.out.mono ?_
  rintro e w1 ⟨rfl, b1⟩
  have R1 := HR.out.kept (b1.block rb hrb)
  have m1 := R1.c1
  have mf := R1.f 1
  have R2 := R1.set1 (k : Int)
  have hS1 : Stays (fun j => j < w.heap.size ∧ j ≠ rb) w (w1.setCell ⟨rb, 1, none⟩ (.int .i64 (k : Int))) := stays_set ⟨b1.os, b1.tape, b1.output, b1.size, fun j hj => b1.block j hj.1⟩ (fun h => h.2 rfl)
  go_wp2_with fail
  refine (CU.out _).mono ?_
  rintro e w2 ⟨rfl, b2⟩
  have hzz : w.heap.size ≤ (w1.setCell ⟨rb, 1, none⟩ (.int .i64 (k : Int))).heap.size := hS1.size
  have R3 := R2.kept (b2.block rb (by omega))
  have hS : Stays (fun j => j < w.heap.size ∧ j ≠ rb) w w2 := hS1.trans ⟨b2.os, b2.tape, b2.output, b2.size, fun j hj => b2.block j (by omega)⟩
  have hFV : Fin M w w2 := hS.mono fun j hj => ⟨hj.1, fun e => hj.2 (e ▸ hM)⟩
  have O3 := HO.out.move (M' := fun k => M k ∨ w.heap.size ≤ k) (X' := fun _ => False) (hS.mono fun j hj => ⟨hj.2.2.2, hj.2.1⟩) (fun k h _ => .inl h) (fun k h => .inl h)
  have r0 := R3.c0
  have r1 := R3.c1
  have r2 := R3.c2
  have f0 := R3.f 0
  have f2 := R3.f 2
  have hr3 := R3.lt
  have HF := Lib.hid (And.intro R3 (And.intro O3 (And.intro hS hFV)))
  have hz2 := hS.size
  clear R1 R2 R3 O3 hS hFV hS1 m1 mf c10
  obtain ⟨v', W3, hrun, hO3, hS3, ⟨va, vc, rfl⟩⟩ := HF.out.2.1.open_ hlen hr3 (by have := HBS.out; omega)
  have hrW := HF.out.1.kept (hS3.block rb ⟨hr3, .inl rfl⟩)
  have n0 := hrW.c0
  have n2 := hrW.c2
  have g0 := hrW.f 0
  have g2 := hrW.f 2
  have HW := Lib.hid (And.intro hrW (And.intro hO3 hS3))
  clear hrW hO3 hS3
  go_wp2_with (refine list_run rfl _ _ _ rfl _ _ _ rfl rfl hrun ?_)
  go_ret
  obtain ⟨hrW, hO3, hS3⟩ := HW.out
  have hS5 : Stays (fun j => j ≠ rb) W3 ((W3.setCell ⟨rb, 2, none⟩ (.slice va (os.length + 1) vc)).setCell ⟨rb, 0, none⟩ (.int .i64 1)) := stays_set (stays_set (Stays.refl _ W3) (fun h => h rfl)) (fun h => h rfl)
  refine ⟨rfl, ⟨_, _, _, _, _, _, _, _, _, (hrW.set2 _).set0 1, .inl hM, hO3.move (hS5.mono fun j hj => hj.2.1) (fun j h _ => h.elim id (fun e => .inr (Nat.le_trans hz2 e))) (fun j h => .inl h), fun e => by cases e⟩, (HF.out.2.2.2.trans (hS3.mono fun j hj => ⟨Nat.lt_of_lt_of_le hj.1 hz2, .inr (fun e => e.elim hj.2 (fun e => by have := hj.1; omega))⟩)).trans (hS5.mono fun j hj e => hj.2 (e ▸ hM))⟩

set_option maxHeartbeats 1600000 in
theorem take_noBegin (rb base : Nat) (M : Nat → Prop) (os : List Fr) (c : Crd) (k : Nat) (s : ByteArray) (w : World) (h : RdAt w rb base M (.at_ 0 os c)) (hs : s.size ≤ 10000) (hbs : base ≤ w.heap.size) (hb : blank s.data.toList = false) (hx : ¬ upS s = [66, 69, 71, 73, 78, 58, 86, 67, 65, 82, 68]) :
    Calls Tryz.prog 29 #[.pointer (some ⟨rb, 0, none⟩), .int .i64 (k : Int), .string s] w (Took w rb base M (.bad k 3)) := by
  obtain ⟨nu, ov, cv, g, n, pv, v, av, en, hR, hM, hO, hC⟩ := h
  have CT := Lib.hid (trim_any s w (by omega))
  have hbt := trim_empty s
  have CU := Lib.hid (fun W => pCaps_any s W (by omega))
  have hul := upB_list s
  have hrb := hR.lt
  have c10 := hR.c10
  have HR := Lib.hid hR
  have HO := Lib.hid hO
  have HC := Lib.hid hC
  have HBS := Lib.hid hbs
  clear hR hO hC hbs
  rw [hb] at hbt
  generalize (⟨(Lib.trimS s.data.toList [32, 9]).toArray⟩ : ByteArray) = T at CT hbt
  have q1 : ((upB s).toList == [66, 69, 71, 73, 78, 58, 86, 67, 65, 82, 68]) = false := by rw [hul]; simpa using hx
  generalize upB s = X at CU hul q1
  clear hb hul
  go_enter Tryz.func29, Tryz.ntmps29
  go_wp2_with fail
  refine CT.out.mono ?_
  rintro e w1 ⟨rfl, b1⟩
  have R1 := HR.out.kept (b1.block rb hrb)
  have m1 := R1.c1
  have mf := R1.f 1
  have R2 := R1.set1 (k : Int)
  have hS1 : Stays (fun j => j < w.heap.size ∧ j ≠ rb) w (w1.setCell ⟨rb, 1, none⟩ (.int .i64 (k : Int))) := stays_set ⟨b1.os, b1.tape, b1.output, b1.size, fun j hj => b1.block j hj.1⟩ (fun h => h.2 rfl)
  go_wp2_with fail
  refine (CU.out _).mono ?_
  rintro e w2 ⟨rfl, b2⟩
  have hzz : w.heap.size ≤ (w1.setCell ⟨rb, 1, none⟩ (.int .i64 (k : Int))).heap.size := hS1.size
  have R3 := R2.kept (b2.block rb (by omega))
  have hS : Stays (fun j => j < w.heap.size ∧ j ≠ rb) w w2 := hS1.trans ⟨b2.os, b2.tape, b2.output, b2.size, fun j hj => b2.block j (by omega)⟩
  have hFV : Fin M w w2 := hS.mono fun j hj => ⟨hj.1, fun e => hj.2 (e ▸ hM)⟩
  have O3 := HO.out.move (M' := fun k => M k ∨ w.heap.size ≤ k) (X' := fun _ => False) (hS.mono fun j hj => ⟨hj.2.2.2, hj.2.1⟩) (fun k h _ => .inl h) (fun k h => .inl h)
  have r0 := R3.c0
  have r1 := R3.c1
  have r2 := R3.c2
  have f0 := R3.f 0
  have f2 := R3.f 2
  have hr3 := R3.lt
  have HF := Lib.hid (And.intro R3 (And.intro O3 (And.intro hS hFV)))
  have hz2 := hS.size
  clear R1 R2 R3 O3 hS hFV hS1 m1 mf c10
  go_wp2_with fail
  go_ret
  exact ⟨rfl, r1, HF.out.2.2.2⟩

set_option maxHeartbeats 1600000 in
theorem take_version (rb base : Nat) (M : Nat → Prop) (os : List Fr) (c : Crd) (k : Nat) (s : ByteArray) (w : World) (h : RdAt w rb base M (.at_ 1 os c)) (hs : s.size ≤ 10000) (hbs : base ≤ w.heap.size) (hb : blank s.data.toList = false) (hx : upS s = [86, 69, 82, 83, 73, 79, 78, 58, 50, 46, 49]) :
    Calls Tryz.prog 29 #[.pointer (some ⟨rb, 0, none⟩), .int .i64 (k : Int), .string s] w (Took w rb base M (.go (.at_ 2 os c))) := by
  obtain ⟨nu, ov, cv, g, n, pv, v, av, en, hR, hM, hO, hC⟩ := h
  have CT := Lib.hid (trim_any s w (by omega))
  have hbt := trim_empty s
  have CU := Lib.hid (fun W => pCaps_any s W (by omega))
  have hul := upB_list s
  have hrb := hR.lt
  have c10 := hR.c10
  have HR := Lib.hid hR
  have HO := Lib.hid hO
  have HC := Lib.hid hC
  have HBS := Lib.hid hbs
  clear hR hO hC hbs
  rw [hb] at hbt
  generalize (⟨(Lib.trimS s.data.toList [32, 9]).toArray⟩ : ByteArray) = T at CT hbt
  have q1 : ((upB s).toList == [86, 69, 82, 83, 73, 79, 78, 58, 50, 46, 49]) = true := by rw [hul]; simpa using hx
  generalize upB s = X at CU hul q1
  clear hb hul
  go_enter Tryz.func29, Tryz.ntmps29
  go_wp2_with fail
  refine CT.out.mono ?_
  rintro e w1 ⟨rfl, b1⟩
  have R1 := HR.out.kept (b1.block rb hrb)
  have m1 := R1.c1
  have mf := R1.f 1
  have R2 := R1.set1 (k : Int)
  have hS1 : Stays (fun j => j < w.heap.size ∧ j ≠ rb) w (w1.setCell ⟨rb, 1, none⟩ (.int .i64 (k : Int))) := stays_set ⟨b1.os, b1.tape, b1.output, b1.size, fun j hj => b1.block j hj.1⟩ (fun h => h.2 rfl)
  go_wp2_with fail
  refine (CU.out _).mono ?_
  rintro e w2 ⟨rfl, b2⟩
  have hzz : w.heap.size ≤ (w1.setCell ⟨rb, 1, none⟩ (.int .i64 (k : Int))).heap.size := hS1.size
  have R3 := R2.kept (b2.block rb (by omega))
  have hS : Stays (fun j => j < w.heap.size ∧ j ≠ rb) w w2 := hS1.trans ⟨b2.os, b2.tape, b2.output, b2.size, fun j hj => b2.block j (by omega)⟩
  have hFV : Fin M w w2 := hS.mono fun j hj => ⟨hj.1, fun e => hj.2 (e ▸ hM)⟩
  have O3 := HO.out.move (M' := fun k => M k ∨ w.heap.size ≤ k) (X' := fun _ => False) (hS.mono fun j hj => ⟨hj.2.2.2, hj.2.1⟩) (fun k h _ => .inl h) (fun k h => .inl h)
  have r0 := R3.c0
  have r1 := R3.c1
  have r2 := R3.c2
  have f0 := R3.f 0
  have f2 := R3.f 2
  have hr3 := R3.lt
  have HF := Lib.hid (And.intro R3 (And.intro O3 (And.intro hS hFV)))
  have hz2 := hS.size
  clear R1 R2 R3 O3 hS hFV hS1 m1 mf c10
  go_wp2_with fail
  go_ret
  obtain ⟨R3, O3, hS, hFV⟩ := HF.out
  have hS5 : Stays (fun j => j ≠ rb) w2 (w2.setCell ⟨rb, 0, none⟩ (.int .i64 2)) := stays_set (Stays.refl _ w2) (fun h => h rfl)
  exact ⟨rfl, ⟨_, _, _, _, _, _, _, _, _, R3.set0 2, .inl hM, O3.move (hS5.mono fun j hj => hj.2.1) (fun j h _ => h) (fun j h => .inl h), fun e => by cases e⟩, hFV.trans (hS5.mono fun j hj e => hj.2 (e ▸ hM))⟩

set_option maxHeartbeats 1600000 in
theorem take_noVersion (rb base : Nat) (M : Nat → Prop) (os : List Fr) (c : Crd) (k : Nat) (s : ByteArray) (w : World) (h : RdAt w rb base M (.at_ 1 os c)) (hs : s.size ≤ 10000) (hbs : base ≤ w.heap.size) (hb : blank s.data.toList = false) (hx : ¬ upS s = [86, 69, 82, 83, 73, 79, 78, 58, 50, 46, 49]) :
    Calls Tryz.prog 29 #[.pointer (some ⟨rb, 0, none⟩), .int .i64 (k : Int), .string s] w (Took w rb base M (.bad k 3)) := by
  obtain ⟨nu, ov, cv, g, n, pv, v, av, en, hR, hM, hO, hC⟩ := h
  have CT := Lib.hid (trim_any s w (by omega))
  have hbt := trim_empty s
  have CU := Lib.hid (fun W => pCaps_any s W (by omega))
  have hul := upB_list s
  have hrb := hR.lt
  have c10 := hR.c10
  have HR := Lib.hid hR
  have HO := Lib.hid hO
  have HC := Lib.hid hC
  have HBS := Lib.hid hbs
  clear hR hO hC hbs
  rw [hb] at hbt
  generalize (⟨(Lib.trimS s.data.toList [32, 9]).toArray⟩ : ByteArray) = T at CT hbt
  have q1 : ((upB s).toList == [86, 69, 82, 83, 73, 79, 78, 58, 50, 46, 49]) = false := by rw [hul]; simpa using hx
  generalize upB s = X at CU hul q1
  clear hb hul
  go_enter Tryz.func29, Tryz.ntmps29
  go_wp2_with fail
  refine CT.out.mono ?_
  rintro e w1 ⟨rfl, b1⟩
  have R1 := HR.out.kept (b1.block rb hrb)
  have m1 := R1.c1
  have mf := R1.f 1
  have R2 := R1.set1 (k : Int)
  have hS1 : Stays (fun j => j < w.heap.size ∧ j ≠ rb) w (w1.setCell ⟨rb, 1, none⟩ (.int .i64 (k : Int))) := stays_set ⟨b1.os, b1.tape, b1.output, b1.size, fun j hj => b1.block j hj.1⟩ (fun h => h.2 rfl)
  go_wp2_with fail
  refine (CU.out _).mono ?_
  rintro e w2 ⟨rfl, b2⟩
  have hzz : w.heap.size ≤ (w1.setCell ⟨rb, 1, none⟩ (.int .i64 (k : Int))).heap.size := hS1.size
  have R3 := R2.kept (b2.block rb (by omega))
  have hS : Stays (fun j => j < w.heap.size ∧ j ≠ rb) w w2 := hS1.trans ⟨b2.os, b2.tape, b2.output, b2.size, fun j hj => b2.block j (by omega)⟩
  have hFV : Fin M w w2 := hS.mono fun j hj => ⟨hj.1, fun e => hj.2 (e ▸ hM)⟩
  have O3 := HO.out.move (M' := fun k => M k ∨ w.heap.size ≤ k) (X' := fun _ => False) (hS.mono fun j hj => ⟨hj.2.2.2, hj.2.1⟩) (fun k h _ => .inl h) (fun k h => .inl h)
  have r0 := R3.c0
  have r1 := R3.c1
  have r2 := R3.c2
  have f0 := R3.f 0
  have f2 := R3.f 2
  have hr3 := R3.lt
  have HF := Lib.hid (And.intro R3 (And.intro O3 (And.intro hS hFV)))
  have hz2 := hS.size
  clear R1 R2 R3 O3 hS hFV hS1 m1 mf c10
  go_wp2_with fail
  go_ret
  exact ⟨rfl, r1, HF.out.2.2.2⟩

set_option maxHeartbeats 1600000 in
theorem take_more (rb base : Nat) (M : Nat → Prop) (os : List Fr) (c : Crd) (k : Nat) (s : ByteArray) (w : World) (h : RdAt w rb base M (.at_ 3 os c)) (hs : s.size ≤ 10000) (hbs : base ≤ w.heap.size) (hb : blank s.data.toList = false) :
    Calls Tryz.prog 29 #[.pointer (some ⟨rb, 0, none⟩), .int .i64 (k : Int), .string s] w (Took w rb base M (.bad k 6)) := by
  obtain ⟨nu, ov, cv, g, n, pv, v, av, en, hR, hM, hO, hC⟩ := h
  have CT := Lib.hid (trim_any s w (by omega))
  have hbt := trim_empty s
  have CU := Lib.hid (fun W => pCaps_any s W (by omega))
  have hul := upB_list s
  have hrb := hR.lt
  have c10 := hR.c10
  have HR := Lib.hid hR
  have HO := Lib.hid hO
  have HC := Lib.hid hC
  have HBS := Lib.hid hbs
  clear hR hO hC hbs
  rw [hb] at hbt
  generalize (⟨(Lib.trimS s.data.toList [32, 9]).toArray⟩ : ByteArray) = T at CT hbt
  generalize upB s = X at CU hul
  clear hb hul
  go_enter Tryz.func29, Tryz.ntmps29
  go_wp2_with fail
  refine CT.out.mono ?_
  rintro e w1 ⟨rfl, b1⟩
  have R1 := HR.out.kept (b1.block rb hrb)
  have m1 := R1.c1
  have mf := R1.f 1
  have R2 := R1.set1 (k : Int)
  have hS1 : Stays (fun j => j < w.heap.size ∧ j ≠ rb) w (w1.setCell ⟨rb, 1, none⟩ (.int .i64 (k : Int))) := stays_set ⟨b1.os, b1.tape, b1.output, b1.size, fun j hj => b1.block j hj.1⟩ (fun h => h.2 rfl)
  go_wp2_with fail
  refine (CU.out _).mono ?_
  rintro e w2 ⟨rfl, b2⟩
  have hzz : w.heap.size ≤ (w1.setCell ⟨rb, 1, none⟩ (.int .i64 (k : Int))).heap.size := hS1.size
  have R3 := R2.kept (b2.block rb (by omega))
  have hS : Stays (fun j => j < w.heap.size ∧ j ≠ rb) w w2 := hS1.trans ⟨b2.os, b2.tape, b2.output, b2.size, fun j hj => b2.block j (by omega)⟩
  have hFV : Fin M w w2 := hS.mono fun j hj => ⟨hj.1, fun e => hj.2 (e ▸ hM)⟩
  have O3 := HO.out.move (M' := fun k => M k ∨ w.heap.size ≤ k) (X' := fun _ => False) (hS.mono fun j hj => ⟨hj.2.2.2, hj.2.1⟩) (fun k h _ => .inl h) (fun k h => .inl h)
  have r0 := R3.c0
  have r1 := R3.c1
  have r2 := R3.c2
  have f0 := R3.f 0
  have f2 := R3.f 2
  have hr3 := R3.lt
  have HF := Lib.hid (And.intro R3 (And.intro O3 (And.intro hS hFV)))
  have hz2 := hS.size
  clear R1 R2 R3 O3 hS hFV hS1 m1 mf c10
  go_wp2_with fail
  go_ret
  exact ⟨rfl, r1, HF.out.2.2.2⟩

set_option maxHeartbeats 1600000 in
theorem take_end (rb base : Nat) (M : Nat → Prop) (f : Fr) (os : List Fr) (c : Crd) (k : Nat) (s : ByteArray) (w : World) (h : RdAt w rb base M (.at_ 2 (f :: os) c)) (hs : s.size ≤ 10000) (hbs : base ≤ w.heap.size) (hb : blank s.data.toList = false) (hx : upS s = [69, 78, 68, 58, 86, 67, 65, 82, 68]) (hos : os.length ≤ 2) (hne : ∀ g ∈ os, g ≠ [] ∧ g.length ≤ 24) :
    Calls Tryz.prog 29 #[.pointer (some ⟨rb, 0, none⟩), .int .i64 (k : Int), .string s] w (Took w rb base M (.go (Vm.ended (G := G) (f :: os) c))) := by
  obtain ⟨nu, ov, cv, g, n, pv, v, av, en, hR, hM, hO, hC⟩ := h
  have CT := Lib.hid (trim_any s w (by omega))
  have hbt := trim_empty s
  have CU := Lib.hid (fun W => pCaps_any s W (by omega))
  have hul := upB_list s
  have hrb := hR.lt
  have c10 := hR.c10
  have HR := Lib.hid hR
  have HO := Lib.hid hO
  have HC := Lib.hid hC
  have HBS := Lib.hid hbs
  clear hR hO hC hbs
  rw [hb] at hbt
  generalize (⟨(Lib.trimS s.data.toList [32, 9]).toArray⟩ : ByteArray) = T at CT hbt
  have q1 : ((upB s).toList == [69, 78, 68, 58, 86, 67, 65, 82, 68]) = true := by rw [hul]; simpa using hx
  generalize upB s = X at CU hul q1
  clear hb hul
  go_enter Tryz.func29, Tryz.ntmps29
  go_wp2_with fail
  refine CT.out.mono ?_
  rintro e w1 ⟨rfl, b1⟩
  have R1 := HR.out.kept (b1.block rb hrb)
  have m1 := R1.c1
  have mf := R1.f 1
  have R2 := R1.set1 (k : Int)
  have hS1 : Stays (fun j => j < w.heap.size ∧ j ≠ rb) w (w1.setCell ⟨rb, 1, none⟩ (.int .i64 (k : Int))) := stays_set ⟨b1.os, b1.tape, b1.output, b1.size, fun j hj => b1.block j hj.1⟩ (fun h => h.2 rfl)
  go_wp2_with fail
  refine (CU.out _).mono ?_
  rintro e w2 ⟨rfl, b2⟩
  have hzz : w.heap.size ≤ (w1.setCell ⟨rb, 1, none⟩ (.int .i64 (k : Int))).heap.size := hS1.size
  have R3 := R2.kept (b2.block rb (by omega))
  have hS : Stays (fun j => j < w.heap.size ∧ j ≠ rb) w w2 := hS1.trans ⟨b2.os, b2.tape, b2.output, b2.size, fun j hj => b2.block j (by omega)⟩
  have hFV : Fin M w w2 := hS.mono fun j hj => ⟨hj.1, fun e => hj.2 (e ▸ hM)⟩
  have O3 := HO.out.move (M' := fun k => M k ∨ w.heap.size ≤ k) (X' := fun _ => False) (hS.mono fun j hj => ⟨hj.2.2.2, hj.2.1⟩) (fun k h _ => .inl h) (fun k h => .inl h)
  have r0 := R3.c0
  have r1 := R3.c1
  have r2 := R3.c2
  have f0 := R3.f 0
  have f2 := R3.f 2
  have hr3 := R3.lt
  have HF := Lib.hid (And.intro R3 (And.intro O3 (And.intro hS hFV)))
  have hz2 := hS.size
  clear R1 R2 R3 O3 hS hFV hS1 m1 mf c10
  have CE : Hid (Calls Tryz.prog 53 #[.pointer (some ⟨rb, 0, none⟩)] w2 fun e w' => (∃ v, e = .returned v) ∧ RdAt w' rb base (fun k => (M k ∨ w.heap.size ≤ k) ∨ w2.heap.size ≤ k) (Vm.ended (G := G) (f :: os) c) ∧ Fin (fun k => M k ∨ w.heap.size ≤ k) w2 w') := Lib.hid (by
    have hat : RdAt w2 rb base (fun k => M k ∨ w.heap.size ≤ k) (.at_ 2 (f :: os) c) := ⟨_, _, _, _, _, _, _, _, _, HF.out.1, .inl hM, HF.out.2.1, fun e => by cases e⟩
    cases os with
    | nil => exact end_one rb base _ f c w2 hat
    | cons g os => exact end_two rb base _ f g os c w2 hat (by simp at hos; omega) (hne g (List.mem_cons_self ..)).1 (hne g (List.mem_cons_self ..)).2)
  go_wp2_with fail
  refine CE.out.mono ?_
  rintro e w' ⟨⟨x, rfl⟩, hat, hfin⟩
  go_wp2_with fail
  go_ret
  exact took_from (O := .go _) HF.out.2.2.2 ⟨rfl, hat, hfin⟩

set_option maxHeartbeats 1600000 in
theorem take_prop (rb base : Nat) (M : Nat → Prop) (f : Fr) (os : List Fr) (c : Crd) (k : Nat) (s : ByteArray) (w : World) (h : RdAt w rb base M (.at_ 2 (f :: os) c)) (hs : s.size ≤ 10000) (hbs : base ≤ w.heap.size) (hb : blank s.data.toList = false) (hx : ¬ upS s = [69, 78, 68, 58, 86, 67, 65, 82, 68]) (hos : os.length ≤ 2) (hf : f.length ≤ 24) (HTab : ∀ W, Fin M w W → Qu.Tabs W) :
    Calls Tryz.prog 29 #[.pointer (some ⟨rb, 0, none⟩), .int .i64 (k : Int), .string s] w (Took w rb base M (Vm.takeP (G := G) k (f :: os) c s)) := by
  obtain ⟨nu, ov, cv, g, n, pv, v, av, en, hR, hM, hO, hC⟩ := h
  have CT := Lib.hid (trim_any s w (by omega))
  have hbt := trim_empty s
  have CU := Lib.hid (fun W => pCaps_any s W (by omega))
  have hul := upB_list s
  have hrb := hR.lt
  have c10 := hR.c10
  have HR := Lib.hid hR
  have HO := Lib.hid hO
  have HC := Lib.hid hC
  have HBS := Lib.hid hbs
  clear hR hO hC hbs
  obtain ⟨OUT, hOUT⟩ : ∃ O, Vm.takeP (G := G) k (f :: os) c s = O := ⟨_, rfl⟩
  rw [hOUT]
  rw [hb] at hbt
  generalize (⟨(Lib.trimS s.data.toList [32, 9]).toArray⟩ : ByteArray) = T at CT hbt
  have q1 : ((upB s).toList == [69, 78, 68, 58, 86, 67, 65, 82, 68]) = false := by rw [hul]; simpa using hx
  generalize upB s = X at CU hul q1
  clear hb hul
  go_enter Tryz.func29, Tryz.ntmps29
  go_wp2_with fail
  refine CT.out.mono ?_
  rintro e w1 ⟨rfl, b1⟩
  have R1 := HR.out.kept (b1.block rb hrb)
  have m1 := R1.c1
  have mf := R1.f 1
  have R2 := R1.set1 (k : Int)
  have hS1 : Stays (fun j => j < w.heap.size ∧ j ≠ rb) w (w1.setCell ⟨rb, 1, none⟩ (.int .i64 (k : Int))) := stays_set ⟨b1.os, b1.tape, b1.output, b1.size, fun j hj => b1.block j hj.1⟩ (fun h => h.2 rfl)
  go_wp2_with fail
  refine (CU.out _).mono ?_
  rintro e w2 ⟨rfl, b2⟩
  have hzz : w.heap.size ≤ (w1.setCell ⟨rb, 1, none⟩ (.int .i64 (k : Int))).heap.size := hS1.size
  have R3 := R2.kept (b2.block rb (by omega))
  have hS : Stays (fun j => j < w.heap.size ∧ j ≠ rb) w w2 := hS1.trans ⟨b2.os, b2.tape, b2.output, b2.size, fun j hj => b2.block j (by omega)⟩
  have hFV : Fin M w w2 := hS.mono fun j hj => ⟨hj.1, fun e => hj.2 (e ▸ hM)⟩
  have O3 := HO.out.move (M' := fun k => M k ∨ w.heap.size ≤ k) (X' := fun _ => False) (hS.mono fun j hj => ⟨hj.2.2.2, hj.2.1⟩) (fun k h _ => .inl h) (fun k h => .inl h)
  have r0 := R3.c0
  have r1 := R3.c1
  have r2 := R3.c2
  have f0 := R3.f 0
  have f2 := R3.f 2
  have hr3 := R3.lt
  have HF := Lib.hid (And.intro R3 (And.intro O3 (And.intro hS hFV)))
  have hz2 := hS.size
  clear R1 R2 R3 O3 hS hFV hS1 m1 mf c10
  have CE := Lib.hid (takeProp_any rb base (fun k => M k ∨ w.heap.size ≤ k) k f os c s _ _ _ _ _ _ _ _ w2 HF.out.1 (.inl hM) HF.out.2.1 hos hf hs (by have := HBS.out; omega) (fun W hW => HTab W (HF.out.2.2.2.trans (hW.mono fun j hj => ⟨Nat.lt_of_lt_of_le hj.1 hz2, fun e => e.elim hj.2 (fun e => by have := hj.1; omega)⟩))))
  rw [hOUT] at CE
  clear HTab
  go_wp2_with fail
  refine CE.out.mono ?_
  rintro e w' ht
  obtain ⟨x, rfl⟩ : ∃ x, e = .returned (.int .i64 x) := by
    cases OUT with
    | go s => exact ⟨_, ht.1⟩
    | bad k' er => exact ⟨_, ht.1⟩
  go_wp2_with fail
  go_ret
  exact took_from HF.out.2.2.2 ht

end Go.Proofs.YtpdodknldhbbhaaGreatDoor.Vc

namespace Go.Proofs.YtpdodknldhbbhaaGreatDoor.Vc
set_option maxRecDepth 100000
open Go.RowKit Pp Sq

set_option maxHeartbeats 1600000 in
/-- A line of a value that goes on. -/
theorem take_on (rb base : Nat) (M : Nat → Prop) (k' k : Nat) (f : Fr) (os : List Fr) (c : Crd) (q : Par) (s : ByteArray) (w : World) (h : RdAt w rb base M (.on k (f :: os) c q)) (hos : os.length ≤ 2) (hf : f.length < 24)
    (hv : q.v.size + s.size ≤ 1048576) (hl : q.ps.length ≤ 100) (hps : ∀ x ∈ q.ps, x.2.size ≤ 1048576) (hqp : (wayV q.ps).toList = [81, 85, 79, 84, 69, 68, 45, 80, 82, 73, 78, 84, 65, 66, 76, 69]) (hbs : base ≤ w.heap.size) (HTab : ∀ W, Fin M w W → Qu.Tabs W) :
    Calls Tryz.prog 29 #[.pointer (some ⟨rb, 0, none⟩), .int .i64 (k' : Int), .string s] w (Took w rb base M (Vm.takeV (G := G) k (f :: os) c { q with v := q.v ++ s })) := by
  obtain ⟨ov, cv, pv, hR, hM, hown, hpvM, hO⟩ := h
  have hS : Stays (fun j => j ≠ rb) w (w.setCell ⟨rb, 7, none⟩ (.string (q.v ++ s))) := stays_set (Stays.refl _ w) (fun h => h rfl)
  have hz : (w.setCell ⟨rb, 7, none⟩ (.string (q.v ++ s))).heap.size = w.heap.size := World.size_setCell ..
  have hF1 : Fin M w (w.setCell ⟨rb, 7, none⟩ (.string (q.v ++ s))) := hS.mono fun j hj e => hj.2 (e ▸ hM)
  have hS2 : Stays (fun j => j ≠ rb) w (((w.setCell ⟨rb, 7, none⟩ (.string (q.v ++ s))).setCell ⟨rb, 7, none⟩ (.string (q.v ++ s))).setCell ⟨rb, 10, none⟩ (.bool false)) := stays_set (stays_set hS (fun h => h rfl)) (fun h => h rfl)
  have hqs : (q.v ++ s).size = q.v.size + s.size := ByteArray.size_append
  have hd := decW_size (wayV q.ps) (q.v ++ s)
  have CV := takeValue_any rb base M k f os c { q with v := q.v ++ s } true ov cv pv _ (hR.set7 (q.v ++ s)) (fun _ => hqp) hM (row_stays hown (fun g e => hS.block g (hpvM g e).2)) hpvM (hO.move (hS.mono fun j hj => hj.2.1) (fun j h _ => h) (fun j h => .inl h)) hos hf (by show (q.v ++ s).size ≤ _; omega) hl hps (by rw [hz]; exact hbs) (HTab _ hF1) (HTab _ (hS2.mono fun j hj e => hj.2 (e ▸ hM))) (by show (decW (wayV q.ps) (q.v ++ s)).1.size ≤ _; omega)
  obtain ⟨OUT, hOUT⟩ : ∃ O, Vm.takeV (G := G) k (f :: os) c { q with v := q.v ++ s } = O := ⟨_, rfl⟩
  rw [hOUT] at CV ⊢
  have HCV := Lib.hid CV
  have HF1 := Lib.hid (And.intro hF1 hz)
  have c10 := hR.c10
  have c7 := hR.c7
  have f7 := hR.f 7
  have hsz : q.v.size ≤ 1048576 := by omega
  have hsz2 : s.size ≤ 1048576 := by omega
  clear CV hOUT hd hqs hS2 hF1 hS hO hown hpvM hR HTab hps hqp hz
  go_enter Tryz.func29, Tryz.ntmps29
  go_wp2_with fail
  refine HCV.out.mono ?_
  rintro e w' ht
  obtain ⟨x, rfl⟩ : ∃ x, e = .returned (.int .i64 x) := by
    cases OUT with
    | go s => exact ⟨_, ht.1⟩
    | bad k' er => exact ⟨_, ht.1⟩
  go_wp2_with fail
  go_ret
  obtain ⟨hF1, hz⟩ := HF1.out
  have hF2 : ∀ W, Fin M (w.setCell ⟨rb, 7, none⟩ (.string (q.v ++ s))) W → Fin M w W := fun W h => Stays.trans hF1 (h.mono fun j hj => ⟨by rw [hz]; exact hj.1, hj.2⟩)
  unfold Took at ht ⊢
  rw [hz] at ht
  cases OUT with
  | go s => exact ⟨ht.1, ht.2.1, hF2 _ ht.2.2⟩
  | bad k' er => exact ⟨ht.1, ht.2.1, hF2 _ ht.2.2⟩

/-- A state that may be; N: the bytes of the value so far. -/
def Okay (N : Nat) : Vm.St G → Prop
  | .at_ wa os _ => os.length ≤ 3 ∧ (∀ f ∈ os, f.length ≤ 24) ∧ (∀ f ∈ os.tail, f ≠ []) ∧ wa ≤ 3 ∧ (wa = 0 → os.length ≤ 2 ∧ ∀ f ∈ os, f ≠ []) ∧ (wa = 1 ∨ wa = 2 → os ≠ [])
  | .on _ os _ q => os.length ≤ 3 ∧ (∀ f ∈ os, f.length ≤ 24) ∧ (∀ f ∈ os.tail, f ≠ []) ∧ (∃ f r, os = f :: r ∧ f.length < 24) ∧ q.v.size ≤ N ∧ q.ps.length ≤ 100 ∧ (∀ x ∈ q.ps, x.2.size ≤ 1048576) ∧ (wayV q.ps).toList = [81, 85, 79, 84, 69, 68, 45, 80, 82, 73, 78, 84, 65, 66, 76, 69]
theorem on_some {q q' : Par} (h : G.on q = some q') : (wayV q.ps).toList = [81, 85, 79, 84, 69, 68, 45, 80, 82, 73, 78, 84, 65, 66, 76, 69] ∧ q' = { q with v := cutM q.v } := by
  have h : (if (wayV q.ps).toList = [81, 85, 79, 84, 69, 68, 45, 80, 82, 73, 78, 84, 65, 66, 76, 69] ∧ markB q.v = true then some { q with v := cutM q.v } else none) = some q' := h
  split at h
  · rename_i hc; exact ⟨hc.1, (Option.some.inj h).symm⟩
  · cases h
theorem cutM_size (v : ByteArray) : (cutM v).size ≤ v.size := by
  unfold cutM
  rw [mk_size, List.length_dropLast]
  have : v.data.toList.length = v.size := by rw [Array.length_toList]; rfl
  omega
theorem okay_takeD {N k : Nat} {f : Fr} {os : List Fr} {c : Crd} {q : Par} {s : Vm.St G} (hos : os.length ≤ 2) (hall : ∀ g ∈ os, g.length ≤ 24) (hne : ∀ g ∈ os, g ≠ []) (hf : f.length < 24) (h : Vm.takeD (G := G) k (f :: os) c q = .go s) : Okay N s := by
  unfold Vm.takeD at h
  have hl : ∀ p : Pd × List Crd, ∀ g ∈ (f ++ [p]) :: os, g.length ≤ 24 := fun p g hg => by
    rcases List.mem_cons.1 hg with rfl | hg
    · simp; omega
    · exact hall g hg
  split at h
  · cases h
  · split at h
    · cases h
      exact ⟨by show ((f ++ [_]) :: os).length ≤ 3; simp; omega, hl _, hne, by decide, (fun e => by cases e), (fun _ e => by cases e)⟩
    · split at h
      · cases h
      · split at h
        · cases h
        · rename_i h3
          cases h
          refine ⟨by show ((f ++ [_]) :: os).length ≤ 3; simp; omega, hl _, hne, by decide, fun _ => ⟨?_, ?_⟩, (fun e => by rcases e with e | e <;> cases e)⟩
          · show ((f ++ [_]) :: os).length ≤ 2
            simp at h3 ⊢; omega
          · intro g hg
            rcases List.mem_cons.1 hg with rfl | hg
            · simp
            · exact hne g hg
theorem okay_takeV {N k : Nat} {f : Fr} {os : List Fr} {c : Crd} {q : Par} {s : Vm.St G} (hos : os.length ≤ 2) (hall : ∀ g ∈ os, g.length ≤ 24) (hne : ∀ g ∈ os, g ≠ []) (hf : f.length < 24) (hv : q.v.size ≤ N) (hl : q.ps.length ≤ 100) (hps : ∀ x ∈ q.ps, x.2.size ≤ 1048576) (h : Vm.takeV (G := G) k (f :: os) c q = .go s) : Okay N s := by
  unfold Vm.takeV at h
  cases ho : G.on q with
  | none => rw [ho] at h; exact okay_takeD hos hall hne hf h
  | some q' =>
    rw [ho] at h
    cases h
    obtain ⟨hqp, rfl⟩ := on_some ho
    refine ⟨by simp; omega, fun g hg => ?_, hne, ⟨f, os, rfl, hf⟩, Nat.le_trans (cutM_size _) hv, hl, hps, hqp⟩
    rcases List.mem_cons.1 hg with rfl | hg
    · omega
    · exact hall g hg
/-- The machine's states stay good. -/
theorem okay_step {N k : Nat} {s s' : Vm.St G} {t : ByteArray} (hN : 2400 ≤ N) (h : Okay N s) (hst : Vm.step (G := G) s (k, t) = .go s') : Okay (N + t.size) s' := by
  cases s with
  | on k' os c q =>
    obtain ⟨h1, h2, h3, ⟨f, r, rfl, hf⟩, h5, h6, h7, h8⟩ := h
    have hst : Vm.takeV (G := G) k' (f :: r) c { q with v := q.v ++ t } = .go s' := hst
    exact okay_takeV (q := { q with v := q.v ++ t }) (by simp at h1; omega) (fun g hg => h2 g (List.mem_cons_of_mem _ hg)) h3 hf (by show (q.v ++ t).size ≤ _; rw [ByteArray.size_append]; omega) h6 h7 hst
  | at_ wa os c =>
    obtain ⟨h1, h2, h3, h4, h5, h6⟩ := h
    unfold Vm.step at hst
    simp only at hst
    by_cases hbl : blank t.data.toList = true
    · have hbl' : G.bl t = true := hbl
      rw [if_pos hbl'] at hst
      cases hst
      exact ⟨h1, h2, h3, h4, h5, h6⟩
    · have hbl' : ¬ G.bl t = true := hbl
      rw [if_neg hbl'] at hst
      unfold Vm.takeL at hst
      split at hst
      · rename_i hc
        cases hst
        obtain ⟨hw, _⟩ := hc
        obtain ⟨g1, g2⟩ := h5 hw
        refine ⟨by simp; omega, fun g hg => ?_, g2, by decide, (fun e => by cases e), (fun _ e => by cases e)⟩
        rcases List.mem_cons.1 hg with rfl | hg
        · simp
        · exact h2 g hg
      · split at hst
        · rename_i hc
          cases hst
          exact ⟨h1, h2, h3, by decide, (fun e => by cases e), fun _ => h6 (.inl hc.1)⟩
        · split at hst
          · cases hst
          · split at hst
            · cases hst
            · rename_i hw1 hw3
              have hw2 : wa = 2 := by omega
              obtain ⟨f, r, rfl⟩ := List.exists_cons_of_ne_nil (h6 (.inr hw2))
              split at hst
              · cases hst
                cases r with
                | nil => exact ⟨by simp, (fun g hg => by cases hg), (fun g hg => by cases hg), by decide, (fun e => by cases e), (fun e => by rcases e with e | e <;> cases e)⟩
                | cons g r =>
                  have hg24 := h2 g (List.mem_cons_of_mem _ (List.mem_cons_self ..))
                  have hgne := h3 g (List.mem_cons_self ..)
                  refine ⟨by simp at h1 ⊢; omega, fun x hx => ?_, fun x hx => h3 x (List.mem_cons_of_mem _ hx), by decide, (fun e => by cases e), (fun _ e => by cases e)⟩
                  rcases List.mem_cons.1 hx with rfl | hx
                  · rw [← setF_eq]
                    unfold setF
                    rw [List.getLast?_eq_some_getLast hgne]
                    have := List.length_pos_iff.2 hgne
                    simp; omega
                  · exact h2 x (List.mem_cons_of_mem _ (List.mem_cons_of_mem _ hx))
              · unfold Vm.takeP at hst
                split at hst
                · cases hst
                · rename_i h24
                  split at hst
                  · cases hst
                  · rename_i her
                    have her' : (parse t).err = 0 := by
                      by_cases he : (parse t).err = 0
                      · exact he
                      · exact absurd he her
                    obtain ⟨p6, pv, pp⟩ := parse_few her'
                    have h24' : ¬ f.length = 24 := h24
                    exact okay_takeV (q := parse t) (by simp at h1; omega) (fun g hg => h2 g (List.mem_cons_of_mem _ hg)) h3 (by have := h2 f (List.mem_cons_self ..); omega) (by show (parse t).v.size ≤ _; omega) (by show (parse t).ps.length ≤ 100; omega) pp hst

/-- A line, in whatever state. -/
theorem take_any (rb base : Nat) (M : Nat → Prop) (N k : Nat) (s : Vm.St G) (t : ByteArray) (w : World) (h : RdAt w rb base M s) (hok : Okay N s) (hN : N + t.size ≤ 1048576) (ht : t.size ≤ 10000) (hbs : base ≤ w.heap.size) (HTab : ∀ W, Fin M w W → Qu.Tabs W) :
    Calls Tryz.prog 29 #[.pointer (some ⟨rb, 0, none⟩), .int .i64 (k : Int), .string t] w (Took w rb base M (Vm.step (G := G) s (k, t))) := by
  cases s with
  | on k' os c q =>
    obtain ⟨h1, h2, h3, ⟨f, r, rfl, hf⟩, h5, h6, h7, h8⟩ := hok
    exact take_on rb base M k k' f r c q t w h (by simp at h1; omega) hf (by omega) h6 h7 h8 hbs HTab
  | at_ wa os c =>
    obtain ⟨h1, h2, h3, h4, h5, h6⟩ := hok
    unfold Vm.step
    simp only
    cases hbl : blank t.data.toList
    · rw [if_neg (by simp : ¬ false = true)]
      unfold Vm.takeL
      have hw : wa = 0 ∨ wa = 1 ∨ wa = 2 ∨ wa = 3 := by omega
      rcases hw with rfl | rfl | rfl | rfl
      · by_cases hx : upS t = [66, 69, 71, 73, 78, 58, 86, 67, 65, 82, 68]
        · rw [if_pos ⟨rfl, by show decide _ = true; simp [hx]⟩]
          exact take_begin rb base M os c k t w h ht hbs hbl hx (h5 rfl).1
        · rw [if_neg (fun e => hx (of_decide_eq_true e.2)), if_neg (fun e => by cases e.1), if_pos (.inl rfl)]
          exact take_noBegin rb base M os c k t w h ht hbs hbl hx
      · by_cases hx : upS t = [86, 69, 82, 83, 73, 79, 78, 58, 50, 46, 49]
        · rw [if_neg (fun e => by cases e.1), if_pos ⟨rfl, by show decide _ = true; simp [hx]⟩]
          exact take_version rb base M os c k t w h ht hbs hbl hx
        · rw [if_neg (fun e => by cases e.1), if_neg (fun e => hx (of_decide_eq_true e.2)), if_pos (.inr rfl)]
          exact take_noVersion rb base M os c k t w h ht hbs hbl hx
      · obtain ⟨f, r, rfl⟩ := List.exists_cons_of_ne_nil (h6 (.inr rfl))
        rw [if_neg (fun e => by cases e.1), if_neg (fun e => by cases e.1), if_neg (by omega), if_neg (by omega)]
        by_cases hx : upS t = [69, 78, 68, 58, 86, 67, 65, 82, 68]
        · rw [if_pos (by show decide _ = true; simp [hx])]
          exact take_end rb base M f r c k t w h ht hbs hbl hx (by simp at h1; omega) (fun g hg => ⟨h3 g hg, h2 g (List.mem_cons_of_mem _ hg)⟩)
        · rw [if_neg (fun e => hx (of_decide_eq_true e))]
          exact take_prop rb base M f r c k t w h ht hbs hbl hx (by simp at h1; omega) (h2 f (List.mem_cons_self ..)) HTab
      · rw [if_neg (fun e => by cases e.1), if_neg (fun e => by cases e.1), if_neg (by omega), if_pos rfl]
        exact take_more rb base M os c k t w h ht hbs hbl
    · rw [if_pos rfl]
      exact take_blank rb base M wa os c k t w h ht hbs hbl
end Go.Proofs.YtpdodknldhbbhaaGreatDoor.Vc

namespace Go.Proofs.YtpdodknldhbbhaaGreatDoor.Vc
set_option maxRecDepth 100000
open Go.RowKit Pp Sq
attribute [local go_sem] Oper.semAt_some

/-- A line as bytes. -/
def toB (x : Nat × List UInt8) : Nat × ByteArray := (x.1, ⟨x.2.toArray⟩)
def st0 : Vm.St G := .at_ 0 [] (.node [])
/-- The machine behind some lines. -/
def steps : Vm.St G → List (Nat × ByteArray) → Option (Vm.St G)
  | s, [] => some s
  | s, x :: r => match Vm.step s x with
    | .go s' => steps s' r
    | .bad _ _ => none
theorem steps_snoc {x : Nat × ByteArray} : ∀ {l : List (Nat × ByteArray)} {s st st' : Vm.St G}, steps s l = some st → Vm.step st x = .go st' → steps s (l ++ [x]) = some st'
  | [], s, st, st', h, h2 => by cases h; show (match Vm.step s x with | .go s' => steps s' [] | .bad _ _ => none) = _; rw [h2]; rfl
  | y :: l, s, st, st', h, h2 => by
    show (match Vm.step s y with | .go s' => steps s' (l ++ [x]) | .bad _ _ => none) = _
    have h : (match Vm.step s y with | .go s' => steps s' l | .bad _ _ => none) = some st := h
    cases hy : Vm.step s y with
    | go s' => rw [hy] at h; exact steps_snoc h h2
    | bad k e => rw [hy] at h; cases h
theorem run_done : ∀ {l : List (Nat × ByteArray)} {s st : Vm.St G}, steps s l = some st → Vm.run s l = Vm.done st
  | [], s, st, h => by cases h; rfl
  | y :: l, s, st, h => by
    rw [Vm.run_cons]
    have h : (match Vm.step s y with | .go s' => steps s' l | .bad _ _ => none) = some st := h
    cases hy : Vm.step s y with
    | go s' => rw [hy] at h; exact run_done h
    | bad k e => rw [hy] at h; cases h
theorem run_bad {x : Nat × ByteArray} {r : List (Nat × ByteArray)} {k : Nat} {e : Int} : ∀ {l : List (Nat × ByteArray)} {s st : Vm.St G}, steps s l = some st → Vm.step st x = .bad k e → Vm.run s (l ++ x :: r) = Vm.fail k e
  | [], s, st, h, h2 => by cases h; rw [List.nil_append, Vm.run_cons, h2]; rfl
  | y :: l, s, st, h, h2 => by
    rw [List.cons_append, Vm.run_cons]
    have h : (match Vm.step s y with | .go s' => steps s' l | .bad _ _ => none) = some st := h
    cases hy : Vm.step s y with
    | go s' => rw [hy] at h; exact run_bad h h2
    | bad k e => rw [hy] at h; cases h
/-- What reading hands back. -/
def ReadAns (w : World) (a : Vm.Ans G) (e : Ending) (w' : World) : Prop :=
  ∃ cv, e = .returned (.tuple #[.agg #[cv], .int .i64 (a.1 : Int), .int .i64 a.2.1]) ∧ CAt w' w'.heap.size 3 a.2.2 cv ∧ Below w.heap.size w w'
theorem cat_nil (w : World) (B k : Nat) : CAt w B (k + 1) (.node []) (.slice none 0 0) := ⟨none, 0, rfl, fun h => absurd rfl h, fun _ _ e => by cases e⟩
theorem RdAt.move {w w' : World} {rb base : Nat} {M M' : Nat → Prop} (hs : Stays (fun k => M k ∧ k < w.heap.size) w w') (hM : ∀ k, M k → k < w.heap.size → M' k) : ∀ {s : Vm.St G}, RdAt w rb base M s → RdAt w' rb base M' s
  | .at_ _ _ _, ⟨nu, ov, cv, g, n, pv, v, av, en, h1, h2, h3, h4⟩ => ⟨nu, ov, cv, g, n, pv, v, av, en, h1.kept (hs.block rb ⟨h2, h1.lt⟩), hM _ h2 h1.lt, h3.move (hs.mono fun _ hk => ⟨hk.1, hk.2.2.2⟩) hM (fun _ h => .inl h), fun e => (h4 e).move (hs.mono fun _ hk => ⟨hk.1.1, hk.2⟩) (fun k h hl => ⟨hM k h.1 hl, h.2⟩)⟩
  | .on _ _ _ _, ⟨ov, cv, pv, h1, h2, h3, h4, h5⟩ => ⟨ov, cv, pv, h1.kept (hs.block rb ⟨h2, h1.lt⟩), hM _ h2 h1.lt, row_stays h3 (fun g e => hs.block g ⟨(h4 g e).1, (own_lt h3 g e).2⟩), fun g e => ⟨hM _ (h4 g e).1 (own_lt h3 g e).2, (h4 g e).2⟩, h5.move (hs.mono fun _ hk => ⟨hk.1, hk.2.2.2⟩) hM (fun _ h => .inl h)⟩

theorem unf_bytes : ∀ (o : Option (Nat × List UInt8)) (r : List (Nat × List UInt8)) {m : Nat}, (o.elim 0 fun p => p.2.length) = m → Ln.bytes ((Ln.unf o r).map (·.2)) = m + Ln.bytes (r.map (·.2))
  | none, [], m, h => by subst h; rfl
  | some p, [], m, h => by subst h; simp [Ln.unf, Ln.bytes]
  | none, x :: r, m, h => by
    subst h
    rw [Ln.unf, unf_bytes (some x) r rfl, List.map_cons, Ln.bytes_cons]
    simp
  | some p, x :: r, m, h => by
    subst h
    rw [Ln.unf]
    split
    · rw [unf_bytes (some (p.1, p.2 ++ x.2)) r rfl, List.map_cons, Ln.bytes_cons]
      simp; omega
    · rw [List.map_cons, Ln.bytes_cons, unf_bytes (some x) r rfl, List.map_cons, Ln.bytes_cons]
      simp

theorem done_not {wa : Nat} {os : List Fr} {c : Crd} (h : ¬ wa = 3) : Vm.done (G := G) (.at_ wa os c) = Vm.fail 0 1 := by
  unfold Vm.done
  split
  · rename_i e; cases e; exact absurd rfl h
  · rfl
theorem cat_put {V W : World} {F : Nat → Prop} {k D z : Nat} {c : Crd} {cv : Value} (h : CAf V F k c cv) (hs : Stays (fun k => z ≤ k) V W) (hF : ∀ j, F j → z ≤ j ∧ j ≠ D) : CAt (W.putObj D (.deferred none)) (W.putObj D (.deferred none)).heap.size k c cv :=
  CAf.ca (F := fun _ => True) ((h.move (F' := fun j => z ≤ j ∧ j ≠ D) (hs.mono fun j hj => (hF j hj.1).1) (fun j hj _ => hF j hj)).move (F' := fun _ => True) ((Stays.refl (fun j => (z ≤ j ∧ j ≠ D) ∧ j < W.heap.size) W).putObj D (.deferred none) (fun h => h.1.2 rfl)) (fun _ _ _ => trivial))
theorem step_bad {st : Vm.St G} {x : Nat × ByteArray} {k : Nat} {er : Int} (h : Vm.step (G := G) st x = .bad k er) : er ≠ 0 := by
  have hD : ∀ {k' : Nat} {os : List Fr} {c : Crd} {q : Par}, Vm.takeD (G := G) k' os c q = .bad k er → er ≠ 0 := fun {k' os c q} h => by
    unfold Vm.takeD at h
    split at h
    · rename_i hm; cases h; exact hm
    · split at h
      · cases h
      · split at h
        · cases h; decide
        · split at h
          · cases h; decide
          · cases h
  have hV : ∀ {k' : Nat} {os : List Fr} {c : Crd} {q : Par}, Vm.takeV (G := G) k' os c q = .bad k er → er ≠ 0 := fun {k' os c q} h => by
    unfold Vm.takeV at h
    split at h
    · cases h
    · exact hD h
  cases st with
  | on k' os c q => exact hV h
  | at_ wa os c =>
    unfold Vm.step at h
    simp only at h
    split at h
    · cases h
    · unfold Vm.takeL at h
      split at h
      · cases h
      · split at h
        · cases h
        · split at h
          · cases h; decide
          · split at h
            · cases h; decide
            · split at h
              · cases h
              · unfold Vm.takeP at h
                split at h
                · cases h; decide
                · split at h
                  · rename_i he; cases h; exact he
                  · exact hV h

set_option maxHeartbeats 16000000 in
theorem parse_in (s : ByteArray) (w : World) (hs : s.size ≤ 4000) (T : Qu.Tabs w) :
    Calls Tryz.prog 16 #[.string s] w (ReadAns w (Vm.run st0 ((Ln.eachL s).map toB))) := by
  have hsz : ¬ (4000 : Int) < (s.size : Int) := by omega
  refine (callsIn_wide (n := 5)).1 ?_
  refine callsIn_of_wp_marks Tryz.func16 rfl trivial ?_ rfl
  simp only [Tryz.ntmps16, List.size_toArray, List.length_cons, List.length_nil, Nat.reduceAdd, Nat.reduceSub, Array.replicate_succ, Array.replicate_zero, List.push_toArray, List.append_toArray, List.nil_append, List.cons_append]
  gi_wp2_with (refine ⟨trivial, ?_⟩; gi_at_call 28; refine (callsIn_wide.2 (Ln.each_any s _)).mono ?_; rintro e w' ⟨rfl, rfl⟩)
  obtain ⟨V1, hV1⟩ : ∃ V1, w.alloc (.cells #[.slice none 0 0] 24) = V1 := ⟨_, rfl⟩
  obtain ⟨V2, hV2⟩ : ∃ V2, V1.alloc (.cells #[.int .i64 0] 3) = V2 := ⟨_, rfl⟩
  obtain ⟨V3, hV3⟩ : ∃ V3, V2.alloc (.cells #[.int .i64 0] 26) = V3 := ⟨_, rfl⟩
  obtain ⟨V4, hV4⟩ : ∃ V4, V3.alloc (.cells #[.int .i64 0, .int .i64 0, .slice none 0 0, .slice none 0 0, .string ⟨#[]⟩, .string ⟨#[]⟩, .slice none 0 0, .string ⟨#[]⟩, .slice none 0 0, .string ⟨#[]⟩, .bool false] 55) = V4 := ⟨_, rfl⟩
  obtain ⟨V5, hV5⟩ : ∃ V5, V4.alloc (.cells #[.string s] 9) = V5 := ⟨_, rfl⟩
  obtain ⟨V0, hV0⟩ : ∃ V0, V5.alloc (.cells #[.func (.func 87) #[] #[.pointer (some ⟨w.heap.size + 1 + 1 + 1 + 1, 0, none⟩)]] 80) = V0 := ⟨_, rfl⟩
  have z1 : V1.heap.size = w.heap.size + 1 := by rw [← hV1]; simp
  have z2 : V2.heap.size = w.heap.size + 2 := by rw [← hV2]; simp; omega
  have z3 : V3.heap.size = w.heap.size + 3 := by rw [← hV3]; simp; omega
  have z4 : V4.heap.size = w.heap.size + 4 := by rw [← hV4]; simp; omega
  have z5 : V5.heap.size = w.heap.size + 5 := by rw [← hV5]; simp; omega
  have z0 : V0.heap.size = w.heap.size + 6 := by rw [← hV0]; simp; omega
  have b0 : Boxed V0 w.heap.size 24 (.slice none 0 0) := by
    have h := Boxed.new w 24 (.slice none 0 0); rw [hV1] at h
    rw [← hV0, ← hV5, ← hV4, ← hV3, ← hV2]; exact ((((h.alloc _).alloc _).alloc _).alloc _).alloc _
  have b1 : Boxed V0 (w.heap.size + 1) 3 (.int .i64 0) := by
    have h := Boxed.new V1 3 (.int .i64 0); rw [hV2, z1] at h
    rw [← hV0, ← hV5, ← hV4, ← hV3]; exact (((h.alloc _).alloc _).alloc _).alloc _
  have b2 : Boxed V0 (w.heap.size + 2) 26 (.int .i64 0) := by
    have h := Boxed.new V2 26 (.int .i64 0); rw [hV3, z2] at h
    rw [← hV0, ← hV5, ← hV4]; exact ((h.alloc _).alloc _).alloc _
  have b4 : Boxed V0 (w.heap.size + 4) 9 (.string s) := by
    have h := Boxed.new V4 9 (.string s); rw [hV5, z4] at h
    rw [← hV0]; exact h.alloc _
  have b5 : Boxed V0 (w.heap.size + 4 + 1) 80 (.func (.func 87) #[] #[.pointer (some ⟨w.heap.size + 4, 0, none⟩)]) := by
    have h := Boxed.new V5 80 (.func (.func 87) #[] #[.pointer (some ⟨w.heap.size + 1 + 1 + 1 + 1, 0, none⟩)]); rw [hV0, z5] at h; exact h
  have hR0 : RdC V0 (w.heap.size + 3) 0 0 (.slice none 0 0) (.slice none 0 0) ⟨#[]⟩ ⟨#[]⟩ (.slice none 0 0) ⟨#[]⟩ (.slice none 0 0) ⟨#[]⟩ false := by
    have h : V4.heap[V3.heap.size]? = some (.cells #[.int .i64 0, .int .i64 0, .slice none 0 0, .slice none 0 0, .string ⟨#[]⟩, .string ⟨#[]⟩, .slice none 0 0, .string ⟨#[]⟩, .slice none 0 0, .string ⟨#[]⟩, .bool false] 55 (0, 0)) := by rw [← hV4]; exact heap_alloc_new V3 _
    rw [z3] at h
    have h5 : V5.heap[w.heap.size + 3]? = V4.heap[w.heap.size + 3]? := by rw [← hV5]; exact ((Below.refl _ V4).alloc (Nat.le_refl _) _).block _ (by omega)
    have h6 : V0.heap[w.heap.size + 3]? = V5.heap[w.heap.size + 3]? := by rw [← hV0]; exact ((Below.refl _ V5).alloc (Nat.le_refl _) _).block _ (by omega)
    exact (h6.trans h5).trans h
  have hV : Below w.heap.size w V0 := by
    rw [← hV0, ← hV5, ← hV4, ← hV3, ← hV2, ← hV1]
    exact ((((((Below.refl _ w).alloc (Nat.le_refl _) _).alloc (by simp) _).alloc (by simp; omega) _).alloc (by simp; omega) _).alloc (by simp; omega) _).alloc (by simp; omega) _
  have hg : (((((w.alloc (.cells #[.slice none 0 0] 24)).alloc (.cells #[.int .i64 0] 3)).alloc (.cells #[.int .i64 0] 26)).alloc (.cells #[.int .i64 0, .int .i64 0, .slice none 0 0, .slice none 0 0, .string ⟨#[]⟩, .string ⟨#[]⟩, .slice none 0 0, .string ⟨#[]⟩, .slice none 0 0, .string ⟨#[]⟩, .bool false] 55)).alloc (.cells #[.string s] 9)).alloc (.cells #[.func (.func 87) #[] #[.pointer (some ⟨w.heap.size + 1 + 1 + 1 + 1, 0, none⟩)]] 80) = V0 := by rw [hV1, hV2, hV3, hV4, hV5, hV0]
  rw [hg]
  clear hg hV1 hV2 hV3 hV4 hV5 hV0 z1 z2 z3 z4 z5
  have hsq := Ln.each_sq s (by omega) (w.heap.size + 4) V0 b4 b5
  have hby : Ln.bytes ((Ln.eachL s).map (·.2)) ≤ 4000 := by
    unfold Ln.eachL
    rw [unf_bytes none _ (m := 0) rfl, Ln.num_snd]
    have := Ln.split_bytes s.data.toList
    have h2 : s.data.toList.length = s.size := by rw [Array.length_toList]; rfl
    omega
  obtain ⟨all, hall⟩ : ∃ all, Ln.eachL s = all := ⟨_, rfl⟩
  rw [hall] at hsq hby ⊢
  have hTab : ∀ W, Below w.heap.size w W → Qu.Tabs W := fun W h => T.below h
  have HALL := Lib.hid hall
  clear hall hs
  refine range_sq1 (gf := 84) (lb := #[.pointer (some ⟨w.heap.size + 4 + 1, 0, none⟩)]) rfl Ln.eg_unfolded hsq (Stays.refl _ _) (fun k hk => by omega) (fun _ => rfl)
    (fun pre O V => ∃ st, steps st0 (pre.map toB) = some st ∧ RdAt V (w.heap.size + 3) (w.heap.size + 3) (fun k => (k = w.heap.size + 3 ∨ w.heap.size + 6 ≤ k) ∧ ¬ O k) st ∧ Okay (2400 + Ln.bytes (pre.map (·.2))) st ∧ Below (w.heap.size + 3) V0 V)
    (fun c pre _ V => ∃ (k : Nat) (er : Int), (c = .ret ∧ ∃ pre' x st, pre = pre' ++ [x] ∧ steps st0 (pre'.map toB) = some st ∧ Vm.step st (toB x) = .bad k er) ∧ Boxed V w.heap.size 24 (.slice none 0 0) ∧ Boxed V (w.heap.size + 1) 3 (.int .i64 (k : Int)) ∧ Boxed V (w.heap.size + 2) 26 (.int .i64 er) ∧ Below w.heap.size w V)
    (fun pre O O' A B ⟨st, h1, h2, h3, h4⟩ hO hS hO' => ⟨st, h1, h2.move (hS.mono fun k hk => ⟨hk.2, hk.1.2⟩) (fun k hk hl => ⟨hk.1, fun e => (hO' k e).elim hk.2 (fun e => by omega)⟩), h3, Foot.below (β := List (Nat × List UInt8)) (H := V0.heap.size) (b := w.heap.size + 3) (w := V0) (by omega) (by omega) pre O O' A B h4 hO hS hO'⟩)
    (fun c => Foot.ex fun k => Foot.ex fun er => Foot.and (Foot.pure (fun (pre : List (Nat × List UInt8)) => c = .ret ∧ ∃ pre' x st, pre = pre' ++ [x] ∧ steps st0 (pre'.map toB) = some st ∧ Vm.step st (toB x) = .bad k er)) (Foot.and (Foot.boxed _ _ (fun _ => .slice none 0 0) (by omega)) (Foot.and (Foot.boxed _ _ (fun _ => .int .i64 (k : Int)) (by omega)) (Foot.and (Foot.boxed _ _ (fun _ => .int .i64 er) (by omega)) (Foot.below (by omega) (Nat.le_refl _))))))
    ⟨st0, rfl, ⟨0, .slice none 0 0, .slice none 0 0, ⟨#[]⟩, ⟨#[]⟩, .slice none 0 0, ⟨#[]⟩, .slice none 0 0, ⟨#[]⟩, hR0, ⟨.inl rfl, id⟩, ⟨fun _ => False, [], World.ownsRow_nil _ _ _ _, trivial, fun k hk => hk.elim, fun k hk => by simp [Value.ownBlock] at hk, fun u hu => by cases hu⟩, fun h => by cases h⟩, ⟨by simp, (fun f hf => by cases hf), (fun f hf => by cases hf), by decide, (fun _ => ⟨by simp, (fun f hf => by cases hf)⟩), (fun e => by rcases e with e | e <;> cases e)⟩, Below.refl _ _⟩ ?round ?done ?stop
  case round =>
    rintro l pre ⟨n, x⟩ O W1 hO hp
    unfold Ln.encL
    gi_wp2
    refine ⟨trivial, ?_⟩
    rintro V ⟨st, hst, hrd, hok, hB⟩ hRW hOl hrec hOW
    have hbp := Ln.bytes_pre hp
    dsimp only at hbp
    have hzV := hRW.size
    have hxs : (⟨x.toArray⟩ : ByteArray).size = x.length := mk_size x
    have hFb : ∀ W, Fin (fun k => (k = w.heap.size + 3 ∨ w.heap.size + 6 ≤ k) ∧ ¬ O k) V W → Below (w.heap.size + 3) V W := fun W h => ⟨h.os, h.tape, h.output, h.size, fun k hk => h.block k ⟨by omega, fun e => by rcases e.1 with e | e <;> omega⟩⟩
    have CT := Lib.hid (take_any (w.heap.size + 3) (w.heap.size + 3) (fun k => (k = w.heap.size + 3 ∨ w.heap.size + 6 ≤ k) ∧ ¬ O k) _ n st ⟨x.toArray⟩ V hrd hok (by omega) (by omega) (by omega) (fun W h => hTab W ((hV.trans (hB.mono (by omega))).trans ((hFb W h).mono (by omega)))))
    have hcast : toB (n, x) = (n, ⟨x.toArray⟩) := rfl
    cases hstep : Vm.step (G := G) st (n, ⟨x.toArray⟩) with
    | go st' =>
      rw [hstep] at CT
      have hok2 := okay_step (k := n) (t := ⟨x.toArray⟩) (by omega) hok hstep
      have HI := Lib.hid (And.intro hst (And.intro hok2 (And.intro hB hFb)))
      clear hst hok hok2 hB hFb hrd
      gi_wp2_with (refine ⟨trivial, ?_⟩; gi_at_call 29; refine (callsIn_wide.2 CT.out).mono ?_; rintro e w1 ⟨rfl, hat, hfin⟩)
      obtain ⟨hst, hok2, hB, hFb⟩ := HI.out
      refine ⟨hfin.mono fun k hk => ?_, st', by rw [List.map_append]; exact steps_snoc hst hstep, hat.mono (fun k hk => hk.elim id (fun e => ⟨.inr (by omega), fun h => by have := hOW k h; omega⟩)), ?_, hB.trans (hFb _ hfin)⟩
      · rcases hk with hk | hk
        · exact ⟨(hOW k hk).2, fun e => e.2 hk⟩
        · exact ⟨by omega, fun e => by rcases e.1 with e | e <;> omega⟩
      · have e : 2400 + Ln.bytes ((pre ++ [(n, x)]).map (·.2)) = 2400 + Ln.bytes (pre.map (·.2)) + (⟨x.toArray⟩ : ByteArray).size := by rw [List.map_append, Ln.bytes_append, hxs]; simp [Ln.bytes]; omega
        rw [e]; exact hok2
    | bad k er =>
      rw [hstep] at CT
      have her := step_bad hstep
      have heb : (er == 0) = false := by simpa using her
      have mixed : Tryz.prog.follows .mixedOrders = true := by kernel_rfl
      have c0 : Boxed V w.heap.size 24 (.slice none 0 0) := (hB.block _ (by omega)).trans b0
      have c1 : Boxed V (w.heap.size + 1) 3 (.int .i64 0) := (hB.block _ (by omega)).trans b1
      have c2 : Boxed V (w.heap.size + 2) 26 (.int .i64 0) := (hB.block _ (by omega)).trans b2
      have HI := Lib.hid (And.intro hst (And.intro hB hFb))
      have hlo : ∀ j, j < w.heap.size + 3 → j < V.heap.size ∧ ¬ ((j = w.heap.size + 3 ∨ w.heap.size + 6 ≤ j) ∧ ¬ O j) := fun j hj => ⟨by omega, fun e => by rcases e.1 with e | e <;> omega⟩
      clear hst hok hB hFb hrd
      gi_wp2_with (refine ⟨trivial, ?_⟩; gi_at_call 29; refine (callsIn_wide.2 CT.out).mono ?_; rintro e w1 ⟨rfl, hnum, hfin⟩; have d0 : Boxed w1 w.heap.size 24 (.slice none 0 0) := (hfin.block _ (hlo _ (by omega))).trans c0; have d1 : Boxed w1 (w.heap.size + 1) 3 (.int .i64 0) := (hfin.block _ (hlo _ (by omega))).trans c1; have d2 : Boxed w1 (w.heap.size + 2) 26 (.int .i64 0) := (hfin.block _ (hlo _ (by omega))).trans c2; have x0 := d0.cell; have x1 := d1.cell; have x2 := d2.cell; have y0 := d0.frozen; have y1 := d1.frozen; have y2 := d2.frozen)
      have n01 : w.heap.size + 1 ≠ w.heap.size := by omega
      have n02 : w.heap.size + 2 ≠ w.heap.size := by omega
      have n12 : w.heap.size + 2 ≠ w.heap.size + 1 := by omega
      have n3 : w.heap.size + 3 ≠ w.heap.size := by omega
      have g1 := (Boxed.other d1 n01 (.slice none 0 0)).cell
      have g2 := (Boxed.other (Boxed.other d2 n02 (.slice none 0 0)) n12 (.int .i64 (k : Int))).cell
      have gf1 := (Boxed.other d1 n01 (.slice none 0 0)).frozen
      have gf2 := (Boxed.other (Boxed.other d2 n02 (.slice none 0 0)) n12 (.int .i64 (k : Int))).frozen
      have g3 : (w1.setCell ⟨w.heap.size, 0, none⟩ (.slice none 0 0)).cell? ⟨w.heap.size + 3, 1, none⟩ = some (.int .i64 (k : Int)) := (World.cell?_of_block (a := ⟨w.heap.size + 3, 1, none⟩) (Below.heap_setCell w1 ⟨w.heap.size, 0, none⟩ _ _ n3)).trans hnum
      have n10 : w.heap.size ≠ w.heap.size + 1 := by omega
      have n20 : w.heap.size ≠ w.heap.size + 2 := by omega
      have n21 : w.heap.size + 1 ≠ w.heap.size + 2 := by omega
      obtain ⟨hst, hB, hFb⟩ := HI.out
      have hS3 : Stays (fun j => w.heap.size + 3 ≤ j) w1 ((((w1.setCell ⟨w.heap.size, 0, none⟩ (.slice none 0 0)).setCell ⟨w.heap.size + 1, 0, none⟩ (.int .i64 (k : Int))).setCell ⟨w.heap.size + 1 + 1, 0, none⟩ (.int .i64 er)).drew) := (stays_set (stays_set (stays_set (Stays.refl _ w1) (by show ¬ w.heap.size + 3 ≤ w.heap.size; omega)) (by show ¬ w.heap.size + 3 ≤ w.heap.size + 1; omega)) (by show ¬ w.heap.size + 3 ≤ w.heap.size + 1 + 1; omega)).drew
      have hBw : Below w.heap.size w w1 := (hV.trans (hB.mono (by omega))).trans ((hFb _ hfin).mono (by omega))
      have HZ := Lib.hid (show Stays (fun j => O j ∨ (j = w.heap.size + 4 + 1 ∨ j = w.heap.size + 4)) V ((((w1.setCell ⟨w.heap.size, 0, none⟩ (.slice none 0 0)).setCell ⟨w.heap.size + 1, 0, none⟩ (.int .i64 (k : Int))).setCell ⟨w.heap.size + 1 + 1, 0, none⟩ (.int .i64 er)).drew) ∧ ∃ (k2 : Nat) (er2 : Int), (Code.ret = .ret ∧ ∃ pre' x' st, pre ++ [(n, x)] = pre' ++ [x'] ∧ steps st0 (pre'.map toB) = some st ∧ Vm.step st (toB x') = .bad k2 er2) ∧ Boxed ((((w1.setCell ⟨w.heap.size, 0, none⟩ (.slice none 0 0)).setCell ⟨w.heap.size + 1, 0, none⟩ (.int .i64 (k : Int))).setCell ⟨w.heap.size + 1 + 1, 0, none⟩ (.int .i64 er)).drew) w.heap.size 24 (.slice none 0 0) ∧ Boxed ((((w1.setCell ⟨w.heap.size, 0, none⟩ (.slice none 0 0)).setCell ⟨w.heap.size + 1, 0, none⟩ (.int .i64 (k : Int))).setCell ⟨w.heap.size + 1 + 1, 0, none⟩ (.int .i64 er)).drew) (w.heap.size + 1) 3 (.int .i64 (k2 : Int)) ∧ Boxed ((((w1.setCell ⟨w.heap.size, 0, none⟩ (.slice none 0 0)).setCell ⟨w.heap.size + 1, 0, none⟩ (.int .i64 (k : Int))).setCell ⟨w.heap.size + 1 + 1, 0, none⟩ (.int .i64 er)).drew) (w.heap.size + 2) 26 (.int .i64 er2) ∧ Below w.heap.size w ((((w1.setCell ⟨w.heap.size, 0, none⟩ (.slice none 0 0)).setCell ⟨w.heap.size + 1, 0, none⟩ (.int .i64 (k : Int))).setCell ⟨w.heap.size + 1 + 1, 0, none⟩ (.int .i64 er)).drew) from
        ⟨(hfin.mono fun j hj => by
            rcases hj with hj | hj
            · exact ⟨(hOW j hj).2, fun e => e.2 hj⟩
            · exact ⟨by omega, fun e => by rcases e.1 with e | e <;> omega⟩).trans (hS3.mono fun j hj => by rcases hj with hj | hj; have := hOW j hj; omega; omega),
          k, er, ⟨rfl, pre, (n, x), st, rfl, hst, hstep⟩, Boxed.other (Boxed.other (d0.set _) n10 _) n20 _, Boxed.other ((Boxed.other d1 n01 _).set _) n21 _, (Boxed.other (Boxed.other d2 n02 _) n12 _).set _, ((((hBw.setCell (p := ⟨w.heap.size, 0, none⟩) (Nat.le_refl _) _).setCell (p := ⟨w.heap.size + 1, 0, none⟩) (by simp) _).setCell (p := ⟨w.heap.size + 1 + 1, 0, none⟩) (by show w.heap.size ≤ w.heap.size + 1 + 1; omega) _).drew)⟩)
      clear d0 d1 d2 c0 c1 c2 hst hB hFb hS3 hBw
      gi_region_with_o (fail)
      all_goals
        gi_wp2_with fail
        obtain ⟨h1, k', er', ⟨-, p', ⟨a', b'⟩, s', q1, q2, q3⟩, h3⟩ := HZ.out
        exact ⟨h1, k', er', ⟨rfl, p', a', b', q1, s', q2, q3⟩, h3⟩
  case stop =>
    rintro D c pre O V hD hOD hO hRW hpre ⟨k, er, ⟨rfl, pre', x, st, rfl, hst, hstep⟩, c0, c1, c2, hB⟩ hK
    obtain ⟨r, hr⟩ := hpre
    have hrun : Vm.run st0 (all.map toB) = Vm.fail k er := by
      rw [← hr, List.append_assoc, List.map_append]
      exact run_bad hst hstep
    have HR := Lib.hid hrun
    have hDl : D < V.heap.size := (Array.getElem?_eq_some_iff.1 hK).1
    have hp0 := (c0.kept (grownBy_putObj' V D (.deferred Option.none)) (by rintro ⟨⟩; omega)).cell
    have hp1 := (c1.kept (grownBy_putObj' V D (.deferred Option.none)) (by rintro ⟨⟩; omega)).cell
    have hp2 := (c2.kept (grownBy_putObj' V D (.deferred Option.none)) (by rintro ⟨⟩; omega)).cell
    clear hrun hsq
    gi_wp2_with fail
    refine ⟨by simp, .inl ⟨_, _, rfl, run_takeDeferred hK, ?_⟩⟩
    refine ⟨.tuple #[.agg #[.slice none 0 0], .int .i64 (k : Int), .int .i64 er], ?_, .slice none 0 0, by rw [HR.out]; rfl, by rw [HR.out]; exact cat_nil _ _ 2, Strs.below_put_p hB (by omega) hK _⟩
    simp [results, Tryz.f16, go_sem, hp0, hp1, hp2]
  case done =>
    rintro D O V hD hOD hO hRW ⟨st, hst, hrd, hok, hB⟩ hK
    have hrun : Vm.run st0 (all.map toB) = Vm.done st := run_done hst
    cases st with
    | on k' os c q =>
      obtain ⟨ov, cv, pv, hR, _⟩ := hrd
      have HR := Lib.hid (show Vm.run st0 ((Ln.eachL s).map toB) = Vm.fail 0 1 from by rw [HALL.out]; exact hrun)
      have hwb : ((2 : Int) == 3) = false := rfl
      clear hrun hok hst
      have c0 : Boxed V w.heap.size 24 (.slice none 0 0) := (hB.block _ (by omega)).trans b0
      have c1 : Boxed V (w.heap.size + 1) 3 (.int .i64 0) := (hB.block _ (by omega)).trans b1
      have c2 : Boxed V (w.heap.size + 2) 26 (.int .i64 0) := (hB.block _ (by omega)).trans b2
      have n01 : w.heap.size + 1 ≠ w.heap.size := by omega
      have n02 : w.heap.size + 2 ≠ w.heap.size := by omega
      have n12 : w.heap.size + 2 ≠ w.heap.size + 1 := by omega
      have n10 : w.heap.size ≠ w.heap.size + 1 := by omega
      have n20 : w.heap.size ≠ w.heap.size + 2 := by omega
      have n21 : w.heap.size + 1 ≠ w.heap.size + 2 := by omega
      have hzV := hRW.size
      have hDl : D < V.heap.size := (Array.getElem?_eq_some_iff.1 hK).1
      have d0 := c0.set (.slice none 0 0)
      have d1 := Boxed.other c1 n01 (.slice none 0 0)
      have d2 := Boxed.other c2 n02 (.slice none 0 0)
      have e0 := Boxed.other d0 n10 (.int .i64 0)
      have e1 := d1.set (.int .i64 0)
      have e2 := Boxed.other d2 n12 (.int .i64 0)
      have f0 := Boxed.other e0 n20 (.int .i64 1)
      have f1 := Boxed.other e1 n21 (.int .i64 1)
      have f2 := e2.set (.int .i64 1)
      have hS : Stays (fun k => w.heap.size + 3 ≤ k) V (((V.setCell ⟨w.heap.size, 0, none⟩ (.slice none 0 0)).setCell ⟨w.heap.size + 1, 0, none⟩ (.int .i64 0)).setCell ⟨w.heap.size + 2, 0, none⟩ (.int .i64 1)) := (((Stays.refl _ _).setCell _ _ (by omega)).setCell _ _ (by omega)).setCell _ _ (by omega)
      have hK' := (hS.block D (by omega)).trans hK
      have hB2 : Below w.heap.size w (((V.setCell ⟨w.heap.size, 0, none⟩ (.slice none 0 0)).setCell ⟨w.heap.size + 1, 0, none⟩ (.int .i64 0)).setCell ⟨w.heap.size + 2, 0, none⟩ (.int .i64 1)) := (((hV.trans (hB.mono (by omega))).setCell (p := ⟨w.heap.size, 0, none⟩) (Nat.le_refl _) _).setCell (p := ⟨w.heap.size + 1, 0, none⟩) (by simp) _).setCell (p := ⟨w.heap.size + 2, 0, none⟩) (by simp) _
      have hp0 := (f0.kept (grownBy_putObj' _ D (.deferred Option.none)) (by rintro ⟨⟩; omega)).cell
      have hp1 := (f1.kept (grownBy_putObj' _ D (.deferred Option.none)) (by rintro ⟨⟩; omega)).cell
      have hp2 := (f2.kept (grownBy_putObj' _ D (.deferred Option.none)) (by rintro ⟨⟩; omega)).cell
      have x0 := c0.cell
      have x1 := d1.cell
      have x2 := e2.cell
      have y0 := c0.frozen
      have y1 := d1.frozen
      have y2 := e2.frozen
      have r0 := hR.c0
      have r3 := hR.c3
      have hCT : CAt ((((V.setCell ⟨w.heap.size, 0, none⟩ (.slice none 0 0)).setCell ⟨w.heap.size + 1, 0, none⟩ (.int .i64 0)).setCell ⟨w.heap.size + 2, 0, none⟩ (.int .i64 1)).putObj D (.deferred none)) ((((V.setCell ⟨w.heap.size, 0, none⟩ (.slice none 0 0)).setCell ⟨w.heap.size + 1, 0, none⟩ (.int .i64 0)).setCell ⟨w.heap.size + 2, 0, none⟩ (.int .i64 1)).putObj D (.deferred none)).heap.size 3 (.node []) (.slice none 0 0) := cat_nil _ _ 2
      have HQ := Lib.hid (And.intro hCT hB2)
      clear hB2 hS hCT hR c0 c1 c2 d0 d1 d2 e0 e1 e2 f0 f1 f2 hsq
      gi_wp2_with fail
      refine ⟨by simp, .inl ⟨_, _, rfl, run_takeDeferred hK', ?_⟩⟩
      refine ⟨.tuple #[.agg #[.slice none 0 0], .int .i64 0, .int .i64 1], ?_, .slice none 0 0, by rw [HR.out]; rfl, by rw [HR.out]; exact HQ.out.1, Strs.below_put_p HQ.out.2 (by omega) hK' _⟩
      simp [results, Tryz.f16, go_sem, hp0, hp1, hp2]
    | at_ wa os c =>
      obtain ⟨nu, ov, cv, gg, nn, pv, vv, av, en, hR, _, _, hC⟩ := hrd
      by_cases hw3 : wa = 3
      · subst hw3
        have HR := Lib.hid (show Vm.run st0 ((Ln.eachL s).map toB) = (0, 0, c) from by rw [HALL.out]; exact hrun)
        have hC3 := hC rfl
        obtain ⟨ca, cn, cc, rfl⟩ := hC3.one
        have HCT2 := fun {W : World} (h : Stays (fun k => w.heap.size + 3 ≤ k) V W) => cat_put (D := D) hC3 h (fun k hk => ⟨by rcases hk.1.1 with e | e <;> omega, fun e => hk.1.2 (e ▸ hOD)⟩)
        clear hrun hok hst hC hC3
        have c0 : Boxed V w.heap.size 24 (.slice none 0 0) := (hB.block _ (by omega)).trans b0
        have c1 : Boxed V (w.heap.size + 1) 3 (.int .i64 0) := (hB.block _ (by omega)).trans b1
        have c2 : Boxed V (w.heap.size + 2) 26 (.int .i64 0) := (hB.block _ (by omega)).trans b2
        have n01 : w.heap.size + 1 ≠ w.heap.size := by omega
        have n02 : w.heap.size + 2 ≠ w.heap.size := by omega
        have n12 : w.heap.size + 2 ≠ w.heap.size + 1 := by omega
        have n10 : w.heap.size ≠ w.heap.size + 1 := by omega
        have n20 : w.heap.size ≠ w.heap.size + 2 := by omega
        have n21 : w.heap.size + 1 ≠ w.heap.size + 2 := by omega
        have hzV := hRW.size
        have hDl : D < V.heap.size := (Array.getElem?_eq_some_iff.1 hK).1
        have d0 := c0.set (.slice ca cn cc)
        have d1 := Boxed.other c1 n01 (.slice ca cn cc)
        have d2 := Boxed.other c2 n02 (.slice ca cn cc)
        have e0 := Boxed.other d0 n10 (.int .i64 0)
        have e1 := d1.set (.int .i64 0)
        have e2 := Boxed.other d2 n12 (.int .i64 0)
        have f0 := Boxed.other e0 n20 (.int .i64 0)
        have f1 := Boxed.other e1 n21 (.int .i64 0)
        have f2 := e2.set (.int .i64 0)
        have hS : Stays (fun k => w.heap.size + 3 ≤ k) V (((V.setCell ⟨w.heap.size, 0, none⟩ (.slice ca cn cc)).setCell ⟨w.heap.size + 1, 0, none⟩ (.int .i64 0)).setCell ⟨w.heap.size + 2, 0, none⟩ (.int .i64 0)) := (((Stays.refl _ _).setCell _ _ (by omega)).setCell _ _ (by omega)).setCell _ _ (by omega)
        have hK' := (hS.block D (by omega)).trans hK
        have hB2 : Below w.heap.size w (((V.setCell ⟨w.heap.size, 0, none⟩ (.slice ca cn cc)).setCell ⟨w.heap.size + 1, 0, none⟩ (.int .i64 0)).setCell ⟨w.heap.size + 2, 0, none⟩ (.int .i64 0)) := (((hV.trans (hB.mono (by omega))).setCell (p := ⟨w.heap.size, 0, none⟩) (Nat.le_refl _) _).setCell (p := ⟨w.heap.size + 1, 0, none⟩) (by simp) _).setCell (p := ⟨w.heap.size + 2, 0, none⟩) (by simp) _
        have hp0 := (f0.kept (grownBy_putObj' _ D (.deferred Option.none)) (by rintro ⟨⟩; omega)).cell
        have hp1 := (f1.kept (grownBy_putObj' _ D (.deferred Option.none)) (by rintro ⟨⟩; omega)).cell
        have hp2 := (f2.kept (grownBy_putObj' _ D (.deferred Option.none)) (by rintro ⟨⟩; omega)).cell
        have x0 := c0.cell
        have x1 := d1.cell
        have x2 := e2.cell
        have y0 := c0.frozen
        have y1 := d1.frozen
        have y2 := e2.frozen
        have r0 := hR.c0
        have r3 := hR.c3
        have hCT := HCT2 hS
        clear HCT2
        have HQ := Lib.hid (And.intro hCT hB2)
        clear hB2 hS hCT hR c0 c1 c2 d0 d1 d2 e0 e1 e2 f0 f1 f2 hsq
        gi_wp2_with fail
        refine ⟨by simp, .inl ⟨_, _, rfl, run_takeDeferred hK', ?_⟩⟩
        refine ⟨.tuple #[.agg #[.slice ca cn cc], .int .i64 0, .int .i64 0], ?_, .slice ca cn cc, by rw [HR.out]; rfl, by rw [HR.out]; exact HQ.out.1, Strs.below_put_p HQ.out.2 (by omega) hK' _⟩
        simp [results, Tryz.f16, go_sem, hp0, hp1, hp2]
      · have HR := Lib.hid (show Vm.run st0 ((Ln.eachL s).map toB) = Vm.fail 0 1 from by rw [HALL.out]; exact hrun.trans (done_not hw3))
        have hwb : ((wa : Int) == 3) = false := by simp; omega
        clear hrun hok hst hC
        have c0 : Boxed V w.heap.size 24 (.slice none 0 0) := (hB.block _ (by omega)).trans b0
        have c1 : Boxed V (w.heap.size + 1) 3 (.int .i64 0) := (hB.block _ (by omega)).trans b1
        have c2 : Boxed V (w.heap.size + 2) 26 (.int .i64 0) := (hB.block _ (by omega)).trans b2
        have n01 : w.heap.size + 1 ≠ w.heap.size := by omega
        have n02 : w.heap.size + 2 ≠ w.heap.size := by omega
        have n12 : w.heap.size + 2 ≠ w.heap.size + 1 := by omega
        have n10 : w.heap.size ≠ w.heap.size + 1 := by omega
        have n20 : w.heap.size ≠ w.heap.size + 2 := by omega
        have n21 : w.heap.size + 1 ≠ w.heap.size + 2 := by omega
        have hzV := hRW.size
        have hDl : D < V.heap.size := (Array.getElem?_eq_some_iff.1 hK).1
        have d0 := c0.set (.slice none 0 0)
        have d1 := Boxed.other c1 n01 (.slice none 0 0)
        have d2 := Boxed.other c2 n02 (.slice none 0 0)
        have e0 := Boxed.other d0 n10 (.int .i64 0)
        have e1 := d1.set (.int .i64 0)
        have e2 := Boxed.other d2 n12 (.int .i64 0)
        have f0 := Boxed.other e0 n20 (.int .i64 1)
        have f1 := Boxed.other e1 n21 (.int .i64 1)
        have f2 := e2.set (.int .i64 1)
        have hS : Stays (fun k => w.heap.size + 3 ≤ k) V (((V.setCell ⟨w.heap.size, 0, none⟩ (.slice none 0 0)).setCell ⟨w.heap.size + 1, 0, none⟩ (.int .i64 0)).setCell ⟨w.heap.size + 2, 0, none⟩ (.int .i64 1)) := (((Stays.refl _ _).setCell _ _ (by omega)).setCell _ _ (by omega)).setCell _ _ (by omega)
        have hK' := (hS.block D (by omega)).trans hK
        have hB2 : Below w.heap.size w (((V.setCell ⟨w.heap.size, 0, none⟩ (.slice none 0 0)).setCell ⟨w.heap.size + 1, 0, none⟩ (.int .i64 0)).setCell ⟨w.heap.size + 2, 0, none⟩ (.int .i64 1)) := (((hV.trans (hB.mono (by omega))).setCell (p := ⟨w.heap.size, 0, none⟩) (Nat.le_refl _) _).setCell (p := ⟨w.heap.size + 1, 0, none⟩) (by simp) _).setCell (p := ⟨w.heap.size + 2, 0, none⟩) (by simp) _
        have hp0 := (f0.kept (grownBy_putObj' _ D (.deferred Option.none)) (by rintro ⟨⟩; omega)).cell
        have hp1 := (f1.kept (grownBy_putObj' _ D (.deferred Option.none)) (by rintro ⟨⟩; omega)).cell
        have hp2 := (f2.kept (grownBy_putObj' _ D (.deferred Option.none)) (by rintro ⟨⟩; omega)).cell
        have x0 := c0.cell
        have x1 := d1.cell
        have x2 := e2.cell
        have y0 := c0.frozen
        have y1 := d1.frozen
        have y2 := e2.frozen
        have r0 := hR.c0
        have r3 := hR.c3
        have hCT : CAt ((((V.setCell ⟨w.heap.size, 0, none⟩ (.slice none 0 0)).setCell ⟨w.heap.size + 1, 0, none⟩ (.int .i64 0)).setCell ⟨w.heap.size + 2, 0, none⟩ (.int .i64 1)).putObj D (.deferred none)) ((((V.setCell ⟨w.heap.size, 0, none⟩ (.slice none 0 0)).setCell ⟨w.heap.size + 1, 0, none⟩ (.int .i64 0)).setCell ⟨w.heap.size + 2, 0, none⟩ (.int .i64 1)).putObj D (.deferred none)).heap.size 3 (.node []) (.slice none 0 0) := cat_nil _ _ 2
        have HQ := Lib.hid (And.intro hCT hB2)
        clear hB2 hS hCT hR c0 c1 c2 d0 d1 d2 e0 e1 e2 f0 f1 f2 hsq
        gi_wp2_with fail
        refine ⟨by simp, .inl ⟨_, _, rfl, run_takeDeferred hK', ?_⟩⟩
        refine ⟨.tuple #[.agg #[.slice none 0 0], .int .i64 0, .int .i64 1], ?_, .slice none 0 0, by rw [HR.out]; rfl, by rw [HR.out]; exact HQ.out.1, Strs.below_put_p HQ.out.2 (by omega) hK' _⟩
        simp [results, Tryz.f16, go_sem, hp0, hp1, hp2]
end Go.Proofs.YtpdodknldhbbhaaGreatDoor.Vc

namespace Go.Proofs.YtpdodknldhbbhaaGreatDoor.Dp
set_option maxRecDepth 100000
open Go.RowKit Vc Pp

def card1 : Crd := .node [({ g := ⟨#[]⟩, n := ⟨#[70, 78]⟩, ps := [], v := ⟨#[97]⟩ }, [])]
def text1 : ByteArray := ⟨#[66, 69, 71, 73, 78, 58, 86, 67, 65, 82, 68, 13, 10, 86, 69, 82, 83, 73, 79, 78, 58, 50, 46, 49, 13, 10, 70, 78, 58, 97, 13, 10, 69, 78, 68, 58, 86, 67, 65, 82, 68, 13, 10]⟩
def text2 : ByteArray := ⟨#[66, 69, 71, 73, 78, 58, 86, 67, 65, 82, 68, 13, 10, 86, 69, 82, 83, 73, 79, 78, 58, 50, 46, 49, 13, 10]⟩
theorem lines1 : linesC 1 card1 = [begL, verL, [70, 78, 58, 97], endL] := by kernel_rfl
theorem text1_eq : textK 1 card1 = text1 := by kernel_rfl
theorem bad1 : badN 1 1 card1 = 0 := by kernel_rfl
theorem run1 : Vm.run st0 ((Ln.eachL text1).map toB) = (0, 0, card1) := by kernel_rfl
theorem run2 : (Vm.run st0 ((Ln.eachL text2).map toB)).1 = 0 ∧ (Vm.run st0 ((Ln.eachL text2).map toB)).2.1 = 1 := by constructor <;> kernel_rfl
theorem same1 : sameC 9 card1 card1 = true := by kernel_rfl
theorem kids1 : kidsL [[card1]] = [] := by kernel_rfl
end Go.Proofs.YtpdodknldhbbhaaGreatDoor.Dp

namespace Go.Proofs.YtpdodknldhbbhaaGreatDoor.Dp
set_option maxRecDepth 100000
open Go.RowKit Pp Vc

/-- No list is longer than any list is. -/
def FitsM : Nat → Crd → Prop
  | 0, _ => True
  | k + 1, c => c.ps.length ≤ 9223372036854775807 ∧ ∀ p ∈ c.ps, (p.1.ps.length ≤ 9223372036854775807 ∧ p.2.length ≤ 9223372036854775807) ∧ ∀ a ∈ p.2, FitsM k a
theorem wgA_all {f : Crd → Int → Int × Bool} : ∀ (l : List Crd) (r : Int), (wgA f l r).2 = false → ∀ a ∈ l, ∃ q, (f a q).2 = false
  | [], _, _, a, ha => by cases ha
  | b :: t, r, h, a, ha => by
    unfold wgA at h
    split at h
    · cases h
    rename_i hf
    rcases List.mem_cons.1 ha with rfl | ha
    · exact ⟨r, by simpa using hf⟩
    · exact wgA_all t _ h a ha
theorem wgP_all {f : Crd → Int → Int × Bool} : ∀ (l : List (Pd × List Crd)) (r : Int), (wgP f l r).2 = false → ∀ p ∈ l, (p.1.ps.length ≤ 20 ∧ p.2.length ≤ 4) ∧ ∀ a ∈ p.2, ∃ q, (f a q).2 = false
  | [], _, _, a, ha => by cases ha
  | b :: t, r, h, p, hp => by
    unfold wgP at h
    split at h
    · cases h
    rename_i h1
    split at h
    · cases h
    rename_i h2
    rcases List.mem_cons.1 hp with rfl | hp
    · exact ⟨⟨by omega, by omega⟩, wgA_all _ _ (by
        cases hb : (wgA f p.2 (r - p.1.v.size - 20)).2 with
        | false => rfl
        | true => exact absurd (.inl hb) h2)⟩
    · exact wgP_all t _ h p hp
/-- What is not too much to be asked has no long lists. -/
theorem great_fits : ∀ (d k : Nat) (t : Crd) (r : Int), (wgC d t r).2 = false → Fits k t
  | 0, _, _, _, h => by cases h
  | _ + 1, 0, _, _, _ => trivial
  | d + 1, k + 1, t, r, h => by
    unfold wgC at h
    split at h
    · cases h
    rename_i h1
    refine ⟨by omega, fun p hp => ?_⟩
    obtain ⟨⟨h2, h3⟩, h4⟩ := wgP_all _ _ h p hp
    exact ⟨⟨by omega, by omega⟩, fun a ha => by obtain ⟨q, hq⟩ := h4 a ha; exact great_fits d k a q hq⟩

set_option maxHeartbeats 2000000 in
theorem weighM_any : ∀ (d k : Nat) (t : Crd) (sv : Value) (r : Int) (w : World), FitsM k t → CAt w w.heap.size k t sv → d ≤ 12 → Bd r →
    Calls Tryz.prog 17 #[.agg #[sv], .int .i64 r, .int .i64 (d : Int)] w fun e w' => e = .returned (.tuple #[.int .i64 (wgC d t r).1, .bool (wgC d t r).2]) ∧ Below w.heap.size w w' := by
  intro d
  induction d with
  | zero =>
    intro k t sv r w _ hca _ _
    obtain ⟨a, n, cp, rfl⟩ := hca.one
    have hb1 : Below w.heap.size w (w.alloc (.cells #[.slice a n cp] 24)) := (Below.refl _ _).alloc (Nat.le_refl _) _
    clear hca
    go_enter Tryz.func17, Tryz.ntmps17
    go_wp2_with fail
    go_ret2
    exact ⟨rfl, hb1⟩
  | succ d ih =>
    intro k t sv r w hfit0 hca0 hd hbd
    obtain ⟨c⟩ := t
    obtain ⟨k, rfl⟩ : ∃ k', k = k' + 1 := by cases k with | zero => exact hca0.elim | succ k => exact ⟨k, rfl⟩
    have hfit : c.length ≤ 9223372036854775807 ∧ ∀ p ∈ c, (p.1.ps.length ≤ 9223372036854775807 ∧ p.2.length ≤ 9223372036854775807) ∧ ∀ a ∈ p.2, FitsM k a := hfit0
    have hca : PlAt w w.heap.size (CAt w w.heap.size k) c sv := hca0
    clear hfit0 hca0
    obtain ⟨a, cp, rfl⟩ := hca.len
    have IH := Lib.hid (fun t sv r w h1 h2 h3 => ih k t sv r w h1 h2 (by omega) h3)
    have hb1 : Below w.heap.size w (w.alloc (.cells #[.slice a c.length cp] 24)) := (Below.refl _ _).alloc (Nat.le_refl _) _
    have hbox := Boxed.new w 24 (.slice a c.length cp)
    have HC := Lib.hid hca
    have HFIT := Lib.hid hfit
    have hcl : c.length ≤ 9223372036854775807 := hfit.1
    obtain ⟨R, hR⟩ : ∃ R, wgC (d + 1) (.node c) r = R := ⟨_, rfl⟩
    rw [hR]
    have hR2 : (if 60 < c.length then ((0, true) : Int × Bool) else wgP (wgC d) c r) = R := hR
    have hdz0 : ((d + 1 : Nat) : Int) ≠ 0 := by omega
    have hdz : (((d + 1 : Nat) : Int) == 0) = false := by simpa using hdz0
    have hdm : ((d + 1 : Nat) : Int) - 1 = (d : Int) := by omega
    have hd12 : ((d + 1 : Nat) : Int) ≤ 12 := by omega
    have hd0 : (0 : Int) ≤ ((d + 1 : Nat) : Int) := by omega
    generalize ((d + 1 : Nat) : Int) = D at hdz0 hdz hdm hd12 hd0 ⊢
    have hF := fun a r h => wgC_bd d a r h
    have hc0 := hbox.cell
    by_cases hl : 60 < c.length
    · have hlz : (60 : Int) < (c.length : Int) := by omega
      have HE : Hid (R = (0, true)) := Lib.hid (by rw [if_pos hl] at hR2; exact hR2.symm)
      clear hR hR2 ih hl hF IH
      go_enter Tryz.func17, Tryz.ntmps17
      go_wp2_with fail
      go_ret2
      exact ⟨by rw [HE.out]; rfl, hb1⟩
    have hlz : ¬ (60 : Int) < (c.length : Int) := by omega
    have H0 := Lib.hid (show wgP (wgC d) (c.drop 0) r = R by rw [List.drop_zero]; rw [if_neg hl] at hR2; exact hR2)
    have HF := Lib.hid hF
    have HBX := Lib.hid hbox
    have HB1 := Lib.hid hb1
    have HBD := Lib.hid hbd
    clear hR hR2 ih hl hF hca hfit hbox hb1 hbd
    generalize wgC d = f at IH H0 HF
    go_enter Tryz.func17, Tryz.ntmps17
    go_wp2_with fail
    go_loopw [1, 8] (fun rv iv wr => ∃ (i : Nat) (q : Int), rv = .int .i64 q ∧ iv = .int .i64 (i : Int) ∧ i ≤ c.length ∧ Hid (Bd q) ∧ Hid (wgP f (c.drop i) q = R) ∧ Boxed wr w.heap.size 24 (.slice a c.length cp) ∧ Below w.heap.size w wr) (fun _ iv _ => c.length - (intOf iv).toNat)
    case atStart => exact ⟨0, r, rfl, rfl, Nat.zero_le _, HBD, H0, HBX.out, HB1.out⟩
    case round =>
      clear H0 HBX HB1 HBD hc0
      obtain ⟨i, q, rfl, rfl, hi, hq, hd, hbx, hbel⟩ := hrel
      have hc0 := hbx.cell
      have hqq := hq.out
      unfold Bd at hqq
      obtain ⟨hq1, hq2⟩ := hqq
      by_cases hlt : i < c.length
      · have hltz : (i : Int) < (c.length : Int) := by omega
        obtain ⟨b, o, pv, av, rfl, hbw, q0, q1, q2, q3, q4, hps, hag⟩ := HC.out.at_ hlt
        have HD := Lib.hid (by have h := hd.out; rw [wgP_drop hlt] at h; exact h)
        have HFA := Lib.hid (HFIT.out.2 _ (List.getElem_mem hlt)).2
        have hpl := (HFIT.out.2 _ (List.getElem_mem hlt)).1
        generalize c[i] = y at q0 q1 q2 q3 q4 hps hag HD hpl HFA
        obtain ⟨⟨g, n, ps, v⟩, gs⟩ := y
        simp only at q0 q1 q2 q3 hps hag HD hpl HFA
        obtain ⟨hpl, hgl⟩ := hpl
        obtain ⟨pa, pc, rfl⟩ := hps.shape
        obtain ⟨ga, gc, rfl⟩ := hag.len
        have q0 := (hbel.cell (p := ⟨b, o + i * 5, none⟩) hbw).trans q0
        have q1 := (hbel.cell (p := ⟨b, o + i * 5 + 1, none⟩) hbw).trans q1
        have q2 := (hbel.cell (p := ⟨b, o + i * 5 + 2, none⟩) hbw).trans q2
        have q3 := (hbel.cell (p := ⟨b, o + i * 5 + 3, none⟩) hbw).trans q3
        have q4 := (hbel.cell (p := ⟨b, o + i * 5 + 4, none⟩) hbw).trans q4
        have HAG := Lib.hid hag
        have HK : Hid (Boxed (wr.alloc (.cells #[.string g, .string n, .slice pa ps.length pc, .string v, .slice ga gs.length gc] 53)) w.heap.size 24 (.slice (some ⟨b, o, none⟩) c.length cp) ∧ PrAt (wr.alloc (.cells #[.string g, .string n, .slice pa ps.length pc, .string v, .slice ga gs.length gc] 53)) wr.heap.size g n (.slice pa ps.length pc) v (.slice ga gs.length gc) ∧ Below w.heap.size w (wr.alloc (.cells #[.string g, .string n, .slice pa ps.length pc, .string v, .slice ga gs.length gc] 53)) ∧ w.heap.size < wr.heap.size) := Lib.hid (by
          have hba : Below wr.heap.size wr (wr.alloc (.cells #[.string g, .string n, .slice pa ps.length pc, .string v, .slice ga gs.length gc] 53)) := (Below.refl _ _).alloc (Nat.le_refl _) _
          exact ⟨(hba.block _ hbx.lt).trans hbx, heap_alloc_new wr _, hbel.trans (hba.mono hbel.size), hbx.lt⟩)
        clear hd hps hag hbel hbx
        by_cases h20 : 20 < ps.length
        · have h20z : (20 : Int) < (ps.length : Int) := by omega
          have HE : Hid (R = (0, true)) := Lib.hid (by have h := HD.out; rw [if_pos (.inl h20)] at h; exact h.symm)
          clear h20 HD
          go_wp2_with fail
          go_ret2
          exact ⟨by rw [HE.out]; rfl, HK.out.2.2.1⟩
        have h20z : ¬ (20 : Int) < (ps.length : Int) := by omega
        by_cases h4 : 4 < gs.length
        · have h4z : (4 : Int) < (gs.length : Int) := by omega
          have HE : Hid (R = (0, true)) := Lib.hid (by have h := HD.out; rw [if_pos (.inr (.inl h4))] at h; exact h.symm)
          clear h20 h4 HD
          go_wp2_with fail
          go_ret2
          exact ⟨by rw [HE.out]; rfl, HK.out.2.2.1⟩
        have h4z : ¬ (4 : Int) < (gs.length : Int) := by omega
        by_cases hv : q < (v.size : Int)
        · have HE : Hid (R = (0, true)) := Lib.hid (by have h := HD.out; rw [if_pos (.inr (.inr hv))] at h; exact h.symm)
          clear h20 h4 HD
          go_wp2_with fail
          go_ret2
          exact ⟨by rw [HE.out]; rfl, HK.out.2.2.1⟩
        have HD2 := Lib.hid (by have h := HD.out; rw [if_neg (by omega)] at h; exact h)
        have HQ2 : Hid (Bd (q - v.size - 20)) := Lib.hid ⟨by omega, by omega⟩
        obtain ⟨q9, hq9⟩ : ∃ q9, q - (v.size : Int) - 20 = q9 := ⟨_, rfl⟩
        rw [hq9] at HD2 HQ2
        have hgz : gs.length ≤ 4 := by omega
        clear HD h20 h4
        go_wp2_with fail
        go_loopw [1, 10] (fun rv kv wk => ∃ (kk : Nat) (q2 : Int), rv = .int .i64 q2 ∧ kv = .int .i64 (kk : Int) ∧ kk ≤ gs.length ∧ Hid (Bd q2) ∧ Hid ((if (wgA f (gs.drop kk) q2).2 = true ∨ (wgA f (gs.drop kk) q2).1 < 0 then (0, true) else wgP f (c.drop (i + 1)) (wgA f (gs.drop kk) q2).1) = R) ∧ Boxed wk w.heap.size 24 (.slice (some ⟨b, o, none⟩) c.length cp) ∧ PrAt wk wr.heap.size g n (.slice pa ps.length pc) v (.slice ga gs.length gc) ∧ Below w.heap.size w wk) (fun _ kv _ => gs.length - (intOf kv).toNat)
        case atStart => exact ⟨0, q9, by rw [← hq9], rfl, Nat.zero_le _, HQ2, by rw [List.drop_zero]; exact HD2, HK.out.1, HK.out.2.1, HK.out.2.2.1⟩
        case round =>
          have HZ := Lib.hid HK.out.2.2.2
          clear HK HQ2 HD2 hq1 hq2 hv hq9 q0 q1 q2 q3 q4 hc0
          obtain ⟨kk, q2, rfl, rfl, hkk, hq2, hd2, hbx, hpr, hbel⟩ := hrel
          have hc0 := hbx.cell
          have hp4 := hpr.c4
          have hqq := hq2.out
          unfold Bd at hqq
          obtain ⟨hq3, hq4⟩ := hqq
          by_cases hlk : kk < gs.length
          · have hlkz : (kk : Int) < (gs.length : Int) := by omega
            have HD3 := Lib.hid (by have h := hd2.out; rw [wgA_drop hlk] at h; exact h)
            obtain ⟨b2, o2, sv, rfl, hb2, hsv, hcc⟩ := HAG.out.at_ hlk
            obtain ⟨xa, xn, xc, rfl⟩ := hcc.one
            have hsv1 := (hbel.cell (p := ⟨b2, o2 + kk, none⟩) hb2).trans hsv
            have CI := Lib.hid (IH.out gs[kk] _ q2 wr (HFA.out _ (List.getElem_mem hlk)) (hcc.on hbel) hq2.out)
            have hx := HF.out gs[kk] q2 hq2.out
            generalize f gs[kk] q2 = X at CI hx HD3
            obtain ⟨x1, x2⟩ := X
            simp only at CI hx HD3
            clear hd2 hcc hsv
            cases x2 with
            | true =>
              have HE : Hid (R = (0, true)) := Lib.hid (by have h := HD3.out; simp at h; exact h.symm)
              clear HD3 hx
              go_wp2_with (go_at_call 17; refine CI.out.mono ?_; rintro e w1 ⟨rfl, b1⟩)
              go_ret2
              exact ⟨by rw [HE.out]; rfl, hbel.trans (b1.mono hbel.size)⟩
            | false =>
              have HD4 : Hid ((if (wgA f (gs.drop (kk + 1)) x1).2 = true ∨ (wgA f (gs.drop (kk + 1)) x1).1 < 0 then (0, true) else wgP f (c.drop (i + 1)) (wgA f (gs.drop (kk + 1)) x1).1) = R) := Lib.hid (by have h := HD3.out; rw [show (if false = true then ((0 : Int), true) else wgA f (List.drop (kk + 1) gs) x1) = wgA f (List.drop (kk + 1) gs) x1 from if_neg (fun e => by cases e)] at h; exact h)
              clear HD3
              go_wp2_with (go_at_call 17; refine CI.out.mono ?_; rintro e w1 ⟨rfl, b1⟩)
              go_roundw
              case rel => exact ⟨kk + 1, x1, rfl, by go_num, by omega, Lib.hid hx, HD4, (b1.block _ hbx.lt).trans hbx, hpr.below b1, hbel.trans (b1.mono hbel.size)⟩
              case measure => simp [intOf]; omega
          · obtain rfl : kk = gs.length := by omega
            have hlkz : ¬ (gs.length : Int) < (gs.length : Int) := by omega
            have HD3 := Lib.hid (by have h := hd2.out; rw [List.drop_length] at h; exact h)
            by_cases hneg : q2 < 0
            · have HE : Hid (R = (0, true)) := Lib.hid (by have h := HD3.out; unfold wgA at h; rw [if_pos (.inr hneg)] at h; exact h.symm)
              clear hd2 HD3
              go_wp2_with fail
              go_ret2
              exact ⟨by rw [HE.out]; rfl, hbel⟩
            · have HD4 : Hid (wgP f (c.drop (i + 1)) q2 = R) := Lib.hid (by have h := HD3.out; unfold wgA at h; rw [if_neg (fun e => e.elim (fun e => by cases e) hneg)] at h; exact h)
              clear hd2 HD3
              go_wp2_with fail
              go_roundw
              case rel => exact ⟨i + 1, q2, rfl, by go_num, by omega, hq2, HD4, hbx, hbel⟩
              case measure => simp [intOf]; omega
      · have hltz : ¬ (i : Int) < (c.length : Int) := by omega
        have HE : Hid (R = (q, false)) := Lib.hid (by have h := hd.out; rw [List.drop_eq_nil_of_le (by omega)] at h; exact h.symm)
        clear hd
        go_wp2_with fail
        go_ret2
        exact ⟨by rw [HE.out]; rfl, hbel⟩

theorem greatM_any (k : Nat) (c : Crd) (sv : Value) (w : World) (hfit : FitsM k c) (hca : CAt w w.heap.size k c sv) :
    Calls Tryz.prog 7 #[.agg #[sv]] w fun e w' => e = .returned (.bool (great c)) ∧ Below w.heap.size w w' := by
  obtain ⟨a, n, cp, rfl⟩ := hca.one
  have hb1 : Below w.heap.size w (w.alloc (.cells #[.slice a n cp] 24)) := (Below.refl _ _).alloc (Nat.le_refl _) _
  have hbox := (Boxed.new w 24 (.slice a n cp)).cell
  have C := Lib.hid (weighM_any 12 k c _ 6000 _ hfit (hca.on hb1) (by decide) ⟨by decide, by decide⟩)
  have HB := Lib.hid hb1
  clear hca hb1
  unfold great
  generalize wgC 12 c 6000 = R at C ⊢
  go_enter Tryz.func7, Tryz.ntmps7
  go_wp2_with (go_at_call 17; refine C.out.mono ?_; rintro e w1 ⟨rfl, b1⟩)
  go_ret
  exact ⟨rfl, HB.out.trans (b1.mono HB.out.size)⟩
end Go.Proofs.YtpdodknldhbbhaaGreatDoor.Dp

namespace Go.Proofs.YtpdodknldhbbhaaGreatDoor.Vc
set_option maxRecDepth 100000
open Go.RowKit Pp

theorem scn_step {X : ByteArray} {i n k : Nat} (h : i < X.size) (hs : scn (X.data.toList.drop i) n k = true) :
    (X[i].toNat = 10 ∧ scn (X.data.toList.drop (i + 1)) 0 0 = true) ∨ (¬ X[i].toNat = 10 ∧ X[i].toNat = 13 ∧ scn (X.data.toList.drop (i + 1)) n k = true) ∨
      (¬ X[i].toNat = 10 ∧ ¬ X[i].toNat = 13 ∧ inkB X[i] = true ∧ ¬ (75 < n + 1 ∧ 0 < nextK X[i] n k) ∧ scn (X.data.toList.drop (i + 1)) (n + 1) (nextK X[i] n k) = true) := by
  rw [drop_at X i h, scn] at hs
  split at hs
  · rename_i h1; exact .inl ⟨h1, hs⟩
  rename_i h1
  split at hs
  · rename_i h2; exact .inr (.inl ⟨h1, h2, hs⟩)
  rename_i h2
  split at hs
  · cases hs
  rename_i h3
  split at hs
  · cases hs
  rename_i h4
  exact .inr (.inr ⟨h1, h2, by simpa using h3, h4, hs⟩)

end Go.Proofs.YtpdodknldhbbhaaGreatDoor.Vc
