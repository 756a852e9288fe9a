/-
Texts joined in one file, each with its own conditions: What the library's capital letters need of the world: three tables of Go's own, as the rows list them; that they stay; strings.ToUpper over them. Conditions: the tables hold what the rows list. · Plain functions on bytes: what two digits of either case say, through the library's capital letters. No program in it, no conditions. · Plain functions on bytes: what letters say ('dec'). No program in it, no conditions. · What a mark says by the bytes behind it: the program's answer is the plain function 'behind'. Conditions: at most two bytes stand there; the library's tables hold what the rows list. · Plain functions on bytes: letters as bytes. No program in it, no conditions.
-/
import Derived.Test.YtjgfbicllgalkaaGreatDoorRows
import Derived.Test.YtjgfbicllgalkaaGreatDoorShelf
import Derived.Lib.LaidCase
import Derived.Lib.LaidU8T
import Derived.PinnedBridge
import Derived.MakeChecks
import Derived.Lib.Hide
import Derived.Test.YtjgfbicllgalkaaGreatDoorJ01
import Derived.Lib.MapLaws
import Derived.Shelf.Strings.CaseAny
import Derived.Test.YtjgfbicllgalkaaGreatDoorJ03
import Derived.Laws.IdiomStrings
import Derived.Lib.Bytealg
import Derived.Lib.SlTrimSet
namespace Go.Proofs.YtjgfbicllgalkaaGreatDoor.Qu
set_option maxRecDepth 100000
open Go.RowKit Go.Lib Go.Shelf

def Tabs (w : World) : Prop := CaseVar 3 caseA w ∧ Lib.Utf8Tabs 1 2 w
theorem Tabs.below {w w' : World} (h : Tabs w) (hb : Below w.heap.size w w') : Tabs w' := by
  have k : ∀ {a : Addr} {v : Value}, w.cell? a = some v → w'.cell? a = some v := fun {a v} hc => (hb.cell (World.block_lt_of_cell? w a hc)).trans hc
  exact ⟨CaseVar_below h.1 hb, fun c hc => k (h.2.1 c hc), fun i hi => ⟨k (h.2.2 i hi).1, k (h.2.2 i hi).2⟩⟩
theorem upper_any (s : ByteArray) (w : World) (hs : s.size < 35184372088832) (T : Tabs w) :
    Calls Tryz.prog 291 #[.string s] w fun e w' => e = .returned (.string ⟨(Lib.toUpperD s.data.toList).toArray⟩) ∧ Below w.heap.size w w' :=
  Tryz.strings_ToUpper_any s w hs T.1 T.2

theorem caseX : CaseExtra Tryz.prog Tryz.lays158_ren := ⟨by kernel_rfl, by kernel_rfl, by kernel_rfl, by kernel_rfl, by kernel_rfl, by kernel_rfl⟩
theorem u8X : U8Extra Tryz.prog Tryz.lays158_ren := ⟨by kernel_rfl, by kernel_rfl, by kernel_rfl, by kernel_rfl, by kernel_rfl, by kernel_rfl, by kernel_rfl⟩
theorem accept_eq : (Rows.laid_unicode_utf8_acceptRanges : DataW Unit) = acceptData := by kernel_rfl

theorem tabs_of_laid {W : World} (hL : laidMetH Tryz.prog [("unicode/utf8.acceptRanges", Rows.laid_unicode_utf8_acceptRanges), ("unicode.CaseRanges", Rows.laid_unicode_CaseRanges), ("unicode/utf8.first", Rows.laid_unicode_utf8_first)] W) : Tabs W := by
  rw [MakeChecks.laidMetH_plain _ _ _ (by kernel_rfl)] at hL
  have r1 := Lib.laidMet.reads hL (.head _)
  have r2 := Lib.laidMet.reads hL (.tail _ (.head _))
  have r3 := Lib.laidMet.reads hL (.tail _ (.tail _ (.head _)))
  rw [accept_eq] at r1
  rw [show (Rows.laid_unicode_CaseRanges) = caseData from Pinned.caseRanges_eq] at r2
  rw [show (Rows.laid_unicode_utf8_first) = firstData from Pinned.utf8First_eq] at r3
  exact ⟨caseVar_of_reads { Tryz.lays158 with } Tryz.lays158.t206 caseX r2, utf8Tabs_of_readsT { Tryz.lays158 with } u8X r3 r1⟩
end Go.Proofs.YtjgfbicllgalkaaGreatDoor.Qu

namespace Go.Proofs.YtjgfbicllgalkaaGreatDoor.Qu
set_option maxRecDepth 100000
open Go.RowKit Fig

/-- What a digit of either case counts; -1: it is none. -/
def half (c : UInt8) : Int := if 97 ≤ (c.toNat : Int) ∧ (c.toNat : Int) ≤ 102 then (c.toNat : Int) - 87 else hv c
theorem half_bd (c : UInt8) : -1 ≤ half c ∧ half c ≤ 15 := by
  have := hv_bd c
  unfold half; split <;> omega
theorem hv_upper_fin : ∀ i : Fin 128, hv (Lib.upperB (UInt8.ofNat i.val)) = half (UInt8.ofNat i.val) := by decide
theorem hv_upper (c : UInt8) (h : c.toNat < 128) : hv (Lib.upperB c) = half c := by
  have := hv_upper_fin ⟨c.toNat, h⟩
  simpa using this
theorem hv_high (c : UInt8) (h : 128 ≤ c.toNat) : hv c < 0 := by
  unfold hv; rw [hvI_no (by omega) (by omega)]; decide
theorem half_high (c : UInt8) (h : 128 ≤ c.toNat) : half c < 0 := by
  unfold half; rw [if_neg (by omega)]; exact hv_high c h

theorem unhex_has {l : List UInt8} {c : UInt8} (h : c ∈ l) (hc : hv c < 0) : unhex l = ([], 3) := by
  unfold unhex; rw [if_pos]
  rw [List.any_eq_true]; exact ⟨c, h, by simpa using hc⟩

/-- A capital that is asked of a rune from 128 on is one from 128 on, or I, or S. -/
def rowHigh (x : Lib.CaseRow) : Bool :=
  decide (x.2.1 < 128) || (decide (128 ≤ x.1) && (decide (x.delta 0 > 1114111) || decide (128 ≤ (x.1 : Int) + x.delta 0) || (decide (x.1 = x.2.1) && (decide ((x.1 : Int) + x.delta 0 = 73) || decide ((x.1 : Int) + x.delta 0 = 83)))))
set_option maxRecDepth 1000000 in
theorem rowsHigh : Lib.caseT.all rowHigh = true := by decide
theorem caseA_high (i : Nat) (hi : i < Lib.caseA.size) : rowHigh (Lib.caseA.getD i (0, 0, 0, 0, 0)) = true := by
  have hm : Lib.caseA.getD i (0, 0, 0, 0, 0) ∈ Lib.caseT := by
    unfold Lib.caseA at hi ⊢
    simp only [List.size_toArray] at hi
    simp [Array.getD, hi]
  exact List.all_eq_true.1 rowsHigh _ hm
theorem upper_high (r : Nat) (h : 128 ≤ r) : 128 ≤ Lib.toUpperU r ∨ Lib.toUpperU r = 73 ∨ Lib.toUpperU r = 83 := by
  unfold Lib.toUpperU
  rw [if_neg (by omega)]
  unfold Lib.toR Lib.lookupGo
  cases hi : Lib.lookupIdx Lib.caseA r (Lib.caseA.size + 1) 0 Lib.caseA.size with
  | none => left; show (128 : Int) ≤ r; omega
  | some i =>
    obtain ⟨hil, hlo, hhi⟩ := Lib.lookupIdx_some Lib.caseA r _ _ _ i hi
    have hr := caseA_high i hil
    show 128 ≤ Lib.convertR 0 r (Lib.caseA.getD i (0, 0, 0, 0, 0)) ∨ _ = _ ∨ _ = _
    change (_ ∨ Lib.convertR 0 r (Lib.caseA.getD i (0, 0, 0, 0, 0)) = 73 ∨ Lib.convertR 0 r (Lib.caseA.getD i (0, 0, 0, 0, 0)) = 83)
    generalize Lib.caseA.getD i (0, 0, 0, 0, 0) = x at hr hlo hhi
    simp only [rowHigh, Bool.or_eq_true, Bool.and_eq_true, decide_eq_true_eq] at hr
    unfold Lib.convertR
    rcases hr with hr | ⟨h1, (hr | hr) | ⟨he, hr⟩⟩
    · omega
    · rw [if_pos hr]; left; omega
    · split <;> (left; omega)
    · split
      · left; omega
      · rcases hr with hr | hr
        · right; left; omega
        · right; right; omega

theorem encode_high (u : Int) (h : 128 ≤ u ∨ u = 73 ∨ u = 83) : ∃ c ∈ Lib.encodeRune u, hv c < 0 := by
  have key : ∀ z : Int, z ∈ Lib.encodeRuneZ u → (192 ≤ z ∧ z < 256) → ∃ c ∈ Lib.encodeRune u, hv c < 0 := fun z hz hb => by
    refine ⟨z.toNat.toUInt8, List.mem_map.2 ⟨z, hz, rfl⟩, hv_high _ ?_⟩
    simp; omega
  rcases h with h | h | h
  · by_cases h2 : u ≤ 2047
    · exact key (192 + u / 64) (by rw [Lib.encodeRuneZ_two h h2]; simp) (by omega)
    · by_cases h3 : (2048 ≤ u ∧ u < 55296) ∨ (57343 < u ∧ u ≤ 65535)
      · exact key (224 + u / 4096) (by rw [Lib.encodeRuneZ_three h3]; simp) (by omega)
      · by_cases h4 : 65536 ≤ u ∧ u ≤ 1114111
        · exact key (240 + u / 262144) (by rw [Lib.encodeRuneZ_four h4.1 h4.2]; simp) (by omega)
        · exact key 239 (by rw [Lib.encodeRuneZ_bad (by omega)]; simp) (by omega)
  · subst h; exact ⟨73, by decide, by decide⟩
  · subst h; exact ⟨83, by decide, by decide⟩

theorem decode_high (c : UInt8) (t : List UInt8) (h : 128 ≤ c.toNat) : 128 ≤ (Lib.decodeL (c :: t)).1 := by
  rw [Lib.decodeL_N]
  rcases Lib.decodeN_shape (c :: t).length ((c :: t).getD 0 0).toNat ((c :: t).getD 1 0).toNat ((c :: t).getD 2 0).toNat ((c :: t).getD 3 0).toNat with ⟨h1, e⟩ | ⟨_, _, _, h1, e⟩ | ⟨_, _, _, _, h1, _, e⟩ | ⟨_, _, _, _, _, h1, _, e⟩ | e
  · exfalso; simp at h1; omega
  · rw [e]; exact h1
  · rw [e]; show 128 ≤ _; omega
  · rw [e]; show 128 ≤ _; omega
  · rw [e]; decide

/-- From a byte from 128 on there comes what is no digit. -/
theorem upperD_high (c : UInt8) (t : List UInt8) (h : 128 ≤ c.toNat) : ∃ x ∈ Lib.toUpperD (c :: t), hv x < 0 := by
  have hu := upper_high _ (decode_high c t h)
  obtain ⟨x, hx, hn⟩ := encode_high _ hu
  refine ⟨x, ?_, hn⟩
  unfold Lib.toUpperD
  rw [Lib.mapD_step _ _ (by simp), if_pos (Lib.toUpperU_range _ (Lib.decodeL_rune _)).1]
  exact List.mem_append_left _ hx

theorem said1 (x : UInt8) : unhex (Lib.toUpperD [x]) = if half x < 0 then ([], 3) else ([], 1) := by
  by_cases h : x.toNat < 128
  · rw [Lib.toUpperD_ascii [x] (by simpa using h)]
    unfold Lib.toUpperA unhex
    simp [hv_upper x h]
  · obtain ⟨c, hc, hn⟩ := upperD_high x [] (by omega)
    rw [unhex_has hc hn, if_pos (half_high x (by omega))]
theorem said2 (x y : UInt8) : unhex (Lib.toUpperD [x, y]) = if half x < 0 ∨ half y < 0 then ([], 3) else ([UInt8.ofNat (16 * half x + half y).toNat], 0) := by
  by_cases h : x.toNat < 128
  · by_cases h' : y.toNat < 128
    · rw [Lib.toUpperD_ascii [x, y] (by simp; exact ⟨h, h'⟩)]
      unfold Lib.toUpperA unhex
      simp [hv_upper x h, hv_upper y h', pairs]
    · obtain ⟨c, hc, hn⟩ := upperD_high y [] (by omega)
      rw [if_pos (.inr (half_high y (by omega)))]
      refine unhex_has (c := c) ?_ hn
      unfold Lib.toUpperD at hc ⊢
      rw [Lib.mapD_step _ _ (by simp), Lib.decodeL_ascii x [y] h]
      exact List.mem_append_right _ hc
  · obtain ⟨c, hc, hn⟩ := upperD_high x [y] (by omega)
    rw [unhex_has hc hn, if_pos (.inl (half_high x (by omega)))]
end Go.Proofs.YtjgfbicllgalkaaGreatDoor.Qu

namespace Go.Proofs.YtjgfbicllgalkaaGreatDoor.Qu
set_option maxRecDepth 100000
open Go.RowKit Fig

/-- What a mark says by what stands behind it: bytes, and an error's number (0: none). -/
def behind : List UInt8 → List UInt8 × Nat
  | [] => ([], 1)
  | [x] => if x = 13 then ([], 1) else if half x < 0 then ([], 3) else ([], 1)
  | x :: y :: _ => if x = 13 ∧ y = 10 then ([], 0) else if half x < 0 ∨ half y < 0 then ([], 3) else ([UInt8.ofNat (16 * half x + half y).toNat], 0)
/-- A byte that says itself. -/
def lit (c : UInt8) : Bool := ink c || blank c
def pre (b : List UInt8) (p : List UInt8 × Nat) : List UInt8 × Nat := if p.2 = 0 then (b ++ p.1, 0) else ([], p.2)
def dec : List UInt8 → List UInt8 × Nat
  | [] => ([], 0)
  | [c] => if lit c then ([c], 0) else if c = 61 then ([], 1) else ([], 3)
  | [c, x] => if lit c then pre [c] (dec [x]) else if c = 61 then ([], (behind [x]).2) else ([], 3)
  | c :: x :: y :: r => if lit c then pre [c] (dec (x :: y :: r)) else if c = 61 then (if (behind (x :: y :: r)).2 = 0 then pre (behind (x :: y :: r)).1 (dec r) else ([], (behind (x :: y :: r)).2)) else ([], 3)

theorem behind_few {r : List UInt8} (h : (behind r).2 = 0) : 2 ≤ r.length := by
  match r with
  | [] => simp [behind] at h
  | [x] =>
    exfalso
    revert h
    show (if x = 13 then ([], 1) else if half x < 0 then ([], 3) else ([], 1) : List UInt8 × Nat).2 = 0 → False
    by_cases h1 : x = 13
    · rw [if_pos h1]; decide
    · rw [if_neg h1]
      by_cases h2 : half x < 0
      · rw [if_pos h2]; decide
      · rw [if_neg h2]; decide
  | _ :: _ :: _ => simp
theorem dec_cons (c : UInt8) (r : List UInt8) :
    dec (c :: r) = if lit c then pre [c] (dec r) else if c = 61 then (if (behind r).2 = 0 then pre (behind r).1 (dec (r.drop 2)) else ([], (behind r).2)) else ([], 3) := by
  match r with
  | [] => simp [dec, behind, pre]
  | [x] =>
    have : (behind [x]).2 ≠ 0 := fun h => by have := behind_few h; simp at this
    simp only [dec]
    rw [if_neg this]
  | x :: y :: r => simp only [dec, List.drop_succ_cons, List.drop_zero]
theorem pre_nil (p : List UInt8 × Nat) (h : p.2 = 0 ∨ p.1 = []) : pre [] p = p := by
  obtain ⟨a, b⟩ := p
  unfold pre; split
  · rename_i h0; simp at h0; simp [h0]
  · rcases h with h | h
    · rename_i h0; exact absurd h h0
    · simp at h; simp [h]
theorem pre_pre (a b : List UInt8) (p : List UInt8 × Nat) : pre a (pre b p) = pre (a ++ b) p := by
  unfold pre
  by_cases h : p.2 = 0
  · simp [h]
  · simp [h]
theorem pre_err {a : List UInt8} {e : Nat} (h : e ≠ 0) : pre a ([], e) = ([], e) := by unfold pre; rw [if_neg h]
theorem dec_form (l : List UInt8) : (dec l).2 = 0 ∨ (dec l).1 = [] := by
  match l with
  | [] => left; rfl
  | c :: r =>
    rw [dec_cons]
    have hp : ∀ a p, (pre a p).2 = 0 ∨ (pre a p).1 = [] := fun a p => by unfold pre; split <;> simp
    split
    · exact hp _ _
    · split
      · split
        · exact hp _ _
        · right; rfl
      · right; rfl
theorem pre_dec (l : List UInt8) : pre [] (dec l) = dec l := pre_nil _ (dec_form l)
theorem behind_take (r : List UInt8) : behind (r.take 2) = behind r := by
  match r with
  | [] => rfl
  | [x] => rfl
  | x :: y :: r => simp [behind]
theorem behind_length (r : List UInt8) : (behind r).1.length ≤ 1 := by
  unfold behind; split
  · simp
  · split <;> (try split) <;> simp
  · split <;> (try split) <;> simp

/-! At a place of a text. -/
theorem dec_lit {s : ByteArray} {k : Nat} {l : List UInt8} (hk : k < s.size) (h : lit s[k] = true) (hl : pre l (dec (s.data.toList.drop k)) = dec s.data.toList) :
    pre (l ++ [s[k]]) (dec (s.data.toList.drop (k + 1))) = dec s.data.toList := by
  rw [drop_at s k hk, dec_cons, if_pos h, pre_pre] at hl; exact hl
theorem dec_mark {s : ByteArray} {k : Nat} {l b : List UInt8} (hk : k < s.size) (h : lit s[k] = false) (hc : s[k] = 61) (hb : behind (s.data.toList.drop (k + 1)) = (b, 0)) (hl : pre l (dec (s.data.toList.drop k)) = dec s.data.toList) :
    pre (l ++ b) (dec (s.data.toList.drop (k + 3))) = dec s.data.toList := by
  rw [drop_at s k hk, dec_cons, h, if_neg (by decide), if_pos hc, hb, if_pos rfl, pre_pre, List.drop_drop] at hl; exact hl
theorem dec_bad {s : ByteArray} {k e : Nat} {l b : List UInt8} (hk : k < s.size) (h : lit s[k] = false) (hc : s[k] = 61) (hb : behind (s.data.toList.drop (k + 1)) = (b, e)) (he : e ≠ 0) (hl : pre l (dec (s.data.toList.drop k)) = dec s.data.toList) :
    dec s.data.toList = ([], e) := by
  rw [drop_at s k hk, dec_cons, h, if_neg (by decide), if_pos hc, hb, if_neg he, pre_err he] at hl; exact hl.symm
theorem dec_other {s : ByteArray} {k : Nat} {l : List UInt8} (hk : k < s.size) (h : lit s[k] = false) (hc : ¬ s[k] = 61) (hl : pre l (dec (s.data.toList.drop k)) = dec s.data.toList) :
    dec s.data.toList = ([], 3) := by
  rw [drop_at s k hk, dec_cons, h, if_neg (by decide), if_neg hc, pre_err (by decide)] at hl; exact hl.symm
theorem dec_end {s : ByteArray} {k : Nat} {l : List UInt8} (hk : ¬ k < s.size) (hl : pre l (dec (s.data.toList.drop k)) = dec s.data.toList) : dec s.data.toList = (l, 0) := by
  rw [drop_end s hk] at hl; rw [← hl]; simp [dec, pre]
theorem behind_size {s : ByteArray} {k : Nat} {b : List UInt8} (hb : behind (s.data.toList.drop (k + 1)) = (b, 0)) : k + 3 ≤ s.size := by
  have := behind_few (r := s.data.toList.drop (k + 1)) (by rw [hb])
  simp at this; omega
theorem retD {a : List UInt8} {b : Nat} {p : List UInt8 × Nat} (h : p = (a, b)) : Ending.returned (.tuple #[.string ⟨a.toArray⟩, .int .i64 (b : Int)]) = Ending.returned (.tuple #[.string ⟨p.1.toArray⟩, .int .i64 (p.2 : Int)]) := by rw [h]
end Go.Proofs.YtjgfbicllgalkaaGreatDoor.Qu

namespace Go.Proofs.YtjgfbicllgalkaaGreatDoor.Qu
set_option maxRecDepth 100000
open Go.RowKit Fig

theorem mapGo_length (f : Int → Int) : ∀ (n : Nat) (l : List UInt8), (Lib.mapGoD f n l).length ≤ 4 * n
  | 0, _ => by simp [Lib.mapGoD]
  | n + 1, l => by
    unfold Lib.mapGoD
    split
    · simp
    · have ih := mapGo_length f n (l.drop (Lib.decodeL l).2)
      have : (if 0 ≤ f (Lib.decodeL l).1 then Lib.encodeRune (f (Lib.decodeL l).1) else []).length ≤ 4 := by
        split
        · have := (Lib.encodeRuneZ_length (f (Lib.decodeL l).1)).2
          simpa [Lib.encodeRune] using this
        · simp
      rw [List.length_append]; omega
theorem upperD_size (l : List UInt8) : (⟨(Lib.toUpperD l).toArray⟩ : ByteArray).size ≤ 4 * l.length := by
  show (Lib.toUpperD l).toArray.size ≤ _
  rw [List.size_toArray]; exact mapGo_length _ _ _
theorem behind1 {x : UInt8} (h : ¬ x = 13) : unhex (Lib.toUpperD [x]) = behind [x] := by
  rw [said1]; show _ = if x = 13 then ([], 1) else if half x < 0 then ([], 3) else ([], 1)
  rw [if_neg h]
theorem behind2 {x y : UInt8} (h : ¬ (x = 13 ∧ y = 10)) : unhex (Lib.toUpperD [x, y]) = behind [x, y] := by
  rw [said2]; show _ = if x = 13 ∧ y = 10 then ([], 0) else if half x < 0 ∨ half y < 0 then ([], 3) else ([UInt8.ofNat (16 * half x + half y).toNat], 0)
  rw [if_neg h]

set_option maxHeartbeats 400000 in
theorem said_any (l : List UInt8) (hl : l.length ≤ 2) (w : World) (T : Tabs w) :
    Calls Tryz.prog 272 #[.string ⟨l.toArray⟩] w fun e w' => e = .returned (.tuple #[.string ⟨(behind l).1.toArray⟩, .int .i64 ((behind l).2 : Int)]) ∧ Below w.heap.size w w' := by
  have C1 := Lib.hid (upper_any ⟨l.toArray⟩ w (by show l.toArray.size < _; simp; omega) T)
  match l, hl with
  | [], _ =>
    go_enter Tryz.func272, Tryz.ntmps272
    go_wp2_with fail
    go_ret2
    exact ⟨rfl, Below.refl _ _⟩
  | [x], _ =>
    by_cases h13 : x = 13
    · subst h13
      go_enter Tryz.func272, Tryz.ntmps272
      go_wp2_with fail
      go_ret2
      exact ⟨rfl, Below.refl _ _⟩
    · have hb : (x == 13) = false := by simpa using h13
      have C2 := Lib.hid (fun W => unhex_any ⟨(Lib.toUpperD [x]).toArray⟩ W (by have := upperD_size [x]; simp at this ⊢; omega))
      rw [show (⟨(Lib.toUpperD [x]).toArray⟩ : ByteArray).data.toList = Lib.toUpperD [x] by simp, behind1 h13] at C2
      generalize (⟨(Lib.toUpperD [x]).toArray⟩ : ByteArray) = u at C1 C2
      generalize (behind [x]).1.toArray = p at C2 ⊢
      generalize (behind [x]).2 = q at C2 ⊢
      clear h13
      go_enter Tryz.func272, Tryz.ntmps272
      go_wp2_with fail
      refine C1.out.mono ?_
      rintro e w1 ⟨rfl, b1⟩
      go_wp2_with fail
      refine (C2.out _).mono ?_
      rintro e w2 ⟨rfl, b2⟩
      go_wp2_with fail
      go_ret2
      exact ⟨rfl, b1.trans (b2.mono b1.size)⟩
  | [x, y], _ =>
    by_cases h : x = 13 ∧ y = 10
    · obtain ⟨rfl, rfl⟩ := h
      go_enter Tryz.func272, Tryz.ntmps272
      go_wp2_with fail
      go_ret2
      exact ⟨rfl, Below.refl _ _⟩
    · have hb : (x == 13 && y == 10) = false := by simpa using h
      have C2 := Lib.hid (fun W => unhex_any ⟨(Lib.toUpperD [x, y]).toArray⟩ W (by have := upperD_size [x, y]; simp at this ⊢; omega))
      rw [show (⟨(Lib.toUpperD [x, y]).toArray⟩ : ByteArray).data.toList = Lib.toUpperD [x, y] by simp, behind2 h] at C2
      generalize (⟨(Lib.toUpperD [x, y]).toArray⟩ : ByteArray) = u at C1 C2
      generalize (behind [x, y]).1.toArray = p at C2 ⊢
      generalize (behind [x, y]).2 = q at C2 ⊢
      clear h
      go_enter Tryz.func272, Tryz.ntmps272
      go_wp2_with fail
      refine C1.out.mono ?_
      rintro e w1 ⟨rfl, b1⟩
      go_wp2_with fail
      refine (C2.out _).mono ?_
      rintro e w2 ⟨rfl, b2⟩
      go_wp2_with fail
      go_ret2
      exact ⟨rfl, b1.trans (b2.mono b1.size)⟩
end Go.Proofs.YtjgfbicllgalkaaGreatDoor.Qu

namespace Go.Proofs.YtjgfbicllgalkaaGreatDoor.Sx
open Go.RowKit

/-- What a letter is worth; -1 of a byte that is none. -/
def wI (c : UInt8) : Int := Lib.indexByte lts c
def w6 (c : UInt8) : Nat := (wI c).toNat
def isL (c : UInt8) : Bool := decide (0 ≤ wI c)
def isP (c : UInt8) : Bool := c == 61
def blankB (c : UInt8) : Bool := decide (0 ≤ Lib.indexByte [32, 9, 13, 10] c)
theorem all_bytes {P : UInt8 → Prop} (h : ∀ n, n < 256 → P (UInt8.ofNat n)) (c : UInt8) : P c := by
  have := h c.toNat c.toNat_lt
  rwa [UInt8.ofNat_toNat] at this
theorem wI_bd (c : UInt8) : -1 ≤ wI c ∧ wI c ≤ 63 :=
  all_bytes (P := fun c => -1 ≤ wI c ∧ wI c ≤ 63) (by decide +kernel) c
theorem w6_lt (c : UInt8) : w6 c < 64 := by have := wI_bd c; unfold w6; omega
theorem w6_of {c : UInt8} (h : isL c = true) : wI c = (w6 c : Int) := by unfold isL at h; unfold w6; have := of_decide_eq_true h; omega
theorem isP_not (c : UInt8) : isL c = true → isP c = false :=
  all_bytes (P := fun c => isL c = true → isP c = false) (by decide +kernel) c
theorem isP_eq {c : UInt8} (h : isP c = true) : c = 61 := by unfold isP at h; exact beq_iff_eq.1 h
theorem lt_facts (n : Nat) (h : n < 64) : isL (lt n) = true ∧ w6 (lt n) = n ∧ blankB (lt n) = false := by
  have : ∀ n, n < 64 → isL (lt n) = true ∧ w6 (lt n) = n ∧ blankB (lt n) = false := by decide +kernel
  exact this n h

/-- A text without the bytes that are passed over. -/
def strip (l : List UInt8) : List UInt8 := l.filter fun c => !blankB c
theorem strip_nil : strip [] = [] := rfl
theorem strip_yes {c : UInt8} (r : List UInt8) (h : blankB c = true) : strip (c :: r) = strip r := by unfold strip; rw [List.filter_cons_of_neg (by simp [h])]
theorem strip_no {c : UInt8} (r : List UInt8) (h : blankB c = false) : strip (c :: r) = c :: strip r := by unfold strip; rw [List.filter_cons_of_pos (by simp [h])]
theorem strip_append (a b : List UInt8) : strip (a ++ b) = strip a ++ strip b := List.filter_append ..
theorem strip_length (l : List UInt8) : (strip l).length ≤ l.length := List.length_filter_le _ _

/-- What is wrong with a letter at place i, behind a pad or not. -/
def fa (i : Nat) (bp : Bool) (c : UInt8) : Nat :=
  if !isP c && !isL c then 3 else if bp && i % 4 == 0 then 6 else if (isP c && decide (i % 4 < 2)) || (bp && !isP c) then 3 else 0
/-- The first fault. -/
def flt : Nat → Bool → List UInt8 → Nat
  | i, _, [] => if i % 4 = 0 then 0 else 1
  | i, bp, c :: r => if fa i bp c = 0 then flt (i + 1) (isP c) r else fa i bp c
theorem fa_mod (i : Nat) (bp : Bool) (c : UInt8) : fa (i + 4) bp c = fa i bp c := by unfold fa; rw [Nat.add_mod_right]
theorem flt_mod (l : List UInt8) : ∀ i bp, flt (i + 4) bp l = flt i bp l := by
  induction l with
  | nil => intro i bp; unfold flt; rw [Nat.add_mod_right]
  | cons c r ih => intro i bp; unfold flt; rw [fa_mod, show i + 4 + 1 = i + 1 + 4 by omega, ih]

/-- A group of four that is right but for its last letter's bits. -/
def ok4 (x : List UInt8) : Prop := ∃ a b c d, x = [a, b, c, d] ∧ isL a = true ∧ isL b = true ∧ ((isL c = true ∧ isL d = true) ∨ (isL c = true ∧ d = 61) ∨ (c = 61 ∧ d = 61))
theorem fa_ok {i : Nat} {bp : Bool} {c : UInt8} (h : fa i bp c = 0) : (isP c = true ∨ isL c = true) ∧ (bp = true → i % 4 ≠ 0 ∧ isP c = true) ∧ (isP c = true → 2 ≤ i % 4) := by
  unfold fa at h
  have hm : i % 4 = 0 ∨ i % 4 = 1 ∨ i % 4 = 2 ∨ i % 4 = 3 := by omega
  generalize isP c = x at *
  generalize isL c = y at *
  generalize i % 4 = m at *
  rcases hm with rfl | rfl | rfl | rfl <;> cases x <;> cases y <;> cases bp <;> simp_all
/-- A right text begins with a right group, and goes on only behind one without pads. -/
theorem flt_group {t : List UInt8} (h : flt 0 false t = 0) (h0 : 0 < t.length) : ∃ a b c d r, t = a :: b :: c :: d :: r ∧ ok4 [a, b, c, d] ∧ flt 0 false r = 0 ∧ (isP d = true → r = []) := by
  match t, h0 with
  | a :: t, _ =>
    unfold flt at h
    by_cases ha : fa 0 false a = 0
    · rw [if_pos ha] at h
      obtain ⟨a1, a2, a3⟩ := fa_ok ha
      have hpa : isP a = false := by cases e : isP a <;> simp_all
      rw [hpa] at h
      match t with
      | [] => simp [flt] at h
      | b :: t =>
        unfold flt at h
        by_cases hb : fa 1 false b = 0
        · rw [if_pos hb] at h
          obtain ⟨b1, b2, b3⟩ := fa_ok hb
          have hpb : isP b = false := by cases e : isP b <;> simp_all
          rw [hpb] at h
          match t with
          | [] => simp [flt] at h
          | c :: t =>
            unfold flt at h
            by_cases hc : fa 2 false c = 0
            · rw [if_pos hc] at h
              obtain ⟨c1, c2, c3⟩ := fa_ok hc
              match t with
              | [] => simp [flt] at h
              | d :: r =>
                unfold flt at h
                by_cases hd : fa 3 (isP c) d = 0
                · rw [if_pos hd] at h
                  obtain ⟨d1, d2, d3⟩ := fa_ok hd
                  have hla : isL a = true := by simpa [hpa] using a1
                  have hlb : isL b = true := by simpa [hpb] using b1
                  refine ⟨a, b, c, d, r, rfl, ⟨a, b, c, d, rfl, hla, hlb, ?_⟩, ?_, ?_⟩
                  · rcases c1 with hp | hl
                    · exact .inr (.inr ⟨isP_eq hp, isP_eq (d2 hp).2⟩)
                    · rcases d1 with hq | hm
                      · exact .inr (.inl ⟨hl, isP_eq hq⟩)
                      · exact .inl ⟨hl, hm⟩
                  · cases hq : isP d
                    · rw [hq] at h; rw [← flt_mod]; exact h
                    · rw [hq] at h
                      match r with
                      | [] => simp [flt]
                      | e :: r =>
                        unfold flt at h
                        by_cases he : fa 4 true e = 0
                        · have := (fa_ok he).2.1 rfl; simp at this
                        · rw [if_neg he] at h; exact absurd h he
                  · intro hq
                    match r with
                    | [] => rfl
                    | e :: r =>
                      rw [hq] at h
                      unfold flt at h
                      by_cases he : fa 4 true e = 0
                      · have := (fa_ok he).2.1 rfl; simp at this
                      · rw [if_neg he] at h; exact absurd h he
                · rw [if_neg hd] at h; exact absurd h hd
            · rw [if_neg hc] at h; exact absurd h hc
        · rw [if_neg hb] at h; exact absurd h hb
    · rw [if_neg ha] at h; exact absurd h ha

/-- The letters of a group that are no pads. -/
def said (x : List UInt8) : List UInt8 := Lib.trimRightS x [61, 61]
/-- The three bytes that letters say; a missing letter counts 0. -/
def gn (x : List UInt8) (i : Nat) : Nat := match x[i]? with | some c => w6 c | none => 0
def tri (x : List UInt8) : List UInt8 := [UInt8.ofNat (gn x 0 * 4 + gn x 1 / 16), UInt8.ofNat (gn x 1 % 16 * 16 + gn x 2 / 4), UInt8.ofNat (gn x 2 % 4 * 64 + gn x 3)]
/-- The bytes that a group says, and whether a bit that is missing is set. -/
def good (x : List UInt8) : List UInt8 := (tri (said x)).take ((said x).length - 1)
def bad (x : List UInt8) : Bool := tri (said x) != (good x ++ List.replicate (3 - (good x).length) 0)
/-- The bytes that letters say, or what is wrong. -/
def dec (l : List UInt8) : List UInt8 × Nat :=
  if flt 0 false (strip l) = 0 then (if (cut 4 (strip l)).any bad then ([], 3) else (((cut 4 (strip l)).map good).flatten, 0)) else ([], flt 0 false (strip l))
end Go.Proofs.YtjgfbicllgalkaaGreatDoor.Sx
