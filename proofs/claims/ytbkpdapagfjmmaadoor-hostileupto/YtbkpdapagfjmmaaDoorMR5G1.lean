import Derived.Test.YtbkpdapagfjmmaaDoorR4
import Derived.Test.YtbkpdapagfjmmaaDoorMT1M1
import Derived.Test.YtbkpdapagfjmmaaDoorMSpecSpec3
import Derived.Test.YtbkpdapagfjmmaaDoorMW2W7
import Derived.Test.YtbkpdapagfjmmaaDoorMW6F1
/-
  Walks: Feed, the program's.
-/
namespace Go.Proofs.YtbkpdapagfjmmaaDoor
open Go.RowKit

/-- The cells of frames. -/
def framesV (fs : List Lk.Fr) : List Value := fs.flatMap fun f => [.int .i64 (f.k : Int), .int .i64 (f.st : Int), .string ⟨f.d.toArray⟩]

theorem framesV_snoc (fs : List Lk.Fr) (f : Lk.Fr) : framesV fs ++ [.int .i64 (f.k : Int), .int .i64 (f.st : Int), .string ⟨f.d.toArray⟩] = framesV (fs ++ [f]) := by
  simp [framesV]

theorem info_frame : (Tryd.prog.info? 114).map (fun i => (i.zero, i.size, i.bytes)) = some (some (.agg #[.int .i64 0, .int .i64 0, .string ⟨#[]⟩]), 3, 32) := by kernel_rfl

/-- The number in cell 1 of a block. -/
def atOf (b : Nat) (w : World) : Nat := match w.cell? ⟨b, 1, none⟩ with
  | some (.int _ n) => n.toNat
  | _ => 0

theorem atOf_is {b : Nat} {w : World} {T : TypeId} {x : Value} {more : List Value} {p : Nat} (h : Is w b T (x :: .int .i64 p :: more)) : atOf b w = p := by
  unfold atOf
  rw [h.cell 1]
  simp

/-- In the loop: so far fs have come, and the cursor is at p. -/
def Fed (L : Lk.Bs) (p : Nat) (fs : List Lk.Fr) : Prop := Lk.all L = (fs ++ (Lk.all (L.drop p)).1, (Lk.all (L.drop p)).2) ∧ 3 * fs.length ≤ p

theorem Fed.start (L : Lk.Bs) : Fed L 0 [] := ⟨by simp, by simp⟩
theorem Fed.next {L d : Lk.Bs} {p k st n : Nat} {fs : List Lk.Fr} (h : Fed L p fs) (hn : Lk.nx (L.drop p) = .frame k st d n) : Fed L (p + n) (fs ++ [⟨k, st, d⟩]) := by
  have hb := Lk.nx_frame_bounds hn
  have h2 := h.2
  refine ⟨?_, by simp; omega⟩
  rw [h.1, Lk.all_frame hn, List.drop_drop]
  simp
theorem Fed.more {L : Lk.Bs} {p : Nat} {fs : List Lk.Fr} (h : Fed L p fs) (hn : Lk.nx (L.drop p) = .more) : Lk.all L = (fs, 0, L.drop p) := by
  rw [h.1, Lk.all_more hn]; simp
theorem Fed.err {L : Lk.Bs} {p e : Nat} {fs : List Lk.Fr} (h : Fed L p fs) (hn : Lk.nx (L.drop p) = .err e) : Lk.all L = (fs, e, []) := by
  rw [h.1, Lk.all_err hn]; simp

theorem extract_end (S : ByteArray) (p : Nat) : S.extract p S.size = ⟨(S.data.toList.drop p).toArray⟩ := by
  have e := extract_list S p S.size
  rw [List.take_of_length_le (by rw [List.length_drop, ← size_list]; omega)] at e
  rw [← e]

theorem cells_three (w : World) (x y z : Value) (T : TypeId) : ∀ j u, [x, y, z][j]? = some u → (w.alloc (.cells #[x, y, z] T)).cell? ((⟨w.heap.size, 0, none⟩ : Addr).add j) = some u := by
  intro j u hu
  have hplain : (⟨w.heap.size, 0, none⟩ : Addr).add j = ⟨w.heap.size, j, none⟩ := by unfold Addr.add; split <;> simp_all
  rw [hplain]
  have := (Is.new w T [x, y, z]).cell j
  rw [← hu]
  exact this

set_option maxHeartbeats 1000000 in
set_option maxRecDepth 100000 in
theorem feed_ok {T : TypeId} {more : List Value} (b : Nat) (s t : ByteArray) (w : World) (hsz : s.size + t.size ≤ 2 ^ 40)
    (hI : Is w b T (.string s :: .int .i64 0 :: .int .i64 0 :: more)) :
    Calls Tryd.prog 42 #[.pointer (some ⟨b, 0, none⟩), .string t] w fun e w' =>
      ∃ v, e = .returned (.tuple #[v, .int .i64 ((Lk.all (s.data.toList ++ t.data.toList)).2.1 : Int)])
        ∧ w'.ownsRow w.heap.size 114 3 v (Lk.all (s.data.toList ++ t.data.toList)).1.length (framesV (Lk.all (s.data.toList ++ t.data.toList)).1)
        ∧ Is w' b T (.string ⟨(Lk.all (s.data.toList ++ t.data.toList)).2.2.toArray⟩ :: .int .i64 0 :: .int .i64 ((Lk.all (s.data.toList ++ t.data.toList)).2.1 : Int) :: more)
        ∧ Turns b w w' := by
  have hSl : (s ++ t).data.toList = s.data.toList ++ t.data.toList := by simp
  have hSz : (s ++ t).size = s.size + t.size := by simp
  have hadd : s.size + t.size ≤ 9223372036854775807 := by omega
  rw [← hSl]
  clear hSl
  have c0 : w.cell? ⟨b, 0, none⟩ = some (.string s) := hI.cell 0
  have c2 : w.cell? ⟨b, 2, none⟩ = some (.int .i64 0) := hI.cell 2
  have f0 : w.frozen? ⟨b, 0, none⟩ = false := hI.free 0
  have hbl := hI.lt
  obtain ⟨i, hi, hz0, hz1, hz2⟩ := info_parts info_frame
  go_enter Tryd.func42, Tryd.ntmps42
  go_wp2_with fail
  have hI1 := hI.set 0 (.string (s ++ t))
  have hT1 := (Turns.refl b w).set 0 (.string (s ++ t))
  generalize hSS : (s ++ t) = S at *
  have HSS := hide hSS
  clear hSS
  go_loopw [6] (fun v wr => ∃ (p : Nat) (fs : List Lk.Fr), p ≤ S.size ∧ Fed S.data.toList p fs ∧ Is wr b T (.string S :: .int .i64 p :: .int .i64 0 :: more) ∧ wr.ownsRow w.heap.size 114 3 v fs.length (framesV fs) ∧ Turns b w wr) (fun _ wr => S.size - atOf b wr)
  case atStart => exact ⟨0, [], Nat.zero_le _, Fed.start _, hI1, World.ownsRow_nil _ _ _ _, hT1⟩
  case round =>
    obtain ⟨p, fs, hp, hfed, hIr, hown, hTr⟩ := hrel
    have d1 := hIr.cell 1
    simp only [List.getElem?_cons_zero, List.getElem?_cons_succ] at d1
    clear c0 c2 f0 hI1 hT1 hI
    go_wp2_with fail
    refine (frame_any b S p 0 _ (by unfold maxLen; omega) hp hIr).mono ?_
    rintro e w1 ⟨rfl, ⟨p', hp', hpast, hI1⟩, hT1⟩
    have hT2 := hTr.trans hT1
    have hown1 := kept_turns hown hbl hT1
    clear hown hT1 hTr d1
    cases hnx : Lk.nx (S.data.toList.drop p) with
    | more =>
      have HALL := hide (hfed.more hnx)
      have hlen := Lk.nx_more_len hnx
      rw [List.length_drop, ← size_list] at hlen
      simp only [frameVal]
      clear hnx hpast hfed
      go_wp2_with fail
      refine (keep_ok b S p' p 0 _ (by unfold maxLen; omega) hp (by omega) (hI1.alloc _)).mono ?_
      rintro e w2 ⟨rfl, hI2, hT3⟩
      have hown2 := kept_turns (hown1.alloc _) hbl hT3
      have hT4 := (hT2.alloc _).trans hT3
      clear hown1 hI1 hT2 hT3
      go_wp2_with fail
      go_ret2
      rw [unhide HSS, unhide HALL]
      rw [extract_end] at hI2
      exact ⟨_, rfl, hown2, hI2, hT4⟩
    | err e0 =>
      have HALL := hide (hfed.err hnx)
      have he0 := Lk.nx_err_pos hnx
      simp only [frameVal]
      clear hnx hpast hfed
      go_wp2_with fail
      refine (keep_bad b S p' p 0 e0 _ (by omega) (hI1.alloc _)).mono ?_
      rintro e w2 ⟨rfl, hI2, hT3⟩
      have hown2 := kept_turns (hown1.alloc _) hbl hT3
      have hT4 := (hT2.alloc _).trans hT3
      clear hown1 hI1 hT2 hT3
      go_wp2_with fail
      go_ret2
      rw [unhide HSS, unhide HALL]
      exact ⟨_, rfl, hown2, hI2, hT4⟩
    | frame k st d n =>
      have hpp := hpast k st d n hnx
      have hfed2 := hfed.next hnx
      have hbd := Lk.nx_frame_bounds hnx
      rw [List.length_drop, ← size_list] at hbd
      have hfl := hfed2.2
      rw [← hpp] at hfed2 hfl
      simp only [List.length_append, List.length_cons, List.length_nil] at hfl
      simp only [frameVal]
      clear hnx hpast hfed
      go_wp2_with (at_builtin; refine wpList_append_own _ rfl _ _ 110 rfl w.heap.size 114 i _ 3 32 Tryd.underlying110 hi hz0 hz1 hz2 rfl (by decide) _ fs.length (framesV fs) rfl ((hown1.alloc _).alloc _) ⟨w1.heap.size + 1, 0, none⟩ 1 1 [.int .i64 (k : Int), .int .i64 (st : Int), .string ⟨d.toArray⟩] rfl rfl ?hnews ?h1 ?h63 ?hby ?hba ?_)
      case hnews =>
        have e := cells_three (w1.alloc (.cells #[.int .i64 (k : Int), .int .i64 (st : Int), .string ⟨d.toArray⟩] 114)) (.int .i64 (k : Int)) (.int .i64 (st : Int)) (.string ⟨d.toArray⟩) 114
        simpa using e
      case h1 => simp [Value.oneCell']
      case h63 => unfold maxLen; omega
      case hby => omega
      case hba => have := hT2.size; simp; omega
      intro v2 w2 ho2 hg2 _
      have hrow : ∀ j, Value.ownBlock u6 = some j → w.heap.size ≤ j := fun j hj => (hown1.lt j hj).1
      have hI3 := ((hI1.alloc (.cells #[.int .i64 (k : Int), .int .i64 (st : Int), .string ⟨d.toArray⟩] 114)).alloc (.cells #[.int .i64 (k : Int), .int .i64 (st : Int), .string ⟨d.toArray⟩] 114)).grown hg2 (fun e => by have := hrow b e.symm; omega)
      have hT3 := ((hT2.alloc (.cells #[.int .i64 (k : Int), .int .i64 (st : Int), .string ⟨d.toArray⟩] 114)).alloc (.cells #[.int .i64 (k : Int), .int .i64 (st : Int), .string ⟨d.toArray⟩] 114)).grownNew hg2 hrow
      have e3 := framesV_snoc fs ⟨k, st, d⟩
      rw [e3] at ho2
      have HPP := hide hpp
      clear hpp e3 hI1 hT2 hown1 hg2 hrow
      go_wp2_with fail
      go_roundw
      case rel => exact ⟨p', fs ++ [⟨k, st, d⟩], hp', hfed2, hI3, by simpa using ho2, hT3⟩
      case measure =>
        rw [atOf_is hI3, atOf_is hIr]
        have := unhide HPP
        omega

/-- Behind an error nothing is read. -/
theorem feed_bad {T : TypeId} {more : List Value} (b : Nat) (s t : ByteArray) (f : Int) (w : World) (hf : f ≠ 0)
    (hI : Is w b T (.string s :: .int .i64 0 :: .int .i64 f :: more)) :
    Calls Tryd.prog 42 #[.pointer (some ⟨b, 0, none⟩), .string t] w fun e w' =>
      e = .returned (.tuple #[.slice none 0 0, .int .i64 f]) ∧ ∃ n, w' = w.drewN n := by
  have c2 : w.cell? ⟨b, 2, none⟩ = some (.int .i64 f) := hI.cell 2
  have hf' : (f != 0) = true := by rw [bne_iff_ne]; exact hf
  clear hI hf
  go_enter Tryd.func42, Tryd.ntmps42
  go_wp2_with fail
  go_quiet (fail)
  go_wp2_with fail
  go_ret2
  exact ⟨rfl, _, rfl⟩

end Go.Proofs.YtbkpdapagfjmmaaDoor

/-
  Walks: what is asked of a frame; Pack, the program's.
-/
namespace Go.Proofs.YtbkpdapagfjmmaaDoor
open Go.RowKit

theorem Is.three {w : World} {b : Nat} {T : TypeId} {x y z : Value} (h : Is w b T [x, y, z]) : w.cell? ⟨b, 0, none⟩ = some x ∧ w.cell? ⟨b, 1, none⟩ = some y ∧ w.cell? ⟨b, 2, none⟩ = some z := ⟨h.cell 0, h.cell 1, h.cell 2⟩

end Go.Proofs.YtbkpdapagfjmmaaDoor

/-
  Walks: Pack, the program's.
-/
namespace Go.Proofs.YtbkpdapagfjmmaaDoor
open Go.RowKit

theorem ret_pack {a b : ByteArray} {x y : Int} (h : a = b) (h' : x = y) : Ending.returned (.tuple #[.string a, .int .i64 x]) = .returned (.tuple #[.string b, .int .i64 y]) := by rw [h, h']

theorem pack_len (m n : Nat) (s : ByteArray) : (Lk.wire n).length + (Lk.wire s.size).length + 1 + s.size = (Lk.packed m n s.data.toList).length := by
  rw [Lk.packed, Int.toNat_natCast, Int.toNat_natCast, ← size_list, List.length_cons, List.length_append, List.length_append, ← size_list]
  omega

/-- What Pack answers. -/
def packStr (k st : Int) (l : Lk.Bs) : ByteArray := if Lk.packErr k st l = 0 then ⟨(Lk.packed k st l).toArray⟩ else ⟨#[]⟩

theorem packErr_zero {k st : Int} {l : Lk.Bs} (h : Lk.packErr k st l = 0) : 0 ≤ k ∧ k ≤ 7 ∧ 0 ≤ st ∧ st ≤ 268435455 ∧ l.length ≤ 64 ∧ Lk.streamFits k st = true ∧ Lk.lengthFits k l.length = true ∧ Lk.payloadFits k l = true := by
  unfold Lk.packErr at h
  by_cases h1 : k < 0 ∨ 7 < k
  · rw [if_pos h1] at h; omega
  rw [if_neg h1] at h
  by_cases h2 : st < 0 ∨ 268435455 < st
  · rw [if_pos h2] at h; omega
  rw [if_neg h2] at h
  by_cases h3 : Lk.streamFits k st = false
  · rw [if_pos h3] at h; omega
  rw [if_neg h3] at h
  by_cases h4 : 64 < l.length
  · rw [if_pos h4] at h; omega
  rw [if_neg h4] at h
  by_cases h5 : Lk.lengthFits k l.length = false
  · rw [if_pos h5] at h; omega
  rw [if_neg h5] at h
  by_cases h6 : Lk.payloadFits k l = false
  · rw [if_pos h6] at h; omega
  simp only [Bool.not_eq_false] at h3 h5 h6
  exact ⟨by omega, by omega, by omega, by omega, by omega, h3, h5, h6⟩

end Go.Proofs.YtbkpdapagfjmmaaDoor

/-
  The statement Returned: its walk.
-/
namespace Go.Proofs.YtbkpdapagfjmmaaDoor
open Go.RowKit

theorem num_any (e : Int) (w : World) : Calls Tryd.prog 7 #[.int .i64 e] w fun r w' => r = .returned (.int .i64 e) ∧ w' = w := by
  go_enter Tryd.func7, Tryd.ntmps7
  go_wp2
  go_ret
  exact ⟨rfl, rfl⟩

theorem bounded_any (c : Int) (h : Nat) (w : World) (hh : h ≤ 2 ^ 40) (_h1 : -9223372036854775808 ≤ c) (_h2 : c ≤ 9223372036854775807) :
    Calls Tryd.prog 5 #[.int .i64 c, .int .i64 h] w fun r w' => (∃ n : Nat, n ≤ h ∧ r = .returned (.int .i64 n)) ∧ w' = w := by
  have b1 : c.tmod (h + 1) < h + 1 := Int.tmod_lt_of_pos _ (by omega)
  have b2 : -(h + 1 : Int) < c.tmod (h + 1) := by
    have e1 := Int.neg_tmod c (h + 1)
    have e2 := Int.tmod_lt_of_pos (-c) (show (0 : Int) < h + 1 by omega)
    omega
  by_cases h0 : c.tmod (h + 1) < 0
  · go_enter Tryd.func5, Tryd.ntmps5
    go_wp2
    go_ret
    exact ⟨⟨(c.tmod (h + 1) + h + 1).toNat, by omega, ret_int (by omega)⟩, rfl⟩
  · go_enter Tryd.func5, Tryd.ntmps5
    go_wp2
    go_ret
    exact ⟨⟨(c.tmod (h + 1)).toNat, by omega, ret_int (by omega)⟩, rfl⟩

theorem packErr_ne {k st : Int} {l : Lk.Bs} (h : Lk.packErr k st l ≠ 0) : k < 0 ∨ (0 ≤ k ∧ 7 < k) ∨ (0 ≤ k ∧ k ≤ 7 ∧ st < 0) ∨ (0 ≤ k ∧ k ≤ 7 ∧ 0 ≤ st ∧ 268435455 < st) ∨ (0 ≤ k ∧ k ≤ 7 ∧ 0 ≤ st ∧ st ≤ 268435455 ∧ 64 < l.length)
    ∨ (0 ≤ k ∧ k ≤ 7 ∧ 0 ≤ st ∧ st ≤ 268435455 ∧ l.length ≤ 64 ∧ k ≠ 0) ∨ (k = 0 ∧ st = 0 ∧ l.length ≤ 64) := by
  by_cases h1 : k = 0 ∧ 0 < st ∧ st ≤ 268435455 ∧ l.length ≤ 64
  · obtain ⟨rfl, h2, h3, h4⟩ := h1
    exfalso
    apply h
    unfold Lk.packErr
    rw [if_neg (by omega), if_neg (by omega), if_neg (by simp [Lk.streamFits]; omega), if_neg (by omega), if_neg (by simp [Lk.lengthFits]), if_neg (by simp [Lk.payloadFits])]
  · omega

end Go.Proofs.YtbkpdapagfjmmaaDoor

/-
  One Feed of a reader; rows and blocks that are two.
-/
namespace Go.Proofs.YtbkpdapagfjmmaaDoor
open Go.RowKit

theorem framesV_at (fs : List Lk.Fr) : ∀ (i : Nat) (h : i < fs.length), (framesV fs)[i * 3]? = some (.int .i64 (fs[i].k : Int)) ∧ (framesV fs)[i * 3 + 1]? = some (.int .i64 (fs[i].st : Int)) ∧ (framesV fs)[i * 3 + 2]? = some (.string ⟨fs[i].d.toArray⟩) := by
  induction fs with
  | nil => intro i h; simp at h
  | cons f fs ih =>
    intro i h
    cases i with
    | zero => simp [framesV]
    | succ i =>
      have := ih i (by simpa using h)
      simp only [framesV, List.flatMap_cons, List.getElem_cons_succ] at this ⊢
      have e : (i + 1) * 3 = i * 3 + 3 := by omega
      rw [e]
      simpa using this

theorem framesV_len (fs : List Lk.Fr) : (framesV fs).length = fs.length * 3 := by
  induction fs with
  | nil => rfl
  | cons f fs ih => simp only [framesV, List.flatMap_cons, List.length_append, List.length_cons, List.length_nil] at ih ⊢; omega

/-- What a slice of frames is, for the walk. -/
theorem owned_frames {w : World} {B : Nat} {T : TypeId} {v : Value} {fs : List Lk.Fr} (h : w.ownsRow B T 3 v fs.length (framesV fs)) :
    (fs = [] ∧ v = .slice none 0 0) ∨ ∃ g cap, v = .slice (some ⟨g, 0, none⟩) fs.length cap ∧ B ≤ g ∧ g < w.heap.size ∧ fs.length ≤ cap ∧ ∀ i (h : i < fs.length), w.cell? ⟨g, i * 3, none⟩ = some (.int .i64 (fs[i].k : Int)) ∧ w.cell? ⟨g, i * 3 + 1, none⟩ = some (.int .i64 (fs[i].st : Int)) ∧ w.cell? ⟨g, i * 3 + 2, none⟩ = some (.string ⟨fs[i].d.toArray⟩) := by
  rcases h.2 with ⟨rfl, h0⟩ | ⟨g, cap, cur, rfl, hB, hg, hn, hc, hs, ht⟩
  · exact .inl ⟨List.eq_nil_of_length_eq_zero h0, rfl⟩
  · have hI : Is w g T cur.toList := by unfold Is; simpa using hg
    refine .inr ⟨g, cap, rfl, hB, hI.lt, hn, fun i hi => ?_⟩
    have e := framesV_at fs i hi
    have hc : ∀ j, j < fs.length * 3 → w.cell? ⟨g, j, none⟩ = (framesV fs)[j]? := by
      intro j hj
      rw [hI.cell j, ← ht, List.getElem?_take_of_lt hj]
    rw [hc _ (by omega), hc _ (by omega), hc _ (by omega)]
    exact e

namespace Lk
theorem all_len : ∀ (l : Bs), 3 * (all l).1.length ≤ l.length := by
  intro l
  induction h : l.length using Nat.strongRecOn generalizing l with
  | _ n ih =>
    subst h
    cases hx : nx l with
    | more => rw [all_more hx]; simp
    | err e => rw [all_err hx]; simp
    | frame k st d n =>
      have hb := nx_frame_bounds hx
      have := ih (l.drop n).length (by rw [List.length_drop]; omega) (l.drop n) rfl
      rw [all_frame hx]
      simp only [List.length_cons]
      rw [List.length_drop] at this
      omega

theorem all_rest72 : ∀ (l : Bs), (all l).2.1 = 0 → (all l).2.2.length ≤ 72 := by
  intro l
  induction h : l.length using Nat.strongRecOn generalizing l with
  | _ n ih =>
    subst h
    cases hx : nx l with
    | more => rw [all_more hx]; intro _; exact nx_more_len hx
    | err e => rw [all_err hx]; simp
    | frame k st d n =>
      have hb := nx_frame_bounds hx
      have := ih (l.drop n).length (by rw [List.length_drop]; omega) (l.drop n) rfl
      rw [all_frame hx]
      exact this

/-- One Feed: of a reader that keeps l and has the error f. -/
def fedFrames (l : Bs) (f : Int) (s : Bs) : List Fr := if f = 0 then (all (l ++ s)).1 else []
def fedErr (l : Bs) (f : Int) (s : Bs) : Int := if f = 0 then ((all (l ++ s)).2.1 : Int) else f
def fedRest (l : Bs) (f : Int) (s : Bs) : Bs := if f = 0 then (all (l ++ s)).2.2 else l
end Lk

theorem feed_any {T : TypeId} {more : List Value} (b : Nat) (s t : ByteArray) (f : Int) (w : World) (hs : f = 0 → s.size ≤ 72) (ht : t.size ≤ 2 ^ 39) (hI : Is w b T (.string s :: .int .i64 0 :: .int .i64 f :: more)) :
    Calls Tryd.prog 42 #[.pointer (some ⟨b, 0, none⟩), .string t] w fun e w' =>
      ∃ v, e = .returned (.tuple #[v, .int .i64 (Lk.fedErr s.data.toList f t.data.toList)])
        ∧ w'.ownsRow w.heap.size 114 3 v (Lk.fedFrames s.data.toList f t.data.toList).length (framesV (Lk.fedFrames s.data.toList f t.data.toList))
        ∧ (∃ s' : ByteArray, Is w' b T (.string s' :: .int .i64 0 :: .int .i64 (Lk.fedErr s.data.toList f t.data.toList) :: more) ∧ (Lk.fedErr s.data.toList f t.data.toList = 0 → s'.data.toList = Lk.fedRest s.data.toList f t.data.toList ∧ s'.size ≤ 72))
        ∧ Turns b w w' := by
  unfold Lk.fedErr Lk.fedFrames Lk.fedRest
  by_cases hf : f = 0
  · subst hf
    simp only [if_true]
    refine (feed_ok b s t w (by have := hs rfl; omega) hI).mono ?_
    rintro e w' ⟨v, rfl, ho, hI', hT⟩
    refine ⟨v, rfl, ho, ⟨_, hI', fun h => ⟨rfl, ?_⟩⟩, hT⟩
    have := Lk.all_rest72 _ (by omega : (Lk.all (s.data.toList ++ t.data.toList)).2.1 = 0)
    rw [size_list]
    exact this
  · simp only [if_neg hf]
    refine (feed_bad b s t f w hf hI).mono ?_
    rintro e w' ⟨rfl, n, rfl⟩
    exact ⟨_, rfl, World.ownsRow_nil _ _ _ _, ⟨s, hI.drewN n, fun h => absurd h hf⟩, (Turns.refl _ _).drewN n⟩

end Go.Proofs.YtbkpdapagfjmmaaDoor
