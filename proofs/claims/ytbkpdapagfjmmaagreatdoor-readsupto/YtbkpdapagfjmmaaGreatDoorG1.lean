/-
  One Feed of a reader; rows and blocks that are two.
-/
import Derived.Test.YtbkpdapagfjmmaaGreatDoorR5
import Derived.Test.YtbkpdapagfjmmaaGreatDoorRet
import Derived.Test.YtbkpdapagfjmmaaGreatDoorM1
namespace Go.Proofs.YtbkpdapagfjmmaaGreatDoor
open Go.RowKit

theorem framesV_at (fs : List Lk.Fr) : ∀ (i : Nat) (h : i < fs.length), (framesV fs)[i * 3]? = some (.int .i64 (fs[i].k : Int)) ∧ (framesV fs)[i * 3 + 1]? = some (.int .i64 (fs[i].st : Int)) ∧ (framesV fs)[i * 3 + 2]? = some (.string ⟨fs[i].d.toArray⟩) := by
  induction fs with
  | nil => intro i h; simp at h
  | cons f fs ih =>
    intro i h
    cases i with
    | zero => simp [framesV]
    | succ i =>
      have := ih i (by simpa using h)
      simp only [framesV, List.flatMap_cons, List.getElem_cons_succ] at this ⊢
      have e : (i + 1) * 3 = i * 3 + 3 := by omega
      rw [e]
      simpa using this

theorem framesV_len (fs : List Lk.Fr) : (framesV fs).length = fs.length * 3 := by
  induction fs with
  | nil => rfl
  | cons f fs ih => simp only [framesV, List.flatMap_cons, List.length_append, List.length_cons, List.length_nil] at ih ⊢; omega

/-- What a slice of frames is, for the walk. -/
theorem owned_frames {w : World} {B : Nat} {T : TypeId} {v : Value} {fs : List Lk.Fr} (h : w.ownsRow B T 3 v fs.length (framesV fs)) :
    (fs = [] ∧ v = .slice none 0 0) ∨ ∃ g cap, v = .slice (some ⟨g, 0, none⟩) fs.length cap ∧ B ≤ g ∧ g < w.heap.size ∧ fs.length ≤ cap ∧ ∀ i (h : i < fs.length), w.cell? ⟨g, i * 3, none⟩ = some (.int .i64 (fs[i].k : Int)) ∧ w.cell? ⟨g, i * 3 + 1, none⟩ = some (.int .i64 (fs[i].st : Int)) ∧ w.cell? ⟨g, i * 3 + 2, none⟩ = some (.string ⟨fs[i].d.toArray⟩) := by
  rcases h.2 with ⟨rfl, h0⟩ | ⟨g, cap, cur, rfl, hB, hg, hn, hc, hs, ht⟩
  · exact .inl ⟨List.eq_nil_of_length_eq_zero h0, rfl⟩
  · have hI : Is w g T cur.toList := by unfold Is; simpa using hg
    refine .inr ⟨g, cap, rfl, hB, hI.lt, hn, fun i hi => ?_⟩
    have e := framesV_at fs i hi
    have hc : ∀ j, j < fs.length * 3 → w.cell? ⟨g, j, none⟩ = (framesV fs)[j]? := by
      intro j hj
      rw [hI.cell j, ← ht, List.getElem?_take_of_lt hj]
    rw [hc _ (by omega), hc _ (by omega), hc _ (by omega)]
    exact e

namespace Lk
theorem all_len : ∀ (l : Bs), 3 * (all l).1.length ≤ l.length := by
  intro l
  induction h : l.length using Nat.strongRecOn generalizing l with
  | _ n ih =>
    subst h
    cases hx : nx l with
    | more => rw [all_more hx]; simp
    | err e => rw [all_err hx]; simp
    | frame k st d n =>
      have hb := nx_frame_bounds hx
      have := ih (l.drop n).length (by rw [List.length_drop]; omega) (l.drop n) rfl
      rw [all_frame hx]
      simp only [List.length_cons]
      rw [List.length_drop] at this
      omega

theorem all_rest : ∀ (l : Bs), (all l).2.1 = 0 → (all l).2.2.length ≤ 72 := by
  intro l
  induction h : l.length using Nat.strongRecOn generalizing l with
  | _ n ih =>
    subst h
    cases hx : nx l with
    | more => rw [all_more hx]; intro _; exact nx_more_len hx
    | err e => rw [all_err hx]; simp
    | frame k st d n =>
      have hb := nx_frame_bounds hx
      have := ih (l.drop n).length (by rw [List.length_drop]; omega) (l.drop n) rfl
      rw [all_frame hx]
      exact this

/-- One Feed: of a reader that keeps l and has the error f. -/
def fedFrames (l : Bs) (f : Int) (s : Bs) : List Fr := if f = 0 then (all (l ++ s)).1 else []
def fedErr (l : Bs) (f : Int) (s : Bs) : Int := if f = 0 then ((all (l ++ s)).2.1 : Int) else f
def fedRest (l : Bs) (f : Int) (s : Bs) : Bs := if f = 0 then (all (l ++ s)).2.2 else l
end Lk

theorem feed_any {T : TypeId} {more : List Value} (b : Nat) (s t : ByteArray) (f : Int) (w : World) (hs : f = 0 → s.size ≤ 72) (ht : t.size ≤ 2 ^ 39) (hI : Is w b T (.string s :: .int .i64 0 :: .int .i64 f :: more)) :
    Calls Tryz.prog 48 #[.pointer (some ⟨b, 0, none⟩), .string t] w fun e w' =>
      ∃ v, e = .returned (.tuple #[v, .int .i64 (Lk.fedErr s.data.toList f t.data.toList)])
        ∧ w'.ownsRow w.heap.size 79 3 v (Lk.fedFrames s.data.toList f t.data.toList).length (framesV (Lk.fedFrames s.data.toList f t.data.toList))
        ∧ (∃ s' : ByteArray, Is w' b T (.string s' :: .int .i64 0 :: .int .i64 (Lk.fedErr s.data.toList f t.data.toList) :: more) ∧ (Lk.fedErr s.data.toList f t.data.toList = 0 → s'.data.toList = Lk.fedRest s.data.toList f t.data.toList ∧ s'.size ≤ 72))
        ∧ Turns b w w' := by
  unfold Lk.fedErr Lk.fedFrames Lk.fedRest
  by_cases hf : f = 0
  · subst hf
    simp only [if_true]
    refine (feed_ok b s t w (by have := hs rfl; omega) hI).mono ?_
    rintro e w' ⟨v, rfl, ho, hI', hT⟩
    refine ⟨v, rfl, ho, ⟨_, hI', fun h => ⟨rfl, ?_⟩⟩, hT⟩
    have := Lk.all_rest _ (by omega : (Lk.all (s.data.toList ++ t.data.toList)).2.1 = 0)
    rw [size_list]
    exact this
  · simp only [if_neg hf]
    refine (feed_bad b s t f w hf hI).mono ?_
    rintro e w' ⟨rfl, n, rfl⟩
    exact ⟨_, rfl, World.ownsRow_nil _ _ _ _, ⟨s, hI.drewN n, fun h => absurd h hf⟩, (Turns.refl _ _).drewN n⟩

end Go.Proofs.YtbkpdapagfjmmaaGreatDoor
