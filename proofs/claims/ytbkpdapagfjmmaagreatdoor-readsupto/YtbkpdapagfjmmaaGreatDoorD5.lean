/-
  The two readers of each side, as the script's steps find them.
-/
import Derived.Test.YtbkpdapagfjmmaaGreatDoorD4
namespace Go.Proofs.YtbkpdapagfjmmaaGreatDoor
open Go.RowKit

theorem refFeed_any (b : Nat) (s t : ByteArray) (l : Lk.Bs) (f : Int) (w : World) (hs : f = 0 → s.data.toList = l ∧ l.length ≤ 72) (ht : t.size ≤ 2 ^ 39) (hI : Is w b 54 [.string s, .int .i64 f]) :
    Calls Tryz.prog 21 #[.pointer (some ⟨b, 0, none⟩), .string t] w fun e w' =>
      ∃ v, e = .returned (.tuple #[v, .int .i64 (Lk.fedErr l f t.data.toList)])
        ∧ w'.ownsRow w.heap.size 66 3 v (Lk.fedFrames l f t.data.toList).length (framesV (Lk.fedFrames l f t.data.toList))
        ∧ (∃ s' : ByteArray, Is w' b 54 [.string s', .int .i64 (Lk.fedErr l f t.data.toList)] ∧ (Lk.fedErr l f t.data.toList = 0 → s'.data.toList = Lk.fedRest l f t.data.toList))
        ∧ Turns b w w' := by
  unfold Lk.fedErr Lk.fedFrames Lk.fedRest
  by_cases hf : f = 0
  · subst hf
    obtain ⟨rfl, hl⟩ := hs rfl
    simp only [if_true]
    refine (refFeed_ok b s t w (by rw [size_list]; omega) hI).mono ?_
    rintro e w' ⟨v, rfl, ho, ⟨R, hI', hR⟩, hT⟩
    exact ⟨v, rfl, ho, ⟨R, hI', fun h => hR (by omega)⟩, hT⟩
  · simp only [if_neg hf]
    refine (refFeed_bad b s t f w hf hI).mono ?_
    rintro e w' ⟨rfl, n, rfl⟩
    exact ⟨_, rfl, World.ownsRow_nil _ _ _ _, ⟨s, hI.drewN n, fun h => absurd h hf⟩, (Turns.refl _ _).drewN n⟩

/-- A reader of each side: they keep the same, and have the same error. -/
def Pairs (w : World) (r s : Nat) : Prop := ∃ (t R : ByteArray) (f : Int), Is w r 85 [.string t, .int .i64 0, .int .i64 f] ∧ Is w s 54 [.string R, .int .i64 f] ∧ (f = 0 → R.data.toList = t.data.toList ∧ t.size ≤ 72)

theorem Pairs.grown {w w' : World} {r s : Nat} (h : Pairs w r s) {row : Option Nat} (hg : w.grownBy w' row) (h1 : some r ≠ row) (h2 : some s ≠ row) : Pairs w' r s := by
  obtain ⟨t, R, f, a, b, c⟩ := h
  exact ⟨t, R, f, a.grown hg h1, b.grown hg h2, c⟩

/-- All that a script's steps find. -/
structure Rig (B M gR gS cR cS : Nat) (pv : Value) (r0 r1 s0 s1 : Nat) (w : World) : Prop where
  made : Is w M 132 [.slice (some ⟨gR, 0, none⟩) 2 cR, .slice (some ⟨gS, 0, none⟩) 2 cS, nilS, nilS, nilS, nilS, pv]
  rowR : ∃ t, Is w gR 133 (ptr r0 :: ptr r1 :: t)
  rowS : ∃ t, Is w gS 52 (ptr s0 :: ptr s1 :: t)
  p0 : Pairs w r0 s0
  p1 : Pairs w r1 s1
  ner : r0 ≠ r1
  nes : s0 ≠ s1
  hM : B ≤ M
  hR : B ≤ gR
  hS : B ≤ gS
  h0 : B ≤ r0 ∧ B ≤ s0
  h1 : B ≤ r1 ∧ B ≤ s1
  cR2 : 2 ≤ cR
  cS2 : 2 ≤ cS

theorem two_of {rs : List Nat} (h : rs.length = 2) : ∃ a b, rs = [a, b] := by
  match rs, h with
  | [a, b], _ => exact ⟨a, b, rfl⟩

theorem row_of {B : Nat} {w : World} {E : TypeId} {v : Value} {a b : Nat} (h : w.ownsRow B E 1 v [a, b].length ([a, b].map ptr)) : ∃ g cap t, v = .slice (some ⟨g, 0, none⟩) 2 cap ∧ B ≤ g ∧ 2 ≤ cap ∧ Is w g E (ptr a :: ptr b :: t) := by
  rcases h.2 with ⟨_, h0⟩ | ⟨g, cap, cur, rfl, hB, hg, hn, hc, hs, ht⟩
  · simp at h0
  · have hI : Is w g E cur.toList := by unfold Is; simpa using hg
    refine ⟨g, cap, cur.toList.drop 2, rfl, hB, hn, ?_⟩
    have e := List.take_append_drop 2 cur.toList
    have e2 : cur.toList.take 2 = [ptr a, ptr b] := by simpa using ht
    rw [e2] at e
    rw [← e] at hI
    simpa using hI

theorem Making.rig {B M : Nat} {pv : Value} {w : World} {vR vS : Value} {rs ss : List Nat} (h : Making B M pv w vR vS rs ss) (hM : B ≤ M) (hr : rs.length = 2) (hs : ss.length = 2) :
    ∃ gR gS cR cS r0 r1 s0 s1, Rig B M gR gS cR cS pv r0 r1 s0 s1 w := by
  obtain ⟨r0, r1, rfl⟩ := two_of hr
  obtain ⟨s0, s1, rfl⟩ := two_of hs
  obtain ⟨gR, cR, tR, rfl, a1, a2, a3⟩ := row_of h.R.own
  obtain ⟨gS, cS, tS, rfl, b1, b2, b3⟩ := row_of h.S.own
  have e0 := h.R.is r0 (by simp)
  have e1 := h.R.is r1 (by simp)
  have f0 := h.S.is s0 (by simp)
  have f1 := h.S.is s1 (by simp)
  have n1 := h.R.nd
  have n2 := h.S.nd
  simp at n1 n2
  exact ⟨gR, gS, cR, cS, r0, r1, s0, s1, h.made, ⟨tR, a3⟩, ⟨tS, b3⟩, ⟨_, _, 0, e0.2, f0.2, fun _ => ⟨rfl, Nat.zero_le 72⟩⟩, ⟨_, _, 0, e1.2, f1.2, fun _ => ⟨rfl, Nat.zero_le 72⟩⟩, n1, n2, hM, a1, b1, ⟨e0.1, f0.1⟩, ⟨e1.1, f1.1⟩, a2, b2⟩

end Go.Proofs.YtbkpdapagfjmmaaGreatDoor
