/-
  What a script of tables has made.
-/
import Derived.Test.YtbkpdapagfjmmaaGreatDoorV6
import Derived.Test.YtbkpdapagfjmmaaGreatDoorL7
namespace Go.Proofs.YtbkpdapagfjmmaaGreatDoor
open Go.RowKit

def upd {α : Type} (f : Nat → α) (k : Nat) (x : α) : Nat → α := fun i => if i = k then x else f i
theorem upd_same {α : Type} (f : Nat → α) (k : Nat) (x : α) : upd f k x k = x := by simp [upd]
theorem upd_other {α : Type} (f : Nat → α) {k i : Nat} (x : α) (h : i ≠ k) : upd f k x i = f i := by simp [upd, h]

theorem Tab.turns4 {w w' : World} {t u B : Nat} {L : List Lk.Hd} {v : Value} {cs : List Value} {T : TypeId} (h : Tab w t B L v) (hT : Turns u w w') (hI : Is w u T cs) (h1 : T ≠ 112) (hne : t ≠ u) : Tab w' t B L v :=
  ⟨h.blk.grown hT (by simpa using hne), own_turns h.own hI h1 hT, h.le, h.hB⟩

/-- Two tables of each side; of the program's the entries are LT, of the document's LU. -/
structure Rigs (b0 M gT gU cT cU : Nat) (vR vS pv : Value) (t u B : Nat → Nat) (LT LU : Nat → List Lk.Hd) (w : World) : Prop where
  made : Is w M 132 [vR, vS, .slice (some ⟨gT, 0, none⟩) 2 cT, .slice (some ⟨gU, 0, none⟩) 2 cU, nilS, nilS, pv]
  rowT : ∃ tl, Is w gT 135 (ptr (t 0) :: ptr (t 1) :: tl)
  rowU : ∃ tl, Is w gU 138 (ptr (u 0) :: ptr (u 1) :: tl)
  tab : ∀ k, k < 2 → ∃ v, Tab w (t k) (B k) (LT k) v
  rtab : ∀ k, k < 2 → ∃ v, RTab w (u k) (B k) (LU k) v
  net : ∀ j k, j < 2 → k < 2 → j ≠ k → t j ≠ t k
  neu : ∀ j k, j < 2 → k < 2 → j ≠ k → u j ≠ u k
  hM : b0 ≤ M
  hT : b0 ≤ gT
  hU : b0 ≤ gU
  ht : ∀ k, k < 2 → b0 ≤ t k
  hu : ∀ k, k < 2 → b0 ≤ u k
  fx : Fx w
  h0 : 0 < b0
  cT2 : 2 ≤ cT
  cU2 : 2 ≤ cU

theorem pair_at {w : World} {g : Nat} {T : TypeId} {f : Nat → Nat} (h : ∃ tl, Is w g T (ptr (f 0) :: ptr (f 1) :: tl)) {k : Nat} (hk : k < 2) : w.cell? ⟨g, k, none⟩ = some (ptr (f k)) := by
  obtain ⟨tl, hI⟩ := h
  rw [hI.cell]
  match k, hk with
  | 0, _ => rfl
  | 1, _ => rfl
theorem pair_free {w : World} {g : Nat} {T : TypeId} {f : Nat → Nat} (h : ∃ tl, Is w g T (ptr (f 0) :: ptr (f 1) :: tl)) (k : Nat) : w.frozen? ⟨g, k, none⟩ = false := by
  obtain ⟨tl, hI⟩ := h
  exact hI.free k
theorem pair_set {w : World} {g : Nat} {T : TypeId} {f : Nat → Nat} (h : ∃ tl, Is w g T (ptr (f 0) :: ptr (f 1) :: tl)) {k : Nat} (hk : k < 2) (x : Nat) : ∃ tl, Is (w.setCell ⟨g, k, none⟩ (ptr x)) g T (ptr (upd f k x 0) :: ptr (upd f k x 1) :: tl) := by
  obtain ⟨tl, hI⟩ := h
  have := hI.set k (ptr x)
  match k, hk with
  | 0, _ => exact ⟨tl, this⟩
  | 1, _ => exact ⟨tl, this⟩

section
variable {b0 M gT gU cT cU : Nat} {vR vS pv : Value} {t u B : Nat → Nat} {LT LU : Nat → List Lk.Hd} {w w' : World}

theorem Rigs.below (h : Rigs b0 M gT gU cT cU vR vS pv t u B LT LU w) (hb : Below w.heap.size w w') : Rigs b0 M gT gU cT cU vR vS pv t u B LT LU w' := by
  obtain ⟨tT, a1⟩ := h.rowT
  obtain ⟨tU, a2⟩ := h.rowU
  refine ⟨h.made.below hb h.made.lt, ⟨tT, a1.below hb a1.lt⟩, ⟨tU, a2.below hb a2.lt⟩, fun k hk => ?_, fun k hk => ?_, h.net, h.neu, h.hM, h.hT, h.hU, h.ht, h.hu, h.fx.below hb h.fx.1, h.h0, h.cT2, h.cU2⟩
  · obtain ⟨v, hv⟩ := h.tab k hk
    exact ⟨v, hv.below hb⟩
  · obtain ⟨v, hv⟩ := h.rtab k hk
    exact ⟨v, hv.below hb⟩

theorem Rigs.setT (h : Rigs b0 M gT gU cT cU vR vS pv t u B LT LU w) {k : Nat} (hk : k < 2) (hT : Turns (t k) w w') {L' : List Lk.Hd} (hTab : ∃ v', Tab w' (t k) (B k) L' v') : Rigs b0 M gT gU cT cU vR vS pv t u B (upd LT k L') LU w' := by
  obtain ⟨tT, a1⟩ := h.rowT
  obtain ⟨tU, a2⟩ := h.rowU
  obtain ⟨v0, hv0⟩ := h.tab k hk
  refine ⟨h.made.grown hT (by simpa using h.made.ne hv0.blk (Nat.ne_of_beq_eq_false rfl)), ⟨tT, a1.grown hT (by simpa using a1.ne hv0.blk (Nat.ne_of_beq_eq_false rfl))⟩, ⟨tU, a2.grown hT (by simpa using a2.ne hv0.blk (Nat.ne_of_beq_eq_false rfl))⟩, fun j hj => ?_, fun j hj => ?_, h.net, h.neu, h.hM, h.hT, h.hU, h.ht, h.hu, h.fx.grown hT (by have := h.ht k hk; have := h.h0; simp; omega), h.h0, h.cT2, h.cU2⟩
  · by_cases e : j = k
    · subst e
      rw [upd_same]
      exact hTab
    · rw [upd_other _ _ e]
      obtain ⟨v, hv⟩ := h.tab j hj
      exact ⟨v, hv.turns4 hT hv0.blk (Nat.ne_of_beq_eq_false rfl) (h.net j k hj hk e)⟩
  · obtain ⟨v, hv⟩ := h.rtab j hj
    exact ⟨v, hv.turns hT hv0.blk (Nat.ne_of_beq_eq_false rfl) (hv.blk.ne hv0.blk (Nat.ne_of_beq_eq_false rfl))⟩

theorem Rigs.setU (h : Rigs b0 M gT gU cT cU vR vS pv t u B LT LU w) {k : Nat} (hk : k < 2) (hT : Turns (u k) w w') {L' : List Lk.Hd} (hTab : ∃ v', RTab w' (u k) (B k) L' v') : Rigs b0 M gT gU cT cU vR vS pv t u B LT (upd LU k L') w' := by
  obtain ⟨tT, a1⟩ := h.rowT
  obtain ⟨tU, a2⟩ := h.rowU
  obtain ⟨v0, hv0⟩ := h.rtab k hk
  refine ⟨h.made.grown hT (by simpa using h.made.ne hv0.blk (Nat.ne_of_beq_eq_false rfl)), ⟨tT, a1.grown hT (by simpa using a1.ne hv0.blk (Nat.ne_of_beq_eq_false rfl))⟩, ⟨tU, a2.grown hT (by simpa using a2.ne hv0.blk (Nat.ne_of_beq_eq_false rfl))⟩, fun j hj => ?_, fun j hj => ?_, h.net, h.neu, h.hM, h.hT, h.hU, h.ht, h.hu, h.fx.grown hT (by have := h.hu k hk; have := h.h0; simp; omega), h.h0, h.cT2, h.cU2⟩
  · obtain ⟨v, hv⟩ := h.tab j hj
    exact ⟨v, hv.turns4 hT hv0.blk (Nat.ne_of_beq_eq_false rfl) (hv.blk.ne hv0.blk (Nat.ne_of_beq_eq_false rfl))⟩
  · by_cases e : j = k
    · subst e
      rw [upd_same]
      exact hTab
    · rw [upd_other _ _ e]
      obtain ⟨v, hv⟩ := h.rtab j hj
      exact ⟨v, hv.turns hT hv0.blk (Nat.ne_of_beq_eq_false rfl) (h.neu j k hj hk e)⟩

theorem Rigs.put (h : Rigs b0 M gT gU cT cU vR vS pv t u B LT LU w) {k : Nat} (hk : k < 2) {t' u' A : Nat} {v v' : Value} (hT : Tab w t' A [] v) (hU : RTab w u' A [] v') (ht : b0 ≤ t') (hu : b0 ≤ u') (hnt : ∀ j, j < 2 → t j ≠ t') (hnu : ∀ j, j < 2 → u j ≠ u') :
    Rigs b0 M gT gU cT cU vR vS pv (upd t k t') (upd u k u') (upd B k A) (upd LT k []) (upd LU k []) ((w.setCell ⟨gT, k, none⟩ (ptr t')).setCell ⟨gU, k, none⟩ (ptr u')) := by
  have r1 := h.rowT
  have r2 := h.rowU
  obtain ⟨tT, a1⟩ := r1
  obtain ⟨tU, a2⟩ := r2
  have h1 : Turns gT w (w.setCell ⟨gT, k, none⟩ (ptr t')) := (Turns.refl _ _).set k _
  have hgg : gT ≠ gU := a1.ne a2 (Nat.ne_of_beq_eq_false rfl)
  have a2' := a2.other ⟨gT, k, none⟩ (ptr t') (Ne.symm hgg)
  have h2 : Turns gU (w.setCell ⟨gT, k, none⟩ (ptr t')) ((w.setCell ⟨gT, k, none⟩ (ptr t')).setCell ⟨gU, k, none⟩ (ptr u')) := (Turns.refl _ _).set k _
  have keepT : ∀ {s C : Nat} {L : List Lk.Hd} {x : Value}, Tab w s C L x → Tab ((w.setCell ⟨gT, k, none⟩ (ptr t')).setCell ⟨gU, k, none⟩ (ptr u')) s C L x := fun hs =>
    (hs.turns4 h1 a1 (Nat.ne_of_beq_eq_false rfl) (hs.blk.ne a1 (Nat.ne_of_beq_eq_false rfl))).turns4 h2 a2' (Nat.ne_of_beq_eq_false rfl) (hs.blk.ne a2 (Nat.ne_of_beq_eq_false rfl))
  have keepU : ∀ {s C : Nat} {L : List Lk.Hd} {x : Value}, RTab w s C L x → RTab ((w.setCell ⟨gT, k, none⟩ (ptr t')).setCell ⟨gU, k, none⟩ (ptr u')) s C L x := fun hs =>
    (hs.turns h1 a1 (Nat.ne_of_beq_eq_false rfl) (hs.blk.ne a1 (Nat.ne_of_beq_eq_false rfl))).turns h2 a2' (Nat.ne_of_beq_eq_false rfl) (hs.blk.ne a2 (Nat.ne_of_beq_eq_false rfl))
  obtain ⟨tT', b1⟩ := pair_set ⟨tT, a1⟩ hk t'
  refine ⟨(h.made.other _ _ (h.made.ne a1 (Nat.ne_of_beq_eq_false rfl))).other _ _ (h.made.ne a2 (Nat.ne_of_beq_eq_false rfl)), ⟨tT', b1.other _ _ hgg⟩, pair_set ⟨tU, a2'⟩ hk u', fun j hj => ?_, fun j hj => ?_, fun i j hi hj e => ?_, fun i j hi hj e => ?_, h.hM, h.hT, h.hU, fun j hj => ?_, fun j hj => ?_,
    (h.fx.grown h1 (by have := h.hT; have := h.h0; simp; omega)).grown h2 (by have := h.hU; have := h.h0; simp; omega), h.h0, h.cT2, h.cU2⟩
  · by_cases e : j = k
    · subst e
      simp only [upd_same]
      exact ⟨_, keepT hT⟩
    · simp only [upd_other _ _ e]
      obtain ⟨x, hx⟩ := h.tab j hj
      exact ⟨x, keepT hx⟩
  · by_cases e : j = k
    · subst e
      simp only [upd_same]
      exact ⟨_, keepU hU⟩
    · simp only [upd_other _ _ e]
      obtain ⟨x, hx⟩ := h.rtab j hj
      exact ⟨x, keepU hx⟩
  · by_cases e1 : i = k
    · subst e1
      rw [upd_same, upd_other _ _ (Ne.symm e)]
      exact (hnt j hj).symm
    · by_cases e2 : j = k
      · subst e2
        rw [upd_same, upd_other _ _ e1]
        exact hnt i hi
      · rw [upd_other _ _ e1, upd_other _ _ e2]
        exact h.net i j hi hj e
  · by_cases e1 : i = k
    · subst e1
      rw [upd_same, upd_other _ _ (Ne.symm e)]
      exact (hnu j hj).symm
    · by_cases e2 : j = k
      · subst e2
        rw [upd_same, upd_other _ _ e1]
        exact hnu i hi
      · rw [upd_other _ _ e1, upd_other _ _ e2]
        exact h.neu i j hi hj e
  · by_cases e : j = k
    · subst e; rw [upd_same]; exact ht
    · rw [upd_other _ _ e]; exact h.ht j hj
  · by_cases e : j = k
    · subst e; rw [upd_same]; exact hu
    · rw [upd_other _ _ e]; exact h.hu j hj
end
end Go.Proofs.YtbkpdapagfjmmaaGreatDoor
