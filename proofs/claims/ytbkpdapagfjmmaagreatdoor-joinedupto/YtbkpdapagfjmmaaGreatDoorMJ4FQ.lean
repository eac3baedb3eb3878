import Derived.Test.YtbkpdapagfjmmaaGreatDoorMSpec21J3
import Derived.Test.YtbkpdapagfjmmaaGreatDoorSpec19
import Derived.Test.YtbkpdapagfjmmaaGreatDoorMFOFP
import Derived.Test.YtbkpdapagfjmmaaGreatDoorMSpec15Spec18
/-
  Memory: what a side is told, event by event.
-/
namespace Go.Proofs.YtbkpdapagfjmmaaGreatDoor
open Go.RowKit

/-- Side k has heard i of the events; j speaks. -/
structure HS (w0 : World) (P g cap : Nat) (sd eb : Nat → Nat) (e : Nat → Lk.En) (d : Nat → PD) (ml : Nat → List Ms) (pipe : Nat → Lk.Bs) (k j B : Nat) (v : Value) (evs : List EvH) (G' : List (Lk.Bs × Bool)) (i : Nat) (mv1 : Nat → Value) (ml1 : Nat → List Ms) (W : World) : Prop where
  jp : JP w0 P g cap sd eb e d mv1 ml1 pipe W
  row : W.ownsRow B 116 5 v evs.length (evsV evs)
  hds : ∀ p ∈ evs.drop i, W.ownsRow B 112 2 p.2 p.1.hs.length (hdsV p.1.hs)
  apart : evs.Pairwise fun p q => p.2.ownBlock = none ∨ p.2.ownBlock ≠ q.2.ownBlock
  sep : ∀ x, saidFoot v evs x → ¬ jf P g sd mv1 ml1 x ∧ ∀ q, q < 2 → ¬ foot (eb q) (d q) x
  lo : ∀ x, saidFoot v evs x → w0.heap.size ≤ x
  lt : ∀ x, saidFoot v evs x → x < W.heap.size
  same : ∀ q, q < 2 → hsL (ml1 q) = hsL (ml q) ∧ bdF (ml1 q) = bdF (ml q) ∧ etF (ml1 (q + 2)) = etF (ml (q + 2))
  gk : gtL (ml1 (k + 2)) = gtL (ml (k + 2))
  le : (ml1 (j + 2)).length ≤ (ml j).length
  res : Lk.hearL j (hsL (ml j)) (bdF (ml j)) (gtL (ml1 (j + 2))) ((evs.drop i).map Prod.fst) = some G'

section
variable {w0 W W' : World} {P g cap : Nat} {sd eb : Nat → Nat} {e : Nat → Lk.En} {d : Nat → PD} {ml : Nat → List Ms} {pipe : Nat → Lk.Bs} {k j B : Nat} {v : Value} {evs : List EvH} {G' : List (Lk.Bs × Bool)} {i : Nat} {mv1 : Nat → Value} {ml1 : Nat → List Ms}

theorem HS.below (h : HS w0 P g cap sd eb e d ml pipe k j B v evs G' i mv1 ml1 W) (hb : Below W.heap.size W W') : HS w0 P g cap sd eb e d ml pipe k j B v evs G' i mv1 ml1 W' :=
  ⟨h.jp.below hb, own_below h.row hb, fun p hp => own_below (h.hds p hp) hb, h.apart, h.sep, h.lo, fun x hx => Nat.lt_of_lt_of_le (h.lt x hx) hb.size, h.same, h.gk, h.le, h.res⟩
theorem dropCons {α : Type} {l : List α} {i : Nat} (h : i < l.length) : l.drop i = l[i] :: l.drop (i + 1) := List.drop_eq_getElem_cons h
theorem hds_next {l : List EvH} {i : Nat} {p : EvH} (hp : p ∈ l.drop (i + 1)) : p ∈ l.drop i := by
  by_cases h : i < l.length
  · rw [dropCons h]
    exact List.mem_cons_of_mem _ hp
  · rw [List.drop_eq_nil_of_le (by omega)] at hp
    cases hp
/-- What the next event makes of what was told. -/
theorem HS.next (h : HS w0 P g cap sd eb e d ml pipe k j B v evs G' i mv1 ml1 W) (hi : i < evs.length) : ∃ G1, Lk.hear1 j (hsL (ml j)) (bdF (ml j)) (gtL (ml1 (j + 2))) evs[i].1 = some G1 ∧ Lk.hearL j (hsL (ml j)) (bdF (ml j)) G1 ((evs.drop (i + 1)).map Prod.fst) = some G' := by
  have := h.res
  rw [dropCons hi, List.map_cons, Lk.hearL] at this
  cases hx : Lk.hear1 j (hsL (ml j)) (bdF (ml j)) (gtL (ml1 (j + 2))) evs[i].1 with
  | none => rw [hx] at this; cases this
  | some G1 => rw [hx] at this; exact ⟨G1, rfl, this⟩
/-- An event that says nothing of what is told. -/
theorem HS.skip (h : HS w0 P g cap sd eb e d ml pipe k j B v evs G' i mv1 ml1 W) (hi : i < evs.length) (hk : evs[i].1.k ≠ 1 ∧ evs[i].1.k ≠ 2 ∧ evs[i].1.k ≠ 3) : HS w0 P g cap sd eb e d ml pipe k j B v evs G' (i + 1) mv1 ml1 W := by
  obtain ⟨G1, h1, h2⟩ := h.next hi
  rw [Lk.hear1_other hk] at h1
  cases h1
  exact ⟨h.jp, h.row, fun p hp => h.hds p (hds_next hp), h.apart, h.sep, h.lo, h.lt, h.same, h.gk, h.le, h2⟩
theorem own_row_other {w : World} {B g cap n size j : Nat} {E : TypeId} {xs : List Value} (h : w.ownsRow B E size (.slice (some ⟨g, 0, none⟩) n cap) n xs) {T : TypeId} {B' n' size' : Nat} {v' : Value} {xs' : List Value} (h' : w.ownsRow B' T size' v' n' xs') (hT : T ≠ E) (x : Value) : (w.setCell ⟨g, j, none⟩ x).ownsRow B' T size' v' n' xs' := by
  refine own_only h' ((Only.refl (· = g) w).set g j x (fun _ => rfl)) (fun y hy e => ?_)
  rcases own_own_ne h' h hT with h'' | h''
  · rw [h''] at hy; cases hy
  · subst e
    exact h'' hy
/-- A message is written to. -/
theorem HS.write (h : HS w0 P g cap sd eb e d ml pipe k j B v evs G' i mv1 ml1 W) {q : Nat} (hq : q < 4) {gq cq x f : Nat} {m : Ms} {y : Value} (hv : mv1 q = .slice (some ⟨gq, 0, none⟩) (ml1 q).length cq) (hx : x < (ml1 q).length) (hf : f < 6) (hm : ∀ z, (ml1 q)[x]? = some z → (msV z).set f y = msV m ∧ m.hv = z.hv ∧ m.hs = z.hs) :
    JP w0 P g cap sd eb e d mv1 (upd ml1 q ((ml1 q).set x m)) pipe (W.setCell ⟨gq, x * 6 + f, none⟩ y) ∧ (W.setCell ⟨gq, x * 6 + f, none⟩ y).ownsRow B 116 5 v evs.length (evsV evs) ∧ (∀ p ∈ evs.drop i, (W.setCell ⟨gq, x * 6 + f, none⟩ y).ownsRow B 112 2 p.2 p.1.hs.length (hdsV p.1.hs)) ∧ ∀ z, saidFoot v evs z → ¬ jf P g sd mv1 (upd ml1 q ((ml1 q).set x m)) z ∧ ∀ q, q < 2 → ¬ foot (eb q) (d q) z := by
  have hown := h.jp.ms q hq
  rw [hv] at hown
  refine ⟨h.jp.setMs hq hv hx hf hm, own_row_other hown h.row (Nat.ne_of_beq_eq_false rfl) y, fun p hp => own_row_other hown (h.hds p hp) (Nat.ne_of_beq_eq_false rfl) y, fun z hz => ⟨fun hj => (h.sep z hz).1 ?_, (h.sep z hz).2⟩⟩
  have hxx : (ml1 q)[x]? = some (ml1 q)[x] := List.getElem?_eq_getElem hx
  have hmx := hm _ hxx
  rcases hj with hy | hy | hy | hy | ⟨r, hr, m', hm', hy⟩
  · exact .inl hy
  · exact .inr (.inl hy)
  · exact .inr (.inr (.inl hy))
  · exact .inr (.inr (.inr (.inl hy)))
  · refine .inr (.inr (.inr (.inr ?_)))
    by_cases hrq : r = q
    · subst hrq
      rw [upd_same] at hm'
      rcases List.mem_or_eq_of_mem_set hm' with hm' | rfl
      · exact ⟨r, hr, m', hm', hy⟩
      · exact ⟨r, hr, _, List.getElem_mem hx, by rw [← hmx.2.1]; exact hy⟩
    · rw [upd_other _ _ hrq] at hm'
      exact ⟨r, hr, m', hm', hy⟩
theorem hsL_set {l : List Ms} {i : Nat} {m x : Ms} (hx : l[i]? = some x) (h1 : m.hs = x.hs) : hsL (l.set i m) = hsL l := by
  unfold hsL
  rw [List.map_set]
  have : (l.map Ms.hs)[i]? = some m.hs := by rw [List.getElem?_map, hx, h1]; rfl
  obtain ⟨hlt, hxx⟩ := List.getElem?_eq_some_iff.1 this
  rw [← hxx]
  exact List.set_getElem_self hlt
theorem bdF_set {l : List Ms} {i : Nat} {m x : Ms} (hx : l[i]? = some x) (h1 : m.body = x.body) : bdF (l.set i m) = bdF l := by
  have hlt := (List.getElem?_eq_some_iff.1 hx).1
  funext j
  unfold bdF
  by_cases h : j = i
  · subst h
    rw [List.getElem?_set_self hlt, hx]
    simp [h1]
  · rw [List.getElem?_set_ne (fun e => h e.symm)]
theorem etF_same {l : List Ms} {i : Nat} {m x : Ms} (hx : l[i]? = some x) (h1 : m.et = x.et) : etF (l.set i m) = etF l := by
  rw [etF_set hx]
  funext j
  by_cases h : j = i
  · rw [if_pos h, h, h1]
    unfold etF
    rw [hx]
    rfl
  · rw [if_neg h]
/-- It is noted that a message is gone. -/
theorem HS.gone (h : HS w0 P g cap sd eb e d ml pipe k j B v evs G' i mv1 ml1 W) {q : Nat} (hq : q < 2) {gq cq x : Nat} (hv : mv1 q = .slice (some ⟨gq, 0, none⟩) (ml1 q).length cq) (hx : x < (ml1 q).length) :
    HS w0 P g cap sd eb e d ml pipe k j B v evs G' i mv1 (upd ml1 q ((ml1 q).set x { (ml1 q)[x] with gn := true })) (W.setCell ⟨gq, x * 6 + 4, none⟩ (.bool true)) := by
  have hxx : (ml1 q)[x]? = some (ml1 q)[x] := List.getElem?_eq_getElem hx
  obtain ⟨h1, h2, h3, h4⟩ := h.write (q := q) (by omega) (f := 4) (m := { (ml1 q)[x] with gn := true }) (y := .bool true) hv hx (by omega) (fun z hz => by rw [hxx] at hz; cases hz; exact ⟨rfl, rfl, rfl⟩)
  refine ⟨h1, h2, h3, h.apart, h4, h.lo, fun x hx => by simpa using h.lt x hx, fun r hr => ?_, ?_, ?_, ?_⟩
  · obtain ⟨s1, s2, s3⟩ := h.same r hr
    rw [upd_other _ _ (show r + 2 ≠ q by omega)]
    by_cases hrq : r = q
    · subst hrq
      rw [upd_same, hsL_set (m := { (ml1 r)[x] with gn := true }) hxx rfl, bdF_set (m := { (ml1 r)[x] with gn := true }) hxx rfl]
      exact ⟨s1, s2, s3⟩
    · rw [upd_other _ _ hrq]
      exact ⟨s1, s2, s3⟩
  · rw [upd_other _ _ (show k + 2 ≠ q by omega)]
    exact h.gk
  · rw [upd_other _ _ (show j + 2 ≠ q by omega)]
    exact h.le
  · rw [upd_other _ _ (show j + 2 ≠ q by omega)]
    exact h.res
/-- More of a message is told, or its end. -/
theorem HS.got (h : HS w0 P g cap sd eb e d ml pipe k j B v evs G' i mv1 ml1 W) (hi : i < evs.length) (hj : j < 2) (hkj : k ≠ j) {gq cq x f : Nat} {m : Ms} {y : Value} (hv : mv1 (j + 2) = .slice (some ⟨gq, 0, none⟩) (ml1 (j + 2)).length cq) (hx : x < (ml1 (j + 2)).length) (hf : f < 6) (hm : (msV (ml1 (j + 2))[x]).set f y = msV m) (hhv : m.hv = (ml1 (j + 2))[x].hv) (hhs : m.hs = (ml1 (j + 2))[x].hs) (het : m.et = (ml1 (j + 2))[x].et)
    (hG : Lk.hear1 j (hsL (ml j)) (bdF (ml j)) (gtL (ml1 (j + 2))) evs[i].1 = some ((gtL (ml1 (j + 2))).set x (m.body, m.en))) :
    HS w0 P g cap sd eb e d ml pipe k j B v evs G' (i + 1) mv1 (upd ml1 (j + 2) ((ml1 (j + 2)).set x m)) (W.setCell ⟨gq, x * 6 + f, none⟩ y) := by
  have hxx : (ml1 (j + 2))[x]? = some (ml1 (j + 2))[x] := List.getElem?_eq_getElem hx
  obtain ⟨h1, h2, h3, h4⟩ := h.write (q := j + 2) (by omega) (f := f) (m := m) (y := y) hv hx hf (fun z hz => by rw [hxx] at hz; cases hz; exact ⟨hm, hhv, hhs⟩)
  obtain ⟨G1, n1, n2⟩ := h.next hi
  rw [hG] at n1
  cases n1
  refine ⟨h1, h2, fun p hp => h3 p (hds_next hp), h.apart, h4, h.lo, fun x hx => by simpa using h.lt x hx, fun r hr => ?_, ?_, ?_, ?_⟩
  · obtain ⟨s1, s2, s3⟩ := h.same r hr
    rw [upd_other _ _ (show r ≠ j + 2 by omega)]
    by_cases hrq : r = j
    · subst hrq
      rw [upd_same, etF_same hxx het]
      exact ⟨s1, s2, s3⟩
    · rw [upd_other _ _ (show r + 2 ≠ j + 2 by omega)]
      exact ⟨s1, s2, s3⟩
  · rw [upd_other _ _ (show k + 2 ≠ j + 2 by omega)]
    exact h.gk
  · rw [upd_same, List.length_set]
    exact h.le
  · rw [upd_same]
    have : gtL ((ml1 (j + 2)).set x m) = (gtL (ml1 (j + 2))).set x (m.body, m.en) := by unfold gtL; rw [List.map_set]
    rw [this]
    exact n2
/-- The headers of an event are spoilt. -/
theorem HS.spoilt (h : HS w0 P g cap sd eb e d ml pipe k j B v evs G' i mv1 ml1 W) (hi : i < evs.length) (hg : W.grownBy W' evs[i].2.ownBlock) : JP w0 P g cap sd eb e d mv1 ml1 pipe W' ∧ W'.ownsRow B 116 5 v evs.length (evsV evs) ∧ (∀ p ∈ evs.drop (i + 1), W'.ownsRow B 112 2 p.2 p.1.hs.length (hdsV p.1.hs)) := by
  have hO : Only (fun x => some x = evs[i].2.ownBlock) W W' := Only.of_grown hg
  have hs : ∀ x, some x = evs[i].2.ownBlock → saidFoot v evs x := fun x hx => .inr ⟨evs[i], List.getElem_mem hi, hx.symm⟩
  have hthis := h.hds evs[i] (by rw [dropCons hi]; exact List.mem_cons_self)
  refine ⟨h.jp.only hO (fun x hx hy => (h.sep x (hs x hy)).1 hx) (fun q hq x hx hy => (h.sep x (hs x hy)).2 q hq hx) (fun x hx _ => h.lo x (hs x hx)), own_only h.row hO (fun x hx hy => ?_), fun p hp => own_only (h.hds p (hds_next hp)) hO (fun x hx hy => ?_)⟩
  · rcases own_own_ne h.row hthis (Nat.ne_of_beq_eq_false rfl) with h' | h'
    · rw [h'] at hx; cases hx
    · exact h' (hx.trans hy)
  · have hap := h.apart
    rw [← List.take_append_drop i evs, dropCons hi] at hap
    have h2 := (List.pairwise_append.1 hap).2.1
    rcases (List.pairwise_cons.1 h2).1 p hp with h' | h'
    · rw [h'] at hy; cases hy
    · exact h' (hy.symm.trans hx.symm)
/-- A message has begun. -/
theorem HS.begun (h : HS w0 P g cap sd eb e d ml pipe k j B v evs G' i mv1 ml1 W) (hi : i < evs.length) (hl : (ml1 (j + 2)).length < (ml j).length) (hj : j < 2) (hkj : k ≠ j) {W2 W3 : World} {v' : Value} (hg : W.grownBy W2 evs[i].2.ownBlock)
    (hown : W3.ownsRow w0.heap.size 44 6 v' ((ml1 (j + 2)).length + 1) (mssV (ml1 (j + 2)) ++ msV ⟨nilS, [], [], true, false, false, 0⟩)) (hO : Only (fun x => (mv1 (j + 2)).ownBlock = some x) W2 W3) (hor : ∀ x, v'.ownBlock = some x → (mv1 (j + 2)).ownBlock = some x ∨ W2.heap.size ≤ x)
    (hG : Lk.hear1 j (hsL (ml j)) (bdF (ml j)) (gtL (ml1 (j + 2))) evs[i].1 = some (gtL (ml1 (j + 2)) ++ [([], false)])) :
    HS w0 P g cap sd eb e d ml pipe k j B v evs G' (i + 1) (upd mv1 (j + 2) v') (upd ml1 (j + 2) (ml1 (j + 2) ++ [⟨nilS, [], [], true, false, false, 0⟩])) (W3.setCell ⟨sd j, 2, none⟩ v') := by
  obtain ⟨h1, h2, h3⟩ := h.spoilt hi hg
  have hp := h1.push (q := j + 2) (k := j) (c := 2) hj (.inr ⟨rfl, rfl⟩) hown hO hor (World.ownsRow_nil _ _ _ _) (fun _ _ x hx => by cases hx)
  obtain ⟨G1, n1, n2⟩ := h.next hi
  rw [hG] at n1
  cases n1
  have hmq := h1.ms (j + 2) (by omega)
  have hside3 := (h1.side j hj).only hO (fun e => own_ne hmq (h1.side j hj) (Nat.ne_of_beq_eq_false rfl) e.symm)
  have hS : Only (· = sd j) W3 (W3.setCell ⟨sd j, 2, none⟩ v') := (Only.refl (· = sd j) W3).set (sd j) 2 _ (fun _ => rfl)
  have hkeep : ∀ {T : TypeId} {n size : Nat} {y : Value} {xs : List Value}, W2.ownsRow B T size y n xs → T ≠ 44 → 37 ≠ T → (W3.setCell ⟨sd j, 2, none⟩ v').ownsRow B T size y n xs := fun {T n size y xs} ho hT hT2 => by
    have ho3 : W3.ownsRow B T size y n xs := own_only ho hO (fun x hx hy => by
      rcases own_own_ne ho hmq hT with h' | h'
      · rw [h'] at hx; cases hx
      · exact h' (hx.trans hy.symm))
    exact own_only ho3 hS (fun x hx e => by subst e; exact own_ne ho3 hside3 hT2 hx.symm)
  refine ⟨hp, hkeep h2 (Nat.ne_of_beq_eq_false rfl) (Nat.ne_of_beq_eq_false rfl), fun p hp => hkeep (h3 p hp) (Nat.ne_of_beq_eq_false rfl) (Nat.ne_of_beq_eq_false rfl), h.apart, fun x hx => ⟨fun hj' => ?_, (h.sep x hx).2⟩, h.lo, fun x hx => ?_, fun r hr => ?_, ?_, ?_, ?_⟩
  · rcases hj' with hy | hy | hy | ⟨r, hr, hy⟩ | ⟨r, hr, m', hm', hy⟩
    · exact (h.sep x hx).1 (.inl hy)
    · exact (h.sep x hx).1 (.inr (.inl hy))
    · exact (h.sep x hx).1 (.inr (.inr (.inl hy)))
    · by_cases hrq : r = j + 2
      · subst hrq
        rw [upd_same] at hy
        rcases hor x hy with h' | h'
        · exact (h.sep x hx).1 (.inr (.inr (.inr (.inl ⟨j + 2, hr, h'⟩))))
        · have h5 := h.lt x hx
          have h6 := hg.size
          omega
      · rw [upd_other _ _ hrq] at hy
        exact (h.sep x hx).1 (.inr (.inr (.inr (.inl ⟨r, hr, hy⟩))))
    · by_cases hrq : r = j + 2
      · subst hrq
        rw [upd_same] at hm'
        rcases List.mem_append.1 hm' with hm' | hm'
        · exact (h.sep x hx).1 (.inr (.inr (.inr (.inr ⟨j + 2, hr, m', hm', hy⟩))))
        · simp at hm'
          subst hm'
          cases hy
      · rw [upd_other _ _ hrq] at hm'
        exact (h.sep x hx).1 (.inr (.inr (.inr (.inr ⟨r, hr, m', hm', hy⟩))))
  · have h5 := h.lt x hx
    have h6 := hg.size
    have h7 := hO.size
    have h8 : (W3.setCell ⟨sd j, 2, none⟩ v').heap.size = W3.heap.size := by simp
    omega
  · obtain ⟨s1, s2, s3⟩ := h.same r hr
    rw [upd_other _ _ (show r ≠ j + 2 by omega)]
    by_cases hrq : r = j
    · subst hrq
      rw [upd_same]
      refine ⟨s1, s2, ?_⟩
      rw [← s3]
      funext x
      unfold etF
      by_cases hx : x < (ml1 (r + 2)).length
      · rw [List.getElem?_append_left hx]
      · rw [List.getElem?_append_right (by omega)]
        have h1 : (ml1 (r + 2))[x]? = none := by simp; omega
        rw [h1]
        by_cases h2 : x - (ml1 (r + 2)).length = 0
        · rw [h2]; rfl
        · have h3 : [(⟨nilS, [], [], true, false, false, 0⟩ : Ms)][x - (ml1 (r + 2)).length]? = none := by simp; omega
          rw [h3]
    · rw [upd_other _ _ (show r + 2 ≠ j + 2 by omega)]
      exact ⟨s1, s2, s3⟩
  · rw [upd_other _ _ (show k + 2 ≠ j + 2 by omega)]
    exact h.gk
  · rw [upd_same, List.length_append, List.length_singleton]
    omega
  · rw [upd_same]
    have : gtL (ml1 (j + 2) ++ [⟨nilS, [], [], true, false, false, 0⟩]) = gtL (ml1 (j + 2)) ++ [([], false)] := by simp [gtL]
    rw [this]
    exact n2
end
end Go.Proofs.YtbkpdapagfjmmaaGreatDoor

/-
  What is told by an end that is fed piece by piece.
-/
namespace Go.Proofs.YtbkpdapagfjmmaaGreatDoor
open Go.RowKit

theorem take_piece (b : ByteArray) (i j : Nat) (h : i ≤ j) : b.data.toList.take j = b.data.toList.take i ++ (b.extract i j).data.toList := by
  rw [extract_list]
  have := List.take_add (l := b.data.toList) (i := i) (j := j - i)
  rw [show i + (j - i) = j from by omega] at this
  exact this
/-- What was told so far is what is told of the first so many bytes. -/
def Along (E0 : Lk.En) (L : Lk.Bs) (last : Nat) (e1 : Lk.En) (evl : List Lk.Ev) : Prop :=
  ∀ p, (E0.feed (L.take last ++ p)).1 = evl ++ (e1.feed p).1 ∧ (E0.feed (L.take last ++ p)).2.at [] = (e1.feed p).2.at []
theorem Along.start (E0 : Lk.En) (L : Lk.Bs) : Along E0 L 0 E0 [] := fun p => by simp
theorem Along.step {E0 : Lk.En} {L : Lk.Bs} {last next : Nat} {e1 : Lk.En} {evl : List Lk.Ev} {p : Lk.Bs} (h : Along E0 L last e1 evl) (hp : L.take next = L.take last ++ p) : Along E0 L next (e1.feed p).2 (evl ++ (e1.feed p).1) := fun q => by
  obtain ⟨h1, h2⟩ := h (p ++ q)
  obtain ⟨h3, h4⟩ := e1.feed_append p q
  rw [hp, List.append_assoc, h1, h2, h3, h4, List.append_assoc]
  exact ⟨rfl, rfl⟩
theorem Along.end {E0 : Lk.En} {L : Lk.Bs} {last : Nat} {e1 : Lk.En} {evl : List Lk.Ev} (h : Along E0 L last e1 evl) (hl : L.length ≤ last) (hw : Lk.Wf e1) : (E0.feed L).1 = evl ∧ (E0.feed L).2.at [] = e1.at [] := by
  have := h []
  rw [List.append_nil, List.take_of_length_le hl, Lk.En.feed_none hw, List.append_nil] at this
  exact this
theorem Along.len {E0 : Lk.En} {L : Lk.Bs} {last : Nat} {e1 : Lk.En} {evl : List Lk.Ev} (h : Along E0 L last e1 evl) (h0 : E0.rest = []) : evl.length ≤ L.length := by
  have := (h []).1
  have h2 := E0.feed_len (L.take last ++ [])
  rw [this, h0] at h2
  simp at h2
  omega

theorem evsV_at (l : List EvH) : ∀ (i : Nat) (h : i < l.length), (evsV l)[i * 5]? = some (.int .i64 (l[i].1.k : Int)) ∧ (evsV l)[i * 5 + 1]? = some (.int .i64 (l[i].1.st : Int)) ∧ (evsV l)[i * 5 + 2]? = some (.int .i64 (l[i].1.n : Int)) ∧ (evsV l)[i * 5 + 3]? = some l[i].2 ∧ (evsV l)[i * 5 + 4]? = some (.string (bs l[i].1.t)) := by
  induction l with
  | nil => intro i h; simp at h
  | cons f fs ih =>
    intro i h
    cases i with
    | zero => simp [evsV, evV]
    | succ i =>
      have := ih i (by simpa using h)
      simp only [evsV, List.flatMap_cons, List.getElem_cons_succ] at this ⊢
      have e : (i + 1) * 5 = i * 5 + 5 := by omega
      rw [e]
      simpa [evV] using this
/-- What a list of events is, for the walk. -/
theorem owned_evs {w : World} {B : Nat} {v : Value} {l : List EvH} (h : w.ownsRow B 116 5 v l.length (evsV l)) :
    (l = [] ∧ v = .slice none 0 0) ∨ ∃ g cap, v = .slice (some ⟨g, 0, none⟩) l.length cap ∧ B ≤ g ∧ g < w.heap.size ∧ ∀ i (h : i < l.length), w.cell? ⟨g, i * 5, none⟩ = some (.int .i64 (l[i].1.k : Int)) ∧ w.cell? ⟨g, i * 5 + 1, none⟩ = some (.int .i64 (l[i].1.st : Int)) ∧ w.cell? ⟨g, i * 5 + 2, none⟩ = some (.int .i64 (l[i].1.n : Int)) ∧ w.cell? ⟨g, i * 5 + 3, none⟩ = some l[i].2 ∧ w.cell? ⟨g, i * 5 + 4, none⟩ = some (.string (bs l[i].1.t)) := by
  rcases h.2 with ⟨rfl, h0⟩ | ⟨g, cap, cur, rfl, hB, hg, hn, hc, hs, ht⟩
  · exact .inl ⟨List.eq_nil_of_length_eq_zero h0, rfl⟩
  · have hI : Is w g 116 cur.toList := by unfold Is; simpa using hg
    refine .inr ⟨g, cap, rfl, hB, hI.lt, fun i hi => ?_⟩
    have e := evsV_at l i hi
    have hc : ∀ j, j < l.length * 5 → w.cell? ⟨g, j, none⟩ = (evsV l)[j]? := by
      intro j hj
      rw [hI.cell j, ← ht, List.getElem?_take_of_lt hj]
    rw [hc _ (by omega), hc _ (by omega), hc _ (by omega), hc _ (by omega), hc _ (by omega)]
    exact e

theorem below_dn {B : Nat} {w w1 : World} (h : Below B w w1) (n : Nat) : Below B w (w1.drewN n) := ⟨h.os, h.tape, h.output, h.size, h.block⟩
theorem cells_news (w : World) (xs : List Value) (T : TypeId) : ∀ j u, xs[j]? = some u → (w.alloc (.cells xs.toArray T)).drew.cell? ((⟨w.heap.size, 0, none⟩ : Addr).add j) = some u := by
  intro j u hu
  have hplain : (⟨w.heap.size, 0, none⟩ : Addr).add j = ⟨w.heap.size, j, none⟩ := by unfold Addr.add; split <;> simp_all
  rw [hplain]
  have := (Is.new w T xs).cell j
  rw [← hu]
  exact this
end Go.Proofs.YtbkpdapagfjmmaaGreatDoor
