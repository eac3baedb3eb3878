import Derived.Test.YtbkpdapagfjmmaaGreatDoorMSpec11
/-
  Plain mathematics of the document: two ends that belong together: a frame comes. Imports nothing of the program.
-/
namespace Go.Proofs.YtbkpdapagfjmmaaGreatDoor.Lk

theorem othIx_it {b : En} (hw : Wf b) {i : Nat} {p : Ot} (hp : b.oth[i]? = some p) : othIx b.oth p.id = some i := by
  unfold othIx
  rw [List.findIdx?_eq_some_iff_getElem]
  have hi := lt_of_get hp
  have e : b.oth[i] = p := by rw [List.getElem?_eq_getElem hi] at hp; exact Option.some.inj hp
  refine ⟨hi, by simp [e], fun j hj => ?_⟩
  have h1 := (hw.oth i p hp).id
  have h2 := (hw.oth j b.oth[j] (List.getElem?_eq_getElem (by omega))).id
  have := hw.side
  simp
  omega
theorem ownIx_it {b : En} (hw : Wf b) {i : Nat} {o : Ow} (ho : b.own[i]? = some o) : ownIx b.own o.id = some i := by
  unfold ownIx
  rw [List.findIdx?_eq_some_iff_getElem]
  have hi := lt_of_get ho
  have e : b.own[i] = o := by rw [List.getElem?_eq_getElem hi] at ho; exact Option.some.inj ho
  refine ⟨hi, by simp [e], fun j hj => ?_⟩
  have h1 := (hw.own i o ho).id
  have h2 := (hw.own j b.own[j] (List.getElem?_eq_getElem (by omega))).id
  simp
  omega
theorem ownIx_no {b : En} (hw : Wf b) {st : Nat} (h : st % 2 ≠ (1 + b.side) % 2) : ownIx b.own st = none := by
  cases hx : ownIx b.own st with
  | none => rfl
  | some i =>
    obtain ⟨o, ho, e⟩ := ownIx_some hx
    have := (hw.own i o ho).id
    omega

def heldAt (b : En) (i : Nat) : Nat := match b.oth[i]? with
  | some p => p.held
  | none => 0
/-- What b holds of a stream is no more than it held and what it was told since. -/
def HeldOk (b b' : En) (told told' : Nat → Bs) : Prop := ∀ (i : Nat) (p' : Ot), b'.oth[i]? = some p' → p'.held + (told i).length ≤ heldAt b i + (told' i).length ∧ (0 < p'.held → ∃ p, b.oth[i]? = some p ∧ (0 < p.held ∨ p.opn = true))
theorem held_same {b b' : En} {told : Nat → Bs} (ho : b'.oth = b.oth) : HeldOk b b' told told := fun i p' hp => by
  rw [ho] at hp
  unfold heldAt
  rw [hp]
  exact ⟨Nat.le_refl _, fun h => ⟨p', rfl, .inl h⟩⟩
theorem held_head {b b' : En} {x : Ot} {told : Nat → Bs} (ho : b'.oth = b.oth ++ [x]) (hx : x.held = 0) : HeldOk b b' told told := fun i p' hp => by
  rw [ho, List.getElem?_append] at hp
  unfold heldAt
  split at hp
  · rw [hp]
    exact ⟨Nat.le_refl _, fun h => ⟨p', rfl, .inl h⟩⟩
  · rename_i hi
    have hi0 : i = b.oth.length := by
      have := (List.getElem?_eq_some_iff.1 hp).1
      simp at this
      omega
    subst hi0
    simp at hp
    subst hp
    rw [hx]
    exact ⟨by omega, fun h => by omega⟩
theorem held_set {b b' : En} {i : Nat} {p x : Ot} {told told' : Nat → Bs} (hp : b.oth[i]? = some p) (ho : b'.oth = b.oth.set i x) (hx : x.held + (told i).length ≤ p.held + (told' i).length) (hpos : 0 < x.held → 0 < p.held ∨ p.opn = true) (ht : ∀ j, j ≠ i → told' j = told j) : HeldOk b b' told told' := fun j p' hp' => by
  rw [ho] at hp'
  unfold heldAt
  rcases set_get hp' with ⟨rfl, rfl, _⟩ | ⟨hj, hp'⟩
  · rw [hp]
    exact ⟨hx, fun h => ⟨p, rfl, hpos h⟩⟩
  · rw [hp', ht j hj]
    exact ⟨Nat.le_refl _, fun h => ⟨p', rfl, .inl h⟩⟩

/-- What is told of a frame that comes to b, which is then b'. -/
structure Heard (b b' : En) (f : Fr) (evs : List Ev) (H : List (List Hd)) (bd told told' : Nat → Bs) : Prop where
  bye : b'.byeS = b.byeS
  head : f.k = 0 → ∃ hs x, H[b.oth.length]? = some hs ∧ f.st = 2 * b.oth.length + 2 - b.side ∧ b'.oth = b.oth ++ [x] ∧ (x.opn = true → b.byeS = false) ∧ told b.oth.length = [] ∧ evs = if b.byeS then [] else [⟨1, f.st, 0, hs, []⟩]
  body : f.body → ∃ (i : Nat) (p x : Ot), b.oth[i]? = some p ∧ f.st = p.id ∧ b'.oth = b.oth.set i x ∧ (x.opn = true → p.opn = true ∧ f.k ≠ 2) ∧ if p.opn then told' = updN told i (told i ++ f.d) ∧ told' i <+: bd i ∧ (f.k = 2 → told' i = bd i) ∧ evs = (if 0 < f.d.length then ([⟨2, f.st, 0, [], f.d⟩] : List Ev) else []) ++ (if f.k = 2 then ([⟨3, f.st, 0, [], []⟩] : List Ev) else []) else told' = told ∧ evs = []
  same : ¬ f.body → told' = told
  rest : f.k ≠ 0 → ¬ f.body → (∀ v ∈ evs, v.k ≠ 1 ∧ v.k ≠ 2 ∧ v.k ≠ 3) ∧ b'.oth.length = b.oth.length ∧ ∀ (i : Nat) (p' : Ot), b'.oth[i]? = some p' → p'.opn = true → ∃ p, b.oth[i]? = some p ∧ p.opn = true
  held : HeldOk b b' told told'

theorem opn_set {b : En} {i : Nat} {x : Ot} (hx : x.opn = false) : ∀ (j : Nat) (p' : Ot), (b.oth.set i x)[j]? = some p' → p'.opn = true → ∃ p, b.oth[j]? = some p ∧ p.opn = true := fun j p' hp ho => by
  rcases set_get hp with ⟨rfl, rfl, _⟩ | ⟨_, hp⟩
  · rw [hx] at ho; cases ho
  · exact ⟨p', hp, ho⟩

section
variable {a b : En} {Q R : List Fr} {Ha Hb : List (List Hd)} {ba ta bb tb : Nat → Bs}

theorem Both.recv {f : Fr} (h : Both a b (f :: Q) R Ha Hb ba ta bb tb) :
    (b.frame f).2.1 = 0 ∧ ∃ S ta', Sent b (b.frame f).2.2 S ∧ Both a (b.frame f).2.2 Q (R ++ S) Ha Hb ba ta' bb tb ∧ Heard b (b.frame f).2.2 f (b.frame f).1 Ha ba ta ta' := by
  have hg := h.gq f (by simp)
  have hw := h.wb.frame hg
  have gq' : ∀ g ∈ Q, Good g.k g.st g.d := fun g hg => h.gq g (by simp [hg])
  have D := h.ab
  have E := h.ba
  have hsd := D.sides
  have hwin := D.wins
  have h7 := hg.k7
  generalize hr : b.frame f = r at hw ⊢
  unfold En.frame at hr
  by_cases k0 : f.k = 0
  · rw [if_pos k0] at hr
    obtain ⟨hst, hs, L, hH, hx, hD⟩ := D.gotHead k0
    have hst2 : f.st = 2 * b.oth.length + 2 - b.side := by have := h.wb.side; omega
    have hnb : ¬ f.body := fun x => by rcases x with x | x <;> omega
    have hlt : b.oth.length < a.own.length := by
      have hh := D.heads
      rw [Heads, if_pos k0] at hh
      have := hh.2.le
      omega
    have ht0 : ta b.oth.length = [] := by
      have := D.body b.oth.length a.own[b.oth.length] (List.getElem?_eq_getElem hlt)
      rw [List.getElem?_eq_none (Nat.le_refl _)] at this
      exact this.1
    unfold En.headF at hr
    rw [if_neg (by omega), hx] at hr
    simp only at hr
    by_cases hb : b.byeS = true
    · rw [if_pos hb] at hr
      have D1 := (hD ⟨f.st, b.win, 0, false, true⟩ rfl rfl (.inr rfl)).pushR (f := ⟨3, f.st, wire 0⟩) (by simp) (fun _ _ => ⟨b.oth.length, hlt, hst⟩)
      have E1 := E.dropR.pushQ (f := ⟨3, f.st, wire 0⟩) h.wb ⟨by simp, by simp, by simp, fun _ => by simp only; omega⟩
      subst hr
      refine ⟨rfl, [⟨3, f.st, wire 0⟩], ta, ?_, ⟨h.wa, hw, h.da, h.db, gq', good_append h.gr ?_, ?_, ?_⟩, ⟨rfl, fun _ => ⟨hs, ⟨f.st, b.win, 0, false, true⟩, hH, hst2, rfl, (fun x => by cases x), ht0, by rw [if_pos hb]⟩, fun x => absurd x hnb, fun _ => rfl, fun x => absurd k0 x, held_head rfl rfl⟩⟩
      · simp [Sent, En.send, Fr.pack]
      · intro g hg'
        simp at hg'
        subst hg'
        exact good_reset f.st 0 (by omega) hg.st28 (by omega)
      · exact D1.toSame rfl rfl rfl rfl rfl rfl rfl rfl rfl rfl rfl rfl
      · exact E1.toSame rfl rfl rfl rfl rfl rfl rfl rfl rfl rfl rfl rfl
    · rw [if_neg hb] at hr
      have D1 := hD ⟨f.st, b.win, 0, true, false⟩ rfl rfl (.inl rfl)
      have E1 := E.dropR
      subst hr
      exact ⟨rfl, [], ta, by simp [Sent], ⟨h.wa, hw, h.da, h.db, gq', by simpa using h.gr, by simpa using D1, E1.toSame (by simp) rfl rfl rfl rfl rfl rfl rfl rfl rfl rfl rfl⟩, ⟨rfl, fun _ => ⟨hs, ⟨f.st, b.win, 0, true, false⟩, hH, hst2, rfl, (fun _ => by simpa using hb), ht0, by rw [if_neg hb]⟩, fun x => absurd x hnb, fun _ => rfl, fun x => absurd k0 x, held_head rfl rfl⟩⟩
  · rw [if_neg k0] at hr
    by_cases kb : f.k = 1 ∨ f.k = 2
    · rw [if_pos kb] at hr
      obtain ⟨i, o, p, ho, hp, hso, hpo, hns, hcr, hrm, hdn, hfull, hpre, hD⟩ := D.gotBody h.wa h.wb kb
      have hix : (othIx b.oth f.st).bind (fun i => (b.oth[i]?).map fun o => (i, o)) = some (i, p) := by
        rw [show (f.st : Int) = (p.id : Int) by omega, othIx_it h.wb hp]
        simp [hp]
      unfold En.pieceF at hr
      rw [hix] at hr
      simp only at hr
      rw [if_neg (by intro x; apply hns; simpa using x), if_neg (by omega)] at hr
      have hl := hg.len
      have q := h.wb.oth i p hp
      cases hop : p.opn with
      | true =>
        rw [hop] at hr
        simp only [if_true] at hr
        have D1 := hD { p with cr := p.cr - f.d.length, held := p.held + f.d.length, opn := decide (f.k ≠ 2), drp := p.drp && decide (f.k ≠ 2) } rfl rfl (fun _ => hop) (fun x _ => by simpa using x)
        rw [hop] at D1
        simp only [if_true] at D1
        have E1 := E.dropR
        subst hr
        refine ⟨rfl, [], updN ta i (ta i ++ f.d), by simp [Sent], ⟨h.wa, hw, h.da, h.db, gq', by simpa using h.gr, ?_, E1.toSame (by simp) rfl rfl rfl rfl rfl rfl rfl rfl rfl rfl rfl⟩, ⟨rfl, fun x => absurd x k0, fun _ => ⟨i, p, _, hp, by omega, rfl, fun x => ⟨hop, by simpa using x⟩, ?_⟩, fun x => absurd kb x, fun _ x => absurd kb x, held_set (x := { p with cr := p.cr - f.d.length, held := p.held + f.d.length, opn := decide (f.k ≠ 2), drp := p.drp && decide (f.k ≠ 2) }) hp rfl (by rw [updN_same, List.length_append]; simp only; omega) (fun _ => .inr hop) (fun j hj => updN_other _ _ hj)⟩⟩
        · exact D1.toSame rfl (by simp) rfl rfl rfl rfl rfl rfl rfl rfl rfl rfl
        · rw [hop]
          simp only [if_true]
          refine ⟨trivial, ?_, fun e => ?_, trivial⟩
          · rw [updN_same]
            obtain ⟨t, e⟩ := hpre hop
            exact ⟨t, e.symm⟩
          · rw [updN_same]
            exact (hfull e hop).symm
      | false =>
        rw [if_neg (by rw [hop]; simp)] at hr
        have D1 := hD { p with cr := p.cr - f.d.length, drp := decide (f.k ≠ 2) } rfl rfl (fun x => by rw [hop] at x; cases x) (fun _ x => by simpa using x)
        rw [if_neg (by rw [hop]; simp)] at D1
        have heard : ∀ b' : En, b'.byeS = b.byeS → b'.oth = b.oth.set i { p with cr := p.cr - f.d.length, drp := decide (f.k ≠ 2) } → Heard b b' f [] Ha ba ta ta := fun b' e1 e2 => ⟨e1, fun x => absurd x k0, fun _ => ⟨i, p, _, hp, by omega, e2, (fun x => by rw [hop] at x; cases x), by rw [hop]; simp⟩, fun x => absurd kb x, fun _ x => absurd kb x, held_set hp e2 (Nat.le_refl _) (fun x => .inl x) (fun _ _ => rfl)⟩
        by_cases h0 : 0 < f.d.length
        · have D2 := D1.give h.wa (n := f.d.length) h0 (by omega)
          have E1 := E.dropR.pushQ (f := ⟨4, 0, wire f.d.length⟩) h.wb (alien4 _ _ _)
          have e : r = ([], 0, (({ b with oth := b.oth.set i { p with cr := p.cr - f.d.length, drp := decide (f.k ≠ 2) }, room := b.room - f.d.length + f.d.length } : En)).send 4 0 (wire f.d.length)) := by
            rw [← hr]
            unfold En.back
            rw [if_pos h0]
          rw [e] at hw ⊢
          refine ⟨rfl, [⟨4, 0, wire f.d.length⟩], ta, by simp [Sent, En.send, Fr.pack], ⟨h.wa, hw, h.da, h.db, gq', good_append h.gr ?_, ?_, ?_⟩, heard _ rfl rfl⟩
          · intro g hg'
            simp at hg'
            subst hg'
            exact good_credit 0 _ (by omega) (by omega)
          · exact D2.toSame rfl rfl rfl rfl rfl rfl rfl rfl rfl rfl rfl rfl
          · exact E1.toSame rfl rfl rfl rfl rfl rfl rfl rfl rfl rfl rfl rfl
        · have E1 := E.dropR
          have e : r = ([], 0, ({ b with oth := b.oth.set i { p with cr := p.cr - f.d.length, drp := decide (f.k ≠ 2) }, room := b.room - f.d.length } : En)) := by
            rw [← hr]
            unfold En.back
            rw [if_neg h0]
          rw [e] at hw ⊢
          exact ⟨rfl, [], ta, by simp [Sent], ⟨h.wa, hw, h.da, h.db, gq', by simpa using h.gr, D1.toSame rfl (by simp) rfl rfl rfl rfl rfl rfl rfl rfl rfl rfl, E1.toSame (by simp) rfl rfl rfl rfl rfl rfl rfl rfl rfl rfl rfl⟩, heard _ rfl rfl⟩
    · rw [if_neg kb] at hr
      have hnb : ¬ f.body := kb
      have heard : ∀ (b' : En) (evs : List Ev), b'.byeS = b.byeS → b'.oth.length = b.oth.length → (∀ (i : Nat) (p' : Ot), b'.oth[i]? = some p' → p'.opn = true → ∃ p, b.oth[i]? = some p ∧ p.opn = true) → (∀ v ∈ evs, v.k ≠ 1 ∧ v.k ≠ 2 ∧ v.k ≠ 3) → HeldOk b b' ta ta → Heard b b' f evs Ha ba ta ta := fun b' evs e1 e2 e3 hv hk => ⟨e1, fun x => absurd x k0, fun x => absurd x kb, fun _ => rfl, fun _ _ => ⟨hv, e2, e3⟩, hk⟩
      have keep : ∀ (i : Nat) (p' : Ot), b.oth[i]? = some p' → p'.opn = true → ∃ p, b.oth[i]? = some p ∧ p.opn = true := fun i p' hp ho => ⟨p', hp, ho⟩
      have D0 := D.dropQ k0 hnb
      have E0 := E.dropR
      by_cases k3 : f.k = 3
      · rw [if_pos k3] at hr
        unfold En.resetF at hr
        by_cases hpar : f.st % 2 = (1 + a.side) % 2
        · obtain ⟨i, o, p, ho, hp, hso, hpo, hD⟩ := D.gotReset h.wa h.wb k3 hpar
          have hno : (ownIx b.own f.st).bind (fun i => (b.own[i]?).map fun o => (i, o)) = none := by
            rw [ownIx_no h.wb (by omega)]; rfl
          have hix : (othIx b.oth f.st).bind (fun i => (b.oth[i]?).map fun o => (i, o)) = some (i, p) := by
            rw [show (f.st : Int) = (p.id : Int) by omega, othIx_it h.wb hp]
            simp [hp]
          have hh := h.wb.held hp
          rw [hno] at hr
          simp only at hr
          rw [hix] at hr
          simp only at hr
          cases hop : p.opn with
          | true =>
            rw [hop] at hr
            simp only [if_true] at hr
            have D1 := hD { p with opn := false, held := 0 } rfl rfl rfl
            by_cases h0 : 0 < p.held
            · have D2 := D1.give h.wa (n := p.held) h0 (by omega)
              have E1 := E0.pushQ (f := ⟨4, 0, wire p.held⟩) h.wb (alien4 _ _ _)
              have e : r = ([⟨4, f.st, numOf f.d, [], []⟩], 0, (({ b with oth := b.oth.set i { p with opn := false, held := 0 }, room := b.room + p.held } : En)).send 4 0 (wire p.held)) := by
                rw [← hr]
                unfold En.back
                rw [if_pos h0]
              rw [e] at hw ⊢
              refine ⟨rfl, [⟨4, 0, wire p.held⟩], ta, by simp [Sent, En.send, Fr.pack], ⟨h.wa, hw, h.da, h.db, gq', good_append h.gr ?_, ?_, ?_⟩, heard _ _ rfl (by simp [En.send]) (opn_set rfl) (by simp) (held_set (x := { p with opn := false, held := 0 }) hp rfl (by simp only; omega) (fun x => by simp at x) (fun _ _ => rfl))⟩
              · intro g hg'
                simp at hg'
                subst hg'
                exact good_credit 0 _ (by omega) (by omega)
              · exact D2.toSame rfl rfl rfl rfl rfl rfl rfl rfl rfl rfl rfl rfl
              · exact E1.toSame rfl rfl rfl rfl rfl rfl rfl rfl rfl rfl rfl rfl
            · have e : r = ([⟨4, f.st, numOf f.d, [], []⟩], 0, ({ b with oth := b.oth.set i { p with opn := false, held := 0 } } : En)) := by
                rw [← hr]
                unfold En.back
                rw [if_neg h0]
              rw [e] at hw ⊢
              exact ⟨rfl, [], ta, by simp [Sent], ⟨h.wa, hw, h.da, h.db, gq', by simpa using h.gr, D1.toSame rfl (by simp) rfl rfl rfl rfl rfl rfl rfl rfl rfl rfl, E0.toSame (by simp) rfl rfl rfl rfl rfl rfl rfl rfl rfl rfl rfl⟩, heard _ _ rfl (by simp) (opn_set rfl) (by simp) (held_set (x := { p with opn := false, held := 0 }) hp rfl (by simp only; omega) (fun x => by simp at x) (fun _ _ => rfl))⟩
          | false =>
            rw [if_neg (by rw [hop]; simp)] at hr
            have D1 := hD { p with drp := false } rfl rfl hop
            subst hr
            exact ⟨rfl, [], ta, by simp [Sent], ⟨h.wa, hw, h.da, h.db, gq', by simpa using h.gr, D1.toSame rfl (by simp) rfl rfl rfl rfl rfl rfl rfl rfl rfl rfl, E0.toSame (by simp) rfl rfl rfl rfl rfl rfl rfl rfl rfl rfl rfl⟩, heard _ _ rfl (by simp) (opn_set hop) (by simp) (held_set (x := { p with drp := false }) hp rfl (Nat.le_refl _) (fun x => .inl x) (fun _ _ => rfl))⟩
        · obtain ⟨i, hi, hst⟩ := E.rst f (by simp) k3 (by omega)
          obtain ⟨o, ho⟩ : ∃ o, b.own[i]? = some o := ⟨_, List.getElem?_eq_getElem hi⟩
          have qo := (h.wb.own i o ho).id
          have hix : (ownIx b.own f.st).bind (fun i => (b.own[i]?).map fun o => (i, o)) = some (i, o) := by
            rw [show (f.st : Int) = (o.id : Int) by omega, ownIx_it h.wb ho]
            simp [ho]
          rw [hix] at hr
          simp only at hr
          cases hdn : o.done with
          | true =>
            rw [hdn] at hr
            simp only [if_true] at hr
            subst hr
            exact ⟨rfl, [], ta, Sent.refl b, ⟨h.wa, hw, h.da, h.db, gq', by simpa using h.gr, by simpa using D0, by simpa using E0⟩, heard _ _ rfl rfl keep (by simp) (held_same rfl)⟩
          | false =>
            rw [if_neg (by rw [hdn]; simp)] at hr
            have E1 := E0.setOwn (x := { o with done := true }) ho rfl rfl (fun _ => rfl) (E0.cr i o ho)
            subst hr
            exact ⟨rfl, [], ta, by simp [Sent], ⟨h.wa, hw, h.da, h.db, gq', by simpa using h.gr, D0.toSame rfl (by simp) rfl rfl rfl rfl rfl rfl rfl rfl rfl rfl, E1.toSame (by simp) rfl rfl rfl rfl rfl rfl rfl rfl rfl rfl rfl⟩, heard _ _ rfl rfl keep (by simp) (held_same rfl)⟩
      · rw [if_neg k3] at hr
        by_cases k4 : f.k = 4
        · rw [if_pos k4] at hr
          unfold En.creditF at hr
          have hroom := h.wa.room
          have hw2 := h.wa.win2
          by_cases hs0 : f.st = 0
          · obtain ⟨_, E1, hn1, hn2⟩ := E.gotAll k4 hs0
            rw [if_pos hs0, if_neg (by omega)] at hr
            subst hr
            exact ⟨rfl, [], ta, by simp [Sent], ⟨h.wa, hw, h.da, h.db, gq', by simpa using h.gr, D0.toSame rfl (by simp) rfl rfl rfl rfl rfl rfl rfl rfl rfl rfl, E1.toSame (by simp) rfl rfl rfl rfl rfl rfl rfl rfl rfl rfl rfl⟩, heard _ _ rfl rfl keep (by simp) (held_same rfl)⟩
          · obtain ⟨i, hi, hst⟩ : ∃ i, i < b.own.length ∧ f.st = 2 * i + 1 + b.side := by
              rcases (E.cred f (by simp) k4).2 with x | x
              · exact absurd x hs0
              · exact x
            obtain ⟨o, ho⟩ : ∃ o, b.own[i]? = some o := ⟨_, List.getElem?_eq_getElem hi⟩
            have qo := (h.wb.own i o ho).id
            have hix : (ownIx b.own f.st).bind (fun i => (b.own[i]?).map fun o => (i, o)) = some (i, o) := by
              rw [show (f.st : Int) = (o.id : Int) by omega, ownIx_it h.wb ho]
              simp [ho]
            rw [if_neg hs0, hix] at hr
            simp only at hr
            cases hdn : o.done with
            | true =>
              rw [hdn] at hr
              simp only [if_true] at hr
              subst hr
              exact ⟨rfl, [], ta, Sent.refl b, ⟨h.wa, hw, h.da, h.db, gq', by simpa using h.gr, by simpa using D0, by simpa using E0⟩, heard _ _ rfl rfl keep (by simp) (held_same rfl)⟩
            | false =>
              rw [if_neg (by rw [hdn]; simp)] at hr
              obtain ⟨E1, hn1, hn2⟩ := E.gotCredit k4 ho (by omega)
              have hcap : crOf b.win a.oth[i]? ≤ 200 := by
                cases hx : a.oth[i]? with
                | none => unfold crOf; simp only; omega
                | some p =>
                  have := (h.wa.oth i p hx).cr
                  unfold crOf
                  simp only
                  omega
              rw [if_neg (by omega)] at hr
              subst hr
              exact ⟨rfl, [], ta, by simp [Sent], ⟨h.wa, hw, h.da, h.db, gq', by simpa using h.gr, D0.toSame rfl (by simp) rfl rfl rfl rfl rfl rfl rfl rfl rfl rfl, E1.toSame (by simp) rfl rfl rfl rfl rfl rfl rfl rfl rfl rfl rfl⟩, heard _ _ rfl rfl keep (by simp) (held_same rfl)⟩
        · rw [if_neg k4] at hr
          by_cases k5 : f.k = 5
          · rw [if_pos k5] at hr
            have h8 : f.d.length = 8 := by
              have := hg.length
              rw [k5] at this
              simp [lengthFits] at this
              omega
            have D1 := D0.pushR (f := ⟨6, 0, f.d⟩) (by simp) (fun x => by simp at x)
            have E1 := E0.pushQ (f := ⟨6, 0, f.d⟩) h.wb ⟨by simp, by simp, by simp, fun x => by simp at x⟩
            subst hr
            refine ⟨rfl, [⟨6, 0, f.d⟩], ta, by simp [Sent, En.send, Fr.pack], ⟨h.wa, hw, h.da, h.db, gq', good_append h.gr ?_, ?_, ?_⟩, heard _ _ rfl rfl keep (by simp) (held_same rfl)⟩
            · intro g hg'
              simp at hg'
              subst hg'
              exact good_eight 6 f.d (by omega) h8
            · exact D1.toSame rfl rfl rfl rfl rfl rfl rfl rfl rfl rfl rfl rfl
            · exact E1.toSame rfl rfl rfl rfl rfl rfl rfl rfl rfl rfl rfl rfl
          · rw [if_neg k5] at hr
            by_cases k6 : f.k = 6
            · rw [if_pos k6] at hr
              subst hr
              exact ⟨rfl, [], ta, Sent.refl b, ⟨h.wa, hw, h.da, h.db, gq', by simpa using h.gr, by simpa using D0, by simpa using E0⟩, heard _ _ rfl rfl keep (by simp) (held_same rfl)⟩
            · rw [if_neg k6] at hr
              subst hr
              exact ⟨rfl, [], ta, by simp [Sent], ⟨h.wa, hw, h.da, h.db, gq', by simpa using h.gr, D0.toSame rfl (by simp) rfl rfl rfl rfl rfl rfl rfl rfl rfl rfl, E0.toSame (by simp) rfl rfl rfl rfl rfl rfl rfl rfl rfl rfl rfl⟩, heard _ _ rfl rfl keep (by simp) (held_same rfl)⟩
end
end Go.Proofs.YtbkpdapagfjmmaaGreatDoor.Lk
