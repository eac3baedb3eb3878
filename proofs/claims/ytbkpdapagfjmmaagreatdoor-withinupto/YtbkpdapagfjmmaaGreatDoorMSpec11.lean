import Derived.Test.YtbkpdapagfjmmaaGreatDoorMSpec10
/-
  Plain mathematics of the document: two ends that belong together: what is consumed and reset; what comes. Imports nothing of the program.
-/
namespace Go.Proofs.YtbkpdapagfjmmaaGreatDoor.Lk

/-- What an end has sent besides. -/
def Sent (e e' : En) (S : List Fr) : Prop := e'.row = e.row ++ S.map Fr.pack
theorem Sent.refl (e : En) : Sent e e [] := by simp [Sent]
theorem Sent.send {e e' : En} {S : List Fr} (h : Sent e e' S) (k st : Nat) (d : Bs) : Sent e (e'.send k st d) (S ++ [⟨k, st, d⟩]) := by
  unfold Sent at h ⊢
  show e'.row ++ [packed k st d] = _
  rw [h]
  simp [Fr.pack]

section
variable {a b : En} {Q R : List Fr} {H : List (List Hd)} {bd told : Nat → Bs}
theorem Dir.dropQ {f : Fr} (h : Dir a b (f :: Q) R H bd told) (h0 : f.k ≠ 0) (hb : ¬ f.body) : Dir a b Q R H bd told := by
  have hh := h.heads
  have hc := h.chain
  rw [Heads, if_neg h0] at hh
  rw [Chain, if_neg h0] at hc
  have fl : ∀ id, flight (f :: Q) id = flight Q id := fun id => by rw [flight_cons, bodyOn_none hb]; rfl
  have fa : flightAll (f :: Q) = flightAll Q := by rw [flightAll_cons, bodyLen_none hb]; omega
  exact ⟨h.len, hh.2, hc, fun i o ho => by have := h.cr i o ho; rw [fl] at this; exact this, by have := h.all; rw [fa] at this; exact this, fun i o ho => (h.ends i o ho).2, fun i o ho hd g hg => h.busy i o ho hd g (by simp [hg]), fun i p hp h1 h2 g hg => h.shut i p hp h1 h2 g (by simp [hg]), h.fin, h.cred, h.rst, fun i o ho => by have := h.body i o ho; rw [fl] at this; exact this, fun i o ho ⟨g, hg, hx⟩ => h.last i o ho ⟨g, by simp [hg], hx⟩, h.sides, h.wins⟩
theorem Dir.dropR {f : Fr} (h : Dir a b Q (f :: R) H bd told) : Dir a b Q R H bd told :=
  ⟨h.len, h.heads, h.chain, fun i o ho => by have := h.cr i o ho; rw [credOn_cons] at this; omega, by have := h.all; rw [credOn_cons] at this; omega, h.ends, h.busy, h.shut, h.fin, fun g hg => h.cred g (by simp [hg]), fun g hg => h.rst g (by simp [hg]), h.body, h.last, h.sides, h.wins⟩

/-- A credit for all streams comes to a. -/
theorem Dir.gotAll {f : Fr} (h : Dir a b Q (f :: R) H bd told) (hk : f.k = 4) (hs : f.st = 0) : Dir a b Q R H bd told ∧ Dir ({ a with all := a.all + numOf f.d } : En) b Q R H bd told ∧ 1 ≤ numOf f.d ∧ a.all + numOf f.d ≤ b.room := by
  have D := h.dropR
  have ha := h.all
  rw [credOn_cons, ← hs, credIn_it hk] at ha
  rw [hs] at ha
  refine ⟨D, ⟨D.len, D.heads, D.chain, D.cr, by show a.all + numOf f.d + flightAll Q + credOn R 0 ≤ b.room; omega, D.ends, D.busy, D.shut, D.fin, D.cred, D.rst, D.body, D.last, D.sides, D.wins⟩, (h.cred f (by simp) hk).1, by omega⟩

/-- a turns what it holds of a stream of its own. -/
theorem Dir.setOwn (h : Dir a b Q R H bd told) {i : Nat} {o x : Ow} (ho : a.own[i]? = some o) (hid : x.id = o.id) (hl : x.left = o.left) (hd : o.done = true → x.done = true) (hcr : x.cr + (flight Q o.id).length + credOn R o.id ≤ crOf a.win b.oth[i]?) : Dir ({ a with own := a.own.set i x } : En) b Q R H bd told := by
  have hlen : (a.own.set i x).length = a.own.length := by simp
  refine ⟨by rw [hlen]; exact h.len, by rw [hlen]; exact h.heads, h.chain, fun j y hy => ?_, h.all, fun j y hy => ?_, fun j y hy hd' => ?_, h.shut, fun j y p hy hp h1 h2 => ?_, by rw [hlen]; exact h.cred, by rw [hlen]; exact h.rst, fun j y hy => ?_, fun j y hy hx => ?_, h.sides, h.wins⟩
  · rcases set_get hy with ⟨rfl, rfl, _⟩ | ⟨_, hy⟩
    · rw [hid]; exact hcr
    · exact h.cr j y hy
  · rcases set_get hy with ⟨rfl, rfl, _⟩ | ⟨_, hy⟩
    · rw [hid]; exact h.ends j o ho
    · exact h.ends j y hy
  · rcases set_get hy with ⟨rfl, rfl, _⟩ | ⟨_, hy⟩
    · rw [hid]
      refine h.busy j o ho ?_
      cases e : o.done with
      | false => rfl
      | true => rw [hd e] at hd'; cases hd'
    · exact h.busy j y hy hd'
  · rcases set_get hy with ⟨rfl, rfl, _⟩ | ⟨_, hy⟩
    · exact hd (h.fin j o p ho hp h1 h2)
    · exact h.fin j y p hy hp h1 h2
  · rcases set_get hy with ⟨rfl, rfl, _⟩ | ⟨_, hy⟩
    · rw [hid, hl]; exact h.body j o ho
    · exact h.body j y hy
  · rcases set_get hy with ⟨rfl, rfl, _⟩ | ⟨_, hy⟩
    · rw [hl]; rw [hid] at hx; exact h.last j o ho hx
    · exact h.last j y hy hx

/-- A credit for a stream of a comes to it. -/
theorem Dir.gotCredit {f : Fr} (h : Dir a b Q (f :: R) H bd told) (hk : f.k = 4) {i : Nat} {o : Ow} (ho : a.own[i]? = some o) (hs : f.st = o.id) : Dir ({ a with own := a.own.set i { o with cr := o.cr + numOf f.d } } : En) b Q R H bd told ∧ 1 ≤ numOf f.d ∧ o.cr + numOf f.d ≤ crOf a.win b.oth[i]? := by
  have hc := h.cr i o ho
  rw [credOn_cons, ← hs, credIn_it hk, hs] at hc
  exact ⟨h.dropR.setOwn (x := { o with cr := o.cr + numOf f.d }) ho rfl rfl (fun e => e) (by simp only; omega), (h.cred f (by simp) hk).1, by omega⟩

/-- A head comes to b. -/
theorem Dir.gotHead {f : Fr} (h : Dir a b (f :: Q) R H bd told) (hk : f.k = 0) : f.st = 2 * b.oth.length + 1 + a.side ∧ ∃ hs L, H[b.oth.length]? = some hs ∧ exR 100 f.d 6 b.inn 0 = .ok hs L ∧
    ∀ x : Ot, x.id = f.st → x.cr = b.win → (x.opn = true ∨ x.drp = true) → Dir a ({ b with inn := L, oth := b.oth ++ [x] } : En) Q R H bd told := by
  have hh := h.heads
  have hc := h.chain
  rw [Heads, if_pos hk] at hh
  rw [Chain, if_pos hk] at hc
  obtain ⟨hs, H', L, e, hx, hc⟩ := hc
  have hn : H[b.oth.length]? = some hs := by
    have := congrArg (fun l => l[0]?) e
    simpa using this
  have hH : H.drop (b.oth.length + 1) = H' := by
    have := congrArg (fun l => l.drop 1) e
    simpa [List.drop_drop, Nat.add_comm] using this
  have hb : ¬ f.body := fun x => by rcases x with x | x <;> omega
  have fl : ∀ id, flight (f :: Q) id = flight Q id := fun id => by rw [flight_cons, bodyOn_none hb]; rfl
  have fa : flightAll (f :: Q) = flightAll Q := by rw [flightAll_cons, bodyLen_none hb]; omega
  refine ⟨hh.1, hs, L, hn, hx, fun x hid hcr hoo => ?_⟩
  have get : ∀ j, (b.oth ++ [x])[j]? = if j = b.oth.length then some x else b.oth[j]? := fun j => by
    rw [List.getElem?_append]
    split
    · rename_i hj; rw [if_neg (by omega)]
    · split
      · rename_i e; subst e; simp
      · rw [List.getElem?_eq_none (by simp; omega), List.getElem?_eq_none (by omega)]
  have hnone : b.oth[b.oth.length]? = none := List.getElem?_eq_none (Nat.le_refl _)
  refine ⟨h.len, by simpa using hh.2, by simp only [List.length_append, List.length_cons, List.length_nil, Nat.zero_add]; rw [hH]; exact hc, fun i o ho => ?_, by have := h.all; rw [fa] at this; exact this, fun i o ho => (h.ends i o ho).2, fun i o ho hd g hg => h.busy i o ho hd g (by simp [hg]), fun i p hp h1 h2 g hg e => ?_, fun i o p ho hp h1 h2 => ?_, h.cred, h.rst, fun i o ho => ?_, fun i o ho ⟨g, hg, hx⟩ => h.last i o ho ⟨g, by simp [hg], hx⟩, h.sides, h.wins⟩
  · have := h.cr i o ho
    rw [fl] at this
    show _ ≤ crOf a.win (b.oth ++ [x])[i]?
    rw [get]
    split
    · rename_i e
      rw [e, hnone] at this
      unfold crOf at this ⊢
      simp only at this ⊢
      rw [hcr, ← h.wins]
      exact this
    · exact this
  · have hp : (b.oth ++ [x])[i]? = some p := hp
    rw [get] at hp
    split at hp
    · cases hp
      rcases hoo with e | e
      · rw [h1] at e; cases e
      · rw [h2] at e; cases e
    · exact h.shut i p hp h1 h2 g (by simp [hg]) e
  · have hp : (b.oth ++ [x])[i]? = some p := hp
    rw [get] at hp
    split at hp
    · cases hp
      rcases hoo with e | e
      · rw [h1] at e; cases e
      · rw [h2] at e; cases e
    · exact h.fin i o p ho hp h1 h2
  · have := h.body i o ho
    rw [fl] at this
    show match (b.oth ++ [x])[i]? with
      | none => _
      | some p => _
    rw [get]
    by_cases e : i = b.oth.length
    · rw [if_pos e]
      rw [e, hnone] at this
      simp only at this ⊢
      rw [e]
      split
      · rw [this.1, this.2]; rfl
      · rw [this.1]; exact List.nil_prefix
    · rw [if_neg e]
      exact this

/-- A part of a body comes to b. -/
theorem Dir.gotBody {f : Fr} (h : Dir a b (f :: Q) R H bd told) (hwa : Wf a) (hwb : Wf b) (hb : f.body) : ∃ i o p, a.own[i]? = some o ∧ b.oth[i]? = some p ∧ f.st = o.id ∧ p.id = o.id ∧ ¬ (p.opn = false ∧ p.drp = false) ∧ f.d.length ≤ p.cr ∧ f.d.length ≤ b.room ∧ (f.k = 2 → o.done = true) ∧ (f.k = 2 → p.opn = true → bd i = told i ++ f.d) ∧
    (p.opn = true → ∃ r, bd i = told i ++ f.d ++ r) ∧
    ∀ x : Ot, x.id = p.id → x.cr = p.cr - f.d.length → (x.opn = true → p.opn = true) → (x.opn = false → x.drp = false → f.k = 2) →
      Dir a ({ b with oth := b.oth.set i x, room := b.room - f.d.length } : En) Q R H bd (if p.opn then updN told i (told i ++ f.d) else told) := by
  have h0 : f.k ≠ 0 := fun x => by rcases hb with y | y <;> omega
  have hh := h.heads
  have hc := h.chain
  rw [Heads, if_neg h0] at hh
  rw [Chain, if_neg h0] at hc
  obtain ⟨i, hi, hst⟩ := hh.1 (by rcases hb with y | y; exact .inl y; exact .inr (.inl y))
  have hle := hh.2.le
  obtain ⟨p, hp⟩ : ∃ p, b.oth[i]? = some p := ⟨_, List.getElem?_eq_getElem hi⟩
  obtain ⟨o, ho⟩ : ∃ o, a.own[i]? = some o := ⟨_, List.getElem?_eq_getElem (by omega)⟩
  have qo := (hwa.own i o ho).id
  have qp := (hwb.oth i p hp).id
  have hsd := h.sides
  have hso : f.st = o.id := by omega
  have hpo : p.id = o.id := by omega
  have fli : flight (f :: Q) o.id = f.d ++ flight Q o.id := by rw [flight_cons, ← hso, bodyOn_it hb]
  have flo : ∀ id, id ≠ o.id → flight (f :: Q) id = flight Q id := fun id hid => by rw [flight_cons, bodyOn_other (by omega)]; rfl
  have fa : flightAll (f :: Q) = f.d.length + flightAll Q := by rw [flightAll_cons, bodyLen_it hb]
  have hcr := h.cr i o ho
  rw [fli, hp, List.length_append] at hcr
  unfold crOf at hcr
  simp only at hcr
  have hall := h.all
  rw [fa] at hall
  have hdone : f.k = 2 → o.done = true := fun e => by
    cases hd : o.done with
    | true => rfl
    | false => exact absurd e (h.busy i o ho hd f (by simp) hso).1
  have hbody := h.body i o ho
  rw [hp, fli] at hbody
  simp only at hbody
  have hleft : f.k = 2 → o.left = [] ∧ flight Q o.id = [] := fun e => by
    refine ⟨h.last i o ho ⟨f, by simp, e, hso⟩, flight_nil (fun g hg hs x => ?_)⟩
    have := (h.ends i o ho).1 ⟨hso, .inl e⟩ g hg hs
    rcases x with x | x
    · exact this.1 x
    · exact this.2.1 x
  have idne : ∀ (j : Nat) (y : Ow), a.own[j]? = some y → j ≠ i → y.id ≠ o.id := fun j y hy hj e => by
    have := (hwa.own j y hy).id
    omega
  refine ⟨i, o, p, ho, hp, hso, hpo, fun x => ?_, by omega, by omega, hdone, fun e ho' => ?_, fun ho' => ?_, fun x hid hxc hxo hxs => ?_⟩
  · have := h.shut i p hp x.1 x.2 f (by simp) (by omega)
    rcases hb with y | y
    · exact this.1 y
    · exact this.2 y
  · rw [ho'] at hbody
    simp only [if_true] at hbody
    rw [hbody, (hleft e).1, (hleft e).2]
    simp
  · rw [ho'] at hbody
    simp only [if_true] at hbody
    exact ⟨flight Q o.id ++ o.left, by rw [hbody]; simp⟩
  · have hlt := lt_of_get hp
    have get : ∀ j, (b.oth.set i x)[j]? = if j = i then some x else b.oth[j]? := fun j => by
      rw [List.getElem?_set]
      split
      · rename_i e; subst e; simp
      · rename_i e; rw [if_neg (fun e' => e e'.symm)]
    refine ⟨h.len, by simpa using hh.2, by simpa using hc, fun j y hy => ?_, by show a.all + flightAll Q + credOn R 0 ≤ b.room - f.d.length; omega, fun j y hy => (h.ends j y hy).2, fun j y hy hd g hg => h.busy j y hy hd g (by simp [hg]), fun j y hy h1 h2 g hg e => ?_, fun j y z hy hz h1 h2 => ?_, h.cred, h.rst, fun j y hy => ?_, fun j y hy ⟨g, hg, hx⟩ => h.last j y hy ⟨g, by simp [hg], hx⟩, h.sides, h.wins⟩
    · show _ ≤ crOf a.win (b.oth.set i x)[j]?
      rw [get]
      by_cases e : j = i
      · subst e
        rw [ho] at hy
        cases hy
        rw [if_pos rfl]
        unfold crOf
        simp only
        omega
      · rw [if_neg e]
        have := h.cr j y hy
        rw [flo y.id (idne j y hy e)] at this
        exact this
    · have hy : (b.oth.set i x)[j]? = some y := hy
      rw [get] at hy
      by_cases e' : j = i
      · subst e'
        rw [if_pos rfl] at hy
        cases hy
        have := (h.ends j o ho).1 ⟨hso, .inl (hxs h1 h2)⟩ g hg (by omega)
        exact ⟨this.1, this.2.1⟩
      · rw [if_neg e'] at hy
        exact h.shut j y hy h1 h2 g (by simp [hg]) e
    · have hz : (b.oth.set i x)[j]? = some z := hz
      rw [get] at hz
      by_cases e' : j = i
      · subst e'
        rw [if_pos rfl] at hz
        cases hz
        rw [ho] at hy
        cases hy
        exact hdone (hxs h1 h2)
      · rw [if_neg e'] at hz
        exact h.fin j y z hy hz h1 h2
    · show match (b.oth.set i x)[j]? with
        | none => _
        | some p => _
      rw [get]
      by_cases e : j = i
      · subst e
        rw [ho] at hy
        cases hy
        rw [if_pos rfl]
        simp only
        cases hpo2 : p.opn with
        | true =>
          rw [hpo2] at hbody
          simp only [if_true] at hbody ⊢
          rw [updN_same]
          split
          · rw [hbody]; simp
          · rw [hbody]; exact ⟨flight Q o.id ++ o.left, by simp⟩
        | false =>
          rw [hpo2] at hbody
          simp only [Bool.false_eq_true, if_false] at hbody ⊢
          rw [if_neg (fun e => by have := hxo e; rw [hpo2] at this; cases this)]
          exact hbody
      · rw [if_neg e]
        have := h.body j y hy
        rw [flo y.id (idne j y hy e)] at this
        have ht : (if p.opn = true then updN told i (told i ++ f.d) else told) j = told j := by
          split
          · exact updN_other _ _ e
          · rfl
        rw [ht]
        exact this

/-- A reset of a stream of a comes to b. -/
theorem Dir.gotReset {f : Fr} (h : Dir a b (f :: Q) R H bd told) (hwa : Wf a) (hwb : Wf b) (hk : f.k = 3) (hpar : f.st % 2 = (1 + a.side) % 2) : ∃ i o p, a.own[i]? = some o ∧ b.oth[i]? = some p ∧ f.st = o.id ∧ p.id = o.id ∧
    ∀ x : Ot, x.id = p.id → x.cr = p.cr → x.opn = false → Dir a ({ b with oth := b.oth.set i x } : En) Q R H bd told := by
  have hb : ¬ f.body := fun x => by rcases x with x | x <;> omega
  have hh := h.heads
  rw [Heads, if_neg (by omega)] at hh
  obtain ⟨i, hi, hst⟩ := hh.1 (.inr (.inr ⟨hk, hpar⟩))
  have hle := hh.2.le
  obtain ⟨p, hp⟩ : ∃ p, b.oth[i]? = some p := ⟨_, List.getElem?_eq_getElem hi⟩
  obtain ⟨o, ho⟩ : ∃ o, a.own[i]? = some o := ⟨_, List.getElem?_eq_getElem (by omega)⟩
  have qo := (hwa.own i o ho).id
  have qp := (hwb.oth i p hp).id
  have hsd := h.sides
  have hso : f.st = o.id := by omega
  have hdone : o.done = true := by
    cases hd : o.done with
    | true => rfl
    | false => exact absurd hk (h.busy i o ho hd f (by simp) hso).2
  refine ⟨i, o, p, ho, hp, hso, by omega, fun x hid hxc hxo => ?_⟩
  refine (h.dropQ (by omega) hb).setOth hp hid (by omega) (fun _ _ g hg e => ?_) (fun _ _ y hy => ?_) (fun e => by rw [hxo] at e; cases e)
  · have := (h.ends i o ho).1 ⟨hso, .inr hk⟩ g hg (by omega)
    exact ⟨this.1, this.2.1⟩
  · rw [ho] at hy
    cases hy
    exact hdone
end

section
variable {a b : En} {Q R : List Fr} {Ha Hb : List (List Hd)} {ba ta bb tb : Nat → Bs}

theorem Dir.toSame {a a' b b' : En} {Q Q' R R' : List Fr} {H : List (List Hd)} {bd told : Nat → Bs} (h : Dir a b Q R H bd told) (eQ : Q' = Q) (eR : R' = R) (h1 : a'.own = a.own) (h2 : a'.out = a.out) (h3 : a'.side = a.side) (h4 : a'.win = a.win) (h5 : a'.all = a.all) (g1 : b'.oth = b.oth) (g2 : b'.inn = b.inn) (g3 : b'.side = b.side) (g4 : b'.win = b.win) (g5 : b'.room = b.room) : Dir a' b' Q' R' H bd told := by
  subst eQ
  subst eR
  exact h.same h1 h2 h3 h4 h5 g1 g2 g3 g4 g5

theorem good_append {Q S : List Fr} (h : ∀ f ∈ Q, Good f.k f.st f.d) (hs : ∀ f ∈ S, Good f.k f.st f.d) : ∀ g ∈ Q ++ S, Good g.k g.st g.d := fun g hg => by
  rcases List.mem_append.1 hg with hg | hg
  · exact h g hg
  · exact hs g hg

theorem alien4 (s st : Nat) (d : Bs) : Alien s ⟨4, st, d⟩ := ⟨by simp, by simp, by simp, fun x => by simp at x⟩

theorem Both.consumeC (h : Both a b Q R Ha Hb ba ta bb tb) (st n : Int) : ∃ S, Sent a (a.consumeC st n).2 S ∧ Both (a.consumeC st n).2 b (Q ++ S) R Ha Hb ba ta bb tb := by
  have hw := h.wa.consumeC st n
  generalize hr : a.consumeC st n = r at hw ⊢
  have none' : r.2 = a → ∃ S, Sent a r.2 S ∧ Both r.2 b (Q ++ S) R Ha Hb ba ta bb tb := fun e => ⟨[], by rw [e]; exact Sent.refl a, by rw [e]; simpa using h⟩
  unfold En.consumeC at hr
  split at hr
  · exact none' (by rw [← hr])
  · split at hr
    · exact none' (by rw [← hr])
    · rename_i h1 h2
      cases hx : othIx a.oth st with
      | none => rw [hx] at hr; exact none' (by rw [← hr])
      | some i =>
        rw [hx] at hr
        simp only at hr
        cases ho : a.oth[i]? with
        | none => rw [ho] at hr; exact none' (by rw [← hr])
        | some p =>
          rw [ho] at hr
          simp only at hr
          split at hr
          · exact none' (by rw [← hr])
          · rename_i h3
            have q := h.wa.oth i p ho
            have hh := h.wa.held ho
            obtain ⟨m, rfl⟩ : ∃ m : Nat, n = m := ⟨n.toNat, by omega⟩
            simp only [Int.toNat_natCast] at hr
            have hm1 : 1 ≤ m := by omega
            have hm2 : m ≤ 268435455 := by omega
            have hid : p.id = 2 * i + 1 + b.side := h.swap.ids ho
            have hlt := lt_of_get ho
            have E := h.ba
            have E1 := E.give h.wb hm1 hm2
            have D1 := h.ab.pushQ (f := ⟨4, 0, wire m⟩) h.wa (alien4 _ _ _)
            cases hop : p.opn with
            | true =>
              rw [hop] at hr
              simp only [if_true] at hr
              have E2 := E1.credit h.wb (i := i) (p := p) ho hid hm1 hm2
              have E3 := E2.setOth (i := i) (p := { p with cr := p.cr + m }) (x := p.eat m) (List.getElem?_set_self hlt) rfl (by unfold Ot.eat; rw [hop]; simp) (fun x => by unfold Ot.eat at x; rw [hop] at x; cases x) (fun x => by unfold Ot.eat at x; rw [hop] at x; cases x) (fun _ => hop)
              have D2 := D1.pushQ (f := ⟨4, p.id, wire m⟩) h.wa (alien4 _ _ _)
              refine ⟨[⟨4, 0, wire m⟩, ⟨4, p.id, wire m⟩], ?_, hw, h.wb, by rw [← hr]; exact h.da, h.db, good_append h.gq ?_, h.gr, ?_, ?_⟩
              · rw [← hr]
                exact ((Sent.refl a).send 4 0 (wire m)).send 4 p.id (wire m)
              · intro f hf
                simp at hf
                rcases hf with rfl | rfl
                · exact good_credit 0 m (by omega) hm2
                · exact good_credit p.id m q.id28 hm2
              · rw [← hr]
                exact D2.toSame (by simp) rfl rfl rfl rfl rfl rfl rfl rfl rfl rfl rfl
              · rw [← hr]
                exact E3.toSame rfl (by simp) rfl rfl rfl rfl rfl (by simp [En.send]) rfl rfl rfl rfl
            | false =>
              rw [hop] at hr
              simp only [Bool.false_eq_true, if_false] at hr
              have E2 := E1.setOth (i := i) (p := p) (x := p.eat m) ho rfl (by unfold Ot.eat; simp only; split <;> omega) (fun x y => E.shut i p ho hop y) (fun x y o hoo => E.fin i o p hoo ho hop y) (fun x => x)
              refine ⟨[⟨4, 0, wire m⟩], ?_, hw, h.wb, by rw [← hr]; exact h.da, h.db, good_append h.gq ?_, h.gr, ?_, ?_⟩
              · rw [← hr]
                exact (Sent.refl a).send 4 0 (wire m)
              · intro f hf
                simp at hf
                subst hf
                exact good_credit 0 m (by omega) hm2
              · rw [← hr]
                exact D1.toSame rfl rfl rfl rfl rfl rfl rfl rfl rfl rfl rfl rfl
              · rw [← hr]
                exact E2.toSame rfl rfl rfl rfl rfl rfl rfl rfl rfl rfl rfl rfl

theorem Both.resetC (h : Both a b Q R Ha Hb ba ta bb tb) (st code : Int) : ∃ S, Sent a (a.resetC st code).2 S ∧ Both (a.resetC st code).2 b (Q ++ S) R Ha Hb ba ta bb tb := by
  have hw := h.wa.resetC st code
  generalize hr : a.resetC st code = r at hw ⊢
  have none' : r.2 = a → ∃ S, Sent a r.2 S ∧ Both r.2 b (Q ++ S) R Ha Hb ba ta bb tb := fun e => ⟨[], by rw [e]; exact Sent.refl a, by rw [e]; simpa using h⟩
  unfold En.resetC at hr
  split at hr
  · exact none' (by rw [← hr])
  · split at hr
    · exact none' (by rw [← hr])
    · rename_i h1 h2
      have hc : code.toNat ≤ 268435455 := by omega
      cases hx : (ownIx a.own st).bind fun i => (a.own[i]?).bind fun o => if o.done then none else some (i, o) with
      | some p =>
        obtain ⟨i, o⟩ := p
        rw [hx] at hr
        simp only at hr
        obtain ⟨j, _, hj⟩ := Option.bind_eq_some_iff.1 hx
        obtain ⟨o', ho', hj⟩ := Option.bind_eq_some_iff.1 hj
        have : j = i ∧ o' = o ∧ o.done = false := by
          split at hj
          · cases hj
          · rename_i hd
            cases hj
            exact ⟨rfl, rfl, by simpa using hd⟩
        obtain ⟨rfl, rfl, hd⟩ := this
        refine ⟨[⟨3, o'.id, wire code.toNat⟩], ?_, ?_⟩
        · rw [← hr]
          exact Sent.send (e' := ({ a with own := a.own.set j { o' with done := true } } : En)) (S := []) (by simp [Sent]) 3 o'.id (wire code.toNat)
        · rw [← hr]
          exact h.resetOwn ho' hd hc
      | none =>
        rw [hx] at hr
        simp only at hr
        cases hy : (othIx a.oth st).bind fun i => (a.oth[i]?).bind fun o => if o.opn then some (i, o) else none with
        | none => rw [hy] at hr; exact none' (by rw [← hr])
        | some p =>
          obtain ⟨i, p⟩ := p
          rw [hy] at hr
          simp only at hr
          obtain ⟨j, _, hj⟩ := Option.bind_eq_some_iff.1 hy
          obtain ⟨p', hp', hj⟩ := Option.bind_eq_some_iff.1 hj
          have : j = i ∧ p' = p ∧ p.opn = true := by
            split at hj
            · rename_i hd
              cases hj
              exact ⟨rfl, rfl, hd⟩
            · cases hj
          obtain ⟨rfl, rfl, hop⟩ := this
          have q := h.wa.oth j p' hp'
          have hh := h.wa.held hp'
          have hid : p'.id = 2 * j + 1 + b.side := h.swap.ids hp'
          have hlt := lt_of_get hp'
          have hle := h.ba.heads.le
          have hsd := h.ab.sides
          have E := h.ba
          have E1 := E.setOth (x := { p' with opn := false, drp := true, held := 0 }) hp' rfl (Nat.le_refl _) (fun _ y => by cases y) (fun _ y => by cases y) (fun x => by cases x)
          have E2 := E1.pushR (f := ⟨3, p'.id, wire code.toNat⟩) (by simp) (fun _ _ => ⟨j, by omega, hid⟩)
          have D1 := h.ab.pushQ (f := ⟨3, p'.id, wire code.toNat⟩) h.wa ⟨by simp, by simp, by simp, fun _ => by simp only; omega⟩
          have hg3 := good_reset p'.id code.toNat (by omega) q.id28 hc
          by_cases h0 : 0 < p'.held
          · have E3 := E2.give h.wb (n := p'.held) h0 (by omega)
            have D2 := D1.pushQ (f := ⟨4, 0, wire p'.held⟩) h.wa (alien4 _ _ _)
            have e : r.2 = (({ ({ a with oth := a.oth.set j { p' with opn := false, drp := true, held := 0 } } : En).send 3 p'.id (wire code.toNat) with room := a.room + p'.held } : En)).send 4 0 (wire p'.held) := by
              rw [← hr]
              simp only
              unfold En.back
              rw [if_pos h0]
              rfl
            refine ⟨[⟨3, p'.id, wire code.toNat⟩, ⟨4, 0, wire p'.held⟩], ?_, hw, h.wb, by rw [e]; exact h.da, h.db, good_append h.gq ?_, h.gr, ?_, ?_⟩
            · rw [e]
              unfold Sent
              simp [En.send, Fr.pack]
            · intro f hf
              simp at hf
              rcases hf with rfl | rfl
              · exact hg3
              · exact good_credit 0 _ (by omega) (by omega)
            · rw [e]
              exact D2.toSame (by simp) rfl rfl rfl rfl rfl rfl rfl rfl rfl rfl rfl
            · rw [e]
              exact E3.toSame rfl (by simp) rfl rfl rfl rfl rfl rfl rfl rfl rfl rfl
          · have e : r.2 = ({ a with oth := a.oth.set j { p' with opn := false, drp := true, held := 0 } } : En).send 3 p'.id (wire code.toNat) := by
              rw [← hr]
              simp only
              unfold En.back
              rw [if_neg h0]
            refine ⟨[⟨3, p'.id, wire code.toNat⟩], ?_, hw, h.wb, by rw [e]; exact h.da, h.db, good_append h.gq ?_, h.gr, ?_, ?_⟩
            · rw [e]
              unfold Sent
              simp [En.send, Fr.pack]
            · intro f hf
              simp at hf
              subst hf
              exact hg3
            · rw [e]
              exact D1.toSame rfl rfl rfl rfl rfl rfl rfl rfl rfl rfl rfl rfl
            · rw [e]
              exact E2.toSame rfl rfl rfl rfl rfl rfl rfl rfl rfl rfl rfl rfl
end
end Go.Proofs.YtbkpdapagfjmmaaGreatDoor.Lk
