import Derived.Test.YtbkpdapagfjmmaaGreatDoorMSpec24Spec25
/-
  Plain mathematics of the document: two ends that belong together, where nothing is reset and no end says bye: the calls. Imports nothing of the program.
-/
namespace Go.Proofs.YtbkpdapagfjmmaaGreatDoor.Lk

def pin (f : Fr) : Nat := if f.k = 5 then 1 else 0
/-- The pings on their way. -/
def pings (Q : List Fr) : Nat := (Q.map pin).sum
theorem pings_append (x y : List Fr) : pings (x ++ y) = pings x + pings y := by simp [pings]
theorem pings_cons (f : Fr) (y : List Fr) : pings (f :: y) = pin f + pings y := by simp [pings]
theorem pings_none {Q : List Fr} (h : ∀ f ∈ Q, f.k ≠ 5) : pings Q = 0 := by
  induction Q with
  | nil => rfl
  | cons f Q ih =>
    rw [pings_cons, ih (fun g hg => h g (by simp [hg]))]
    unfold pin
    rw [if_neg (h f (by simp))]
/-- What a stream has still to send. -/
def owing (o : Ow) : Nat := if o.done then 0 else o.left.length + 1
def pend (e : En) : Nat := (e.own.map owing).sum

/-- Two ends, all that is between them. -/
structure JX (a b : En) (p q : Bs) (Ha Hb : List (List Hd)) (ba ta bb tb : Nat → Bs) (Ga Gb : List (Bs × Bool)) (xa xb : Nat → Nat) (Q R : List Fr) : Prop where
  both : Both a b Q R Ha Hb ba ta bb tb
  wab : Way a p b Q
  wba : Way b q a R
  la : Lis b ta Ga
  lb : Lis a tb Gb
  ea : Eats b ta Ga xa
  eb : Eats a tb Gb xb
  xab : Xd a b Q R ba ta Ga xa
  xba : Xd b a R Q bb tb Gb xb

section
variable {a b : En} {p q : Bs} {Q R : List Fr} {Ha Hb : List (List Hd)} {ba ta bb tb : Nat → Bs} {Ga Gb : List (Bs × Bool)} {xa xb : Nat → Nat}

theorem JX.swap (h : JX a b p q Ha Hb ba ta bb tb Ga Gb xa xb Q R) : JX b a q p Hb Ha bb tb ba ta Gb Ga xb xa R Q := ⟨h.both.swap, h.wba, h.wab, h.lb, h.la, h.eb, h.ea, h.xba, h.xab⟩
theorem JX.joins (h : JX a b p q Ha Hb ba ta bb tb Ga Gb xa xb Q R) : Joins a b p q Ha Hb ba ta bb tb Ga Gb xa xb := ⟨Q, R, h.both, h.wab, h.wba, h.la, h.lb, h.ea, h.eb⟩
theorem JX.start (s t win : Nat) (h : s + t = 1) (h1 : 1 ≤ win) (h2 : win ≤ 200) : JX (En.new s win) (En.new t win) [] [] [] [] (fun _ => []) (fun _ => []) (fun _ => []) (fun _ => []) [] [] (fun _ => 0) (fun _ => 0) [] [] :=
  ⟨Both.start s t win h h1 h2, Way.start s t win, Way.start t s win, Lis.start t win, Lis.start s win, Eats.start t win, Eats.start s win, Xd.start s t win, Xd.start t s win⟩

theorem JX.ping (h : JX a b p q Ha Hb ba ta bb tb Ga Gb xa xb Q R) (t : Bs) : ∃ S, JX (a.pingC t).2 b p q Ha Hb ba ta bb tb Ga Gb xa xb (Q ++ S) R ∧ (a.pingC t).2.row.length + pings S ≤ a.row.length + 2 ∧ (a.pingC t).2.own = a.own := by
  have hw := h.both.wa
  unfold En.pingC
  rw [if_neg (by rw [h.both.da]; simp)]
  split
  · exact ⟨[], by simpa using h, by simp [pings], rfl⟩
  · rename_i h8
    have hnb : ¬ Fr.body ⟨5, 0, t⟩ := fun z => by rcases z with z | z <;> simp at z
    refine ⟨[⟨5, 0, t⟩], ⟨h.both.plain (by omega) (good_eight 5 t (by omega) (by omega)), h.wab.sent ((Sent.refl a).send 5 0 t), h.wba.rest rfl, h.la, h.lb.same rfl (fun x => x), h.ea, h.eb.same rfl, ?_, ?_⟩, ?_, rfl⟩
    · exact (h.xab.pushQ hnb (by simp) (by simp)).same (a' := a.send 5 0 t) rfl rfl rfl rfl rfl rfl rfl rfl
    · exact (h.xba.pushR (f := ⟨5, 0, t⟩) (by simp)).same (b' := a.send 5 0 t) rfl rfl rfl rfl rfl rfl rfl rfl
    · simp [En.send, pings, pin]

theorem JX.submit (h : JX a b p q Ha Hb ba ta bb tb Ga Gb xa xb Q R) (l : List Hd) (body : Bs) :
    ((a.submitC l body).1.2.1 ≠ 0 ∧ (a.submitC l body).2 = a) ∨
    ((a.submitC l body).1 = (2 * Ha.length + 1 + a.side, 0, 0) ∧ ∃ S, JX (a.submitC l body).2 b p q (Ha ++ [l]) Hb (updN ba Ha.length body) (updN ta Ha.length []) bb tb Ga Gb xa xb (Q ++ S) R ∧ (a.submitC l body).2.row.length + pings S ≤ a.row.length + 2) := by
  have hlen := h.both.ab.len
  have hle := h.both.ab.heads.le
  have hj := h.joins.submitC l body
  rcases h.both.submitC l body with x | ⟨e1, e2, e3, e4, e5, S, hS, hB⟩
  · exact .inl x
  · right
    rw [← hlen] at e1 hB
    have hns := h.both.wa
    -- the end itself
    have hsh : ∃ o2 d, (a.submitC l body).2 = ({ a with out := o2, own := a.own ++ [⟨a.nextId, body, a.win, false⟩] } : En).send 0 a.nextId d ∧ Good 0 a.nextId d := by
      have hrow := hB.gq
      unfold En.submitC at e1 hS ⊢
      rw [if_neg (by rw [h.both.da]; simp)] at e1 hS ⊢
      split at e1
      · exact absurd (congrArg (fun z => z.2.1) e1) (by simp)
      · rename_i g2
        split at e1
        · rename_i g3
          simp at e1
          exact absurd e1.2.1 g3
        · rename_i g3
          split at e1
          · exact absurd (congrArg (fun z => z.2.1) e1) (by simp)
          · rename_i g4
            split at e1
            · exact absurd (congrArg (fun z => z.2.1) e1) (by simp)
            · rename_i g5
              rw [if_neg g2, if_neg g3, if_neg g4, if_neg g5]
              exact ⟨_, _, rfl, good_head _ _ (by unfold En.nextId; omega) (by omega) (by omega)⟩
    obtain ⟨o2, d, he, hgd⟩ := hsh
    have hSe : S = [⟨0, a.nextId, d⟩] := by
      refine pack_inj ?_ (fun g hg => hB.gq g (by simp [hg])) (fun g hg => by simp at hg; subst hg; exact hgd)
      unfold Sent at hS
      rw [he] at hS
      have : a.row ++ [packed 0 a.nextId d] = a.row ++ S.map Fr.pack := hS
      simpa [Fr.pack] using this.symm
    have hnb : ¬ Fr.body ⟨0, a.nextId, d⟩ := fun z => by rcases z with z | z <;> simp at z
    refine ⟨e1, S, ?_, ?_⟩
    · refine ⟨hB, h.wab.sent hS, h.wba.rest e3, ?_, h.lb.same e4 (fun e => by rw [e5] at e; exact e), ?_, h.eb.same e4, ?_, ?_⟩
      · refine ⟨h.la.len, h.la.bye, fun i g hg => ?_, h.la.opn⟩
        have := lt_of_get hg
        have := h.la.len
        rw [updN_other _ _ (by omega)]
        exact h.la.told i g hg
      · refine ⟨fun i y hy => ?_, h.ea.has, h.ea.new⟩
        have := lt_of_get hy
        rw [updN_other _ _ (by omega)]
        exact h.ea.le i y hy
      · rw [he]
        subst hSe
        have hp := h.xab.pushQ hnb (by simp) (by simp)
        refine ⟨fun i o ho hnd => ?_, hp.all, hp.bye, hp.byeC, hp.drp, hp.win, hp.k37, fun i o ho hd => ?_, fun i t ht => ?_, fun i y hy => ?_⟩
        · have ho : (a.own ++ [⟨a.nextId, body, a.win, false⟩])[i]? = some o := ho
          rw [List.getElem?_append] at ho
          split at ho
          · exact hp.cr i o ho hnd
          · rename_i hi
            have hi0 := lt_of_get ho
            simp at hi0
            have hi1 : i = a.own.length := by omega
            subst hi1
            simp at ho
            subst ho
            have hid : a.nextId = 2 * a.own.length + 1 + a.side := rfl
            have f0 : flight (Q ++ [⟨0, a.nextId, d⟩]) a.nextId = [] := by
              refine flight_nil (fun f hf hst hb => ?_)
              rcases List.mem_append.1 hf with hf | hf
              · have := h.both.ab.fresh f hf hst
                rcases hb with z | z
                · exact this.1 z
                · exact this.2.1 z
              · simp at hf
                subst hf
                exact hnb hb
            have c0 : credOn R a.nextId = 0 := by
              refine credOn_nil (fun f hf hk hst => ?_)
              rcases (h.both.ab.cred f hf hk).2 with z | ⟨j, hj1, hj2⟩
              · omega
              · omega
            have hoth : b.oth[a.own.length]? = none := List.getElem?_eq_none (by omega)
            show a.win + _ + _ = crOf a.win b.oth[a.own.length]?
            simp only at f0 c0 ⊢
            rw [f0, c0, hoth]
            rfl
        · have ho : (a.own ++ [⟨a.nextId, body, a.win, false⟩])[i]? = some o := ho
          rw [List.getElem?_append] at ho
          split at ho
          · exact hp.done i o ho hd
          · have hi0 := lt_of_get ho
            simp at hi0
            rw [hi0] at ho
            simp at ho
            subst ho
            cases hd
        · have := lt_of_get ht
          have := h.la.len
          rw [updN_other _ _ (by omega)]
          exact h.xab.ended i t ht
        · have := lt_of_get hy
          rw [updN_other _ _ (by omega)]
          exact h.xab.eat i y hy
      · rw [he]
        subst hSe
        exact (h.xba.pushR (f := ⟨0, a.nextId, d⟩) (by simp)).same rfl rfl rfl rfl rfl rfl rfl rfl
    · rw [he]
      subst hSe
      simp [En.send, pings, pin]

/-- What comes of a consume. -/
theorem JX.consume (h : JX a b p q Ha Hb ba ta bb tb Ga Gb xa xb Q R) (st n : Int) :
    ((a.consumeC st n).1 ≠ 0 ∧ (a.consumeC st n).2 = a) ∨
    ((a.consumeC st n).1 = 0 ∧ ∃ (i : Nat) (y : Ot) (S : List Fr), a.oth[i]? = some y ∧ st = 2 * i + 1 + b.side ∧ 1 ≤ n ∧ n ≤ y.held ∧ (a.consumeC st n).2.oth = a.oth.set i (y.eat n.toNat) ∧ (a.consumeC st n).2.own = a.own
      ∧ JX (a.consumeC st n).2 b p q Ha Hb ba ta bb tb Ga Gb xa (fun j => if j = i then xb i + n.toNat else xb j) (Q ++ S) R ∧ (a.consumeC st n).2.row.length + pings S ≤ a.row.length + 2 ∧ (∀ f ∈ S, f.k = 4) ∧ (a.consumeC st n).2.room = a.room + n.toNat) := by
  rcases consumeC_cases a st n with x | ⟨e0, i, y, hy, hid, hn1, hn2, ho, hb, hr⟩
  · exact .inl x
  · right
    obtain ⟨S, hS, hB⟩ := h.both.consumeC st n
    have hid2 := h.both.swap.ids hy
    have hok := h.both.wa.oth i y hy
    have hw2 := h.both.wa.win2
    have hcr := hok.cr
    obtain ⟨g1, g2, g3⟩ := h.eb.eat hy ho (by omega) (by omega)
    have hix : othIx a.oth st = some i := by
      have := othIx_it h.both.wa hy
      rw [← hid]
      exact this
    have he : (a.consumeC st n).2 = if y.opn then (({ a with oth := a.oth.set i (y.eat n.toNat), room := a.room + n.toNat } : En).send 4 0 (wire n.toNat)).send 4 y.id (wire n.toNat) else ({ a with oth := a.oth.set i (y.eat n.toNat), room := a.room + n.toNat } : En).send 4 0 (wire n.toNat) := by
      unfold En.consumeC
      rw [if_neg (by rw [h.both.da]; simp), if_neg (by omega), hix]
      simp only
      rw [hy]
      simp only
      rw [if_neg (by omega)]
    have hm : numOf (wire n.toNat) = n.toNat := numOf_wire (by omega)
    have gc : ∀ s, s ≤ 268435455 → Good 4 s (wire n.toNat) := fun s hs => good_credit s n.toNat hs (by omega)
    have hSe : S = if y.opn then [⟨4, 0, wire n.toNat⟩, ⟨4, y.id, wire n.toNat⟩] else [⟨4, 0, wire n.toNat⟩] := by
      refine pack_inj ?_ (fun g hg => hB.gq g (by simp [hg])) (fun g hg => ?_)
      · unfold Sent at hS
        rw [he] at hS
        cases hop : y.opn with
        | true =>
          rw [hop] at hS
          have : (a.row ++ [packed 4 0 (wire n.toNat)]) ++ [packed 4 y.id (wire n.toNat)] = a.row ++ S.map Fr.pack := hS
          rw [List.append_assoc] at this
          simpa [Fr.pack] using (List.append_cancel_left this).symm
        | false =>
          rw [hop] at hS
          have : a.row ++ [packed 4 0 (wire n.toNat)] = a.row ++ S.map Fr.pack := hS
          simpa [Fr.pack] using (List.append_cancel_left this).symm
      · split at hg
        · simp at hg
          rcases hg with rfl | rfl
          · exact gc 0 (by omega)
          · exact gc y.id hok.id28
        · simp at hg
          subst hg
          exact gc 0 (by omega)
    have hk4 : ∀ f ∈ S, f.k = 4 := fun f hf => by
      rw [hSe] at hf
      split at hf
      · simp at hf
        rcases hf with rfl | rfl <;> rfl
      · simp at hf
        subst hf
        rfl
    have hnb : ∀ (s : Nat) (d : Bs), ¬ Fr.body ⟨4, s, d⟩ := fun s d z => by rcases z with z | z <;> simp at z
    have hp0 : pings S = 0 := pings_none (fun f hf => by rw [hk4 f hf]; omega)
    have hown : (a.consumeC st n).2.own = a.own ∧ (a.consumeC st n).2.win = a.win ∧ (a.consumeC st n).2.all = a.all ∧ (a.consumeC st n).2.byeC = a.byeC ∧ (a.consumeC st n).2.room = a.room + n.toNat := by
      rw [he]
      split <;> exact ⟨rfl, rfl, rfl, rfl, rfl⟩
    refine ⟨e0, i, y, S, hy, by omega, hn1, hn2, ho, hown.1, ⟨hB, h.wab.sent hS, h.wba.rest hr, h.la, h.lb.eat hy ho hb, h.ea, g3, ?_, ?_⟩, ?_, hk4, hown.2.2.2.2⟩
    · have : Xd a b (Q ++ S) R ba ta Ga xa := by
        rw [hSe]
        split
        · have := (h.xab.pushQ (hnb 0 (wire n.toNat)) (by simp) (by simp)).pushQ (hnb y.id (wire n.toNat)) (by simp) (by simp)
          simpa using this
        · exact h.xab.pushQ (hnb 0 (wire n.toNat)) (by simp) (by simp)
      exact this.same hown.1 hown.2.1 hown.2.2.1 hb hown.2.2.2.1 rfl rfl rfl
    · have hx := h.xba
      have c0 : credOn (Q ++ S) 0 = credOn Q 0 + n.toNat := by
        rw [hSe, credOn_append]
        split
        · rw [credOn_cons, credOn_cons, credIn_other (f := ⟨4, y.id, wire n.toNat⟩) (by simp; omega)]
          simp [credOn, credIn, hm]
        · rw [credOn_cons]
          simp [credOn, credIn, hm]
      have c1 : ∀ id, id ≠ 0 → id ≠ y.id → credOn (Q ++ S) id = credOn Q id := fun id h1 h2 => by
        rw [hSe, credOn_append]
        split
        · rw [credOn_cons, credOn_cons, credIn_other (by simp; omega), credIn_other (by simp; omega)]
          simp [credOn]
        · rw [credOn_cons, credIn_other (by simp; omega)]
          simp [credOn]
      have c2 : y.opn = true → credOn (Q ++ S) y.id = credOn Q y.id + n.toNat := fun hop => by
        rw [hSe, if_pos hop, credOn_append, credOn_cons, credOn_cons, credIn_other (f := ⟨4, 0, wire n.toNat⟩) (by simp; omega)]
        simp [credOn, credIn, hm]
      refine ⟨fun j o hj hnd => ?_, ?_, hx.bye, hx.byeC, fun j z hz => ?_, fun j z hz hzo => ?_, hx.k37, hx.done, hx.ended, fun j z hz => ?_⟩
      · have hc := hx.cr j o hj hnd
        have hio := (h.both.wb.own j o hj).id
        rw [ho]
        by_cases e : j = i
        · subst e
          have hop : y.opn = true := by
            cases hc2 : y.opn with
            | true => rfl
            | false =>
              have := h.both.ba.fin j o y hj hy hc2 (hx.drp j y hy)
              rw [hnd] at this
              cases this
          have : o.id = y.id := by omega
          rw [List.getElem?_set_self (lt_of_get hy), this, c2 hop]
          rw [this, hy] at hc
          simp only [crOf, Ot.eat, hop] at hc ⊢
          simp
          omega
        · rw [List.getElem?_set_ne (fun z => e z.symm), c1 o.id (by omega) (by omega)]
          exact hc
      · have := hx.all
        rw [c0, hown.2.2.2.2]
        omega
      · rw [ho] at hz
        rcases set_get hz with ⟨rfl, rfl, _⟩ | ⟨_, hz⟩
        · exact hx.drp j y hy
        · exact hx.drp j z hz
      · rw [hown.2.1]
        rw [ho] at hz
        rcases set_get hz with ⟨rfl, rfl, _⟩ | ⟨_, hz⟩
        · have hop : y.opn = true := hzo
          have := hx.win j y hy hop
          simp only [Ot.eat, hop]
          simp
          omega
        · exact hx.win j z hz hzo
      · rw [ho] at hz
        rcases set_get hz with ⟨rfl, rfl, _⟩ | ⟨hj, hz⟩
        · have := hx.eat j y hy
          simp only [Ot.eat]
          simp
          omega
        · rw [if_neg hj]
          exact hx.eat j z hz
    · rw [hp0, he]
      split <;> simp [En.send]
end
end Go.Proofs.YtbkpdapagfjmmaaGreatDoor.Lk
