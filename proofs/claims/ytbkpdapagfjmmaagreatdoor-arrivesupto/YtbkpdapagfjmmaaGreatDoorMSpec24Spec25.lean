import Derived.Test.YtbkpdapagfjmmaaGreatDoorMSpec16Spec19
import Derived.Test.YtbkpdapagfjmmaaGreatDoorMSpec20Spec21
/-
  Plain mathematics of the document: two ends that belong together, where nothing is reset and no end says bye: what a frame that comes does. Imports nothing of the program.
-/
namespace Go.Proofs.YtbkpdapagfjmmaaGreatDoor.Lk

theorem all_packFs (fs : List Fr) (h : ∀ f ∈ fs, Good f.k f.st f.d) : Lk.all (packAll fs) = (fs, 0, []) := by
  induction fs with
  | nil => exact all_nil
  | cons f fs ih =>
    have e : packAll (f :: fs) = packed f.k f.st f.d ++ packAll fs := by simp [packAll]
    rw [e, all_packed (h f (by simp)), ih (fun g hg => h g (by simp [hg]))]
theorem pack_flat (S : List Fr) : (S.map Fr.pack).flatten = packAll S := by
  induction S with
  | nil => rfl
  | cons f S ih => simp [packAll, Fr.pack] at ih ⊢; exact ih
theorem pack_inj {S S' : List Fr} (h : S.map Fr.pack = S'.map Fr.pack) (g : ∀ f ∈ S, Good f.k f.st f.d) (g' : ∀ f ∈ S', Good f.k f.st f.d) : S = S' := by
  have e : packAll S = packAll S' := by rw [← pack_flat, ← pack_flat, h]
  have := all_packFs S g
  rw [e, all_packFs S' g'] at this
  exact (Prod.mk.inj this).1.symm

/-- What a frame makes of an end that is up, has said no bye and drops nothing. -/
def Shape (b : En) (f : Fr) (b' : En) : Prop :=
  (f.k = 0 ∧ ∃ L, b' = { b with inn := L, oth := b.oth ++ [⟨f.st, b.win, 0, true, false⟩] })
  ∨ (f.body ∧ ∃ (i : Nat) (p : Ot), b.oth[i]? = some p ∧ f.st = p.id ∧ p.opn = true ∧ f.d.length ≤ p.cr ∧ f.d.length ≤ b.room ∧ b' = { b with oth := b.oth.set i ⟨p.id, p.cr - f.d.length, p.held + f.d.length, decide (f.k ≠ 2), false⟩, room := b.room - f.d.length })
  ∨ (f.k = 4 ∧ f.st = 0 ∧ b' = { b with all := b.all + numOf f.d })
  ∨ (f.k = 4 ∧ f.st ≠ 0 ∧ ∃ (i : Nat) (o : Ow), b.own[i]? = some o ∧ f.st = o.id ∧ ((o.done = true ∧ b' = b) ∨ (o.done = false ∧ b' = { b with own := b.own.set i { o with cr := o.cr + numOf f.d } })))
  ∨ (f.k = 5 ∧ b' = b.send 6 0 f.d)
  ∨ (f.k = 6 ∧ b' = b)

section
variable {a b : En} {Q R : List Fr} {Ha Hb : List (List Hd)} {ba ta bb tb : Nat → Bs}
theorem Both.shape {f : Fr} (h : Both a b (f :: Q) R Ha Hb ba ta bb tb) (hb : b.byeS = false) (hd : ∀ (i : Nat) (p : Ot), b.oth[i]? = some p → p.drp = false) (h3 : f.k ≠ 3) (h7 : f.k ≠ 7) : Shape b f (b.frame f).2.2 := by
  have h0 := h.recv.1
  have h8 := (h.gq f (by simp)).k7
  unfold Shape
  generalize hr : b.frame f = r at h0 ⊢
  unfold En.frame at hr
  by_cases k0 : f.k = 0
  · rw [if_pos k0] at hr
    unfold En.headF at hr
    split at hr
    · subst hr; cases h0
    · cases hx : exR 100 f.d 6 b.inn 0 with
      | err x y => rw [hx] at hr; subst hr; cases h0
      | ok hs L =>
        rw [hx] at hr
        simp only at hr
        rw [if_neg (by rw [hb]; simp)] at hr
        subst hr
        exact .inl ⟨k0, L, rfl⟩
  · rw [if_neg k0] at hr
    by_cases k1 : f.k = 1 ∨ f.k = 2
    · rw [if_pos k1] at hr
      unfold En.pieceF at hr
      cases hx : (othIx b.oth f.st).bind fun i => (b.oth[i]?).map fun o => (i, o) with
      | none => rw [hx] at hr; subst hr; cases h0
      | some q =>
        obtain ⟨i, p⟩ := q
        obtain ⟨hi, hp⟩ := bind_map_some hx
        simp only at hi hp
        obtain ⟨p', hp', hid⟩ := othIx_some hi
        have e0 : p' = p := by rw [hp] at hp'; exact (Option.some.inj hp').symm
        subst e0
        have hdp := hd i p' hp
        rw [hx] at hr
        simp only at hr
        split at hr
        · subst hr; cases h0
        · rename_i ho
          have hop : p'.opn = true := by
            cases hc : p'.opn with
            | true => rfl
            | false => rw [hc, hdp] at ho; simp at ho
          split at hr
          · subst hr; cases h0
          · rename_i hc
            subst hr
            refine .inr (.inl ⟨k1, i, p', hp, by omega, hop, by omega, by omega, ?_⟩)
            simp [hdp]
    · rw [if_neg k1, if_neg h3] at hr
      by_cases k4 : f.k = 4
      · rw [if_pos k4] at hr
        unfold En.creditF at hr
        by_cases hs : f.st = 0
        · rw [if_pos hs] at hr
          split at hr
          · subst hr; cases h0
          · subst hr
            exact .inr (.inr (.inl ⟨k4, hs, rfl⟩))
        · rw [if_neg hs] at hr
          cases hx : (ownIx b.own f.st).bind fun i => (b.own[i]?).map fun o => (i, o) with
          | none => rw [hx] at hr; subst hr; cases h0
          | some q =>
            obtain ⟨i, o⟩ := q
            obtain ⟨hi, ho⟩ := bind_map_some hx
            simp only at hi ho
            obtain ⟨o', ho', hid⟩ := ownIx_some hi
            have e0 : o' = o := by rw [ho] at ho'; exact (Option.some.inj ho').symm
            subst e0
            rw [hx] at hr
            simp only at hr
            refine .inr (.inr (.inr (.inl ⟨k4, hs, i, o', ho, by omega, ?_⟩)))
            split at hr
            · rename_i hdn
              subst hr
              exact .inl ⟨hdn, rfl⟩
            · rename_i hdn
              split at hr
              · subst hr; cases h0
              · subst hr
                exact .inr ⟨by simpa using hdn, rfl⟩
      · rw [if_neg k4] at hr
        by_cases k5 : f.k = 5
        · rw [if_pos k5] at hr
          subst hr
          exact .inr (.inr (.inr (.inr (.inl ⟨k5, rfl⟩))))
        · rw [if_neg k5, if_pos (by omega)] at hr
          subst hr
          exact .inr (.inr (.inr (.inr (.inr ⟨by omega, rfl⟩))))
end

/-- What is told of an end stays told; a stream that is told to be at its end has its whole body told. -/
theorem hear1_true {s : Nat} {H : List (List Hd)} {bd : Nat → Bs} {G G' : List (Bs × Bool)} {v : Ev} (h : hear1 s H bd G v = some G') :
    (∀ (i : Nat) (t : Bs), G[i]? = some (t, true) → G'[i]? = some (t, true)) ∧ ((∀ (i : Nat) (t : Bs), G[i]? = some (t, true) → t = bd i) → ∀ (i : Nat) (t : Bs), G'[i]? = some (t, true) → t = bd i) ∧ (v.k = 3 → ∃ t, G'[(v.st - 1 - s) / 2]? = some (t, true)) := by
  unfold hear1 at h
  split at h
  · rename_i hk
    split at h
    · cases h
      refine ⟨fun i t hi => ?_, fun hG i t hi => ?_, fun hk3 => by omega⟩
      · rw [List.getElem?_append_left (lt_of_get hi)]
        exact hi
      · rw [List.getElem?_append] at hi
        split at hi
        · exact hG i t hi
        · rename_i hlt
          have : i - G.length = 0 := by
            have := lt_of_get hi
            simp at this
            exact this
          rw [this] at hi
          simp at hi
    · cases h
  · split at h
    · split at h
      · cases hg : G[(v.st - 1 - s) / 2]? with
        | none => rw [hg] at h; cases h
        | some g =>
          rw [hg] at h
          simp only at h
          split at h
          · cases h
          · rename_i hg2
            have hlt := lt_of_get hg
            have keep : ∀ (y : Bs × Bool) (i : Nat) (t : Bs), G[i]? = some (t, true) → (G.set ((v.st - 1 - s) / 2) y)[i]? = some (t, true) := fun y i t hi => by
              by_cases e : (v.st - 1 - s) / 2 = i
              · subst e
                rw [hg] at hi
                cases hi
                exact absurd rfl hg2
              · rw [List.getElem?_set_ne e]
                exact hi
            split at h
            · rename_i hk3
              split at h
              · rename_i hbd
                cases h
                refine ⟨keep _, fun hG i t hi => ?_, fun _ => ⟨g.1, ?_⟩⟩
                · rcases set_get hi with ⟨rfl, e, _⟩ | ⟨_, hi⟩
                  · cases e
                    exact hbd
                  · exact hG i t hi
                · rw [List.getElem?_set_self hlt]
              · cases h
            · rename_i hk3
              split at h
              · cases h
                refine ⟨keep _, fun hG i t hi => ?_, fun h3 => absurd h3 hk3⟩
                rcases set_get hi with ⟨rfl, e, _⟩ | ⟨_, hi⟩
                · cases e
                · exact hG i t hi
              · cases h
      · cases h
    · rename_i hk
      cases h
      exact ⟨fun _ _ x => x, fun x => x, fun h3 => absurd (.inr h3) hk⟩
theorem hearL_true {s : Nat} {H : List (List Hd)} {bd : Nat → Bs} : ∀ {l : List Ev} {G G' : List (Bs × Bool)}, hearL s H bd G l = some G' →
    (∀ (i : Nat) (t : Bs), G[i]? = some (t, true) → G'[i]? = some (t, true)) ∧ ((∀ (i : Nat) (t : Bs), G[i]? = some (t, true) → t = bd i) → ∀ (i : Nat) (t : Bs), G'[i]? = some (t, true) → t = bd i) ∧ (∀ v ∈ l, v.k = 3 → ∃ t, G'[(v.st - 1 - s) / 2]? = some (t, true))
  | [], G, G', h => by
    cases h
    exact ⟨fun _ _ x => x, fun x => x, by simp⟩
  | v :: l, G, G', h => by
    rw [hearL] at h
    cases hv : hear1 s H bd G v with
    | none => rw [hv] at h; cases h
    | some G1 =>
      rw [hv] at h
      simp only at h
      obtain ⟨a1, a2, a3⟩ := hear1_true hv
      obtain ⟨b1, b2, b3⟩ := hearL_true h
      refine ⟨fun i t hi => b1 i t (a1 i t hi), fun hG => b2 (a2 hG), fun u hu h3 => ?_⟩
      rcases List.mem_cons.1 hu with rfl | hu
      · obtain ⟨t, ht⟩ := a3 h3
        exact ⟨t, b1 _ t ht⟩
      · exact b3 u hu h3
end Go.Proofs.YtbkpdapagfjmmaaGreatDoor.Lk

/-
  Plain mathematics of the document: two ends that belong together, where nothing is reset and no end says bye: no credit is lost. Imports nothing of the program.
-/
namespace Go.Proofs.YtbkpdapagfjmmaaGreatDoor.Lk

/-- What holds exactly between a and b, of the streams of a. -/
structure Xd (a b : En) (Q R : List Fr) (bd told : Nat → Bs) (G : List (Bs × Bool)) (x : Nat → Nat) : Prop where
  cr : ∀ (i : Nat) (o : Ow), a.own[i]? = some o → o.done = false → o.cr + (flight Q o.id).length + credOn R o.id = crOf a.win b.oth[i]?
  all : a.all + flightAll Q + credOn R 0 = b.room
  bye : a.byeS = false
  byeC : a.byeC = false
  drp : ∀ (i : Nat) (p : Ot), b.oth[i]? = some p → p.drp = false
  win : ∀ (i : Nat) (p : Ot), b.oth[i]? = some p → p.opn = true → p.cr + p.held = b.win
  k37 : ∀ f ∈ Q, f.k ≠ 3 ∧ f.k ≠ 7
  done : ∀ (i : Nat) (o : Ow), a.own[i]? = some o → o.done = true → (∃ f ∈ Q, f.k = 2 ∧ f.st = o.id) ∨ ∃ t, G[i]? = some (t, true)
  ended : ∀ (i : Nat) (t : Bs), G[i]? = some (t, true) → t = bd i
  eat : ∀ (i : Nat) (p : Ot), b.oth[i]? = some p → x i + p.held = (told i).length

section
variable {a a' b b' : En} {Q R : List Fr} {bd told : Nat → Bs} {G : List (Bs × Bool)} {x : Nat → Nat}
theorem Xd.same (h : Xd a b Q R bd told G x) (h1 : a'.own = a.own) (h2 : a'.win = a.win) (h3 : a'.all = a.all) (h4 : a'.byeS = a.byeS) (h5 : a'.byeC = a.byeC) (g1 : b'.oth = b.oth) (g2 : b'.room = b.room) (g3 : b'.win = b.win) : Xd a' b' Q R bd told G x :=
  ⟨by rw [h1, h2, g1]; exact h.cr, by rw [h3, g2]; exact h.all, h4.trans h.bye, h5.trans h.byeC, by rw [g1]; exact h.drp, by rw [g1, g3]; exact h.win, h.k37, by rw [h1]; exact h.done, h.ended, by rw [g1]; exact h.eat⟩
theorem Xd.start (s t win : Nat) : Xd (En.new s win) (En.new t win) [] [] (fun _ => []) (fun _ => []) [] (fun _ => 0) :=
  ⟨by simp [En.new], by simp [En.new, flightAll, credOn], rfl, rfl, by simp [En.new], by simp [En.new], by simp, by simp [En.new], by simp, by simp [En.new]⟩
theorem Xd.dropR {f : Fr} (h : Xd a b Q (f :: R) bd told G x) (hk : f.k ≠ 4) : Xd a b Q R bd told G x := by
  refine ⟨fun i o ho hd => ?_, ?_, h.bye, h.byeC, h.drp, h.win, h.k37, h.done, h.ended, h.eat⟩
  · have := h.cr i o ho hd
    rw [credOn_cons, credIn_none hk] at this
    omega
  · have := h.all
    rw [credOn_cons, credIn_none hk] at this
    omega
theorem Xd.pushR {f : Fr} (h : Xd a b Q R bd told G x) (hk : f.k ≠ 4) : Xd a b Q (R ++ [f]) bd told G x := by
  have e : ∀ id, credOn (R ++ [f]) id = credOn R id := fun id => by
    rw [credOn_append, credOn_cons, credIn_none hk]
    simp [credOn]
  exact ⟨fun i o ho hd => by rw [e]; exact h.cr i o ho hd, by rw [e]; exact h.all, h.bye, h.byeC, h.drp, h.win, h.k37, h.done, h.ended, h.eat⟩
theorem Xd.pushQ {f : Fr} (h : Xd a b Q R bd told G x) (hb : ¬ f.body) (h3 : f.k ≠ 3) (h7 : f.k ≠ 7) : Xd a b (Q ++ [f]) R bd told G x := by
  have e1 : ∀ id, flight (Q ++ [f]) id = flight Q id := fun id => by
    rw [flight_append, flight_cons, bodyOn_none hb]
    simp [flight]
  have e2 : flightAll (Q ++ [f]) = flightAll Q := by
    rw [flightAll_append, flightAll_cons, bodyLen_none hb]
    simp [flightAll]
  refine ⟨fun i o ho hd => by rw [e1]; exact h.cr i o ho hd, by rw [e2]; exact h.all, h.bye, h.byeC, h.drp, h.win, fun g hg => ?_, fun i o ho hd => ?_, h.ended, h.eat⟩
  · rcases List.mem_append.1 hg with hg | hg
    · exact h.k37 g hg
    · simp at hg
      subst hg
      exact ⟨h3, h7⟩
  · rcases h.done i o ho hd with ⟨g, hg, k⟩ | k
    · exact .inl ⟨g, by simp [hg], k⟩
    · exact .inr k
/-- A frame that is not about a body is off the way. -/
theorem Xd.dropQ {f : Fr} (h : Xd a b (f :: Q) R bd told G x) (hb : ¬ f.body) : Xd a b Q R bd told G x := by
  refine ⟨fun i o ho hd => ?_, ?_, h.bye, h.byeC, h.drp, h.win, fun g hg => h.k37 g (by simp [hg]), fun i o ho hd => ?_, h.ended, h.eat⟩
  · have := h.cr i o ho hd
    rw [flight_cons, bodyOn_none hb] at this
    exact this
  · have := h.all
    rw [flightAll_cons, bodyLen_none hb] at this
    omega
  · rcases h.done i o ho hd with ⟨g, hg, k⟩ | k
    · rcases List.mem_cons.1 hg with rfl | hg
      · exact absurd (.inr k.1) hb
      · exact .inl ⟨g, hg, k⟩
    · exact .inr k
theorem Xd.hear {G' : List (Bs × Bool)} (h : Xd a b Q R bd told G x) (h1 : ∀ (i : Nat) (t : Bs), G[i]? = some (t, true) → G'[i]? = some (t, true)) (h2 : (∀ (i : Nat) (t : Bs), G[i]? = some (t, true) → t = bd i) → ∀ (i : Nat) (t : Bs), G'[i]? = some (t, true) → t = bd i) : Xd a b Q R bd told G' x :=
  ⟨h.cr, h.all, h.bye, h.byeC, h.drp, h.win, h.k37, fun i o ho hd => (h.done i o ho hd).imp (fun k => k) (fun ⟨t, k⟩ => ⟨t, h1 i t k⟩), h2 h.ended, h.eat⟩
end

section
variable {a b : En} {Q R : List Fr} {Ha Hb : List (List Hd)} {ba ta bb tb : Nat → Bs} {Ga Gb : List (Bs × Bool)} {xa xb : Nat → Nat}

/-- A frame comes. -/
theorem Both.recvX {f : Fr} (h : Both a b (f :: Q) R Ha Hb ba ta bb tb) (hx : Xd a b (f :: Q) R ba ta Ga xa) (hy : Xd b a R (f :: Q) bb tb Gb xb) (hl : Lis b ta Ga) (he : Eats b ta Ga xa) :
    ∃ S ta' Ga', Sent b (b.frame f).2.2 S ∧ Both a (b.frame f).2.2 Q (R ++ S) Ha Hb ba ta' bb tb ∧ hearL a.side Ha ba Ga (b.frame f).1 = some Ga' ∧ Lis (b.frame f).2.2 ta' Ga' ∧ Eats (b.frame f).2.2 ta' Ga' xa
      ∧ Xd a (b.frame f).2.2 Q (R ++ S) ba ta' Ga' xa ∧ Xd (b.frame f).2.2 a (R ++ S) Q bb tb Gb xb ∧ (∀ g ∈ S, f.k = 5 ∧ g.k = 6) ∧ S.length ≤ 1 ∧ Shape b f (b.frame f).2.2 := by
  obtain ⟨h0, S, ta', hS, hB, hH⟩ := h.recv
  obtain ⟨Ga', e1, l1⟩ := hH.hear h.wb h.ab.sides hl
  have he' := hH.eats hl (hearL_len e1) he
  obtain ⟨t1, t2, t3⟩ := hearL_true e1
  have h37 := hx.k37 f (by simp)
  have hsh := h.shape hy.bye hx.drp h37.1 h37.2
  have hgf := h.gq f (by simp)
  have hids : ∀ (i : Nat) (p : Ot), b.oth[i]? = some p → p.id = 2 * i + 1 + a.side := fun i p hp => h.ids hp
  refine ⟨S, ta', Ga', hS, hB, e1, l1, he', ?_⟩
  have hsame := hH.same
  have hbody := hH.body
  have hhead := hH.head
  have hgS : ∀ g ∈ S, Good g.k g.st g.d := fun g hg => hB.gr g (by simp [hg])
  clear hH
  have hsh2 := hsh
  unfold Shape at hsh
  have nil_of : (b.frame f).2.2.row = b.row → S = [] := fun e => by
    unfold Sent at hS
    rw [e] at hS
    have : S.map Fr.pack = [] := by simpa using hS.symm
    simpa using this
  generalize (b.frame f).2.2 = b' at *
  rcases hsh with ⟨k0, L, rfl⟩ | ⟨kb, i, p, hp, hst, hop, hc1, hc2, rfl⟩ | ⟨k4, hs, rfl⟩ | ⟨k4, hs, i, o, ho, hst, hcase⟩ | ⟨k5, rfl⟩ | ⟨k6, rfl⟩
  · have hS0 := nil_of rfl
    subst hS0
    have hnb : ¬ f.body := fun z => by rcases z with z | z <;> omega
    have htt := hsame hnb
    subst htt
    obtain ⟨hs, y, _, _, _, _, ht0, _⟩ := hhead k0
    rw [List.append_nil]
    refine ⟨?_, (hy.dropR (by omega)).same rfl rfl rfl rfl rfl rfl rfl rfl, by simp, by simp, hsh2⟩
    have hd := (hx.dropQ hnb).hear t1 t2
    refine ⟨fun i o ho hnd => ?_, hd.all, hd.bye, hd.byeC, fun i p hp => ?_, fun i p hp hop => ?_, hd.k37, hd.done, hd.ended, fun i p hp => ?_⟩
    · have hc := hd.cr i o ho hnd
      rw [hc]
      show _ = crOf a.win (b.oth ++ [_])[i]?
      by_cases hi : i < b.oth.length
      · rw [List.getElem?_append_left hi]
      · rw [List.getElem?_eq_none (by omega)]
        by_cases hi2 : i = b.oth.length
        · subst hi2
          simp [crOf]
          exact h.ab.wins
        · rw [List.getElem?_eq_none (by simp; omega)]
    · have hp : (b.oth ++ [(⟨f.st, b.win, 0, true, false⟩ : Ot)])[i]? = some p := hp
      rw [List.getElem?_append] at hp
      split at hp
      · exact hd.drp i p hp
      · have := lt_of_get hp
        simp at this
        rw [this] at hp
        simp at hp
        subst hp
        rfl
    · have hp : (b.oth ++ [(⟨f.st, b.win, 0, true, false⟩ : Ot)])[i]? = some p := hp
      rw [List.getElem?_append] at hp
      split at hp
      · exact hd.win i p hp hop
      · have := lt_of_get hp
        simp at this
        rw [this] at hp
        simp at hp
        subst hp
        rfl
    · have hp : (b.oth ++ [(⟨f.st, b.win, 0, true, false⟩ : Ot)])[i]? = some p := hp
      rw [List.getElem?_append] at hp
      split at hp
      · exact hd.eat i p hp
      · rename_i hlt
        have h1 := lt_of_get hp
        simp at h1
        have h2 : i = b.oth.length := by omega
        subst h2
        simp at hp
        subst hp
        rw [ht0, he.new _ (Nat.le_refl _)]
        rfl
  · have hS0 := nil_of rfl
    subst hS0
    rw [List.append_nil]
    have hidp := hids i p hp
    have hk4 : f.k ≠ 4 := by rcases kb with z | z <;> omega
    refine ⟨?_, (hy.dropR hk4).same rfl rfl rfl rfl rfl rfl rfl rfl, fun g hg => by simp at hg, by simp, hsh2⟩
    obtain ⟨i', p', x', hp', hst', _, _, hif⟩ := hbody kb
    have hii : i' = i := by
      have := hids i' p' hp'
      omega
    subst hii
    have e0 : p' = p := by rw [hp] at hp'; exact (Option.some.inj hp').symm
    subst e0
    rw [if_pos hop] at hif
    obtain ⟨ht', _, _, hev⟩ := hif
    have hidx : ∀ j q, (b.oth.set i' ⟨p'.id, p'.cr - f.d.length, p'.held + f.d.length, decide (f.k ≠ 2), false⟩)[j]? = some q → (j = i' ∧ q = ⟨p'.id, p'.cr - f.d.length, p'.held + f.d.length, decide (f.k ≠ 2), false⟩) ∨ (j ≠ i' ∧ b.oth[j]? = some q) := fun j q hq => by
      rcases set_get hq with ⟨z1, z2, _⟩ | z
      · exact .inl ⟨z1, z2⟩
      · exact .inr z
    refine ⟨fun j o ho hnd => ?_, ?_, hx.bye, hx.byeC, fun j q hq => ?_, fun j q hq hqo => ?_, fun g hg => hx.k37 g (by simp [hg]), fun j o ho hd => ?_, t2 hx.ended, fun j q hq => ?_⟩
    · have hc := hx.cr j o ho hnd
      have hid := (h.wa.own j o ho).id
      show _ = crOf a.win (b.oth.set i' _)[j]?
      rw [flight_cons] at hc
      by_cases hj : j = i'
      · subst hj
        rw [List.getElem?_set_self (lt_of_get hp)]
        have : f.st = o.id := by omega
        rw [← this, bodyOn_it kb, List.length_append, this, hp] at hc
        simp only [crOf] at hc ⊢
        omega
      · rw [List.getElem?_set_ne (fun z => hj z.symm)]
        rw [bodyOn_other (by omega)] at hc
        exact hc
    · have := hx.all
      rw [flightAll_cons, bodyLen_it kb] at this
      show _ = b.room - f.d.length
      omega
    · rcases hidx j q hq with ⟨_, rfl⟩ | ⟨_, hq⟩
      · rfl
      · exact hx.drp j q hq
    · rcases hidx j q hq with ⟨_, rfl⟩ | ⟨_, hq⟩
      · have := hx.win i' p' hp hop
        show p'.cr - f.d.length + (p'.held + f.d.length) = b.win
        omega
      · exact hx.win j q hq hqo
    · rcases hx.done j o ho hd with ⟨g, hg, k2, kst⟩ | ⟨t, k⟩
      · rcases List.mem_cons.1 hg with rfl | hg
        · have hid := (h.wa.own j o ho).id
          obtain ⟨t, ht⟩ := t3 ⟨3, g.st, 0, [], []⟩ (by rw [hev, if_pos k2]; simp) rfl
          have : (g.st - 1 - a.side) / 2 = j := by omega
          rw [this] at ht
          exact .inr ⟨t, ht⟩
        · exact .inl ⟨g, hg, k2, kst⟩
      · exact .inr ⟨t, t1 _ _ k⟩
    · rcases hidx j q hq with ⟨rfl, rfl⟩ | ⟨hj, hq⟩
      · have := hx.eat j p' hp
        rw [ht', updN_same, List.length_append]
        show xa j + (p'.held + f.d.length) = _
        omega
      · rw [ht', updN_other _ _ hj]
        exact hx.eat j q hq
  · have hS0 := nil_of rfl
    subst hS0
    rw [List.append_nil]
    have hnb : ¬ f.body := fun z => by rcases z with z | z <;> omega
    have htt := hsame hnb
    subst htt
    refine ⟨((hx.dropQ hnb).hear t1 t2).same rfl rfl rfl rfl rfl rfl rfl rfl, ?_, fun g hg => by simp at hg, by simp, hsh2⟩
    refine ⟨fun i o ho hnd => ?_, ?_, hy.bye, hy.byeC, hy.drp, hy.win, hy.k37, hy.done, hy.ended, hy.eat⟩
    · have hc := hy.cr i o ho hnd
      have := (h.wb.own i o ho).id
      rw [credOn_cons, credIn_other (by omega)] at hc
      show _ = crOf b.win a.oth[i]?
      omega
    · have := hy.all
      rw [credOn_cons, ← hs, credIn_it k4, hs] at this
      show b.all + numOf f.d + _ + _ = _
      omega
  · have hrow : b'.row = b.row ∧ b'.oth = b.oth ∧ b'.room = b.room ∧ b'.win = b.win := by
      rcases hcase with ⟨_, rfl⟩ | ⟨_, rfl⟩ <;> exact ⟨rfl, rfl, rfl, rfl⟩
    have hS0 := nil_of hrow.1
    subst hS0
    rw [List.append_nil]
    have hnb : ¬ f.body := fun z => by rcases z with z | z <;> omega
    have htt := hsame hnb
    subst htt
    refine ⟨((hx.dropQ hnb).hear t1 t2).same rfl rfl rfl rfl rfl hrow.2.1 hrow.2.2.1 hrow.2.2.2, ?_, fun g hg => by simp at hg, by simp, hsh2⟩
    have e0 : credOn (f :: Q) 0 = credOn Q 0 := by rw [credOn_cons, credIn_other hs]; omega
    have hall := hy.all
    rw [e0] at hall
    rcases hcase with ⟨hdn, rfl⟩ | ⟨hdn, rfl⟩
    · refine ⟨fun j q hq hnd => ?_, hall, hy.bye, hy.byeC, hy.drp, hy.win, hy.k37, hy.done, hy.ended, hy.eat⟩
      have hc := hy.cr j q hq hnd
      have hj : j ≠ i := fun z => by
        subst z
        rw [ho] at hq
        cases hq
        rw [hdn] at hnd
        cases hnd
      have i1 := (h.wb.own j q hq).id
      have i2 := (h.wb.own i o ho).id
      rw [credOn_cons, credIn_other (by omega)] at hc
      omega
    · refine ⟨fun j q hq hnd => ?_, hall, hy.bye, hy.byeC, hy.drp, hy.win, hy.k37, fun j q hq hd => ?_, hy.ended, hy.eat⟩
      · have i2 := (h.wb.own i o ho).id
        rcases set_get hq with ⟨rfl, rfl, _⟩ | ⟨hj, hq⟩
        · have hc := hy.cr j o ho hdn
          rw [credOn_cons, ← hst, credIn_it k4] at hc
          show o.cr + numOf f.d + (flight R o.id).length + credOn Q o.id = crOf b.win _
          rw [← hst]
          omega
        · have hc := hy.cr j q hq hnd
          have i1 := (h.wb.own j q hq).id
          rw [credOn_cons, credIn_other (by omega)] at hc
          show _ = crOf b.win _
          omega
      · rcases set_get hq with ⟨rfl, rfl, _⟩ | ⟨hj, hq⟩
        · exact hy.done j o ho hd
        · exact hy.done j q hq hd
  · have h8 : f.d.length = 8 := by
      have := hgf.length
      unfold lengthFits at this
      simp [k5] at this
      omega
    have hSe : S = [⟨6, 0, f.d⟩] := by
      refine pack_inj ?_ hgS (fun g hg => by simp at hg; subst hg; exact good_eight 6 f.d (by omega) h8)
      unfold Sent at hS
      have : b.row ++ [packed 6 0 f.d] = b.row ++ S.map Fr.pack := hS
      simpa [Fr.pack] using this.symm
    subst hSe
    have hnb : ¬ f.body := fun z => by rcases z with z | z <;> omega
    have hnb6 : ¬ Fr.body ⟨6, 0, f.d⟩ := fun z => by rcases z with z | z <;> simp at z
    have htt := hsame hnb
    subst htt
    exact ⟨((((hx.dropQ hnb).hear t1 t2).pushR (f := ⟨6, 0, f.d⟩) (by simp)).same (b' := b.send 6 0 f.d) rfl rfl rfl rfl rfl rfl rfl rfl), (((hy.dropR (by omega)).pushQ hnb6 (by simp) (by simp)).same (a' := b.send 6 0 f.d) rfl rfl rfl rfl rfl rfl rfl rfl), fun g hg => by simp at hg; subst hg; exact ⟨k5, rfl⟩, by simp, hsh2⟩
  · have hS0 := nil_of rfl
    subst hS0
    rw [List.append_nil]
    have hnb : ¬ f.body := fun z => by rcases z with z | z <;> omega
    have htt := hsame hnb
    subst htt
    exact ⟨(hx.dropQ hnb).hear t1 t2, hy.dropR (by omega), fun g hg => by simp at hg, by simp, hsh2⟩
end
end Go.Proofs.YtbkpdapagfjmmaaGreatDoor.Lk
