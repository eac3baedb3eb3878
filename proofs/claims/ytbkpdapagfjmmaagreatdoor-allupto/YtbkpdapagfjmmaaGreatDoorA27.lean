import Derived.Test.YtbkpdapagfjmmaaGreatDoorA25
set_option linter.unusedVariables false
set_option maxRecDepth 100000
set_option maxHeartbeats 16000000
namespace Go.Proofs.YtbkpdapagfjmmaaGreatDoor
open Go.RowKit
def qB (e : Lk.En) (l : List Lk.Hd) (body : Lk.Bs) : Lk.En := ({ e with out := (Lk.squeeze 100 e.out l).2, own := e.own ++ [⟨e.nextId, body, e.win, false⟩] } : Lk.En).send 0 e.nextId (Lk.squeeze 100 e.out l).1
theorem GL (e : Lk.En) (o : Lk.Ow) (ho : o.done = false) (e' : Lk.En) (he : e'.own = e.own ++ [o]) : gJ e' = gJ e ++ [o] := by
 unfold gJ
 rw [he, List.filter_append]
 simp [ho]
theorem GM {w wc W4 w5 W6 w7 : World} {b p g1 cap1 m sn : Nat} {e : Lk.En} {d : PD} {l : List Lk.Hd} {S : Lk.Bs} {body : Lk.Bs} {v : Value} {sa : Option Addr} {sc : Nat} (hL : Live w b e d) (hS : (Lk.squeeze 100 e.out l).1 = S) (hsn : sn = d.ps.length) (hsv : d.sv = .slice sa sn sc) (hN : fZ w.heap.size d.ov v) (hpw : w.heap.size <= p) (hbp : b ≠ p) (hbel : Below w.heap.size w wc) (hL3 : Live wc b e d) (PX : Tab wc w.heap.size 100 (Lk.squeeze 100 e.out l).2 v)
 (hO4 : Only (· = b) wc W4) (hO5 : Only (fun x => d.sv.ownBlock = some x) W4 w5) (ho5 : w5.ownsRow 0 169 1 (.slice (some ⟨g1, 0, none⟩) (d.ps.length + 1) cap1) (d.ps.length + 1) (d.ps.map ptr ++ [ptr p])) (hor : (Value.slice sa sn sc).ownBlock = some g1 ∨ g1 = wc.heap.size + 1) (hO6 : Only (· = b) w5 W6) (hIp : Is w7 p 173 (owV ⟨e.nextId, body, e.win, false⟩))
 (hR : Rw w7 b { fH e d with LJ := ((100 : Nat) : Int) - Lk.weights (Lk.squeeze 100 e.out l).2, ov := v, sv := .slice (some ⟨g1, 0, none⟩) (d.ps.length + 1) cap1, next := (e.nextId : Int) + 2, rs := d.rs ++ [m] } (d.fs ++ [⟨0, e.nextId, S⟩])) (hO7 : Only (fun i => i = b ∨ i ∈ d.rs) W6 w7) (hm : W6.heap.size <= m)
 (hsm : ¬ (64 < S.length ∨ 300 < body.length)) (hni : e.nextId <= 268435455) (h4 : d.ps.length <= 4) (Ve : sn <= 3) (hW : Lk.Wf (qB e l body)) : bf w b d (qB e l body) w7 := by
 have hs1 := hbel.size
 have hs4 := hO4.size
 have hs5 := hO5.size
 have hs6 := hO6.size
 have hOw : Only (fun x => x = b ∨ x ∈ d.rs ∨ d.sv.ownBlock = some x ∨ x ∈ d.ps) w w7 := by
  have h1 : Only (fun x => x = b ∨ x ∈ d.rs ∨ d.sv.ownBlock = some x ∨ x ∈ d.ps) w wc := Only.of_below hbel _
  have h2 := h1.trans hO4 (fun x hx _ => .inl hx)
  have h3 := h2.trans hO5 (fun x hx _ => .inr (.inr (.inl hx)))
  have h5 := h3.trans hO6 (fun x hx _ => .inl hx)
  exact h5.trans hO7 (fun x hx _ => hx.imp id (fun h => .inl h))
 have hsep := hL3.fQ
 have WH := ag (ag ho5 hO6 (fun x hx e => by
  have hx' : g1 = x := by simpa [Value.ownBlock] using hx
  subst hx'
  rcases hor with h | h
  . rw [<- hsv] at h
    exact (hsep _ (.inl e)).2.2.1 h
  . have := hL3.rw.lt
    omega)) hO7 (fun x hx e => by
  have hx' : g1 = x := by simpa [Value.ownBlock] using hx
  subst hx'
  rcases hor with h | h
  . rw [<- hsv] at h
    exact (hsep _ e).2.2.1 h
  . rcases e with e | e
    . have := hL3.rw.lt
      omega
    . have := hL3.rw.row.lt _ e
      omega)
 have hout : mF w7 (gJ e) d.ps := by
  have h1 := hL3.outs.only hO4 (fun q hq e => (hsep q (.inl e)).2.2.2.1 hq)
  have h2 := h1.only hO5 (fun q hq hx => by
   obtain ⟨o, hI⟩ := hL3.outs.mem hq
   exact own_ne hL3.sl hI (nbq rfl) hx.symm)
  have h3 := h2.only hO6 (fun q hq e => (hsep q (.inl e)).2.2.2.1 hq)
  exact h3.only hO7 (fun q hq e => (hsep q e).2.2.2.1 hq)
 have WI : w7.ownsRow 0 112 2 v (Lk.squeeze 100 e.out l).2.length (aQ (Lk.squeeze 100 e.out l).2) := by
  have hne : ∀ x, v.ownBlock = some x -> ∀ T cs, T ≠ 112 -> ¬ Is wc x T cs := fun x hx T cs hT hI => own_ne PX.own hI hT hx.symm
  have h1 := ag PX.own hO4 (fun x hx e => by subst e; exact hne _ hx _ _ (nbq rfl) hL3.rw.blk)
  have h2 := ag h1 hO5 (fun x hx hy => by
   rcases oP PX.own hL3.sl (nbq rfl) with h | h
   . rw [h] at hx; cases hx
   . exact h (hx.trans hy.symm))
  have h3 := ag h2 hO6 (fun x hx e => by subst e; exact hne _ hx _ _ (nbq rfl) hL3.rw.blk)
  exact ag h3 hO7 (fun x hx e => by
   rcases e with e | e
   . subst e; exact hne _ hx _ _ (nbq rfl) hL3.rw.blk
   . obtain ⟨_, _, hy⟩ := hL3.rw.row.links.is x e
     exact hne _ hx _ _ (nbq rfl) hy)
 have Lc : 0 < e.nextId := by unfold Lk.En.nextId; omega
 have hup : gJ (qB e l body) = gJ e ++ [⟨e.nextId, body, e.win, false⟩] := GL e _ rfl _ rfl
 refine hL.Na (ps' := d.ps ++ [p]) (sv' := .slice (some ⟨g1, 0, none⟩) (d.ps.length + 1) cap1) (ov' := v) (rs' := d.rs ++ [m]) hR hOw ?_ rfl rfl ?_ ?_ hW (iV (by omega)) ?_ ?_ ?_ ?_ ?_ ?_ ?_ ?_
 . simp [fH, qB, Lk.En.send, Lk.En.nextId, ah]
   omega
 . simp [qB, Lk.En.send, hL.o9, Lk.Fr.pack, hS]
 . refine jv hL.good (fun f hf => ?_)
   simp at hf
   subst hf
   exact Lk.rE e.nextId S Lc hni (by omega)
 . simpa using WH
 . intro x hx
   have hx' : g1 = x := by simpa [Value.ownBlock] using hx
   subst hx'
   rcases hor with h | h
   . rw [<- hsv] at h; exact .inl h
   . right; omega
 . exact WI
 . intro x hx
   rcases hN with h | h
   . subst h; exact .inl hx
   . exact .inr (h x hx)
 . rw [hup]
   exact hout.snoc hIp
 . refine List.nodup_append.2 ⟨hL.psn, by simp, fun x hx y hy => ?_⟩
   simp at hy
   subst hy
   intro e
   subst e
   obtain ⟨o, hI⟩ := hL.outs.mem hx
   have := hI.lt
   omega
 . intro x hx
   rcases List.mem_append.1 hx with h | h
   . exact .inl h
   . simp at h; subst h; exact .inr hpw
 . simp; omega
theorem Nj (b B1 : Nat) (e : Lk.En) (d : PD) (l : List Lk.Hd) (lv : Value) (body : Lk.Bs) (w : World) (hL : Live w b e d) (hfx : Fx w) (hw : (Lk.wrong l).1 = 0) (own : w.ownsRow B1 112 2 lv l.length (aQ l)) (hsm : ¬ (64 < (Lk.squeeze 100 e.out l).1.length ∨ 300 < body.length)) (hfu : ¬ (d.ps.length = 4 ∨ 268435455 < e.nextId)) (hW : Lk.Wf (qB e l body)) :
 Calls Tryz.prog 44 #[.pointer (some ⟨b, 3, none⟩), lv, .string (bs body), oN b] w fun r w' => r = .returned (.tuple #[.int .i64 (e.nextId : Int), .int .i64 0]) ∧ bf w b d (qB e l body) w' := by
 have c3 : w.cell? ⟨b, 3, none⟩ = some aU := hL.rw.blk.cell 3
 have c4 : w.cell? ⟨b, 4, none⟩ = some (.int .i64 ((100 : Int) - Lk.weights e.out)) := hL.rw.blk.cell 4
 have c5 : w.cell? ⟨b, 5, none⟩ = some d.ov := hL.rw.blk.cell 5
 have hbl := hL.rw.lt
 have h0 := hfx.1
 have hb0 := (Below.refl w.heap.size w).alloc (Nat.le_refl _) (.cells #[aU, .int .i64 ((100 : Int) - Lk.weights e.out), d.ov] 90)
 obtain ⟨oa, on, oc, hov, hon⟩ := bV hL.out
 clear hon
 obtain ⟨sa, sn, sc, hsv, hsn⟩ := bV hL.sl
 have h4 := hL.ps4
 have HC := hide (kG w.heap.size 100 B1 e.out l d.ov lv _ (tY hL) (hfx.below hb0 h0) (by omega) hw (own.alloc _))
 have HB0 := hide hb0
 rw [hov] at c5
 rw [hov] at HC HB0
 have hbody := ax body
 have hss := ax (Lk.squeeze 100 e.out l).1
 have h1' : ¬ 64 < ((bs (Lk.squeeze 100 e.out l).1).size : Int) := by omega
 have h2' : ¬ 300 < ((bs body).size : Int) := by omega
 have h5' : ((sn : Int) == 4) = false := by rw [beq_eq_false_iff_ne]; omega
 have hni : e.nextId <= 268435455 := by omega
 have hnum : (decide (0 <= (e.nextId : Int)) && decide ((e.nextId : Int) <= 268435455)) = true := by simp; omega
 have HSN := hide hsn
 have HSM := hide hsm
 have HL := hide hL
 have HOV := hide hov
 obtain ⟨ti, hti, hz0, hz1, hz2⟩ := info_parts IM
 have Ve : sn <= 3 := by omega
 clear hL hfx hw own hb0 hsm hfu hsn hov
 generalize hS : (Lk.squeeze 100 e.out l).1 = S at *
 have HS := hide hS
 clear hS
 unfold oN
 go_enter Tryz.func44, Tryz.ntmps44
 go_wp2_with fail
 refine (uh HC).mono ?_
 rintro r w1 ⟨rfl, ⟨v1, Am, hN1⟩, hT1⟩
 have hbel : Below w.heap.size w w1 := Turns.toBelow (uh HB0) hT1 (Nat.le_refl _) (by simp)
 have hL1 := (uh HL).only (Only.of_below hbel (fun _ => False)) (fun _ _ h => h)
 have c10 : w1.cell? ⟨b, 10, none⟩ = some d.sv := hL1.rw.blk.cell 10
 rw [hsv] at c10
 have c7 : w1.cell? ⟨b, 7, none⟩ = some (.int .i64 (e.nextId : Int)) := hL1.rw.blk.cell 7
 have c6 : w1.cell? ⟨b, 6, none⟩ = some (.int .i64 (e.win : Int)) := hL1.rw.blk.cell 6
 have BB := hL1.rw.lt
 have hsz1 := hbel.size
 have HL1 := hide hL1
 have HT1 := hide Am
 have hNv : fZ w.heap.size d.ov v1 := by
  rw [uh HOV]
  exact hN1.mono (by simp)
 have HN1 := hide hNv
 have WJ := hide hbel
 clear hL1 Am hN1 hT1 hNv
 go_wp2_with fail
 refine (dU _ _).mono ?_
 rw [hnum]
 rintro r w2 ⟨rfl, rfl⟩
 clear hnum
 go_wp2_with fail
 go_cut [12] (fun u wc => ∃ p, u = .pointer (some ⟨p, 0, none⟩) ∧ w2.heap.size <= p ∧ Is wc p 173 (owV ⟨e.nextId, body, e.win, false⟩) ∧ Below w2.heap.size w2 wc)
 case first =>
  go_region_with (first | (go_at_call 70; refine (clone_any (bs body) _ (by omega)).mono ?_; rintro r w3 ⟨rfl, hb3⟩; have g7 := aK (bQ hb3) (b := b) (k := 7) BB c7; have g6 := aK (bQ hb3) (b := b) (k := 6) BB c6; have gl := kW (bQ hb3) BB))
  all_goals
   go_wp2_with fail
   go_meet
   have WL := bQ hb3
   have hs3 : w2.heap.size <= w3.heap.size := hb3.size
   exact ⟨w3.heap.size, rfl, hs3, Is.new w3 173 (owV ⟨e.nextId, body, e.win, false⟩), WL.alloc hs3 _⟩
 case rest =>
  obtain ⟨p, rfl, hp1, hIp, hb3⟩ := hcut
  have hL3 := (uh HL1).only (Only.of_below hb3 (fun _ => False)) (fun _ _ h => h)
  have qN := (uh HT1).below hb3
  have lJ : Below w.heap.size w wc := (uh WJ).trans (hb3.mono hsz1)
  have hsz3 := lJ.size
  have hpw : w.heap.size <= p := by omega
  have hbp : b ≠ p := by omega
  have hbw : b ≠ w.heap.size := by omega
  have hpt : p ≠ w.heap.size := fun e => by subst e; exact hIp.ne qN.blk (nbq rfl) rfl
  obtain ⟨ta, tn, tc, hv1, htn⟩ := bV qN.own
  clear htn
  subst hv1
  have t0 := qN.blk.cell 0
  have t1 := qN.blk.cell 1
  have t2 := qN.blk.cell 2
  simp only [List.getElem?_cons_zero, List.getElem?_cons_succ] at t0 t1 t2
  have htl := qN.blk.lt
  have e3 : wc.cell? ⟨b, 3, none⟩ = some aU := hL3.rw.blk.cell 3
  have e4 : wc.cell? ⟨b, 4, none⟩ = some (.int .i64 ((100 : Int) - Lk.weights e.out)) := hL3.rw.blk.cell 4
  have e5 : wc.cell? ⟨b, 5, none⟩ = some d.ov := hL3.rw.blk.cell 5
  have e7 : wc.cell? ⟨b, 7, none⟩ = some (.int .i64 (e.nextId : Int)) := hL3.rw.blk.cell 7
  have e10 : wc.cell? ⟨b, 10, none⟩ = some d.sv := hL3.rw.blk.cell 10
  rw [hsv] at e10
  have f3 := hL3.rw.blk.free 3
  have f4 := hL3.rw.blk.free 4
  have f5 := hL3.rw.blk.free 5
  have PM := hL3.rw.lt
  have hB4 := ((hL3.rw.blk.set 3 aU).set 4 (.int .i64 (((100 : Nat) : Int) - Lk.weights (Lk.squeeze 100 e.out l).2))).set 5 (.slice ta tn tc)
  have hO4 : Only (· = b) wc (((wc.setCell ⟨b, 3, none⟩ aU).setCell ⟨b, 4, none⟩ (.int .i64 (((100 : Nat) : Int) - Lk.weights (Lk.squeeze 100 e.out l).2))).setCell ⟨b, 5, none⟩ (.slice ta tn tc)) := (((Only.refl (· = b) wc).set b 3 _ (fun _ => rfl)).set b 4 _ (fun _ => rfl)).set b 5 _ (fun _ => rfl)
  have hR4 : Rw (((wc.setCell ⟨b, 3, none⟩ aU).setCell ⟨b, 4, none⟩ (.int .i64 (((100 : Nat) : Int) - Lk.weights (Lk.squeeze 100 e.out l).2))).setCell ⟨b, 5, none⟩ (.slice ta tn tc)) b { fH e d with LJ := ((100 : Nat) : Int) - Lk.weights (Lk.squeeze 100 e.out l).2, ov := .slice ta tn tc } d.fs := hL3.rw.cell hB4 hO4 rfl
  have Tq := ag hL3.sl hO4 (fun x hx e => (hL3.fQ x (.inl e)).2.2.1 hx)
  rw [hsv] at Tq
  have HF4 := hide (⟨hR4, Tq, hO4, hL3, qN, hIp, lJ⟩ : _ ∧ _ ∧ _ ∧ _ ∧ _ ∧ _ ∧ _)
  clear hB4 hO4 hR4 hL3 qN hIp lJ hb3
  go_wp2_with (at_builtin; refine wpList_append_lies _ rfl _ _ 91 rfl 0 169 ti _ 1 8 Tryz.underlying91 hti hz0 hz1 hz2 rfl (by decide) _ d.ps.length (d.ps.map ptr) rfl (Tq.alloc _) ⟨wc.heap.size, 0, none⟩ 1 1 [ptr p] rfl rfl ?hnews ?h1 (by decide) ?h63 ?hby ?hba _ rfl ?_)
  case hnews => exact fun j u h => h
  case h1 => simp [Value.oneCell', ptr]
  case h63 => unfold maxLen; omega
  case hby => omega
  intro g1 cap1 w5 ho5 hg5 QK Tt
  obtain ⟨hR4, _, hO4, hL3, qN, hIp, lJ⟩ := uh HF4
  have hO5 : Only (fun x => d.sv.ownBlock = some x) (((wc.setCell ⟨b, 3, none⟩ aU).setCell ⟨b, 4, none⟩ (.int .i64 (((100 : Nat) : Int) - Lk.weights (Lk.squeeze 100 e.out l).2))).setCell ⟨b, 5, none⟩ (.slice ta tn tc)) w5 := ((Only.refl _ _).alloc (.cells #[ptr p] 169)).grown hg5 (fun x hx _ => by rw [hsv]; exact hx)
  have hsb : d.sv.ownBlock ≠ some b := (hL3.fQ b (.inl rfl)).2.2.1
  have hR5 := hR4.only hO5 hsb (fun r hr => (hL3.fQ r (.inr hr)).2.2.1)
  have Tu := (hIp.only hO4 (fun e => hbp e.symm)).only hO5 (fun e => own_ne hL3.sl hIp (nbq rfl) e.symm)
  have g10 : w5.cell? ⟨b, 10, none⟩ = some d.sv := hR5.blk.cell 10
  rw [hsv] at g10
  have g7 : w5.cell? ⟨b, 7, none⟩ = some (.int .i64 (e.nextId : Int)) := hR5.blk.cell 7
  have q10 := hR5.blk.free 10
  have q7 := hR5.blk.free 7
  have Vf := hR5.lt
  have p0 := Tu.cell 0
  simp only [owV, List.getElem?_cons_zero] at p0
  have X4 := Tu.lt
  have hO6 : Only (· = b) w5 ((w5.setCell ⟨b, 10, none⟩ (.slice (some ⟨g1, 0, none⟩) (d.ps.length + 1) cap1)).setCell ⟨b, 7, none⟩ (.int .i64 ((e.nextId : Int) + 2))) := ((Only.refl (· = b) w5).set b 10 _ (fun _ => rfl)).set b 7 _ (fun _ => rfl)
  have hR6 : Rw ((w5.setCell ⟨b, 10, none⟩ (.slice (some ⟨g1, 0, none⟩) (d.ps.length + 1) cap1)).setCell ⟨b, 7, none⟩ (.int .i64 ((e.nextId : Int) + 2))) b { fH e d with LJ := ((100 : Nat) : Int) - Lk.weights (Lk.squeeze 100 e.out l).2, ov := .slice ta tn tc, sv := .slice (some ⟨g1, 0, none⟩) (d.ps.length + 1) cap1, next := (e.nextId : Int) + 2 } d.fs :=
   hR5.cell ((hR5.blk.set 10 (.slice (some ⟨g1, 0, none⟩) (d.ps.length + 1) cap1)).set 7 (.int .i64 ((e.nextId : Int) + 2))) hO6 rfl
  have QL := Tu.only hO6 (fun e => hbp e.symm)
  have p06 := QL.cell 0
  simp only [owV, List.getElem?_cons_zero] at p06
  have HF6 := hide (⟨hR6, QL, hO6, hO5, ho5, QK, Tt⟩ : _ ∧ _ ∧ _ ∧ _ ∧ _ ∧ _ ∧ _)
  clear hR4 hO4 hL3 qN hIp lJ hO5 hR5 Tu hO6 hR6 QL ho5 QK Tt hg5 Tq
  go_wp2_with fail
  refine (fC b _ d.fs ⟨0, e.nextId, S⟩ _ (uh HF6).1).mono ?_
  rintro r w7 ⟨rfl, m, hm, hR7, hO7⟩
  obtain ⟨hR6, QL, hO6, hO5, ho5, QK, Tt⟩ := uh HF6
  have Vg : p ≠ b ∧ p ∉ d.rs := by
   refine ⟨fun e => hbp e.symm, fun hr => ?_⟩
   have := (uh HL).rw.row.lt p hr
   omega
  have QM := QL.only hO7 (fun hx => by
   rcases hx with hx | hx
   . exact Vg.1 hx
   . exact Vg.2 hx)
  have p07 := QM.cell 0
  simp only [owV, List.getElem?_cons_zero] at p07
  have X5 := QM.lt
  have HF7 := hide (⟨hR7, QM, hO7, hm⟩ : _ ∧ _ ∧ _ ∧ _)
  clear hR6 QL hO6 hO5 ho5 QK Tt hR7 QM hO7 hm
  go_wp2_with fail
  go_ret2
  refine ⟨rfl, ?_⟩
  obtain ⟨hR6, _, hO6, hO5, ho5, QK, _⟩ := uh HF6
  obtain ⟨hR7, QM, hO7, hm⟩ := uh HF7
  obtain ⟨hR4, _, hO4, hL3, qN, hIp, lJ⟩ := uh HF4
  exact GM (uh HL) (uh HS) (uh HSN) hsv (uh HN1) hpw hbp lJ hL3 qN hO4 hO5 ho5 QK hO6 QM hR7 hO7 hm (uh HSM) hni h4 Ve hW
theorem GN (b : Nat) (e : Lk.En) (d : PD) (lv : Value) (body : ByteArray) (w : World) (hL : Live w b e d) (hdn : e.down = 0) (hby : (e.iH || e.oK) = true) :
 Calls Tryz.prog 19 #[.pointer (some ⟨b, 0, none⟩), lv, .string body] w fun r w' => r = .returned (.tuple #[.int .i64 0, .int .i64 12, .int .i64 0]) ∧ w' = w := by
 have hbl := hL.rw.lt
 have c2 : w.cell? ⟨b, 2, none⟩ = some (.int .i64 0) := hL.c2 hdn
 clear hdn
 have c20 : w.cell? ⟨b, 20, none⟩ = some (.bool e.iH) := hL.rw.blk.cell 20
 have c21 : w.cell? ⟨b, 21, none⟩ = some (.bool e.oK) := hL.rw.blk.cell 21
 clear hL
 cases hs : e.iH with
 | true =>
   rw [hs] at c20
   clear hby hs
   go_enter Tryz.func19, Tryz.ntmps19
   go_wp2_with fail
   refine (bJ b 0 w hbl c2).mono ?_
   rintro r w1 ⟨rfl, rfl⟩
   go_wp2_with fail
   go_ret3
   exact ⟨rfl, rfl⟩
 | false =>
   rw [hs] at hby c20
   simp only [Bool.false_or] at hby
   rw [hby] at c21
   clear hby hs
   go_enter Tryz.func19, Tryz.ntmps19
   go_wp2_with fail
   refine (bJ b 0 w hbl c2).mono ?_
   rintro r w1 ⟨rfl, rfl⟩
   go_wp2_with fail
   go_ret3
   exact ⟨rfl, rfl⟩
theorem Ap (b B1 : Nat) (e : Lk.En) (d : PD) (l : List Lk.Hd) (lv : Value) (body : ByteArray) (w : World) (hL : Live w b e d) (hdn : e.down = 0) (hbs : e.iH = false) (hbc : e.oK = false) (hw : (Lk.wrong l).1 ≠ 0) (own : w.ownsRow B1 112 2 lv l.length (aQ l)) :
 Calls Tryz.prog 19 #[.pointer (some ⟨b, 0, none⟩), lv, .string body] w fun r w' => r = .returned (.tuple #[.int .i64 0, .int .i64 (Lk.wrong l).1, .int .i64 (Lk.wrong l).2]) ∧ Below w.heap.size w w' := by
 have hbl := hL.rw.lt
 have c2 : w.cell? ⟨b, 2, none⟩ = some (.int .i64 0) := hL.c2 hdn
 clear hdn
 have c20 : w.cell? ⟨b, 20, none⟩ = some (.bool e.iH) := hL.rw.blk.cell 20
 have c21 : w.cell? ⟨b, 21, none⟩ = some (.bool e.oK) := hL.rw.blk.cell 21
 rw [hbs] at c20
 rw [hbc] at c21
 have HA := hide (iJ B1 lv l w own)
 generalize hE1 : (Lk.wrong l).1 = E at *
 generalize hE2 : (Lk.wrong l).2 = E2 at *
 have hE : ((E : Int) != 0) = true := by rw [bne_iff_ne]; omega
 clear hL hbs hbc hw own hE1 hE2
 go_enter Tryz.func19, Tryz.ntmps19
 go_wp2_with fail
 refine (bJ b 0 w hbl c2).mono ?_
 rintro r w1 ⟨rfl, rfl⟩
 go_wp2_with fail
 refine (uh HA).mono ?_
 rintro r w2 ⟨rfl, hb2⟩
 go_wp2_with fail
 go_ret3
 exact ⟨rfl, hb2⟩
theorem tZ (b B1 : Nat) (e : Lk.En) (d : PD) (l : List Lk.Hd) (lv : Value) (body : ByteArray) (n ec : Int) (Q : World -> World -> Prop) (w : World) (hL : Live w b e d) (hdn : e.down = 0) (hbs : e.iH = false) (hbc : e.oK = false) (hw : (Lk.wrong l).1 = 0) (own : w.ownsRow B1 112 2 lv l.length (aQ l))
 (hgo : ∀ W, Below w.heap.size w W -> Calls Tryz.prog 44 #[.pointer (some ⟨b, 3, none⟩), lv, .string body, oN b] W fun r w' => r = .returned (.tuple #[.int .i64 n, .int .i64 ec]) ∧ Q W w') :
 Calls Tryz.prog 19 #[.pointer (some ⟨b, 0, none⟩), lv, .string body] w fun r w' => r = .returned (.tuple #[.int .i64 n, .int .i64 ec, .int .i64 0]) ∧ ∃ W, Below w.heap.size w W ∧ Q W w' := by
 have hbl := hL.rw.lt
 have c2 : w.cell? ⟨b, 2, none⟩ = some (.int .i64 0) := hL.c2 hdn
 clear hdn
 have c20 : w.cell? ⟨b, 20, none⟩ = some (.bool e.iH) := hL.rw.blk.cell 20
 have c21 : w.cell? ⟨b, 21, none⟩ = some (.bool e.oK) := hL.rw.blk.cell 21
 rw [hbs] at c20
 rw [hbc] at c21
 have HA := hide (iJ B1 lv l w own)
 have h2 : (Lk.wrong l).2 = 0 ∨ True := .inr trivial
 generalize hE1 : (Lk.wrong l).1 = E at *
 generalize hE2 : (Lk.wrong l).2 = E2 at *
 subst hw
 have HGO := hide hgo
 clear hL hbs hbc own hE1 hE2 hgo h2
 unfold oN at HGO
 go_enter Tryz.func19, Tryz.ntmps19
 go_wp2_with fail
 refine (bJ b 0 w hbl c2).mono ?_
 rintro r w1 ⟨rfl, rfl⟩
 go_wp2_with fail
 refine (uh HA).mono ?_
 rintro r w2 ⟨rfl, hb2⟩
 have Oy : b < w2.heap.size := by have := hb2.size; omega
 go_wp2_with fail
 go_cut [11, 12] (fun u v wc => u = .int .i64 n ∧ v = .int .i64 ec ∧ ∃ W, Below w1.heap.size w1 W ∧ Q W wc)
 case first =>
  go_region_with (first | (go_at_call 44; refine (uh HGO w2.drew (Below.drew hb2)).mono ?_; rintro r w3 ⟨rfl, hq⟩))
  all_goals
   go_wp2_with fail
   go_meet
   exact ⟨rfl, rfl, w2.drew, Below.drew hb2, hq⟩
 case rest =>
  obtain ⟨rfl, rfl, hq⟩ := hcut
  go_wp2_with fail
  go_ret3
  exact ⟨rfl, hq⟩
theorem bf.before {w W w' : World} {b : Nat} {d : PD} {e' : Lk.En} (hb : Below w.heap.size w W) (h : bf W b d e' w') : bf w b d e' w' := by
 obtain ⟨d', h1, h2, h3⟩ := h
 exact ⟨d', h1, fun i hi => (h2 i hi).imp id (fun h => Nat.le_trans hb.size h), (Only.of_below hb _).trans h3 (fun i hi _ => hi)⟩
theorem bf.below {w w' : World} {b : Nat} {e : Lk.En} {d : PD} (h : Live w b e d) (hb : Below w.heap.size w w') : bf w b d e w' := ⟨d, h.only (Only.of_below hb (fun _ => False)) (fun _ _ h => h), fun _ hi => .inl hi, Only.of_below hb _⟩
theorem GR (b B1 : Nat) (e : Lk.En) (d : PD) (l : List Lk.Hd) (lv : Value) (body : ByteArray) (w : World) (hL : Live w b e d) (hdn : e.down = 0) (hfx : Fx w) (own : w.ownsRow B1 112 2 lv l.length (aQ l)) :
 Calls Tryz.prog 19 #[.pointer (some ⟨b, 0, none⟩), lv, .string body] w fun r w' => r = .returned (.tuple #[.int .i64 ((e.aW l body.data.toList).1.1 : Int), .int .i64 ((e.aW l body.data.toList).1.2.1 : Int), .int .i64 ((e.aW l body.data.toList).1.2.2 : Int)]) ∧ bf w b d (e.aW l body.data.toList).2 w' := by
 have hW := hL.wf.aW l body.data.toList
 have hsz := af body
 have h0 := hfx.1
 unfold Lk.En.aW at hW ⊢
 rw [if_neg (by rw [hdn]; simp)] at hW ⊢
 by_cases hby : (e.iH || e.oK) = true
 . rw [if_pos hby]
   refine (GN b e d lv body w hL hdn hby).mono ?_
   rintro r w' ⟨rfl, rfl⟩
   exact ⟨rfl, bf.same hL⟩
 . rw [if_neg hby] at hW ⊢
   have hbs : e.iH = false := by
    cases h : e.iH with
    | false => rfl
    | true => exact absurd (by rw [h]; rfl) hby
   have hbc : e.oK = false := by
    cases h : e.oK with
    | false => rfl
    | true => exact absurd (by rw [h, Bool.or_true]) hby
   by_cases hw : (Lk.wrong l).1 ≠ 0
   . rw [if_pos hw]
     refine (Ap b B1 e d l lv body w hL hdn hbs hbc hw own).mono ?_
     rintro r w' ⟨rfl, hb⟩
     exact ⟨rfl, bf.below hL hb⟩
   . rw [if_neg hw] at hW ⊢
     have hw0 : (Lk.wrong l).1 = 0 := by omega
     have hLW := fun W (hb : Below w.heap.size w W) => hL.only (Only.of_below hb (fun _ => False)) (fun _ _ h => h)
     by_cases hlg : 64 < (Lk.squeeze 100 e.out l).1.length ∨ 300 < body.data.toList.length
     . rw [if_pos hlg]
       refine (tZ b B1 e d l lv body 0 5 (fun W w' => Below W.heap.size W w') w hL hdn hbs hbc hw0 own (fun W hb => Dc b B1 e d l lv body W (hLW W hb) (hfx.below hb h0) hw0 (own_below own hb) (by omega))).mono ?_
       rintro r w' ⟨rfl, W, hb, hq⟩
       exact ⟨rfl, bf.below hL (hb.trans (hq.mono hb.size))⟩
     . rw [if_neg hlg] at hW ⊢
       have hbz : e.busy = d.ps.length := hL.outs.len
       have h4 := hL.ps4
       by_cases hfu : 4 <= e.busy ∨ 268435455 < e.nextId
       . rw [if_pos hfu]
         refine (tZ b B1 e d l lv body 0 11 (fun W w' => Below W.heap.size W w') w hL hdn hbs hbc hw0 own (fun W hb => GK b B1 e d l lv body W (hLW W hb) (hfx.below hb h0) hw0 (own_below own hb) (by omega) (by omega))).mono ?_
         rintro r w' ⟨rfl, W, hb, hq⟩
         exact ⟨rfl, bf.below hL (hb.trans (hq.mono hb.size))⟩
       . rw [if_neg hfu] at hW ⊢
         have e1 : body = bs body.data.toList := by simp [bs]
         refine (tZ b B1 e d l lv body e.nextId 0 (fun W w' => bf W b d (qB e l body.data.toList) w') w hL hdn hbs hbc hw0 own (fun W hb => ?_)).mono ?_
         . have := Nj b B1 e d l lv body.data.toList W (hLW W hb) (hfx.below hb h0) hw0 (own_below own hb) hlg (by omega) hW
           rw [<- e1] at this
           exact this
         . rintro r w' ⟨rfl, W, hb, hq⟩
           exact ⟨rfl, hq.before hb⟩
theorem PY : (Tryz.prog.info? 116).map (fun i => (i.zero, i.size, i.bytes)) = some (some (.agg #[.int .i64 0, .int .i64 0, .int .i64 0, .slice none 0 0, .string ⟨#[]⟩]), 5, 64) := by kernel_rfl
abbrev EvH := Lk.Ev × Value
def evV (p : EvH) : List Value := [.int .i64 (p.1.k : Int), .int .i64 (p.1.st : Int), .int .i64 (p.1.n : Int), p.2, .string (bs p.1.t)]
def nH (l : List EvH) : List Value := l.flatMap evV
abbrev evA (p : EvH) : Value := .agg #[.int .i64 (p.1.k : Int), .int .i64 (p.1.st : Int), .int .i64 (p.1.n : Int), p.2, .string (bs p.1.t)]
theorem Df (a b : List EvH) : nH (a ++ b) = nH a ++ nH b := by simp [nH]
def dO (g : Nat) : Value := .func (.func 47) #[] #[.pointer (some ⟨g, 0, none⟩)]
structure Told (w : World) (g B : Nat) (v : Value) (evs : List EvH) : Prop where
 box : Is w g 62 [v]
 row : w.ownsRow B 116 5 v evs.length (nH evs)
 hds : ∀ p ∈ evs, w.ownsRow B 112 2 p.2 p.1.hs.length (aQ p.1.hs)
 apart : evs.Pairwise fun p q => p.2.ownBlock = none ∨ p.2.ownBlock ≠ q.2.ownBlock
def aN (g : Nat) (v : Value) (evs : List EvH) (i : Nat) : Prop := i = g ∨ v.ownBlock = some i ∨ ∃ p ∈ evs, p.2.ownBlock = some i
theorem Told.only {S : Nat -> Prop} {w w' : World} {g B : Nat} {v : Value} {evs : List EvH} (h : Told w g B v evs) (k : Only S w w') (hn : ∀ i, aN g v evs i -> ¬ S i) : Told w' g B v evs :=
 ⟨h.box.only k (hn g (.inl rfl)), ag h.row k (fun i hi => hn i (.inr (.inl hi))), fun p hp => ag (h.hds p hp) k (fun i hi => hn i (.inr (.inr ⟨p, hp, hi⟩))), h.apart⟩
theorem Told.lt {w : World} {g B : Nat} {v : Value} {evs : List EvH} (h : Told w g B v evs) : ∀ i, aN g v evs i -> i < w.heap.size := by
 intro i hi
 rcases hi with rfl | hi | ⟨p, hp, hi⟩
 . exact h.box.lt
 . exact (h.row.lt i hi).2
 . exact ((h.hds p hp).lt i hi).2
theorem Nk (g B : Nat) (v : Value) (evs : List EvH) (p : EvH) (w : World) (hT : Told w g B v evs) (hB : B <= w.heap.size) (hl : evs.length <= 2 ^ 40) (hp : w.ownsRow B 112 2 p.2 p.1.hs.length (aQ p.1.hs)) (hap : ∀ q ∈ evs, q.2.ownBlock = none ∨ q.2.ownBlock ≠ p.2.ownBlock) :
 Calls Tryz.prog 47 #[evA p, .pointer (some ⟨g, 0, none⟩)] w fun e w' => e = .returned (.tuple #[]) ∧ ∃ v', Told w' g B v' (evs ++ [p]) ∧ (v'.ownBlock = v.ownBlock ∨ ∀ k, v'.ownBlock = some k -> w.heap.size <= k) ∧ Only (fun i => i = g ∨ v.ownBlock = some i) w w' := by
 obtain ⟨i, hi, hz0, hz1, hz2⟩ := info_parts PY
 have c0 := hT.box.cell 0
 simp only [List.getElem?_cons_zero] at c0
 have hgl := hT.box.lt
 obtain ⟨va, vn, oM, hv, hvn⟩ := bV hT.row
 clear hvn
 subst hv
 obtain ⟨pa, pn, Vh, hpv, hpn⟩ := bV hp
 clear hpn
 have hO0 : Only (fun _ => False) w ((w.alloc (.cells (evV p).toArray 116)).alloc (.cells (evV p).toArray 116)) := ((Only.refl _ w).alloc _).alloc _
 have hT0 := hT.only hO0 (fun _ _ h => h)
 have HF := hide (⟨hT, hT0, hp, hO0, hap⟩ : _ ∧ _ ∧ _ ∧ _ ∧ _)
 clear hT hT0 hp hap hO0
 unfold evV at HF
 obtain ⟨⟨ek, est, en, ehs, et⟩, ph⟩ := p
 simp only at hpv
 subst hpv
 go_enter Tryz.func47, Tryz.ntmps47
 go_wp2_with (at_builtin; refine wpList_append_lies _ rfl _ _ 62 rfl B 116 i _ 5 64 Tryz.underlying62 hi hz0 hz1 hz2 rfl (by decide) _ evs.length (nH evs) rfl (uh HF).2.1.row ⟨w.heap.size + 1, 0, none⟩ 1 1 [.int .i64 (ek : Int), .int .i64 (est : Int), .int .i64 (en : Int), .slice pa pn Vh, .string (bs et)] rfl rfl ?hnews ?h1 (by decide) ?h63 ?hby ?hba _ rfl ?_)
 case h1 => simp [Value.oneCell']
 case h63 => unfold maxLen; omega
 case hby => omega
 case hba => first | omega | (simp; omega)
 intro g1 cap1 w3 ho3 hg3 OE hlt3
 obtain ⟨hT, hT0, hp, hO0, hap⟩ := uh HF
 have hO3 : Only (fun i => (Value.slice va vn oM).ownBlock = some i) w w3 := (hO0.mono (fun _ h => h.elim)).grown hg3 (fun i hi _ => hi)
 have GU := hT.box.only hO3 (fun e => own_ne hT.row hT.box (nbq rfl) e.symm)
 have hhd : ∀ (q : Value) (n : Nat) (xs : List Value), w.ownsRow B 112 2 q n xs -> w3.ownsRow B 112 2 q n xs := fun q n xs ho => ag ho hO3 (fun x hx hy => by
  rcases oP ho hT.row (nbq rfl) with h | h
  . rw [h] at hx; cases hx
  . exact h (hx.trans hy.symm))
 have hgg : g1 ≠ g := fun e => by
  subst e
  have hI : Is w3 g1 62 _ := GU
  exact own_ne ho3 hI (nbq rfl) rfl
 have hO4 : Only (· = g) w3 (w3.setCell ⟨g, 0, none⟩ (.slice (some ⟨g1, 0, none⟩) (evs.length + 1) cap1)) := (Only.refl (· = g) w3).set g 0 _ (fun _ => rfl)
 have hfin : Told (w3.setCell ⟨g, 0, none⟩ (.slice (some ⟨g1, 0, none⟩) (evs.length + 1) cap1)) g B (.slice (some ⟨g1, 0, none⟩) (evs.length + 1) cap1) (evs ++ [(⟨ek, est, en, ehs, et⟩, .slice pa pn Vh)]) := by
  have Vj : ∀ (q : Value) (n : Nat) (xs : List Value), w.ownsRow B 112 2 q n xs -> (w3.setCell ⟨g, 0, none⟩ (.slice (some ⟨g1, 0, none⟩) (evs.length + 1) cap1)).ownsRow B 112 2 q n xs := fun q n xs ho => ag (hhd q n xs ho) hO4 (fun x hx e => by subst e; exact own_ne ho hT.box (nbq rfl) hx.symm)
  refine ⟨GU.set 0 _, ?_, fun q hq => ?_, ?_⟩
  . have := ag ho3 hO4 (fun x hx e => hgg (by simpa [Value.ownBlock] using hx.trans (congrArg some e)))
    rw [Df]
    simpa [nH, evV] using this
  . rcases List.mem_append.1 hq with hq | hq
    . exact Vj _ _ _ (hT.hds q hq)
    . simp at hq
      subst hq
      exact Vj _ _ _ hp
  . refine List.pairwise_append.2 ⟨hT.apart, by simp, fun a ha q hq => ?_⟩
    simp at hq
    subst hq
    exact hap a ha
 have hO5 : Only (fun i => i = g ∨ (Value.slice va vn oM).ownBlock = some i) w (w3.setCell ⟨g, 0, none⟩ (.slice (some ⟨g1, 0, none⟩) (evs.length + 1) cap1)) := (hO3.mono (fun i hi => .inr hi)).trans hO4 (fun i hi _ => .inl hi)
 have hw : (Value.slice (some ⟨g1, 0, none⟩) (evs.length + 1) cap1).ownBlock = (Value.slice va vn oM).ownBlock ∨ ∀ k, (Value.slice (some ⟨g1, 0, none⟩) (evs.length + 1) cap1).ownBlock = some k -> w.heap.size <= k := by
  rcases OE with h | h
  . exact .inl (by rw [h]; rfl)
  . refine .inr (fun k hk => ?_)
    have : g1 = k := by simpa [Value.ownBlock] using hk
    omega
 have c0 := GU.cell 0
 have f0 := GU.free 0
 have X6 := GU.lt
 simp only [List.getElem?_cons_zero] at c0
 have HX := hide (⟨hfin, hw, hO5⟩ : _ ∧ _ ∧ _)
 clear hT hT0 hp hO0 hap hO3 GU hhd hO4 hfin hO5 hw ho3 hg3 OE
 go_wp2_with fail
 go_end0
 obtain ⟨hfin, hw, hO5⟩ := uh HX
 exact ⟨rfl, _, hfin, hw, hO5⟩
end Go.Proofs.YtbkpdapagfjmmaaGreatDoor
