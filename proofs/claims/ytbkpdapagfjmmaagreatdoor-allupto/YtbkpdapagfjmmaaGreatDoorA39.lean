import Derived.Test.YtbkpdapagfjmmaaGreatDoorA38
set_option linter.unusedVariables false
set_option maxRecDepth 100000
set_option maxHeartbeats 16000000
namespace Go.Proofs.YtbkpdapagfjmmaaGreatDoor
open Go.RowKit
theorem uF (Ba Bb ga gb ca cb : Nat) (ea eb : List EvH) (w : World) (hm : ea.map Prod.fst = eb.map Prod.fst) (hl : ea.length <= 2 ^ 41) (hs : ∀ q ∈ ea, q.1.hs.length <= 1000) (ha : Said w Ba (.slice (some ⟨ga, 0, none⟩) ea.length ca) ea) (hb : RSaid w Bb (.slice (some ⟨gb, 0, none⟩) ea.length cb) eb) :
 Calls Tryz.prog 109 #[.slice (some ⟨ga, 0, none⟩) ea.length ca, .slice (some ⟨gb, 0, none⟩) ea.length cb] w fun r w' => r = .returned (.bool true) ∧ ∃ n, w' = w.drewN n := by
 have Ji := hide (⟨hm, hs, ha, hb⟩ : _ ∧ _ ∧ _ ∧ _)
 clear hm hs ha hb
 go_enter Tryz.func109, Tryz.ntmps109
 go_wp2_with fail
 go_loopw [5] (fun u wr => ∃ k : Nat, u = .int .i64 k ∧ k <= ea.length ∧ Hid (∃ n, wr = w.drewN n)) (fun u _ => ea.length - (intOf u).toNat)
 case atStart => exact ⟨0, rfl, by omega, hide ⟨0, rfl⟩⟩
 case round =>
  obtain ⟨k, rfl, hk, HN⟩ := hrel
  by_cases hlt : k < ea.length
  . have hlt' : (k : Int) < ea.length := by omega
    obtain ⟨hm, hs, ha, hb⟩ := uh Ji
    have hbw : Below w.heap.size w wr := by obtain ⟨n, rfl⟩ := uh HN; exact ⟨rfl, rfl, rfl, Nat.le_refl _, fun _ _ => rfl⟩
    have ha := ha.only (Only.of_below hbw (fun _ => False)) (fun _ _ x => x)
    have hb := hb.only (Only.of_below hbw (fun _ => False)) (fun _ _ x => x)
    obtain ⟨x, hx⟩ : ∃ x, ea[k]? = some x := ⟨_, List.getElem?_eq_getElem hlt⟩
    have hle : eb.length = ea.length := by have := congrArg List.length hm; simpa using this.symm
    obtain ⟨y, hy⟩ : ∃ y, eb[k]? = some y := ⟨_, List.getElem?_eq_getElem (by omega)⟩
    have hxy : x.1 = y.1 := by
     have := congrArg (fun l => l[k]?) hm
     simpa [hx, hy] using this
    have hx1 : x ∈ ea := List.mem_of_getElem? hx
    have hy1 : y ∈ eb := List.mem_of_getElem? hy
    obtain ⟨ga', ca', he1, _, Xm, hcap1, hc1, _⟩ := ed evV (fun _ => rfl) ha.row hx
    obtain ⟨gb', cb', he2, _, UX, hcap2, hc2, _⟩ := ed evV (fun _ => rfl) hb.row hy
    cases he1
    rw [hle] at he2
    injection he2 with j1 j2 j3
    injection j1 with j1
    injection j1 with j1
    subst j1 j3
    have a0 : wr.cell? ⟨ga, k * 5, none⟩ = some (.int .i64 (x.1.k : Int)) := hc1 0 (by omega)
    have a1 : wr.cell? ⟨ga, k * 5 + 1, none⟩ = some (.int .i64 (x.1.st : Int)) := hc1 1 (by omega)
    have a2 : wr.cell? ⟨ga, k * 5 + 2, none⟩ = some (.int .i64 (x.1.n : Int)) := hc1 2 (by omega)
    have a3 : wr.cell? ⟨ga, k * 5 + 3, none⟩ = some x.2 := hc1 3 (by omega)
    have a4 : wr.cell? ⟨ga, k * 5 + 4, none⟩ = some (.string (bs x.1.t)) := hc1 4 (by omega)
    have b0 : wr.cell? ⟨gb, k * 5, none⟩ = some (.int .i64 (y.1.k : Int)) := hc2 0 (by omega)
    have b1 : wr.cell? ⟨gb, k * 5 + 1, none⟩ = some (.int .i64 (y.1.st : Int)) := hc2 1 (by omega)
    have b2 : wr.cell? ⟨gb, k * 5 + 2, none⟩ = some (.int .i64 (y.1.n : Int)) := hc2 2 (by omega)
    have b3 : wr.cell? ⟨gb, k * 5 + 3, none⟩ = some y.2 := hc2 3 (by omega)
    have b4 : wr.cell? ⟨gb, k * 5 + 4, none⟩ = some (.string (bs y.1.t)) := hc2 4 (by omega)
    rw [<- hxy] at b0 b1 b2 b4
    have hyh := hb.hds y hy1
    rw [<- hxy] at hyh
    have hxh := ha.hds x hx1
    obtain ⟨xa, xc, hx2⟩ := aJ hxh
    obtain ⟨ya, yc, hy2⟩ := aJ hyh
    rw [hx2] at a3 hxh
    rw [hy2] at b3 hyh
    have HSH := hide (fun n => ig Ba Bb _ _ x.1.hs (wr.drewN n) (hs x hx1) (own_below hxh ⟨rfl, rfl, rfl, Nat.le_refl _, fun _ _ => rfl⟩) (own_below hyh ⟨rfl, rfl, rfl, Nat.le_refl _, fun _ _ => rfl⟩))
    have hcapb : ea.length <= cb := by omega
    clear hbw hm hs ha hb hx hy hle hxy hx1 hy1 hc1 hc2 hxh hyh hx2 hy2
    obtain ⟨⟨xk, xst, xn, xhs, xt⟩, xv⟩ := x
    simp only at a0 a1 a2 a4 b0 b1 b2 b4 HSH
    clear Xm hcap2
    go_wp2_with fail
    go_quiet ((go_at_call 64; exact Calls.quiet_of (uh HSH _)))
    go_wp2_with fail
    go_quiet (fail)
    go_wp2_with fail
    go_roundw
    case rel =>
     obtain ⟨n, rfl⟩ := uh HN
     exact ⟨k + 1, by simp, by omega, hide ⟨_, World.drewN_drewN _ _ _⟩⟩
    case measure => simp [intOf]; omega
  . have hlt' : ¬ (k : Int) < ea.length := by omega
    go_wp2_with fail
    go_ret
    exact ⟨rfl, uh HN⟩
theorem vk (Ba Bb : Nat) (va vb : Value) (ea eb : List EvH) (w : World) (hm : ea.map Prod.fst = eb.map Prod.fst) (hl : ea.length <= 2 ^ 41) (hs : ∀ q ∈ ea, q.1.hs.length <= 1000) (ha : Said w Ba va ea) (hb : RSaid w Bb vb eb) :
 Calls Tryz.prog 109 #[va, vb] w fun r w' => r = .returned (.bool true) ∧ ∃ n, w' = w.drewN n := by
 have hle : eb.length = ea.length := by have := congrArg List.length hm; simpa using this.symm
 by_cases h0 : ea.length = 0
 . obtain ⟨aa, ac, rfl⟩ := aJ ha.row
   obtain ⟨ba, bc, rfl⟩ := aJ hb.row
   rw [hle, h0]
   clear hm hl hs ha hb hle h0
   go_enter Tryz.func109, Tryz.ntmps109
   go_wp2_with fail
   refine wp_loop_rounds 1 ?_
   rw [rounds_succ]
   go_wp2_with fail
   go_ret
   exact ⟨rfl, 0, rfl⟩
 . obtain ⟨x, hx⟩ : ∃ x, ea[0]? = some x := ⟨_, List.getElem?_eq_getElem (by omega)⟩
   obtain ⟨y, hy⟩ : ∃ y, eb[0]? = some y := ⟨_, List.getElem?_eq_getElem (by omega)⟩
   obtain ⟨ga, ca, rfl, _⟩ := ed evV (fun _ => rfl) ha.row hx
   obtain ⟨gb, cb, rfl, _⟩ := ed evV (fun _ => rfl) hb.row hy
   rw [hle] at hb ⊢
   exact uF Ba Bb ga gb ca cb ea eb w hm hl hs ha hb
theorem EP.op {G : EG} {S : EV} {w : World} (h : EP G S w) (i : Nat) (hi : w.heap.size <= i) : ¬ mf G S i := fun hx => by have := h.at_ hx; omega
def EV.to (S : EV) (k : Nat) (e' : Lk.En) (d' : PD) (p' : RP) : EV := { S with e := Lk.up2 S.e k e', f := Lk.up2 S.f k e', d := Lk.up2 S.d k d', p := Lk.up2 S.p k p' }
theorem Bg (G : EG) (S : EV) (k : Nat) (t : ByteArray) (w : World) (h : EP G S w) (hk : k < 2) (hef : S.f k = S.e k) (ht : t.size <= 2 ^ 39) (hrow : (S.e k).row.length <= 2 ^ 39) :
 Calls Tryz.prog 66 #[.pointer (some ⟨G.M, 0, none⟩), .string t, .int .i64 k] w fun r w' => r = .returned (.bool true) ∧ ∃ d' p', df G S w (S.to k ((S.e k).feed t.data.toList).2 d' p') w' := by
 have HFE := hide (Sl (S.eb k) (S.e k) (S.d k) t w (h.pe k hk) h.fx ht)
 have m4 : w.cell? ⟨G.M, 4, none⟩ = some (.slice (some ⟨G.gE, 0, none⟩) 2 G.cE) := h.made.cell 4
 have eK := dQ h.ve hk
 have ml := h.made.lt
 have el : G.gE < w.heap.size := by obtain ⟨_, hx⟩ := h.ve; exact hx.lt
 obtain ⟨hc1, hc2, hc3⟩ := h.cap
 have hk2 : (k : Int) < 2 := by omega
 have hk0 : (0 : Int) <= k := by omega
 have HSZ := hide (⟨ht, hrow, hef⟩ : _ ∧ _ ∧ _)
 have hlen := (S.e k).MG t.data.toList
 have hok := (S.e k).xP t.data.toList
 have hwf := (h.pe k hk).wf
 have h72 : (S.e k).rest.length <= 72 := by
  have := Lk.lW (S.e k).rest (by rw [hwf.rest])
  rw [hwf.rest] at this
  exact this
 have Vy : ((S.e k).feed t.data.toList).1.length <= 2 ^ 41 := by
  have : t.data.toList.length = t.size := by rw [af]
  omega
 have HEV := hide (⟨Vy, hok⟩ : _ ∧ _)
 have HH := hide h
 generalize hFF : (S.e k).feed t.data.toList = FF at *
 clear h ht hrow hef hlen hok hwf h72 Vy
 have HFF := hide hFF
 clear hFF
 go_enter Tryz.func66, Tryz.ntmps66
 go_wp2_with fail
 refine (uh HFE).mono ?_
 rintro r w1 ⟨v, rfl, d1, evs, hm1, hPE, Bh, hsa, hft, hO⟩
 have h := uh HH
 obtain ⟨d', iQ⟩ := h.DW hk ⟨d1, hPE, hft, hO⟩
 have h1 := iQ.1
 have m5 : w1.cell? ⟨G.M, 5, none⟩ = some (.slice (some ⟨G.gF, 0, none⟩) 2 G.cF) := h1.made.cell 5
 have fK := dQ h1.vg hk
 have ml1 := h1.made.lt
 have fl : G.gF < w1.heap.size := by obtain ⟨_, hx⟩ := h1.vg; exact hx.lt
 have hRe := h1.re k hk
 have hFe : S.f k = S.e k := (uh HSZ).2.2
 have HRF : Hid (Calls Tryz.prog 108 #[.pointer (some ⟨S.rb k, 0, none⟩), .string t] w1 (fA True w1 (S.rb k) (S.p k) FF.2.down FF.2 FF.1)) := by
  have := Kw (S.rb k) (S.f k) (S.p k) t w1 hRe (by rw [hFe]; exact (h.pe k hk).wf) (uh HSZ).1 (by rw [hFe]; exact (uh HSZ).2.1)
  rw [hFe, uh HFF] at this
  exact this
 have HX := hide (⟨iQ, hm1, Bh⟩ : _ ∧ _ ∧ _)
 obtain ⟨va, vc, rfl⟩ := aJ Bh.row
 clear h hPE hsa hft hO iQ h1 hm1 Bh hRe hFe HFE m4 eK ml el
 go_wp2_with fail
 refine (uh HRF).mono ?_
 rintro r w2 ⟨v2, A7, p2, rfl, hm2, hS2, Xn, Vz, Nz, hO2⟩
 obtain ⟨iQ, hm1, Bh⟩ := uh HX
 obtain ⟨p', vw⟩ := iQ.1.DX hk ⟨p2, Vz, Nz, hO2⟩
 have hold : ∀ i, aI (S.rb k) (S.p k) i -> i < w.heap.size := fun i hi => ((uh HH).re k hk).lt hi
 have OU := Bh.only hO2 (fun i hi hx => by
  have h1 := hold i hx
  rcases hi with hi | ⟨q, hq, hi⟩
  . have := (Bh.row.lt i hi).1
    omega
  . have := ((Bh.hds q hq).lt i hi).1
    omega)
 have HSE := hide (vk _ _ _ _ evs A7 w2 (hm1.trans hm2.symm) (by rw [<- List.length_map (f := Prod.fst), hm1]; exact (uh HEV).1) (fun q hq => by
  have := (uh HEV).2 q.1 (by rw [<- hm1]; exact List.mem_map.2 ⟨q, hq, rfl⟩)
  have := this.hs
  omega) OU hS2)
 obtain ⟨ua, uc, rfl⟩ := aJ hS2.row
 have jD : Hid (∀ W', Below w2.heap.size w2 W' -> ∃ d' p', df G S w (S.to k FF.2 d' p') W') := fun W' hb' => ⟨d', p', ((iQ.trans vw).after hb')⟩
 clear iQ vw hm1 hm2 Bh OU hS2 Xn Vz Nz hO2 hold HX HRF m5 fK ml1 fl HH HEV
 go_wp2_with fail
 refine (uh HSE).mono ?_
 rintro r w3 ⟨rfl, n, rfl⟩
 go_wp2_with fail
 refine (zg _ _).mono ?_
 rintro r w4 ⟨rfl, rfl⟩
 go_wp2_with fail
 go_ret
 exact ⟨by simp, uh jD _ ⟨rfl, rfl, rfl, Nat.le_refl _, fun _ _ => rfl⟩⟩
variable {κ : Prop}
theorem aT.Sm {w w2 : World} {b u : Nat} {e : Lk.En} {p : RP} {L : List Lk.Hd} {v : Value} (h : aT κ w b e p) (hb : Below w.heap.size w w2) (hT : RTab w2 u 100 L v) (hu : w.heap.size <= u) (hv : ∀ k, v.ownBlock = some k -> w.heap.size <= k) : aj κ w b p { e with out := L } (w2.setCell ⟨b, 2, none⟩ (ptr u)) := by
 have h2 := h.below hb
 have hO : Only (· = b) w2 (w2.setCell ⟨b, 2, none⟩ (ptr u)) := (Only.refl _ w2).set b 2 _ (fun _ => rfl)
 have hbl := h.blk.lt
 obtain ⟨c1, c2, c3, c4, c5, c6, c7, c8⟩ := h2.apart
 obtain ⟨s, f, r1, r2⟩ := h2.rd
 have hib := h.lt (i := p.ib) (.inr (.inr (.inl rfl)))
 refine ⟨{ p with ob := u, vo := v }, ⟨h2.blk.set 2 (ptr u), hT.only hO (fun hx => by omega) (fun i hi hx => by have := hv i hi; omega), h2.inn.only hO (Ne.symm c2) c5, ⟨s, f, r1.only hO (Ne.symm c3), r2⟩, h2.row.only hO c6, ag h2.own hO c7, ag h2.oth hO c8, (by show u ≠ p.ib; omega), ?_⟩, fun i hi => ?_, ((Only.of_below hb _).trans (hO.mono (fun i hi => (.inl hi : aI b p i))) (fun _ x _ => x))⟩
 . cases hx : v.ownBlock with
   | none => exact .inl rfl
   | some k =>
     refine .inr (fun e2 => ?_)
     have q1 := hv k hx
     have q2 := h.lt (i := k) (.inr (.inr (.inr (.inr (.inr (.inl e2.symm))))))
     omega
 . rcases hi with hi | hi | hi | hi | hi | hi | hi | hi | hi
   . exact .inl (.inl hi)
   . exact .inr (by have : i = u := hi; omega)
   . exact .inl (.inr (.inr (.inl hi)))
   . exact .inl (.inr (.inr (.inr (.inl hi))))
   . exact .inr (hv i hi)
   . exact .inl (.inr (.inr (.inr (.inr (.inr (.inl hi))))))
   . exact .inl (.inr (.inr (.inr (.inr (.inr (.inr (.inl hi)))))))
   . exact .inl (.inr (.inr (.inr (.inr (.inr (.inr (.inr (.inl hi))))))))
   . exact .inl (.inr (.inr (.inr (.inr (.inr (.inr (.inr (.inr hi))))))))
theorem NU : (Tryz.prog.info? 258).map (fun i => (i.zero, i.size, i.bytes)) = some (some (.agg #[.int .i64 0, .string ⟨#[]⟩, .int .i64 0, .bool false]), 4, 40) := by kernel_rfl
theorem Bi (w : World) (c : Obj) : Below w.heap.size w (w.alloc c).drew := by
 have h := (Below.refl w.heap.size w).alloc (Nat.le_refl _) c
 exact ⟨h.os, h.tape, h.output, h.size, h.block⟩
theorem NV (w : World) (y : Lk.Ow) : ∀ j u, (rwV y)[j]? = some u -> (w.alloc (.cells #[.int .i64 (y.id : Int), .string (bs y.left), .int .i64 (y.cr : Int), .bool y.done] 258)).drew.cell? ((⟨w.heap.size, 0, none⟩ : Addr).add j) = some u := by
 intro j u hj
 have e : (⟨w.heap.size, 0, none⟩ : Addr).add j = ⟨w.heap.size, j, none⟩ := by unfold Addr.add; split <;> simp_all
 rw [e]
 exact ((Is.new w 258 (rwV y)).cell j).trans hj
def vz (l : List Lk.Ow) (i : Nat) : Nat := ((l.take i).filter fun o => !o.done).length
theorem Ic {l : List Lk.Ow} {i : Nat} {o : Lk.Ow} (h : l[i]? = some o) : vz l (i + 1) = vz l i + (if o.done then 0 else 1) := by
 unfold vz
 rw [List.take_add_one, h, List.filter_append, List.length_append]
 cases hd : o.done <;> simp [hd]
theorem KG (e : Lk.En) : vz e.own e.own.length = e.busy := by
 unfold vz Lk.En.busy
 rw [List.take_length]
theorem Fj (l : List Lk.Ow) (i : Nat) : vz l i <= i := by
 unfold vz
 have := List.length_filter_le (fun o : Lk.Ow => !o.done) (l.take i)
 have h2 := List.length_take_le i l
 omega
theorem D5 (b B1 : Nat) (e : Lk.En) (p : RP) (l : List Lk.Hd) (lv : Value) (body : Lk.Bs) (w : World) (h : aT κ w b e p) (hw : Lk.Wf e) (own : w.ownsRow B1 206 2 lv l.length (aQ l)) (hl : e.row.length <= 2 ^ 41) :
 Calls Tryz.prog 110 #[.pointer (some ⟨b, 0, none⟩), lv, .string (bs body)] w fun r w' => r = .returned (.tuple #[.int .i64 ((e.aW l body).1.1 : Int), .int .i64 ((e.aW l body).1.2.1 : Int), .int .i64 ((e.aW l body).1.2.2 : Int)]) ∧ aj κ w b p (e.aW l body).2 w' := by
 have c13 : w.cell? ⟨b, 13, none⟩ = some (.int .i64 (e.down : Int)) := h.blk.cell 13
 have c11 : w.cell? ⟨b, 11, none⟩ = some (.bool e.iH) := h.blk.cell 11
 have c12 : w.cell? ⟨b, 12, none⟩ = some (.bool e.oK) := h.blk.cell 12
 have hbl := h.blk.lt
 obtain ⟨la, lc, rfl⟩ := aJ own
 have HSM := hide (aj.same h)
 have HH := hide (⟨h, hw, hl⟩ : _ ∧ _ ∧ _)
 have HWR := hide (lL B1 _ l w own)
 have HOWN := hide own
 generalize hX : e.aW l body = X
 unfold Lk.En.aW at hX
 clear h own
 by_cases hdn : e.down ≠ 0
 . rw [if_pos hdn] at hX
   subst hX
   have hd' : ¬ (e.down : Int) = 0 := by omega
   generalize (e.down : Int) = DN at *
   go_enter Tryz.func110, Tryz.ntmps110
   go_wp2_with fail
   go_ret3
   exact ⟨rfl, uh HSM⟩
 rw [if_neg hdn] at hX
 have hdn : e.down = 0 := by omega
 rw [hdn] at c13
 by_cases hby : (e.iH || e.oK) = true
 . rw [if_pos hby] at hX
   subst hX
   cases hbs : e.iH with
   | true =>
     rw [hbs] at c11
     clear hbs hby
     go_enter Tryz.func110, Tryz.ntmps110
     go_wp2_with fail
     go_ret3
     exact ⟨rfl, uh HSM⟩
   | false =>
     have hbc : e.oK = true := by rw [hbs] at hby; simpa using hby
     rw [hbs] at c11
     rw [hbc] at c12
     clear hbs hby hbc
     go_enter Tryz.func110, Tryz.ntmps110
     go_wp2_with fail
     go_ret3
     exact ⟨rfl, uh HSM⟩
 rw [if_neg hby] at hX
 obtain ⟨hbs, hbc⟩ : e.iH = false ∧ e.oK = false := by simpa using hby
 rw [hbs] at c11
 rw [hbc] at c12
 clear hby hbs hbc hdn
 by_cases hwr : (Lk.wrong l).1 ≠ 0
 . rw [if_pos hwr] at hX
   subst hX
   have Yj : ¬ ((Lk.wrong l).1 : Int) = 0 := by omega
   simp only
   generalize ((Lk.wrong l).1 : Int) = W1 at *
   clear hwr
   go_enter Tryz.func110, Tryz.ntmps110
   go_wp2_with fail
   refine (uh HWR).mono ?_
   rintro r w1 ⟨rfl, hb1⟩
   have HF := hide ((uh HSM).after hb1)
   clear hb1
   go_wp2_with fail
   go_ret3
   exact ⟨rfl, uh HF⟩
 rw [if_neg hwr] at hX
 have hwr : (Lk.wrong l).1 = 0 := by omega
 have hwr2 : (Lk.wrong l).1 = 0 := hwr
 rw [hwr] at HWR
 obtain ⟨h, hw, hl⟩ := uh HH
 have hside := hw.side
 have Gl := hw.wF
 have hwin := hw.kN
 have HCP : Hid (∀ w1, Below w.heap.size w w1 -> (w1.cell? ⟨b, 2, none⟩ = some (.pointer (some ⟨p.ob, 0, none⟩)) ∧ b < w1.heap.size) ∧ Calls Tryz.prog 104 #[.pointer (some ⟨p.ob, 0, none⟩)] w1 fun e' w' => ∃ u, e' = .returned (.pointer (some ⟨u, 0, none⟩)) ∧ (w.heap.size <= u ∧ (∃ v', RTab w' u 100 e.out v' ∧ ∀ k, v'.ownBlock = some k -> w.heap.size <= k) ∧ Below w.heap.size w w')) := by
  intro w1 hb1
  have h1 := h.below hb1
  refine ⟨⟨h1.blk.cell 2, h1.blk.lt⟩, (sD p.ob 100 e.out p.vo w1 h1.out).mono ?_⟩
  rintro r w2 ⟨u, rfl, hu, ⟨v2, hT2, hv2⟩, hb2⟩
  have := hb1.size
  exact ⟨u, rfl, by omega, ⟨v2, hT2, fun k hk => by have := hv2 k hk; omega⟩, hb1.trans (hb2.mono hb1.size)⟩
 have HSQ : Hid (∀ w2 u, (w.heap.size <= u ∧ (∃ v', RTab w2 u 100 e.out v' ∧ ∀ k, v'.ownBlock = some k -> w.heap.size <= k) ∧ Below w.heap.size w w2) -> Calls Tryz.prog 60 #[.pointer (some ⟨u, 0, none⟩), .slice la l.length lc] w2 fun e' w3 => e' = .returned (.tuple #[.string (bs (Lk.squeeze 100 e.out l).1), .int .i64 0, .int .i64 0]) ∧ (aT κ w3 b e p ∧ aj κ w b p e w3 ∧ aj κ w b p { e with out := (Lk.squeeze 100 e.out l).2 } (w3.setCell ⟨b, 2, none⟩ (ptr u)))) := by
  rintro w2 u ⟨hu, ⟨v2, hT2, hv2⟩, hb2⟩
  refine (ug u 100 B1 e.out l v2 _ w2 hT2 hwr2 (own_below (uh HOWN) hb2)).mono ?_
  rintro r w3 ⟨rfl, ⟨v3, hT3, hv3⟩, Tz⟩
  have hb3 : Below w.heap.size w w3 := hb2.trans ((Only.dP Tz).toBelow (fun i hi _ => by have : i = u := hi; omega) hb2.size)
  exact ⟨rfl, h.below hb3, (aj.same h).after hb3, h.Sm hb3 hT3 hu (fun k hk => by
   rcases hv3 with rfl | hv3
   . exact hv2 k hk
   . have := hv3 k hk
     have := hb2.size
     omega)⟩
 have Xo : ((bs (Lk.squeeze 100 e.out l).1).size : Int) = (Lk.squeeze 100 e.out l).1.length := by rw [ax]
 have Xp : ((bs body).size : Int) = body.length := by rw [ax]
 generalize hSQ : Lk.squeeze 100 e.out l = SQ at *
 have HX := hide hX
 have HLL := hide hl
 clear hX hwr hwr2 HOWN h hw hl HH hSQ
 go_enter Tryz.func110, Tryz.ntmps110
 go_wp2_with fail
 refine (uh HWR).mono ?_
 rintro r w1 ⟨rfl, hb1⟩
 obtain ⟨⟨d2, dl⟩, hcp⟩ := uh HCP w1 hb1
 have VA := hide hcp
 clear hb1 hcp c13 c11 c12 hbl HWR
 go_wp2_with fail
 refine (uh VA).mono ?_
 rintro r w2 ⟨u, rfl, hu⟩
 have HS2 := hide (uh HSQ w2 u hu)
 clear hu HSQ d2 dl VA
 go_wp2_with fail
 refine (uh HS2).mono ?_
 rintro r w3 ⟨rfl, h3, VB, Sr⟩
 have H3 := hide (⟨h3, VB, Sr⟩ : _ ∧ _ ∧ _)
 have d0 : w3.cell? ⟨b, 0, none⟩ = some (.int .i64 (e.side : Int)) := h3.blk.cell 0
 have d1 : w3.cell? ⟨b, 1, none⟩ = some (.int .i64 (e.win : Int)) := h3.blk.cell 1
 have d2 : w3.cell? ⟨b, 2, none⟩ = some (ptr p.ob) := h3.blk.cell 2
 have g2 := h3.blk.free 2
 have d6 : w3.cell? ⟨b, 6, none⟩ = some p.wv := h3.blk.cell 6
 have dl := h3.blk.lt
 obtain ⟨wa, wc, hwv⟩ := aJ h3.own
 rw [hwv] at d6
 unfold ptr at d2
 have HWV := hide hwv
 clear h3 VB Sr hwv HS2
 by_cases hlg : 64 < SQ.1.length ∨ 300 < body.length
 . have HF : Hid ((X.1.1 = 0 ∧ X.1.2.1 = 5 ∧ X.1.2.2 = 0) ∧ aj κ w b p X.2 w3) := by
    have := uh HX
    rw [if_pos hlg] at this
    rw [<- this]
    exact ⟨⟨rfl, rfl, rfl⟩, (uh H3).2.1⟩
   by_cases h64 : 64 < SQ.1.length
   . have Q8 : (64 : Int) < ((bs SQ.1).size : Int) := by omega
     clear hlg h64 HX
     go_wp2_with fail
     go_ret3
     obtain ⟨⟨e1, e2, e3⟩, hP⟩ := uh HF
     rw [e1, e2, e3]
     exact ⟨rfl, hP⟩
   . have Q8 : ¬ (64 : Int) < ((bs SQ.1).size : Int) := by omega
     have Yk : (300 : Int) < ((bs body).size : Int) := by omega
     clear hlg h64 HX
     go_wp2_with fail
     go_ret3
     obtain ⟨⟨e1, e2, e3⟩, hP⟩ := uh HF
     rw [e1, e2, e3]
     exact ⟨rfl, hP⟩
 have Q8 : ¬ (64 : Int) < ((bs SQ.1).size : Int) := by omega
 have Xq : ¬ (300 : Int) < ((bs body).size : Int) := by omega
 have HX2 : Hid _ := hide ((if_neg hlg).symm.trans (uh HX))
 clear Xo Xp hlg HX
 have VC := KG e
 have VD := hide VC
 clear VC
 go_wp2_with fail
 go_loopw [15, 16] (fun v15 v16 wx => wx = w3 ∧ ∃ i : Nat, i <= e.own.length ∧ v16 = .int .i64 i ∧ v15 = .int .i64 (vz e.own i : Int)) (fun _ v16 _ => e.own.length - (intOf v16).toNat)
 case atStart => exact ⟨rfl, 0, Nat.zero_le _, rfl, rfl⟩
 case round =>
  obtain ⟨rfl, i, hi, rfl, rfl⟩ := hrel
  by_cases hlt : i < e.own.length
  . have hlt' : (i : Int) < e.own.length := by omega
    have hi0 : (0 : Int) <= i := by omega
    obtain ⟨o, ho⟩ : ∃ o, e.own[i]? = some o := ⟨_, List.getElem?_eq_getElem hlt⟩
    obtain ⟨g, cap, TA, hgl, hcap, _, _, _, x3, _⟩ := (uh H3).1.Rh ho
    obtain ⟨rfl, rfl⟩ : wa = some ⟨g, 0, none⟩ ∧ wc = cap := by
     rw [uh HWV] at TA
     injection TA with k1 k2 k3
     exact ⟨k1, k3⟩
    have hbs := Ic ho
    have hbl := Fj e.own i
    have hb0 : (vz e.own i : Int) <= 134217729 := by omega
    have hb1 : (0 : Int) <= (vz e.own i : Int) := by omega
    cases hdn : o.done with
    | true =>
      rw [hdn] at x3 hbs
      have HBS := hide hbs
      clear hdn hbs TA ho hbl
      go_wp2_with fail
      go_roundw
      case rel => exact ⟨by trivial, i + 1, by omega, by go_num, by rw [uh HBS]; simp⟩
      case measure => simp [intOf]; omega
    | false =>
      rw [hdn] at x3 hbs
      have HBS := hide hbs
      clear hdn hbs TA ho hbl
      go_wp2_with fail
      go_roundw
      case rel => exact ⟨by trivial, i + 1, by omega, by go_num, by rw [uh HBS]; simp⟩
      case measure => simp [intOf]; omega
  . have hlt' : ¬ (i : Int) < e.own.length := by omega
    obtain rfl : i = e.own.length := by omega
    rw [uh VD]
    have hbz : (e.busy : Int) <= 134217729 := by have := Fj e.own e.own.length; rw [uh VD] at this; omega
    have Yl : (0 : Int) <= (e.busy : Int) := by omega
    have hid : 2 * (e.own.length : Int) + 1 + (e.side : Int) = (e.nextId : Int) := by unfold Lk.En.nextId; omega
    have hol : (e.own.length : Int) <= 134217729 := by omega
    have hes : (e.side : Int) <= 1 := by omega
    have hes0 : (0 : Int) <= e.side := by omega
    by_cases hfl : 4 <= e.busy ∨ 268435455 < e.nextId
    . have HF : Hid ((X.1.1 = 0 ∧ X.1.2.1 = 11 ∧ X.1.2.2 = 0) ∧ ∀ W', Below wr.heap.size wr W' -> aj κ w b p X.2 W') := by
       have := uh HX2
       rw [if_pos hfl] at this
       rw [<- this]
       exact ⟨⟨rfl, rfl, rfl⟩, fun W' hb' => (uh H3).2.1.after hb'⟩
      by_cases h4 : 4 <= e.busy
      . have h4' : (4 : Int) <= (e.busy : Int) := by omega
        clear hfl h4 HX2 H3
        go_wp2_with fail
        go_quiet (fail)
        go_wp2_with fail
        go_ret3
        obtain ⟨⟨e1, e2, e3⟩, hP⟩ := uh HF
        rw [e1, e2, e3]
        exact ⟨rfl, hP _ ⟨rfl, rfl, rfl, Nat.le_refl _, fun _ _ => rfl⟩⟩
      . have h4' : ¬ (4 : Int) <= (e.busy : Int) := by omega
        have hn' : (268435455 : Int) < (e.nextId : Int) := by omega
        clear hfl h4 HX2 H3
        go_wp2_with fail
        go_quiet (fail)
        go_wp2_with fail
        go_ret3
        obtain ⟨⟨e1, e2, e3⟩, hP⟩ := uh HF
        rw [e1, e2, e3]
        exact ⟨rfl, hP _ ⟨rfl, rfl, rfl, Nat.le_refl _, fun _ _ => rfl⟩⟩
    . have h4' : ¬ (4 : Int) <= (e.busy : Int) := by omega
      have hn' : ¬ (268435455 : Int) < (e.nextId : Int) := by omega
      have HX3 : Hid _ := hide ((if_neg hfl).symm.trans (uh HX2))
      have QG : 0 < e.nextId := by unfold Lk.En.nextId; omega
      have MK : e.nextId <= 268435455 := by omega
      have HGO : Hid (0 < e.nextId ∧ e.nextId <= 268435455 ∧ SQ.1.length <= 64 ∧ e.row.length <= 2 ^ 41) := ⟨QG, MK, by rw [ax] at Q8; omega, uh HLL⟩
      obtain ⟨inf, hi9, hz0, hz1, hz2⟩ := info_parts NU
      clear hfl HX2 QG MK
      go_wp2_with fail
      go_quiet (fail)
      go_upto_region 22 with fail
      obtain ⟨wA, hwA⟩ : ∃ wA, wA = (wr.drewN nq).setCell ⟨b, 2, none⟩ (.pointer (some ⟨u, 0, none⟩)) := ⟨_, rfl⟩
      rw [<- hwA]
      obtain ⟨pA, hA, hfA, hOA⟩ : aj κ w b p { e with out := SQ.2 } wA := by
       rw [hwA]
       exact (uh H3).2.2.after ⟨rfl, rfl, rfl, Nat.le_refl _, fun _ _ => rfl⟩
      obtain ⟨sa, sc, hsv⟩ := aJ hA.own
      have HSV := hide hsv
      have q1 : wA.cell? ⟨b, 1, none⟩ = some (.int .i64 (e.win : Int)) := hA.blk.cell 1
      have q6 : wA.cell? ⟨b, 6, none⟩ = some pA.wv := hA.blk.cell 6
      rw [hsv] at q6
      have ql := hA.blk.lt
      have HQ : Hid (∀ Wx w1 g1 cap1, Below wA.heap.size wA Wx -> Wx.grownBy w1 (Value.slice sa e.own.length sc).ownBlock -> w1.ownsRow 0 258 4 (.slice (some ⟨g1, 0, none⟩) (e.own.length + 1) cap1) (e.own.length + 1) (L6 e.own ++ rwV ⟨e.nextId, body, e.win, false⟩) -> ((Value.slice sa e.own.length sc).ownBlock = some g1 ∨ Wx.heap.size <= g1) -> (w1.cell? ⟨b, 6, none⟩ = some (.slice sa e.own.length sc) ∧ w1.frozen? ⟨b, 6, none⟩ = false ∧ b < w1.heap.size) ∧ ∀ w7, w7 = w1.setCell ⟨b, 6, none⟩ (.slice (some ⟨g1, 0, none⟩) (e.own.length + 1) cap1) -> Hid (aj κ w b p { e with out := SQ.2, own := e.own ++ [⟨e.nextId, body, e.win, false⟩] } w7)) := by
       intro Wx w1 g1 cap1 k1 k2 k3 k4
       have hRx := hA.below k1
       rw [<- show pA.wv = .slice sa e.own.length sc from uh HSV] at k2 k4
       have e1 : L6 e.own ++ rwV ⟨e.nextId, body, e.win, false⟩ = L6 (e.own ++ [⟨e.nextId, body, e.win, false⟩]) := by simp [L6]
       have e2 : e.own.length + 1 = (e.own ++ [(⟨e.nextId, body, e.win, false⟩ : Lk.Ow)]).length := by simp
       have hO : Only (fun i => pA.wv.ownBlock = some i) Wx w1 := (Only.gV k2).mono (fun i hi => hi.symm)
       have hb' := hRx.blk.only hO (fun hx => (hRx.apart.2.2.2.2.2.2.1 b hx) rfl)
       have hc6 : w1.cell? ⟨b, 6, none⟩ = some pA.wv := hb'.cell 6
       rw [show pA.wv = .slice sa e.own.length sc from uh HSV] at hc6
       refine ⟨⟨hc6, hb'.free 6, hb'.lt⟩, ?_⟩
       rw [e1, e2] at k3
       intro w7 hw7
       rw [e2] at hw7
       have hq := hRx.RG (v' := .slice (some ⟨g1, 0, none⟩) (e.own ++ [(⟨e.nextId, body, e.win, false⟩ : Lk.Ow)]).length cap1) k3 (k4.imp (fun x => x.symm) (fun x k hk => by have hk : some g1 = some k := hk; injection hk with hk; omega)) hO
       rw [<- hw7] at hq
       exact aj.trans hfA hOA (aj.before k1 hq)
      have HOT : Hid (∀ Wx, Below wA.heap.size wA Wx -> Wx.ownsRow 0 258 4 (.slice sa e.own.length sc) e.own.length (L6 e.own)) := by
       intro Wx k1
       have := (hA.below k1).own
       rw [<- show pA.wv = .slice sa e.own.length sc from uh HSV]
       exact this
      clear hA hfA hOA hwA hsv H3 d0 d1 d2 g2 d6 dl HSM HWV
      go_cut [] (fun w7 => Hid (aj κ w b p { e with out := SQ.2, own := e.own ++ [⟨e.nextId, body, e.win, false⟩] } w7))
      case first =>
       go_region_law (first
        | (refine step_append_lies _ rfl _ _ 197 rfl 0 258 inf _ 4 40 Tryz.underlying197 hi9 hz0 hz1 hz2 rfl (Nat.succ_pos 3) (.slice sa e.own.length sc) e.own.length (L6 e.own) rfl (uh HOT _ ?_) ⟨wA.heap.size, 0, none⟩ 1 1 (rwV ⟨e.nextId, body, e.win, false⟩) rfl rfl ?_ ?_ ?_ ?_ ?_ ?_ (wA.heap.size + 1) ?_ ?_
           exact Bi wA _
           exact NV wA _
           (intro u hu; simp [rwV] at hu; rcases hu with rfl | rfl | rfl | rfl <;> rfl)
           exact Nat.one_pos
           (unfold maxLen; omega)
           omega
           exact Nat.zero_le _
           simp
           intro g1 cap1 w1 ho1 hg1 OJ hlt1
           obtain ⟨⟨z7, zf, zl⟩, hP7⟩ := uh HQ _ w1 g1 cap1 (Bi wA _) hg1 ho1 (by rcases OJ with h | h; exact .inl h; exact .inr (by rw [h]; simp))
           have HP7 := hide hP7
           clear ho1 hg1 OJ hP7))
       all_goals
        go_wp2_with fail
        go_meet
        exact uh HP7 _ rfl
      case rest =>
       obtain ⟨p7, h7, hf7, hO7⟩ := uh hcut
       obtain ⟨g1, g2, g3, g4⟩ := uh HGO
       have HSN := hide (fV b { e with out := SQ.2, own := e.own ++ [⟨e.nextId, body, e.win, false⟩] } p7 0 e.nextId SQ.1 wc h7 (Lk.rE e.nextId SQ.1 g1 g2 g3) (by show e.row.length <= _; omega))
       have HF : Hid (∀ W', aj κ wc b p7 (({ e with out := SQ.2, own := e.own ++ [⟨e.nextId, body, e.win, false⟩] } : Lk.En).send 0 e.nextId SQ.1) W' -> (X.1.1 = e.nextId ∧ X.1.2.1 = 0 ∧ X.1.2.2 = 0) ∧ aj κ w b p X.2 W') := by
        intro W' hP
        rw [<- uh HX3]
        exact ⟨⟨rfl, rfl, rfl⟩, aj.trans hf7 hO7 hP⟩
       clear h7 hf7 hO7 hcut HX3 HQ HOT g1 g2 g3 g4
       go_wp2_with fail
       refine (uh HSN).mono ?_
       rintro r w9 ⟨rfl, hP⟩
       have HF9 := hide (uh HF w9 hP)
       clear hP
       go_wp2_with fail
       go_ret3
       obtain ⟨⟨e1, e2, e3⟩, hP⟩ := uh HF9
       rw [e1, e2, e3]
       exact ⟨rfl, hP⟩
end Go.Proofs.YtbkpdapagfjmmaaGreatDoor
