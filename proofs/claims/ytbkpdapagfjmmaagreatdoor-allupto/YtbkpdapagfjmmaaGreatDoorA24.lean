import Derived.Test.YtbkpdapagfjmmaaGreatDoorA23
set_option linter.unusedVariables false
set_option maxRecDepth 100000
set_option maxHeartbeats 16000000
namespace Go.Proofs.YtbkpdapagfjmmaaGreatDoor
open Go.RowKit
theorem mP (b mb mn : Nat) (ins : Int -> Option Nat) (k n : Int) (w : World) (_hb : b < w.heap.size) (c : w.cell? ⟨b, 17, none⟩ = some (.map (some mb))) (hM : bW Tryz.prog 3 w mb mn ins) (hk : I64 k) (hp : ins k = none) :
 Calls Tryz.prog 68 #[.pointer (some ⟨b, 11, none⟩), .int .i64 k, .int .i64 n, oN b] w fun e w' => e = .returned (.int .i64 14) ∧ w' = w := by
 have hl := (look_in hM hk).1
 rw [hp] at hl
 simp only [bu, Option.isSome] at hl
 clear hM hp hk
 unfold oN
 go_enter Tryz.func68, Tryz.ntmps68
 go_wp2_with fail
 go_ret
 exact ⟨rfl, rfl⟩
theorem x8 (b mb mn p held : Nat) (ins : Int -> Option Nat) (k n cr : Int) (cut ended : Bool) (w : World) (_hb : b < w.heap.size) (c : w.cell? ⟨b, 17, none⟩ = some (.map (some mb))) (hM : bW Tryz.prog 3 w mb mn ins) (hk : I64 k) (hp : ins k = some p) (hI : Is w p 227 (inV cr (held : Int) cut ended)) (hn : (held : Int) < n) :
 Calls Tryz.prog 68 #[.pointer (some ⟨b, 11, none⟩), .int .i64 k, .int .i64 n, oN b] w fun e w' => e = .returned (.int .i64 14) ∧ w' = w := by
 have hl := (look_in hM hk).1
 rw [hp] at hl
 simp only [bu, ptr, Option.isSome] at hl
 have p1 := hI.cell 1
 simp only [inV, List.getElem?_cons_zero, List.getElem?_cons_succ] at p1
 have hpl := hI.lt
 clear hM hp hk hI
 unfold oN
 go_enter Tryz.func68, Tryz.ntmps68
 go_wp2_with fail
 go_ret
 exact ⟨rfl, rfl⟩
def QJ (st n : Nat) (ended : Bool) : List Lk.Fr := ⟨4, 0, Lk.wire n⟩ :: if ended then [] else [⟨4, st, Lk.wire n⟩]
def Rl (ended : Bool) (cr : Int) (n : Nat) : Int := if ended then cr else cr + n
def mQ (ended : Bool) (left : Nat) (st : Int) (ins : Int -> Option Nat) : Int -> Option Nat := if ended = true ∧ left = 0 then (fun x => if x = st then none else ins x) else ins
theorem x9 (b mb mn p held icr n st : Nat) (cr : Int) (ins : Int -> Option Nat) (cut ended : Bool) (c : EC) (fs : List Lk.Fr) (w : World) (hR : Rw w b c fs) (hmp : c.mp = .map (some mb)) (hic : c.icr = (icr : Int)) (hM : bW Tryz.prog 3 w mb mn ins) (hst : st <= 268435455) (hp : ins (st : Int) = some p) (hI : Is w p 227 (inV cr (held : Int) cut ended)) (hn : n <= held) (hh : held <= 1000000) (QH : icr <= 1000000) (hcr : ended = false -> 0 <= cr ∧ cr <= 1000000) :
 Calls Tryz.prog 68 #[.pointer (some ⟨b, 11, none⟩), .int .i64 (st : Int), .int .i64 (n : Int), oN b] w fun e w' => e = .returned (.int .i64 0) ∧ ∃ rs', (∀ x ∈ rs', x ∈ c.rs ∨ w.heap.size <= x) ∧ Is w' p 227 (inV (Rl ended cr n) ((held - n : Nat) : Int) cut ended)
  ∧ Rw w' b { c with icr := ((icr + n : Nat) : Int), rs := rs' } (fs ++ QJ st n ended) ∧ bW Tryz.prog 3 w' mb mn (mQ ended (held - n) (st : Int) ins) ∧ Only (fun i => i = b ∨ i ∈ c.rs ∨ i = mb ∨ i = p) w w' := by
 have hk : I64 (st : Int) := ⟨by omega, by omega⟩
 have hl := (look_in hM hk).1
 rw [hp] at hl
 simp only [bu, ptr, Option.isSome] at hl
 have hne := hR.KZ hI
 have hpb := hne.1
 have hbl := hR.lt
 have hpl := hI.lt
 have hpm : mb ≠ p := fun e => hM.ne hI e
 have p1 := hI.cell 1
 have q1 := hI.free 1
 simp only [inV, List.getElem?_cons_zero, List.getElem?_cons_succ] at p1
 have c16 : w.cell? ⟨b, 16, none⟩ = some (.int .i64 c.icr) := hR.blk.cell 16
 have c17 : w.cell? ⟨b, 17, none⟩ = some c.mp := hR.blk.cell 17
 have f16 := hR.blk.free 16
 rw [hic] at c16
 rw [hmp] at c17
 have hn' : ¬ (held : Int) < (n : Int) := by omega
 have e1 : (held : Int) - (n : Int) = ((held - n : Nat) : Int) := by omega
 have e2 : (icr : Int) + (n : Int) = ((icr + n : Nat) : Int) := by omega
 have hO1 : Only (fun i => i = b ∨ i ∈ c.rs ∨ i = mb ∨ i = p) w ((w.setCell ⟨p, 1, none⟩ (.int .i64 ((held : Int) - (n : Int)))).setCell ⟨b, 16, none⟩ (.int .i64 ((icr : Int) + (n : Int)))) := ((Only.refl _ w).set p 1 _ (fun _ => .inr (.inr (.inr rfl)))).set b 16 _ (fun _ => .inl rfl)
 have hI1 : Is ((w.setCell ⟨p, 1, none⟩ (.int .i64 ((held : Int) - (n : Int)))).setCell ⟨b, 16, none⟩ (.int .i64 ((icr : Int) + (n : Int)))) p 227 (inV cr ((held - n : Nat) : Int) cut ended) := by
  have := (hI.set 1 (.int .i64 ((held : Int) - (n : Int)))).other ⟨b, 16, none⟩ (.int .i64 ((icr : Int) + (n : Int))) hpb
  rw [e1] at this ⊢
  exact this
 have TW : Only (fun i => i = b ∨ i = p) w ((w.setCell ⟨p, 1, none⟩ (.int .i64 ((held : Int) - (n : Int)))).setCell ⟨b, 16, none⟩ (.int .i64 ((icr : Int) + (n : Int)))) := ((Only.refl _ w).set p 1 _ (fun _ => .inr rfl)).set b 16 _ (fun _ => .inl rfl)
 have hB1 : Is ((w.setCell ⟨p, 1, none⟩ (.int .i64 ((held : Int) - (n : Int)))).setCell ⟨b, 16, none⟩ (.int .i64 ((icr : Int) + (n : Int)))) b 101 ({ c with icr := ((icr + n : Nat) : Int) } : EC).cells := by
  have := (hR.blk.other ⟨p, 1, none⟩ (.int .i64 ((held : Int) - (n : Int))) (fun e => hpb e.symm)).set 16 (.int .i64 ((icr : Int) + (n : Int)))
  rw [e2] at this ⊢
  exact this
 have hR1 : Rw ((w.setCell ⟨p, 1, none⟩ (.int .i64 ((held : Int) - (n : Int)))).setCell ⟨b, 16, none⟩ (.int .i64 ((icr : Int) + (n : Int)))) b { c with icr := ((icr + n : Nat) : Int) } fs :=
  ⟨hB1, hR.row.only TW (fun r hr hx => by
   rcases hx with hx | hx
   . subst hx; exact hR.I4 hr
   . subst hx; exact hne.2 hr)⟩
 have hM1 := hM.only TW (fun hx => by
  rcases hx with hx | hx
  . exact (hR.Gv hM).1 hx.symm
  . exact hpm hx)
 have HF1 := hide (⟨hR1, hI1, hM1, hO1⟩ : _ ∧ _ ∧ _ ∧ _)
 have HMP := hide hmp
 have HP := hide hp
 clear hR hI hM hne hmp hic hp e1 e2 TW hB1 hR1 hI1 hM1 hO1
 unfold oN
 go_enter Tryz.func68, Tryz.ntmps68
 go_wp2_with fail
 refine (dS 4 0 n _ rfl (by omega) _).mono ?_
 rintro e w2 ⟨rfl, hb2⟩
 obtain ⟨hR1, hI1, hM1, hO1⟩ := uh HF1
 have hR2 := hR1.below hb2
 have hI2 := hI1.below hb2 hI1.lt
 have hM2 := hM1.only (Only.of_below hb2 (fun _ => False)) (fun h => h)
 have hO2 := hO1.below hb2
 clear hR1 hI1 hM1 hO1 hb2 HF1
 go_wp2_with fail
 refine (fC b _ fs ⟨4, 0, Lk.wire n⟩ w2 hR2).mono ?_
 rintro e w3 ⟨rfl, m, hm, hR3, hO3⟩
 have hne2 := hR2.KZ hI2
 have TY := hR2.Gv hM2
 have hI3 := hI2.only hO3 (fun hx => by
  rcases hx with hx | hx
  . exact hne2.1 hx
  . exact hne2.2 hx)
 have hM3 := hM2.only hO3 (fun hx => by
  rcases hx with hx | hx
  . exact TY.1 hx.symm
  . exact TY.2 _ hx rfl)
 have hO4 : Only (fun i => i = b ∨ i ∈ c.rs ∨ i = mb ∨ i = p) w w3 := hO2.trans hO3 (fun i hi _ => hi.imp id (fun h => .inl h))
 have hmw : w.heap.size <= m := by have := hO2.size; omega
 have r3 := hI3.cell 3
 have r0 := hI3.cell 0
 have s0 := hI3.free 0
 have XY := hI3.lt
 simp only [inV, List.getElem?_cons_zero, List.getElem?_cons_succ] at r3 r0
 have d17 : w3.cell? ⟨b, 17, none⟩ = some c.mp := hR3.blk.cell 17
 rw [uh HMP] at d17
 have PM := hR3.lt
 clear hR2 hI2 hM2 hO2 hne2 TY hO3
 cases ended with
 | true =>
   by_cases h0 : held - n = 0
   . have TZ := hI3
     rw [h0] at TZ
     have HC := hide (wI b mb mn p ins (st : Int) cr cut w3 PM d17 hM3 hk (uh HP) TZ)
     have Rn := hR3.Gv hM3
     have HF := hide (⟨hR3, hI3, hO4, Rn⟩ : _ ∧ _ ∧ _ ∧ _)
     clear hR3 hI3 TZ hM3 hO4 Rn
     go_wp2_with fail
     refine (uh HC).mono ?_
     rintro e w4 ⟨rfl, hM4, hO5⟩
     go_wp2_with fail
     go_ret
     obtain ⟨hR3, hI3, hO4, Rn⟩ := uh HF
     have ei : mQ true (held - n) (st : Int) ins = fun x => if x = (st : Int) then none else ins x := by unfold mQ; rw [if_pos ⟨rfl, h0⟩]
     exact ⟨rfl, _, iV hmw, hI3.only hO5 (fun e => hpm e.symm), by simpa [QJ] using hR3.only hO5 Rn.1 Rn.2, by rw [ei]; exact hM4, hO4.trans hO5 (fun i hi _ => .inr (.inr (.inl hi)))⟩
   . have HC := hide (tq b mb mn p ins (st : Int) cr (held - n) cut true w3 PM d17 hM3 hk (uh HP) hI3 (.inr (by omega)))
     have HF := hide (⟨hR3, hI3, hM3, hO4⟩ : _ ∧ _ ∧ _ ∧ _)
     clear hR3 hI3 hM3 hO4
     go_wp2_with fail
     refine (uh HC).mono ?_
     rintro e w4 ⟨rfl, rfl⟩
     go_wp2_with fail
     go_ret
     obtain ⟨hR3, hI3, hM3, hO4⟩ := uh HF
     have ei : mQ true (held - n) (st : Int) ins = ins := by unfold mQ; rw [if_neg (fun h => h0 h.2)]
     exact ⟨rfl, _, iV hmw, hI3, by simpa [QJ] using hR3, by rw [ei]; exact hM3, hO4⟩
 | false =>
   have XZ := hcr rfl
   clear hcr
   have hO5 : Only (fun i => i = p) w3 (w3.setCell ⟨p, 0, none⟩ (.int .i64 (cr + (n : Int)))) := (Only.refl _ w3).set p 0 _ (fun _ => rfl)
   have hI4 : Is (w3.setCell ⟨p, 0, none⟩ (.int .i64 (cr + (n : Int)))) p 227 (inV (cr + (n : Int)) ((held - n : Nat) : Int) cut false) := hI3.set 0 (.int .i64 (cr + (n : Int)))
   have MW := hR3.KZ hI3
   have hR4 := hR3.only hO5 (fun e => MW.1 e.symm) (fun r hr e => MW.2 (e ▸ hr))
   have hM4 := hM3.only hO5 hpm
   have hO6 := hO4.trans hO5 (fun i hi _ => .inr (.inr (.inr hi)))
   have HF := hide (⟨hR4, hI4, hM4, hO6⟩ : _ ∧ _ ∧ _ ∧ _)
   clear hR3 hI3 hM3 hO4 hO5 hI4 hR4 hM4 hO6 MW
   go_wp2_with fail
   refine (dS 4 st n _ rfl (by omega) _).mono ?_
   rintro e w5 ⟨rfl, hb5⟩
   obtain ⟨hR4, hI4, hM4, hO6⟩ := uh HF
   have hR5 := hR4.below hb5
   have hI5 := hI4.below hb5 hI4.lt
   have hM5 := hM4.only (Only.of_below hb5 (fun _ => False)) (fun h => h)
   have hO7 := hO6.below hb5
   clear hR4 hI4 hM4 hO6 hb5 HF
   go_wp2_with fail
   refine (fC b _ _ ⟨4, st, Lk.wire n⟩ w5 hR5).mono ?_
   rintro e w6 ⟨rfl, m2, hm2, hR6, hO8⟩
   have hne5 := hR5.KZ hI5
   have Ua := hR5.Gv hM5
   have hI6 := hI5.only hO8 (fun hx => by
    rcases hx with hx | hx
    . exact hne5.1 hx
    . exact hne5.2 hx)
   have hM6 := hM5.only hO8 (fun hx => by
    rcases hx with hx | hx
    . exact Ua.1 hx.symm
    . exact Ua.2 _ hx rfl)
   have hO9 : Only (fun i => i = b ∨ i ∈ c.rs ∨ i = mb ∨ i = p) w w6 := hO7.trans hO8 (fun i hi hlt => by
    rcases hi with hi | hi
    . exact .inl hi
    . rcases List.mem_append.1 hi with hi | hi
      . exact .inr (.inl hi)
      . simp at hi; omega)
   have Wu : w.heap.size <= m2 := by have := hO7.size; omega
   have d17 : w6.cell? ⟨b, 17, none⟩ = some c.mp := hR6.blk.cell 17
   rw [uh HMP] at d17
   have HC := hide (tq b mb mn p ins (st : Int) _ (held - n) cut false w6 hR6.lt d17 hM6 hk (uh HP) hI6 (.inl rfl))
   have HF := hide (⟨hR6, hI6, hM6, hO9⟩ : _ ∧ _ ∧ _ ∧ _)
   clear hR5 hI5 hM5 hO7 hO8 hR6 hI6 hM6 hO9 hne5 Ua
   go_wp2_with fail
   refine (uh HC).mono ?_
   rintro e w7 ⟨rfl, rfl⟩
   go_wp2_with fail
   go_ret
   obtain ⟨hR6, hI6, hM6, hO9⟩ := uh HF
   have ei : mQ false (held - n) (st : Int) ins = ins := by unfold mQ; rw [if_neg (by simp)]
   refine ⟨rfl, c.rs ++ [m] ++ [m2], fun x hx => ?_, hI6, by simpa [QJ] using hR6, by rw [ei]; exact hM6, hO9⟩
   rcases List.mem_append.1 hx with hx | hx
   . exact iV hmw x hx
   . simp at hx; subst hx; exact .inr Wu
theorem Ad (b : Nat) (k n : Int) (w : World) (hb : b < w.heap.size) (c2 : w.cell? ⟨b, 2, none⟩ = some (.int .i64 0)) (hn : ¬ n < 1) (Q : Ending -> World -> Prop) (hQ : Calls Tryz.prog 68 #[.pointer (some ⟨b, 11, none⟩), .int .i64 k, .int .i64 n, oN b] w.drew fun r w' => (∃ x, r = .returned (.int .i64 x)) ∧ Q r w') :
 Calls Tryz.prog 31 #[.pointer (some ⟨b, 0, none⟩), .int .i64 k, .int .i64 n] w Q := by
 have HQ := hide hQ
 clear hQ
 unfold oN at HQ
 go_enter Tryz.func31, Tryz.ntmps31
 go_wp2_with fail
 refine (bJ b 0 w hb c2).mono ?_
 rintro r w1 ⟨rfl, rfl⟩
 go_wp2_with fail
 go_region_with (first | (go_at_call 68; refine (uh HQ).mono ?_; rintro r w2 ⟨⟨x, rfl⟩, hq⟩))
 all_goals
  go_wp2_with fail
  go_ret
  exact hq
theorem yf (b : Nat) (k n : Int) (w : World) (hb : b < w.heap.size) (c2 : w.cell? ⟨b, 2, none⟩ = some (.int .i64 0)) (hn : n < 1) :
 Calls Tryz.prog 31 #[.pointer (some ⟨b, 0, none⟩), .int .i64 k, .int .i64 n] w fun r w' => r = .returned (.int .i64 1) ∧ w' = w := by
 go_enter Tryz.func31, Tryz.ntmps31
 go_wp2_with fail
 refine (bJ b 0 w hb c2).mono ?_
 rintro r w1 ⟨rfl, rfl⟩
 go_wp2_with fail
 go_ret
 exact ⟨rfl, rfl⟩
theorem Live.drew {w : World} {b : Nat} {e : Lk.En} {d : PD} (h : Live w b e d) : Live w.drew b e d := h.only ((Only.refl (fun _ => False) w).drew) (fun _ _ h => h)
theorem bf.zt {w w' : World} {b : Nat} {e : Lk.En} {d : PD} (h : bf w.drew b d e w') : bf w b d e w' := by
 obtain ⟨d', h1, h2, h3⟩ := h
 exact ⟨d', h1, h2, h3.zt⟩
theorem pF {l : List Lk.Ot} {k : Int} (h : Lk.bM l k = none) : ∀ (i : Nat) (o : Lk.Ot), l[i]? = some o -> (o.id : Int) ≠ k := by
 intro i o ho e
 unfold Lk.bM at h
 rw [List.findIdx?_eq_none_iff] at h
 have := h o (List.mem_of_getElem? ho)
 simp [e] at this
theorem jv {fs gs : List Lk.Fr} (h : ∀ f ∈ fs, Lk.Good f.k f.st f.d) (h' : ∀ f ∈ gs, Lk.Good f.k f.st f.d) : ∀ f ∈ fs ++ gs, Lk.Good f.k f.st f.d := by
 intro f hf
 rcases List.mem_append.1 hf with hf | hf
 . exact h f hf
 . exact h' f hf
theorem MX (b : Nat) (e : Lk.En) (d : PD) (k n : Int) (w : World) (hL : Live w b e d) (hdn : e.down = 0) (hk : I64 k) (hn : 1 <= n) :
 Calls Tryz.prog 68 #[.pointer (some ⟨b, 11, none⟩), .int .i64 k, .int .i64 n, oN b] w fun r w' => r = .returned (.int .i64 ((e.aP k n).1 : Int)) ∧ bf w b d (e.aP k n).2 w' := by
 have c17 : w.cell? ⟨b, 17, none⟩ = some (.map (some d.mb)) := hL.rw.blk.cell 17
 have hC := Lk.Wf.aP hL.wf k n
 unfold Lk.En.aP at hC ⊢
 rw [if_neg (by rw [hdn]; simp), if_neg (by omega)] at hC ⊢
 cases hix : Lk.bM e.oth k with
 | none =>
   refine (mP b d.mb d.mn d.ins k n w hL.rw.lt c17 hL.map hk (hL.none k (pF hix))).mono ?_
   rintro r w' ⟨rfl, rfl⟩
   exact ⟨rfl, bf.same hL⟩
 | some i =>
   rw [hix] at hC
   obtain ⟨o, ho, hid⟩ := Lk.bg hix
   simp only [ho] at hC ⊢
   have hOk := hL.wf.oth i o ho
   have hoth := hL.yZ i o ho
   by_cases hfew : (o.held : Int) < n
   . rw [if_pos hfew]
     cases hp : d.ins o.id with
     | none =>
       refine (mP b d.mb d.mn d.ins k n w hL.rw.lt c17 hL.map hk (by rw [<- hid]; exact hp)).mono ?_
       rintro r w' ⟨rfl, rfl⟩
       exact ⟨rfl, bf.same hL⟩
     | some p =>
       obtain ⟨_, cr, cut, hI, _⟩ := hoth.some hp
       refine (x8 b d.mb d.mn p o.held d.ins k n cr cut _ w hL.rw.lt c17 hL.map hk (by rw [<- hid]; exact hp) hI hfew).mono ?_
       rintro r w' ⟨rfl, rfl⟩
       exact ⟨rfl, bf.same hL⟩
   . rw [if_neg hfew] at hC ⊢
     obtain ⟨m, rfl⟩ := Int.eq_ofNat_of_zero_le (by omega : 0 <= n)
     simp only [Int.toNat_natCast] at hC ⊢
     have hm : m <= o.held := by omega
     have hm1 : 1 <= m := by omega
     have MZ := hL.wf.held ho
     have lD : o.drp = false := by
      cases hx : o.drp with
      | false => rfl
      | true => have := hOk.drp hx; omega
     obtain ⟨p, hp⟩ : ∃ p, d.ins o.id = some p := by
      cases hp : d.ins o.id with
      | some p => exact ⟨p, rfl⟩
      | none =>
        have := hoth.none hp
        simp at this
        omega
     obtain ⟨_, cr, cut, hI, hcc⟩ := hoth.some hp
     have hroom : e.room <= 400 := by have := hL.wf.room; have := hL.wf.kN; omega
     have hwin := hL.wf.kN
     have Tm := hOk.cr
     rw [lD] at hI hcc
     simp only [Bool.or_false] at hI hcc
     rw [<- hid]
     refine (x9 b d.mb d.mn p o.held e.room m o.id cr d.ins cut (!o.opn) (fH e d) d.fs w hL.rw rfl rfl hL.map hOk.oL hp hI hm (by omega) (by omega) (fun hx => by
      have := hcc (by simpa using hx)
      omega)).mono ?_
     rintro r w' ⟨rfl, rs', hrs, hI', hR', hM', hO'⟩
     refine ⟨rfl, ?_⟩
     refine hL.QI (o' := o.eat m) ho rfl hR' (hO'.mono (fun x hx => ?_)) (rs' := rs') (mn' := d.mn) ?_ ?_ ?_ ?_ ?_ ?_ ?_ hC hrs hM' hL.mn ?_ ?_ ?_
     . rcases hx with hx | hx | hx | hx
       . exact .inl hx
       . exact .inr (.inl hx)
       . exact .inr (.inr (.inl hx))
       . exact .inr (.inr (.inr (hx ▸ hp)))
     . cases hop : o.opn <;> simp [fH, Lk.En.send, ah, Lk.En.nextId]
     . cases hop : o.opn <;> rfl
     . cases hop : o.opn <;> rfl
     . cases hop : o.opn <;> rfl
     . cases hop : o.opn <;> rfl
     . cases hop : o.opn <;> simp [Lk.En.send, hL.o9, QJ, Lk.Fr.pack]
     . refine jv hL.good (fun f hf => ?_)
       unfold QJ at hf
       rcases List.mem_cons.1 hf with hf | hf
       . subst hf; exact Lk.cO 0 m (by omega) (by omega)
       . split at hf
         . simp at hf
         . simp at hf
           subst hf
           exact Lk.cO o.id m hOk.oL (by omega)
     . unfold ji mQ
       show match (if (!o.opn) = true ∧ o.held - m = 0 then (fun x => if x = (o.id : Int) then none else d.ins x) else d.ins) (o.id : Int) with | some p => _ | none => _
       cases hop : o.opn with
       | true =>
         rw [if_neg (by simp), hp]
         rw [hop] at hI' hcc
         refine ⟨by simp [Lk.Ot.eat, hop], _, cut, by simpa [Lk.Ot.eat, hop] using hI', fun _ => ?_⟩
         have := hcc rfl
         simp [Lk.Ot.eat, hop, Rl, this.1, lD, this.2]
       | false =>
         rw [hop] at hI'
         by_cases h0 : o.held - m = 0
         . rw [if_pos ⟨by simp, h0⟩]
           simp [Lk.Ot.eat, hop, lD]
           omega
         . rw [if_neg (fun h => h0 h.2), hp]
           refine ⟨by simp [Lk.Ot.eat, hop, lD]; omega, _, cut, by simpa [Lk.Ot.eat, hop, lD] using hI', fun hx => ?_⟩
           simp [Lk.Ot.eat, hop, lD] at hx
     . intro x hx
       unfold mQ
       split
       . simp [hx]
       . rfl
     . intro q hq
       unfold mQ at hq
       split at hq
       . simp at hq
       . exact hq
theorem CW (b : Nat) (e : Lk.En) (d : PD) (k n : Int) (w : World) (hL : Live w b e d) (hdn : e.down = 0) (hk : I64 k) :
 Calls Tryz.prog 31 #[.pointer (some ⟨b, 0, none⟩), .int .i64 k, .int .i64 n] w fun r w' => r = .returned (.int .i64 ((e.aP k n).1 : Int)) ∧ bf w b d (e.aP k n).2 w' := by
 have c2 : w.cell? ⟨b, 2, none⟩ = some (.int .i64 0) := hL.c2 hdn
 by_cases hn : n < 1
 . refine (yf b k n w hL.rw.lt c2 hn).mono ?_
   rintro r w' ⟨rfl, rfl⟩
   unfold Lk.En.aP
   rw [if_neg (by rw [hdn]; simp), if_pos hn]
   exact ⟨rfl, bf.same hL⟩
 . refine Ad b k n w hL.rw.lt c2 hn _ ?_
   refine (MX b e d k n w.drew hL.drew hdn hk (by omega)).mono ?_
   rintro r w' ⟨rfl, h⟩
   exact ⟨⟨_, rfl⟩, rfl, h.zt⟩
def upL (l : List Lk.Ow) : List Lk.Ow := l.filter fun o => !o.done
def mi (l : List Lk.Ow) (i : Nat) : Nat := (upL (l.take i)).length
theorem fD (x : Lk.Ow) (l : List Lk.Ow) : upL (x :: l) = if x.done then upL l else x :: upL l := by
 unfold upL
 cases h : x.done <;> simp [h]
theorem jw (x : Lk.Ow) (l : List Lk.Ow) (i : Nat) : mi (x :: l) (i + 1) = mi l i + if x.done then 0 else 1 := by
 unfold mi
 rw [List.take_succ_cons, fD]
 cases h : x.done <;> simp
theorem lF (l : List Lk.Ow) : mi l 0 = 0 := by simp [mi, upL]
theorem EL : ∀ (l : List Lk.Ow) (i : Nat) (o : Lk.Ow), l[i]? = some o -> o.done = false -> (upL l)[mi l i]? = some o
 | [], i, o, h, _ => by simp at h
 | x :: l, 0, o, h, hd => by
   simp at h
   subst h
   rw [fD, lF, hd]
   simp
 | x :: l, i + 1, o, h, hd => by
   have ih := EL l i o (by simpa using h) hd
   rw [fD, jw]
   cases hx : x.done <;> simp [ih]
theorem nD : ∀ (l : List Lk.Ow) (i : Nat) (o x : Lk.Ow), l[i]? = some o -> o.done = false -> x.done = true -> upL (l.set i x) = (upL l).eraseIdx (mi l i)
 | [], i, o, x, h, _, _ => by simp at h
 | y :: l, 0, o, x, h, hd, hx => by
   simp at h
   subst h
   rw [List.set_cons_zero, fD, fD, lF, hd, hx]
   simp
 | y :: l, i + 1, o, x, h, hd, hx => by
   have ih := nD l i o x (by simpa using h) hd hx
   rw [List.set_cons_succ, fD, fD, jw, ih]
   cases hy : y.done <;> simp
theorem tu : ∀ (l : List Lk.Ow) (i : Nat) (o x : Lk.Ow), l[i]? = some o -> o.done = false -> x.done = false -> upL (l.set i x) = (upL l).set (mi l i) x
 | [], i, o, x, h, _, _ => by simp at h
 | y :: l, 0, o, x, h, hd, hx => by
   simp at h
   subst h
   rw [List.set_cons_zero, fD, fD, lF, hd, hx]
   simp
 | y :: l, i + 1, o, x, h, hd, hx => by
   have ih := tu l i o x (by simpa using h) hd hx
   rw [List.set_cons_succ, fD, fD, jw, ih]
   cases hy : y.done <;> simp
theorem yg (f : Lk.Ow -> Bool) : ∀ (l : List Lk.Ow), (upL l).findIdx? f = (l.findIdx? fun o => !o.done && f o).map (mi l)
 | [] => rfl
 | x :: l => by
   have ih := yg f l
   rw [fD, List.findIdx?_cons]
   cases hx : x.done with
   | true =>
     simp only [if_true, Bool.not_true, Bool.false_and, Bool.false_eq_true, if_false]
     rw [ih, Option.map_map]
     congr 1
     funext i
     simp [jw, hx]
   | false =>
     simp only [Bool.false_eq_true, if_false, Bool.not_false, Bool.true_and]
     rw [List.findIdx?_cons]
     cases hf : f x with
     | true => simp [lF]
     | false =>
       simp only [Bool.false_eq_true, if_false]
       rw [ih, Option.map_map, Option.map_map]
       congr 1
       funext i
       simp [jw, hx]
theorem Oz {e : Lk.En} (hw : Lk.Wf e) {i j : Nat} {o x : Lk.Ow} (ho : e.own[i]? = some o) (hx : e.own[j]? = some x) (h : x.id = o.id) : j = i := by
 have h1 := (hw.own i o ho).id
 have h2 := (hw.own j x hx).id
 omega
theorem OA {l : List Lk.Ow} {j : Nat} {o : Lk.Ow} (h : (upL l)[j]? = some o) : ∃ i, l[i]? = some o ∧ o.done = false ∧ mi l i = j := by
 induction l generalizing j with
 | nil => simp [upL] at h
 | cons x l ih =>
   rw [fD] at h
   cases hx : x.done with
   | true =>
     rw [hx] at h
     obtain ⟨i, h1, h2, h3⟩ := ih (by simpa using h)
     exact ⟨i + 1, by simpa using h1, h2, by rw [jw, hx, h3]; rfl⟩
   | false =>
     rw [hx] at h
     cases j with
     | zero =>
       simp at h
       subst h
       exact ⟨0, rfl, hx, lF _⟩
     | succ j =>
       obtain ⟨i, h1, h2, h3⟩ := ih (by simpa using h)
       exact ⟨i + 1, by simpa using h1, h2, by rw [jw, hx, h3]; rfl⟩
theorem EM {e : Lk.En} (hw : Lk.Wf e) : Apart (gJ e) := by
 intro a b x y hx hy h
 obtain ⟨i, h1, _, h3⟩ := OA (l := e.own) hx
 obtain ⟨j, h4, _, h6⟩ := OA (l := e.own) hy
 have := Oz hw h4 h1 h
 subst this
 omega
theorem OB {e : Lk.En} (hw : Lk.Wf e) (k : Int) : (gJ e).findIdx? (qh k) = ((Lk.bK e.own k).bind fun i => (e.own[i]?).bind fun o => if o.done then none else some (i, o)).map fun p => mi e.own p.1 := by
 have h := yg (qh k) e.own
 show (upL e.own).findIdx? (qh k) = _
 rw [h]
 cases hix : Lk.bK e.own k with
 | none =>
   have : (e.own.findIdx? fun o => !o.done && qh k o) = none := by
    rw [List.findIdx?_eq_none_iff]
    intro x hx
    unfold Lk.bK at hix
    rw [List.findIdx?_eq_none_iff] at hix
    have := hix x hx
    simp at this
    simp [qh, this]
   rw [this]
   rfl
 | some i =>
   obtain ⟨o, ho, hid⟩ := Lk.dR hix
   obtain ⟨hil, _, PN⟩ := List.findIdx?_eq_some_iff_getElem.1 hix
   simp only [Option.bind_some, ho]
   cases hd : o.done with
   | true =>
     have : (e.own.findIdx? fun o => !o.done && qh k o) = none := by
      rw [List.findIdx?_eq_none_iff]
      intro x hx
      obtain ⟨j, hj⟩ := List.getElem?_of_mem hx
      cases hk : qh k x with
      | false => simp
      | true =>
        unfold qh at hk
        have := Oz hw ho hj (by simp at hk; omega)
        subst this
        rw [ho] at hj
        cases hj
        simp [hd]
     rw [this]
     rfl
   | false =>
     have : (e.own.findIdx? fun o => !o.done && qh k o) = some i := by
      rw [List.findIdx?_eq_some_iff_getElem]
      refine ⟨hil, ?_, fun j hj => ?_⟩
      . have : e.own[i] = o := by rw [List.getElem?_eq_getElem hil] at ho; cases ho; rfl
        rw [this, hd]
        simp [qh, hid]
      . have := PN j hj
        simp at this
        simp [qh, this]
     rw [this]
     rfl
theorem Live.Na {w w' : World} {b : Nat} {e e' : Lk.En} {d : PD} {c' : EC} {fs' : List Lk.Fr} {rs' ps' : List Nat} {sv' ov' : Value} (h : Live w b e d) (hR : Rw w' b c' fs') (hO : Only (fun x => x = b ∨ x ∈ d.rs ∨ d.sv.ownBlock = some x ∨ x ∈ d.ps) w w')
 (hc : c' = fH e' { d with rs := rs', fs := fs', ps := ps', sv := sv', ov := ov' }) (h2 : e'.oth = e.oth) (h4 : e'.inn = e.inn) (hrow : e'.row = fs'.map Lk.Fr.pack) (hg : ∀ f ∈ fs', Lk.Good f.k f.st f.d) (hw : Lk.Wf e') (hp : ∀ x ∈ rs', x ∈ d.rs ∨ w.heap.size <= x)
 (hsl : w'.ownsRow 0 169 1 sv' ps'.length (ps'.map ptr)) (hsv : ∀ x, sv'.ownBlock = some x -> d.sv.ownBlock = some x ∨ w.heap.size <= x) (hov : w'.ownsRow 0 112 2 ov' e'.out.length (aQ e'.out)) (Wv : ∀ x, ov'.ownBlock = some x -> d.ov.ownBlock = some x ∨ w.heap.size <= x)
 (hout : mF w' (gJ e') ps') (hnd : ps'.Nodup) (hps : ∀ x ∈ ps', x ∈ d.ps ∨ w.heap.size <= x) (h4s : ps'.length <= 4) : bf w b d e' w' := by
 have hs := h.fQ
 have Gw : ∀ x, (d.sv.ownBlock = some x ∨ x ∈ d.ps) -> d.iv.ownBlock ≠ some x ∧ x ≠ d.mb ∧ ∀ k, d.ins k ≠ some x := by
  intro x hx
  have hI : (∃ c, Is w x 169 c) ∨ (∃ c, Is w x 173 c) := by
   rcases hx with hx | hx
   . left
     rcases h.sl.2 with ⟨h0, _⟩ | ⟨g, cap, cur, h0, _, hg, _⟩
     . rw [h0] at hx; simp [Value.ownBlock] at hx
     . rw [h0] at hx
       simp [Value.ownBlock] at hx
       subst hx
       exact ⟨cur.toList, by unfold Is; simpa using hg⟩
   . obtain ⟨o, hy⟩ := h.outs.mem hx; exact .inr ⟨_, hy⟩
  refine ⟨fun e => ?_, fun e => ?_, fun k hk => ?_⟩
  . rcases hI with ⟨c, hI⟩ | ⟨c, hI⟩ <;> exact own_ne h.inn hI (nbq rfl) e.symm
  . rcases hI with ⟨c, hI⟩ | ⟨c, hI⟩ <;> exact h.map.ne hI e.symm
  . obtain ⟨_, _, _, _, _, _, hy, _⟩ := h.KX hk
    rcases hI with ⟨c, hI⟩ | ⟨c, hI⟩ <;> exact hI.ne hy (nbq rfl) rfl
 have hf : ∀ x, foot b { d with rs := rs', fs := fs', ps := ps', sv := sv', ov := ov' } x -> foot b d x ∨ w.heap.size <= x := by
  intro x hx
  rcases hx with hx | hx | hx | hx | hx | hx | hx | hx
  . exact .inl (.inl hx)
  . exact (Wv x hx).imp (fun h => .inr (.inl h)) id
  . exact .inl (.inr (.inr (.inl hx)))
  . exact (hsv x hx).imp (fun h => .inr (.inr (.inr (.inl h)))) id
  . exact (hps x hx).imp (fun h => .inr (.inr (.inr (.inr (.inl h))))) id
  . exact (hp x hx).imp (fun h => .inr (.inr (.inr (.inr (.inr (.inl h)))))) id
  . exact .inl (.inr (.inr (.inr (.inr (.inr (.inr (.inl hx)))))))
  . exact .inl (.inr (.inr (.inr (.inr (.inr (.inr (.inr hx)))))))
 refine ⟨{ d with rs := rs', fs := fs', ps := ps', sv := sv', ov := ov' }, ⟨by rw [<- hc]; exact hR, hrow, hg, hov, ?_, hsl, hout, hnd, h4s, ?_, by rw [h2]; exact h.mn, ?_, by rw [h2]; exact h.none, h.inj, hw, ?_⟩, hf, hO.mono (fun x hx => ?_)⟩
 . rw [h4]
   refine ag h.inn hO (fun i hi hx => ?_)
   rcases hx with hx | hx | hx | hx
   . exact (hs i (.inl hx)).2.1 hi
   . exact (hs i (.inr hx)).2.1 hi
   . exact (Gw i (.inl hx)).1 hi
   . exact (Gw i (.inr hx)).1 hi
 . refine h.map.only hO (fun hx => ?_)
   rcases hx with hx | hx | hx | hx
   . exact (hs _ (.inl hx)).2.2.2.2.1 rfl
   . exact (hs _ (.inr hx)).2.2.2.2.1 rfl
   . exact (Gw _ (.inl hx)).2.1 rfl
   . exact (Gw _ (.inr hx)).2.1 rfl
 . rw [h2]
   refine fun i o ho => (h.yZ i o ho).only hO (fun p hp hx => ?_)
   rcases hx with hx | hx | hx | hx
   . exact (hs p (.inl hx)).2.2.2.2.2 _ hp
   . exact (hs p (.inr hx)).2.2.2.2.2 _ hp
   . exact (Gw p (.inl hx)).2.2 _ hp
   . exact (Gw p (.inr hx)).2.2 _ hp
 . intro x hx
   rcases hf x hx with h' | h'
   . exact h.pos x h'
   . have := h.pos b (.inl rfl)
     have := h.rw.lt
     omega
 . rcases hx with hx | hx | hx | hx
   . exact .inl hx
   . exact .inr (.inr (.inr (.inr (.inr (.inl hx)))))
   . exact .inr (.inr (.inr (.inl hx)))
   . exact .inr (.inr (.inr (.inr (.inl hx))))
theorem bf.trans {w w1 w2 : World} {b : Nat} {d : PD} {e1 e2 : Lk.En} {d1 : PD} (_h1 : Live w1 b e1 d1) (hf : ∀ i, foot b d1 i -> foot b d i ∨ w.heap.size <= i) (hO : Only (foot b d) w w1) (h2 : bf w1 b d1 e2 w2) : bf w b d e2 w2 := by
 obtain ⟨d2, h3, h4, h5⟩ := h2
 refine ⟨d2, h3, fun i hi => ?_, hO.trans h5 (fun i hi hlt => ?_)⟩
 . rcases h4 i hi with h | h
   . exact hf i h
   . exact .inr (Nat.le_trans hO.size h)
 . rcases hf i hi with h | h
   . exact h
   . omega
theorem wJ {R : Option Nat} {ps : List Nat} (h : ps.Nodup) : (iR R ps).Nodup := by
 cases R with
 | none => exact h
 | some i => exact h.sublist (List.eraseIdx_sublist ps i)
theorem EN {R : Option Nat} {ps : List Nat} {x : Nat} (h : x ∈ iR R ps) : x ∈ ps := by
 cases R with
 | none => exact h
 | some i => exact List.mem_of_mem_eraseIdx h
theorem len_drop {R : Option Nat} {ps : List Nat} : (iR R ps).length <= ps.length := by
 cases R with
 | none => exact Nat.le_refl _
 | some i => exact (List.eraseIdx_sublist ps i).length_le
def Lk.En.lG (e : Lk.En) (k : Int) : Option (Nat × Lk.Ow) := (Lk.bK e.own k).bind fun i => (e.own[i]?).bind fun o => if o.done then none else some (i, o)
def Lk.En.dropped (e : Lk.En) (k : Int) : Lk.En := match e.lG k with
 | some (i, o) => { e with own := e.own.set i { o with done := true } }
 | none => e
theorem Lk.En.jS {e : Lk.En} {k : Int} {i : Nat} {o : Lk.Ow} (h : e.lG k = some (i, o)) : e.own[i]? = some o ∧ o.done = false ∧ (o.id : Int) = k := by
 unfold Lk.En.lG at h
 cases hx : Lk.bK e.own k with
 | none => rw [hx] at h; cases h
 | some j =>
   rw [hx] at h
   obtain ⟨x, hxo, hid⟩ := Lk.dR hx
   simp only [Option.bind_some, hxo] at h
   cases hd : x.done with
   | true => rw [hd] at h; simp at h
   | false =>
     rw [hd] at h
     simp at h
     obtain ⟨rfl, rfl⟩ := h
     exact ⟨hxo, hd, hid⟩
theorem Wf.dropped {e : Lk.En} (h : Lk.Wf e) (k : Int) : Lk.Wf (e.dropped k) := by
 unfold Lk.En.dropped
 cases hx : e.lG k with
 | none => exact h
 | some p =>
   obtain ⟨i, o⟩ := p
   obtain ⟨ho, _, _⟩ := Lk.En.jS hx
   have hk := h.own i o ho
   exact h.kL (x := { o with done := true }) ho rfl hk.left hk.cr h.all (a := e.all) (t := e.turn)
theorem oh (b : Nat) (e : Lk.En) (d : PD) (k : Int) (w : World) (hL : Live w b e d) :
 Calls Tryz.prog 75 #[.pointer (some ⟨b, 3, none⟩), .int .i64 k] w fun r w' => r = .returned (.bool (e.lG k).isSome) ∧ bf w b d (e.dropped k) w' := by
 have hup := OB hL.wf k
 have h4 := hL.ps4
 refine (Ej b 0 101 (fH e d).cells d.sv (gJ e) d.ps k _ w hL.rw.blk (nbq rfl) (nbq rfl) rfl hL.outs hL.sl (by omega) (EM hL.wf) hup).mono ?_
 rintro r w' ⟨rfl, v', hI, ho, hv, hO, hOn⟩
 have Ro : ∀ x, v'.ownBlock = some x -> d.sv.ownBlock = some x ∨ w.heap.size <= x := fun x hx => .inl (hv ▸ hx)
 have hrow : ∀ r ∈ d.rs, ¬ (r = b ∨ some r = d.sv.ownBlock) := fun r hr hx => by
  rcases hx with hx | hx
  . subst hx; exact hL.rw.I4 hr
  . exact (hL.fQ r (.inr hr)).2.2.1 hx.symm
 have hR : Rw w' b { fH e d with sv := v' } d.fs := ⟨hI, hL.rw.row.only hOn hrow⟩
 have hout : w'.ownsRow 0 112 2 d.ov e.out.length (aQ e.out) := ag hL.out hOn (fun i hi hx => by
  rcases hx with hx | hx
  . exact (hL.fQ i (.inl hx)).1 hi
  . rcases oP hL.out hL.sl (nbq rfl) with h | h
    . rw [h] at hi; cases hi
    . exact h (hi.trans hx))
 have U9 : Only (fun x => x = b ∨ x ∈ d.rs ∨ d.sv.ownBlock = some x ∨ x ∈ d.ps) w w' := hOn.mono (fun x hx => by
  rcases hx with hx | hx
  . exact .inl hx
  . exact .inr (.inr (.inl hx.symm)))
 have hW := Wf.dropped hL.wf k
 refine ⟨?_, ?_⟩
 . rw [Option.isSome_map]
   rfl
 . unfold Lk.En.dropped at hW ⊢
   show bf w b d (match e.lG k with | some (i, o) => _ | none => _) w'
   cases hx : e.lG k with
   | none =>
     rw [hx] at hW
     have hx' : ((Lk.bK e.own k).bind fun i => (e.own[i]?).bind fun o => if o.done then none else some (i, o)) = none := hx
     rw [hx'] at ho
     refine hL.Na hR U9 (ps' := d.ps) (sv' := v') (ov' := d.ov) (rs' := d.rs) rfl rfl rfl hL.o9 hL.good hW (fun x hx => .inl hx) ho Ro hout (fun x hx => .inl hx) hO hL.psn (fun x hx => .inl hx) hL.ps4
   | some p =>
     obtain ⟨i, o⟩ := p
     rw [hx] at hW
     have hx' : ((Lk.bK e.own k).bind fun i => (e.own[i]?).bind fun o => if o.done then none else some (i, o)) = some (i, o) := hx
     rw [hx'] at ho
     obtain ⟨hoi, hd, _⟩ := Lk.En.jS hx
     have hu : gJ { e with own := e.own.set i { o with done := true } } = (gJ e).eraseIdx (mi e.own i) := nD e.own i o { o with done := true } hoi hd rfl
     refine hL.Na (e' := { e with own := e.own.set i { o with done := true } }) hR U9 (ps' := d.ps.eraseIdx (mi e.own i)) (sv' := v') (ov' := d.ov) (rs' := d.rs) ?_ rfl rfl hL.o9 hL.good hW (fun x hx => .inl hx) ho Ro hout (fun x hx => .inl hx) ?_ (wJ (R := some _) hL.psn) (fun x hx => .inl (EN (R := some _) hx)) (Nat.le_trans (len_drop (R := some _)) hL.ps4)
     . simp [fH, Lk.En.nextId, ah]
     . rw [hu]
       exact hO.drop (some (mi e.own i))
theorem yh (e : Lk.En) (n : Nat) : (e.back n).row = e.row ++ (uS n).map Lk.Fr.pack := by
 unfold Lk.En.back uS
 split
 . simp [Lk.En.send, Lk.Fr.pack]
 . simp
theorem Jz (e : Lk.En) (n : Nat) : (e.back n).room = e.room + n := by
 unfold Lk.En.back
 split
 . rfl
 . show e.room = _; omega
theorem bD (e : Lk.En) (n : Nat) : (e.back n).own = e.own ∧ (e.back n).oth = e.oth ∧ (e.back n).out = e.out ∧ (e.back n).inn = e.inn ∧ (e.back n).down = e.down ∧ (e.back n).rest = e.rest ∧ (e.back n).win = e.win ∧ (e.back n).side = e.side ∧ (e.back n).turn = e.turn ∧ (e.back n).all = e.all ∧ (e.back n).iH = e.iH ∧ (e.back n).oK = e.oK := by
 unfold Lk.En.back
 split <;> exact ⟨rfl, rfl, rfl, rfl, rfl, rfl, rfl, rfl, rfl, rfl, rfl, rfl⟩
theorem tC (e : Lk.En) (d : PD) (n : Nat) : fH (e.back n) d = { fH e d with icr := ((e.room + n : Nat) : Int) } := by
 obtain ⟨h1, h2, h3, h4, h5, h6, h7, h8, h9, h10, h11, h12⟩ := bD e n
 have h13 := Jz e n
 simp only [fH, h2, h3, h4, h5, h6, h7, h8, h9, h10, h11, h12, h13, Lk.En.nextId, ah, h1]
def Lk.En.JA (e : Lk.En) (i : Nat) (o : Lk.Ot) (code : Nat) : Lk.En := (({ e with oth := e.oth.set i { o with opn := false, drp := true, held := 0 } } : Lk.En).send 3 o.id (Lk.wire code)).back o.held
theorem EO (b i p code : Nat) (e : Lk.En) (d : PD) (o : Lk.Ot) (w : World) (hL : Live w b e d) (ho : e.oth[i]? = some o) (hop : o.opn = true) (hp : d.ins o.id = some p) (hc : code <= 268435455) (hW : Lk.Wf (e.JA i o code)) :
 Calls Tryz.prog 119 #[.pointer (some ⟨b, 0, none⟩), .int .i64 (o.id : Int), .pointer (some ⟨p, 0, none⟩), .int .i64 (code : Int)] w fun r w' => r = .returned (.tuple #[]) ∧ bf w b d (e.JA i o code) w' := by
 obtain ⟨_, cr, cut, hI, hcc⟩ := (hL.yZ i o ho).some hp
 have hOk := hL.wf.oth i o ho
 have lD := hOk.two hop
 have MZ := hL.wf.held ho
 have hroom : e.room <= 400 := by have := hL.wf.room; have := hL.wf.kN; omega
 have Wy := hcc (by simp [hop])
 have Lc : 0 < o.id := by have := hOk.id; have := hL.wf.side; omega
 refine (PL b p e.room o.held o.id code cr cut _ (fH e d) d.fs w hL.rw rfl hI (by omega) (by omega) hc).mono ?_
 rintro r w' ⟨rfl, rs', hrs, hI', hR', hO'⟩
 refine ⟨rfl, hL.QI (o' := { o with opn := false, drp := true, held := 0 }) ho rfl hR' (hO'.mono (fun x hx => ?_)) (rs' := rs') (mn' := d.mn) (ins' := d.ins) ?_ ?_ ?_ ?_ ?_ ?_ ?_ hW hrs ?_ hL.mn ?_ (fun k _ => rfl) (fun q hq => hq)⟩
 . rcases hx with hx | hx | hx
   . exact .inl hx
   . exact .inr (.inr (.inr (hx ▸ hp)))
   . exact .inr (.inl hx)
 . unfold Lk.En.JA
   rw [tC]
   simp [fH, Lk.En.send, ah, Lk.En.nextId]
 . exact (bD _ _).1
 . exact (bD _ _).2.1
 . exact (bD _ _).2.2.1
 . exact (bD _ _).2.2.2.1
 . unfold Lk.En.JA
   rw [yh]
   simp [Lk.En.send, hL.o9, Tj, Lk.Fr.pack]
 . refine jv hL.good (fun f hf => ?_)
   unfold Tj uS at hf
   rcases List.mem_cons.1 hf with hf | hf
   . subst hf; exact Lk.gz o.id code Lc hOk.oL hc
   . split at hf
     . simp at hf
       subst hf
       exact Lk.cO 0 o.held (by omega) (by omega)
     . simp at hf
 . refine hL.map.only hO' (fun hx => ?_)
   rcases hx with hx | hx | hx
   . exact (hL.fQ _ (.inl hx)).2.2.2.2.1 rfl
   . exact hL.map.ne hI hx
   . exact (hL.fQ _ (.inr hx)).2.2.2.2.1 rfl
 . unfold ji
   show match d.ins (o.id : Int) with | some p => _ | none => _
   rw [hp]
   refine ⟨by simp, cr, true, ?_, fun _ => ⟨Wy.1, rfl⟩⟩
   simpa [hop] using hI'
theorem CX (b : Nat) (k code : Int) (w : World) (hb : b < w.heap.size) (c2 : w.cell? ⟨b, 2, none⟩ = some (.int .i64 0)) (hc : code < 0 ∨ 268435455 < code) :
 Calls Tryz.prog 69 #[.pointer (some ⟨b, 0, none⟩), .int .i64 k, .int .i64 code] w fun r w' => r = .returned (.int .i64 1) ∧ w' = w := by
 have hnum : (decide (0 <= code) && decide (code <= 268435455)) = false := by
  rcases hc with h | h
  . rw [decide_eq_false (by omega)]; rfl
  . rw [decide_eq_false (by omega : ¬ code <= 268435455), Bool.and_false]
 clear hc
 go_enter Tryz.func69, Tryz.ntmps69
 go_wp2_with fail
 refine (bJ b 0 w hb c2).mono ?_
 rintro r w1 ⟨rfl, rfl⟩
 go_wp2_with fail
 refine (dU code _).mono ?_
 rw [hnum]
 rintro r w2 ⟨rfl, rfl⟩
 go_wp2_with fail
 go_ret
 exact ⟨rfl, rfl⟩
theorem JB (b i : Nat) (e : Lk.En) (d : PD) (o : Lk.Ow) (k : Int) (code : Nat) (w : World) (hL : Live w b e d) (hdn : e.down = 0) (hc : code <= 268435455) (hup : e.lG k = some (i, o)) :
 Calls Tryz.prog 69 #[.pointer (some ⟨b, 0, none⟩), .int .i64 k, .int .i64 (code : Int)] w fun r w' => r = .returned (.int .i64 0) ∧ bf w b d (({ e with own := e.own.set i { o with done := true } } : Lk.En).send 3 o.id (Lk.wire code)) w' := by
 have hnum : (decide (0 <= (code : Int)) && decide ((code : Int) <= 268435455)) = true := by simp; omega
 have c2 : w.cell? ⟨b, 2, none⟩ = some (.int .i64 0) := hL.c2 hdn
 clear hdn
 have hbl := hL.rw.lt
 have hD := oh b e d k w hL
 rw [hup] at hD
 have hdr : e.dropped k = { e with own := e.own.set i { o with done := true } } := by unfold Lk.En.dropped; rw [hup]
 rw [hdr] at hD
 obtain ⟨hoi, _, hid⟩ := Lk.En.jS hup
 have hOk := hL.wf.own i o hoi
 have Lc : 0 < o.id := by have := hOk.id; omega
 have hg := Lk.gz o.id code Lc hOk.oL hc
 subst hid
 have HD := hide hD
 have HG := hide hg
 clear hL hD hdr hoi hOk hg hup
 go_enter Tryz.func69, Tryz.ntmps69
 go_wp2_with fail
 refine (bJ b 0 w hbl c2).mono ?_
 rintro r w1 ⟨rfl, rfl⟩
 go_wp2_with fail
 refine (dU _ _).mono ?_
 rw [hnum]
 rintro r w2 ⟨rfl, rfl⟩
 clear hnum
 go_wp2_with fail
 refine (uh HD).mono ?_
 rintro r w3 ⟨rfl, d1, hL1, hf1, hO1⟩
 have hR1 := hL1.rw
 have BB := hR1.lt
 have HF := hide (⟨hL1, hf1, hO1⟩ : _ ∧ _ ∧ _)
 clear hL1 hf1 hO1
 go_wp2_with fail
 go_cut [] (fun wc => bf w3 b d1 (({ e with own := e.own.set i { o with done := true } } : Lk.En).send 3 o.id (Lk.wire code)) wc)
 case first =>
  go_region_with (first
   | (go_at_call 115; refine (dS 3 (o.id : Int) code _ rfl hc _).mono ?_; rintro r w4 ⟨rfl, hb4⟩)
   | (go_at_call 45; refine (fC b _ d1.fs ⟨3, o.id, Lk.wire code⟩ _ (hR1.EH hb4)).mono ?_; rintro r w5 ⟨rfl, n, hn, hR5, hO5⟩))
  all_goals
   go_wp2_with fail
   go_meet
   have hsz : w3.heap.size <= w4.heap.size := hb4.size
   exact (uh HF).1.put hR5 (by omega) ((Only.of_below (bQ hb4) _).trans hO5 (fun i hi _ => hi)) (uh HG)
 case rest =>
  go_wp2_with fail
  go_ret
  obtain ⟨hL1, hf1, hO1⟩ := uh HF
  exact ⟨rfl, bf.trans hL1 hf1 hO1 hcut⟩
theorem wK (b : Nat) (e : Lk.En) (d : PD) (k : Int) (code : Nat) (w : World) (hL : Live w b e d) (hdn : e.down = 0) (hk : I64 k) (hc : code <= 268435455) (hup : e.lG k = none) (hno : ∀ (i : Nat) (o : Lk.Ot), e.oth[i]? = some o -> (o.id : Int) = k -> o.opn = false) :
 Calls Tryz.prog 69 #[.pointer (some ⟨b, 0, none⟩), .int .i64 k, .int .i64 (code : Int)] w fun r w' => r = .returned (.int .i64 14) ∧ bf w b d e w' := by
 have hnum : (decide (0 <= (code : Int)) && decide ((code : Int) <= 268435455)) = true := by simp; omega
 have c2 : w.cell? ⟨b, 2, none⟩ = some (.int .i64 0) := hL.c2 hdn
 clear hdn
 have hbl := hL.rw.lt
 have hD := oh b e d k w hL
 rw [hup] at hD
 have hdr : e.dropped k = e := by unfold Lk.En.dropped; rw [hup]
 rw [hdr] at hD
 have HD := hide hD
 have HNO := hide hno
 clear hL hD hdr hup hno
 go_enter Tryz.func69, Tryz.ntmps69
 go_wp2_with fail
 refine (bJ b 0 w hbl c2).mono ?_
 rintro r w1 ⟨rfl, rfl⟩
 go_wp2_with fail
 refine (dU _ _).mono ?_
 rw [hnum]
 rintro r w2 ⟨rfl, rfl⟩
 clear hnum
 go_wp2_with fail
 refine (uh HD).mono ?_
 rintro r w3 ⟨rfl, d1, hL1, hf1, hO1⟩
 have BB := hL1.rw.lt
 have c17 : w3.cell? ⟨b, 17, none⟩ = some (.map (some d1.mb)) := hL1.rw.blk.cell 17
 cases hp : d1.ins k with
 | none =>
   have HC := hide (nC b d1.mb d1.mn d1.ins k w3 BB c17 hL1.map hk hp)
   have HF := hide (⟨hL1, hf1, hO1⟩ : _ ∧ _ ∧ _)
   clear hL1 hf1 hO1 hp
   go_wp2_with fail
   refine (uh HC).mono ?_
   rintro r w4 ⟨rfl, n, rfl⟩
   go_wp2_with fail
   go_ret
   obtain ⟨hL1, hf1, hO1⟩ := uh HF
   exact ⟨rfl, d1, hL1.only ((Only.refl (fun _ => False) w3).drewN n) (fun _ _ h => h), hf1, hO1.drewN n⟩
 | some p =>
   obtain ⟨i, o, cr, cut, ho, hid, hI, hcc, _⟩ := hL1.KX hp
   have hop := uh HNO i o ho hid
   rw [hop] at hI hcc
   simp only [Bool.false_or] at hI hcc
   have HC := hide (jr b d1.mb d1.mn p d1.ins k cr o.held cut _ w3 BB c17 hL1.map hk hp hI)
   have HF := hide (⟨hL1, hf1, hO1⟩ : _ ∧ _ ∧ _)
   have HI := hide hI
   clear hL1 hf1 hO1 hp ho hid hI
   cases hdp : o.drp with
   | false =>
     rw [hdp] at HC
     go_wp2_with fail
     refine (uh HC).mono ?_
     rintro r w4 ⟨rfl, n, rfl⟩
     go_wp2_with fail
     go_ret
     obtain ⟨hL1, hf1, hO1⟩ := uh HF
     exact ⟨rfl, d1, hL1.only ((Only.refl (fun _ => False) w3).drewN n) (fun _ _ h => h), hf1, hO1.drewN n⟩
   | true =>
     rw [hdp] at HC HI hcc
     have hcut := (hcc rfl).2
     rw [hcut] at HI
     have HO := hide (fun n => open_any p cr o.held true false (w3.drewN n) ((uh HI).drewN n))
     clear hcc hcut
     go_wp2_with fail
     refine (uh HC).mono ?_
     rintro r w4 ⟨rfl, n, rfl⟩
     go_wp2_with fail
     refine (uh HO n).mono ?_
     rintro r w5 ⟨rfl, rfl⟩
     go_wp2_with fail
     go_ret
     obtain ⟨hL1, hf1, hO1⟩ := uh HF
     exact ⟨rfl, d1, hL1.only ((Only.refl (fun _ => False) w3).drewN n) (fun _ _ h => h), hf1, hO1.drewN n⟩
theorem JC (b i : Nat) (e : Lk.En) (d : PD) (o : Lk.Ot) (code : Nat) (w : World) (hL : Live w b e d) (hdn : e.down = 0) (hc : code <= 268435455) (hup : e.lG (o.id : Int) = none) (ho : e.oth[i]? = some o) (hop : o.opn = true) (hW : Lk.Wf (e.JA i o code)) :
 Calls Tryz.prog 69 #[.pointer (some ⟨b, 0, none⟩), .int .i64 (o.id : Int), .int .i64 (code : Int)] w fun r w' => r = .returned (.int .i64 0) ∧ bf w b d (e.JA i o code) w' := by
 have hk : I64 (o.id : Int) := ⟨by omega, by have := (hL.wf.oth i o ho).oL; omega⟩
 have hnum : (decide (0 <= (code : Int)) && decide ((code : Int) <= 268435455)) = true := by simp; omega
 have c2 : w.cell? ⟨b, 2, none⟩ = some (.int .i64 0) := hL.c2 hdn
 clear hdn
 have hbl := hL.rw.lt
 have hD := oh b e d (o.id : Int) w hL
 rw [hup] at hD
 have hdr : e.dropped (o.id : Int) = e := by unfold Lk.En.dropped; rw [hup]
 rw [hdr] at hD
 have HD := hide hD
 have HHO := hide (⟨ho, hop⟩ : _ ∧ _)
 clear hL hD hdr hup ho hop
 go_enter Tryz.func69, Tryz.ntmps69
 go_wp2_with fail
 refine (bJ b 0 w hbl c2).mono ?_
 rintro r w1 ⟨rfl, rfl⟩
 go_wp2_with fail
 refine (dU _ _).mono ?_
 rw [hnum]
 rintro r w2 ⟨rfl, rfl⟩
 clear hnum
 go_wp2_with fail
 refine (uh HD).mono ?_
 rintro r w3 ⟨rfl, d1, hL1, hf1, hO1⟩
 have BB := hL1.rw.lt
 have c17 : w3.cell? ⟨b, 17, none⟩ = some (.map (some d1.mb)) := hL1.rw.blk.cell 17
 obtain ⟨ho, hop⟩ := uh HHO
 obtain ⟨p, hp⟩ : ∃ p, d1.ins o.id = some p := by
  cases hp : d1.ins o.id with
  | some p => exact ⟨p, rfl⟩
  | none =>
    have := (hL1.yZ i o ho).none hp
    simp [hop] at this
 obtain ⟨_, cr, cut, hI, hcc⟩ := (hL1.yZ i o ho).some hp
 have lD := (hL1.wf.oth i o ho).two hop
 rw [hop] at hI hcc
 simp only [Bool.true_or, Bool.not_true] at hI hcc
 have hcut := (hcc trivial).2
 rw [lD] at hcut
 rw [hcut] at hI
 have HC := hide (jr b d1.mb d1.mn p d1.ins (o.id : Int) cr o.held false false w3 BB c17 hL1.map hk hp hI)
 have HO := hide (fun n => open_any p cr o.held false false (w3.drewN n) (hI.drewN n))
 have hLn := fun n => hL1.only ((Only.refl (fun _ => False) w3).drewN n) (fun _ _ h => h)
 have WA := hide (fun n => EO b i p code e d1 o (w3.drewN n) (hLn n) ho hop hp hc hW)
 have HF := hide (⟨hL1, hf1, hO1⟩ : _ ∧ _ ∧ _)
 clear hL1 hf1 hO1 hp ho hop hI hcc hcut lD hLn
 go_wp2_with fail
 refine (uh HC).mono ?_
 rintro r w4 ⟨rfl, n, rfl⟩
 go_wp2_with fail
 refine (uh HO n).mono ?_
 rintro r w5 ⟨rfl, rfl⟩
 go_wp2_with fail
 refine (uh WA n).mono ?_
 rintro r w6 ⟨rfl, hP⟩
 go_wp2_with fail
 go_ret
 obtain ⟨hL1, hf1, hO1⟩ := uh HF
 exact ⟨rfl, bf.trans (hL1.only ((Only.refl (fun _ => False) w3).drewN n) (fun _ _ h => h)) hf1 (hO1.drewN n) hP⟩
theorem JD (b : Nat) (e : Lk.En) (d : PD) (k code : Int) (w : World) (hL : Live w b e d) (hdn : e.down = 0) (hk : I64 k) :
 Calls Tryz.prog 69 #[.pointer (some ⟨b, 0, none⟩), .int .i64 k, .int .i64 code] w fun r w' => r = .returned (.int .i64 ((e.dN k code).1 : Int)) ∧ bf w b d (e.dN k code).2 w' := by
 have c2 : w.cell? ⟨b, 2, none⟩ = some (.int .i64 0) := hL.c2 hdn
 have hW := hL.wf.dN k code
 unfold Lk.En.dN at hW ⊢
 rw [if_neg (by rw [hdn]; simp)] at hW ⊢
 by_cases hc : code < 0 ∨ 268435455 < code
 . rw [if_pos hc]
   refine (CX b k code w hL.rw.lt c2 hc).mono ?_
   rintro r w' ⟨rfl, rfl⟩
   exact ⟨rfl, bf.same hL⟩
 . rw [if_neg hc] at hW ⊢
   obtain ⟨m, rfl⟩ := Int.eq_ofNat_of_zero_le (by omega : 0 <= code)
   simp only [Int.toNat_natCast] at hW ⊢
   cases hup : e.lG k with
   | some q =>
     obtain ⟨i, o⟩ := q
     have hup' : ((Lk.bK e.own k).bind fun i => (e.own[i]?).bind fun o => if o.done then none else some (i, o)) = some (i, o) := hup
     rw [hup']
     exact JB b i e d o k m w hL hdn (by omega) hup
   | none =>
     have hup' : ((Lk.bK e.own k).bind fun i => (e.own[i]?).bind fun o => if o.done then none else some (i, o)) = none := hup
     rw [hup'] at hW ⊢
     simp only at hW ⊢
     cases hix : Lk.bM e.oth k with
     | none =>
       refine (wK b e d k m w hL hdn hk (by omega) hup (fun i o ho hid => absurd hid (pF hix i o ho))).mono ?_
       rintro r w' ⟨rfl, h⟩
       exact ⟨rfl, h⟩
     | some i =>
       obtain ⟨o, ho, hid⟩ := Lk.bg hix
       rw [hix] at hW
       simp only [Option.bind_some, ho] at hW ⊢
       cases hop : o.opn with
       | false =>
         refine (wK b e d k m w hL hdn hk (by omega) hup (fun j x hx WB => ?_)).mono ?_
         . have := EJ hL.wf ho hx (by omega)
           subst this
           rw [ho] at hx
           cases hx
           exact hop
         rintro r w' ⟨rfl, h⟩
         exact ⟨rfl, h⟩
       | true =>
         rw [hop] at hW
         simp only [if_true] at hW ⊢
         subst hid
         exact JC b i e d o m w hL hdn (by omega) hup ho hop hW
end Go.Proofs.YtbkpdapagfjmmaaGreatDoor
