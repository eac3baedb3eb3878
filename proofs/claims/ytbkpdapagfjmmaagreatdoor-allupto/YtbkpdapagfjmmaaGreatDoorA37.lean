import Derived.Test.YtbkpdapagfjmmaaGreatDoorA36
set_option linter.unusedVariables false
set_option maxRecDepth 100000
set_option maxHeartbeats 16000000
namespace Go.Proofs.YtbkpdapagfjmmaaGreatDoor
open Go.RowKit
theorem FS.Ul {w w' : World} {b : Nat} {e e' : Lk.En} {d : PD} {g B : Nat} {v : Value} {evs : List EvH} (h : FS w b e d g B v evs) (hL : bf w b d e' w') : ∃ d', FS w' b e' d' g B v evs ∧ (∀ i, foot b d' i -> foot b d i ∨ w.heap.size <= i) ∧ Only (foot b d) w w' := by
 obtain ⟨d', h1, h2, h3⟩ := hL
 refine ⟨d', ⟨h1, h.told.only h3 h.sep, fun i hi hf => ?_, h.fx.only h3 (fun h0 => by have := h.live.pos 0 h0; omega), Nat.le_trans h.hB h3.size, h.B0, h.gB⟩, h2, h3⟩
 rcases h2 i hf with h' | h'
 . exact h.sep i hi h'
 . have := h.told.lt i hi; omega
theorem az.of {w wc w' : World} {b : Nat} {d d1 : PD} {g B : Nat} {v : Value} {evs : List EvH} {e1 e2 : Lk.En} {l : List Lk.Ev} (h1 : FS wc b e1 d1 g B v evs) (hf : ∀ i, foot b d1 i -> foot b d i ∨ w.heap.size <= i) (hO : Only (fun i => foot b d i ∨ aN g v evs i) w wc) (h2 : az wc b d1 g B v evs e2 l w') : az w b d g B v evs e2 l w' := by
 have := az.trans (n1 := []) (l1 := []) rfl (by rw [List.append_nil]; exact h1) hf (fun i hi => .inl (by rwa [List.append_nil] at hi)) hO (by rw [List.append_nil]; exact h2)
 exact this
theorem yM (b g B i : Nat) (e : Lk.En) (d : PD) (o : Lk.Ot) (v : Value) (evs : List EvH) (f : Lk.Fr) (w : World) (h : FS w b e d g B v evs) (hl : evs.length <= 2 ^ 40) (hst : f.st <= 268435455) (hg : e.bz (f.st : Int) = some (i, o)) (hfl : ¬ (o.cr < f.d.length ∨ e.room < f.d.length)) (hop : o.opn = true) (hW : Lk.Wf { e with oth := e.oth.set i { o with cr := o.cr - f.d.length, held := o.held + f.d.length }, room := e.room - f.d.length }) :
 Calls Tryz.prog 91 #[.pointer (some ⟨b, 0, none⟩), frA f, dO g] w fun r w' => r = .returned (.int .i64 0) ∧ az w b d g B v evs { e with oth := e.oth.set i { o with cr := o.cr - f.d.length, held := o.held + f.d.length }, room := e.room - f.d.length } (if 0 < f.d.length then [⟨2, f.st, 0, [], f.d⟩] else []) w' := by
 have hb0 := eY w f
 have h0 := h.below hb0
 have hbl := h.live.rw.lt
 obtain ⟨ho, _, _⟩ := cZ hg
 have hOk := h.live.wf.oth i o ho
 have lD := hOk.two hop
 obtain ⟨p, hp, hI⟩ := jA h0.live hg
 rw [lD] at hI
 have hpl := hI.lt
 have hls := ax f.d
 have hwin := h.live.wf.kN
 have hroom : e.room <= 400 := by have := h.live.wf.room; omega
 have Tm := hOk.cr
 have HF := hide (fun n => jV b e d (f.st : Int) i p o ((w.alloc (.cells #[.int .i64 (f.k : Int), .int .i64 (f.st : Int), .string (bs f.d)] 79)).drewN n) (h0.drewN n).live ⟨by omega, by omega⟩ hg hp)
 have HU := hide (fun n => Ac b p e.room o.cr o.held f.d.length false false (fH e d) d.fs ((w.alloc (.cells #[.int .i64 (f.k : Int), .int .i64 (f.st : Int), .string (bs f.d)] 79)).drewN n) (h0.drewN n).live.rw rfl (hI.drewN n) (by omega) (by omega) (by omega) (by omega) (by omega))
 have HFR := hide (Is.new w 79 [.int .i64 (f.k : Int), .int .i64 (f.st : Int), .string (bs f.d)])
 have HH := hide h0
 have HB := hide hb0
 have HX := hide (⟨ho, hop, hp, hW⟩ : _ ∧ _ ∧ _ ∧ _)
 have hpw : p ≠ w.heap.size := fun e => by
  subst e
  exact (uh HFR).ne hI (nbq rfl) rfl
 clear h h0 hb0 hg hp hI hfl ho hOk hop hW lD Tm hroom hwin
 unfold dO
 go_enter Tryz.func91, Tryz.ntmps91
 go_wp2_with fail
 go_quiet ((go_at_call 117; exact Calls.quiet_of (uh HF _)))
 go_wp2_with fail
 go_cut [9] (fun u wc => u = .int .i64 0 ∧ ∃ d1, FS wc b { e with oth := e.oth.set i { o with cr := o.cr - f.d.length, held := o.held + f.d.length }, room := e.room - f.d.length } d1 g B v evs ∧ Is wc p 227 (inV ((o.cr - f.d.length : Nat) : Int) ((o.held + f.d.length : Nat) : Int) false false) ∧ Is wc w.heap.size 79 [.int .i64 (f.k : Int), .int .i64 (f.st : Int), .string (bs f.d)] ∧ (∀ j, foot b d1 j -> foot b d j ∨ w.heap.size <= j) ∧ Only (fun j => foot b d j ∨ aN g v evs j) w wc)
 case first =>
  go_region_with (first | (go_at_call 140; refine (uh HU (nq + 1)).mono ?_; rintro r w1 ⟨rfl, hI1, hR1, hO1⟩))
  all_goals
   go_wp2_with fail
   go_meet
   obtain ⟨ho, hop, hp, hW⟩ := uh HX
   have hLP := JZ ((uh HH).drewN (nq + 1)).live ho hop hp hI1 hR1 hO1 hW
   obtain ⟨d1, a2, a3, a5⟩ := ((uh HH).drewN (nq + 1)).Ul hLP
   have hnf : ¬ (w.heap.size = b ∨ w.heap.size = p) := fun hx => by
    rcases hx with hx | hx
    . omega
    . exact hpw hx.symm
   refine ⟨rfl, d1, a2, hI1, ((uh HFR).drewN (nq + 1)).only hO1 hnf, fun j hj => ?_, ?_⟩
   . rcases a3 j hj with h' | h'
     . exact .inl h'
     . exact .inr (Nat.le_trans (uh HB).size h')
   . exact (((Only.of_below (uh HB) _).drewN (nq + 1)).trans a5 (fun j hj _ => .inl hj))
 case rest =>
  obtain ⟨rfl, d1, h1, hI1, hFr, hf1, hO1⟩ := hcut
  have p2 := hI1.cell 2
  simp only [inV, List.getElem?_cons_zero, List.getElem?_cons_succ] at p2
  have WZ := hI1.lt
  have k1 := hFr.cell 1
  have k2 := hFr.cell 2
  simp only [List.getElem?_cons_zero, List.getElem?_cons_succ] at k1 k2
  have Um := hFr.lt
  by_cases hne : f.d = []
  . have e0 : bs f.d = ⟨#[]⟩ := by rw [hne]; rfl
    rw [e0] at k2
    have HG := hide (az.of h1 hf1 hO1 (az.same h1))
    clear h1 hI1 hFr hf1 hO1
    go_wp2_with fail
    all_goals
     go_ret
     refine ⟨rfl, ?_⟩
     simpa [hne] using uh HG
  . have hlen : 0 < f.d.length := List.length_pos_iff.2 hne
    have hnE := rV hne
    have HT := hide (jU b g B _ d1 v evs 2 f.st 0 f.d wc h1 hl)
    have HG := hide (⟨h1, hf1, hO1⟩ : _ ∧ _ ∧ _)
    clear h1 hI1 hFr hf1 hO1
    go_wp2_with fail
    refine (uh HT).mono ?_
    rintro r w3 ⟨rfl, hG⟩
    go_wp2_with fail
    go_ret
    obtain ⟨h1, hf1, hO1⟩ := uh HG
    refine ⟨rfl, ?_⟩
    have hx := az.of h1 hf1 hO1 hG
    first | exact hx | (rw [if_pos hlen]; exact hx)
theorem yN (b g B i : Nat) (e : Lk.En) (d : PD) (o : Lk.Ot) (v : Value) (evs : List EvH) (f : Lk.Fr) (w : World) (h : FS w b e d g B v evs) (hst : f.st <= 268435455) (Nv : f.d.length <= 64) (hg : e.bz (f.st : Int) = some (i, o)) (hfl : ¬ (o.cr < f.d.length ∨ e.room < f.d.length)) (hop : o.opn = false) (hW : Lk.Wf (({ e with oth := e.oth.set i { o with cr := o.cr - f.d.length }, room := e.room - f.d.length } : Lk.En).back f.d.length)) :
 Calls Tryz.prog 91 #[.pointer (some ⟨b, 0, none⟩), frA f, dO g] w fun r w' => r = .returned (.int .i64 0) ∧ az w b d g B v evs (({ e with oth := e.oth.set i { o with cr := o.cr - f.d.length }, room := e.room - f.d.length } : Lk.En).back f.d.length) [] w' := by
 have hb0 := eY w f
 have h0 := h.below hb0
 have hbl := h.live.rw.lt
 obtain ⟨ho, hod, hid⟩ := cZ hg
 have hOk := h.live.wf.oth i o ho
 have lD : o.drp = true := by rw [hop] at hod; simpa using hod
 have hh0 := hOk.drp lD
 obtain ⟨p, hp, hI⟩ := jA h0.live hg
 rw [lD, hh0] at hI
 have hpl := hI.lt
 have hls := ax f.d
 have hwin := h.live.wf.kN
 have hroom : e.room <= 400 := by have := h.live.wf.room; omega
 have Tm := hOk.cr
 have HF := hide (fun n => jV b e d (f.st : Int) i p o ((w.alloc (.cells #[.int .i64 (f.k : Int), .int .i64 (f.st : Int), .string (bs f.d)] 79)).drewN n) (h0.drewN n).live ⟨by omega, by omega⟩ hg hp)
 have HU := hide (fun n => Ac b p e.room o.cr 0 f.d.length true false (fH e d) d.fs ((w.alloc (.cells #[.int .i64 (f.k : Int), .int .i64 (f.st : Int), .string (bs f.d)] 79)).drewN n) (h0.drewN n).live.rw rfl (hI.drewN n) (by omega) (by omega) (by omega) (by omega) (by omega))
 have HH := hide h0
 have HB := hide hb0
 have HX := hide (⟨ho, hop, lD, hp, hW⟩ : _ ∧ _ ∧ _ ∧ _ ∧ _)
 have hrm : e.room - f.d.length <= 1000000 := by omega
 clear h h0 hb0 hg hp hI hfl ho hod hid hOk hop hW lD Tm hroom hwin hh0
 unfold dO
 go_enter Tryz.func91, Tryz.ntmps91
 go_wp2_with fail
 go_quiet ((go_at_call 117; exact Calls.quiet_of (uh HF _)))
 go_wp2_with fail
 go_cut [9] (fun u wc => u = .int .i64 0 ∧ Is wc p 227 (inV ((o.cr - f.d.length : Nat) : Int) ((0 + f.d.length : Nat) : Int) true false) ∧ Rw wc b { fH e d with icr := ((e.room - f.d.length : Nat) : Int) } d.fs ∧ Only (fun j => j = b ∨ j = p) (w.alloc (.cells #[.int .i64 (f.k : Int), .int .i64 (f.st : Int), .string (bs f.d)] 79)) wc)
 case first =>
  go_region_with (first | (go_at_call 140; refine (uh HU (nq + 1)).mono ?_; rintro r w1 ⟨rfl, hI1, hR1, hO1⟩))
  all_goals
   go_wp2_with fail
   go_meet
   exact ⟨rfl, hI1, hR1, ⟨hO1.os, hO1.tape, hO1.output, hO1.size, hO1.block⟩⟩
 case rest =>
  obtain ⟨rfl, hI1, hR1, hO1⟩ := hcut
  have p2 := hI1.cell 2
  simp only [inV, List.getElem?_cons_zero, List.getElem?_cons_succ] at p2
  have WZ := hI1.lt
  have BB := hR1.lt
  have HC := hide (fun k => lC b p (e.room - f.d.length) (0 + f.d.length) ((o.cr - f.d.length : Nat) : Int) true false { fH e d with icr := ((e.room - f.d.length : Nat) : Int) } d.fs (wc.drewN k) (hR1.only ((Only.refl (fun _ => False) wc).drewN k) (fun h => h) (fun _ _ h => h)) rfl (hI1.drewN k) (by omega) hrm)
  unfold oN at HC
  have HO1 := hide hO1
  clear hI1 hR1 hO1
  go_wp2_with fail
  go_cut [] (fun w5 => az w b d g B v evs (({ e with oth := e.oth.set i { o with cr := o.cr - f.d.length }, room := e.room - f.d.length } : Lk.En).back f.d.length) [] w5)
  case first =>
   go_region_with (first | (go_at_call 141; refine (uh HC 1).mono ?_; rintro r w4 ⟨rfl, rs', hrs, hI4, hR4, hO4⟩))
   all_goals
    go_wp2_with fail
    go_meet
    obtain ⟨ho, hop, lD, hp, hW⟩ := uh HX
    have hO1 := uh HO1
    rw [Nat.zero_add] at hR4
    have hO5 : Only (fun j => j = b ∨ j = p ∨ j ∈ d.rs) (w.alloc (.cells #[.int .i64 (f.k : Int), .int .i64 (f.st : Int), .string (bs f.d)] 79)) w4 := ((hO1.mono (fun j hj => hj.imp id (fun h => .inl h))).drewN 1).trans hO4 (fun j hj _ => hj)
    have hLP := uX (uh HH).live ho hop lD (by omega) hp hI4 hR4 hO5 (fun x hx => (hrs x hx).imp id (fun h => Nat.le_trans hO1.size h)) hW
    exact az.before (uh HB) ((uh HH).ofL hLP)
  case rest =>
   go_wp2_with fail
   go_ret
   exact ⟨rfl, hcut⟩
theorem qH (b g B : Nat) (e : Lk.En) (d : PD) (v : Value) (evs : List EvH) (f : Lk.Fr) (w : World) (h : FS w b e d g B v evs) (hl : evs.length <= 2 ^ 40) (hst : f.st <= 268435455) (Nv : f.d.length <= 64) (hW : Lk.Wf (e.dX f.st f.d).2.2) :
 Calls Tryz.prog 91 #[.pointer (some ⟨b, 0, none⟩), frA f, dO g] w fun r w' => r = .returned (.int .i64 ((e.dX f.st f.d).2.1 : Int)) ∧ az w b d g B v evs (e.dX f.st f.d).2.2 (e.dX f.st f.d).1 w' := by
 unfold Lk.En.dX at hW ⊢
 cases hg : e.bz (f.st : Int) with
 | none => exact yK b g B e d v evs f w h hst hg
 | some x =>
   obtain ⟨i, o⟩ := x
   rw [hg] at hW
   simp only at hW ⊢
   by_cases hfl : o.cr < f.d.length ∨ e.room < f.d.length
   . rw [if_pos hfl]
     exact yL b g B i e d o v evs f w h hst hg hfl
   . rw [if_neg hfl] at hW ⊢
     by_cases hop : o.opn = true
     . rw [if_pos hop] at hW ⊢
       exact yM b g B i e d o v evs f w h hl hst hg hfl hop hW
     . rw [if_neg hop] at hW ⊢
       exact yN b g B i e d o v evs f w h hst Nv hg hfl (by simpa using hop) hW
def Lk.En.RH (e : Lk.En) (i : Nat) : Lk.En := match e.oth[i]? with
 | some o => { e with oth := e.oth.set i { o with opn := false, drp := false } }
 | none => e
theorem uo {α : Type} (l : List α) (i : Nat) (x y : α) : (l.set i x).set i y = l.set i y := List.set_set _
theorem Hl (e : Lk.En) (f : Lk.Fr) (hk : f.k ≠ 2) : e.bH f = e.dX f.st f.d := by
 unfold Lk.En.bH Lk.En.dX Lk.En.bz
 cases hx : Lk.bM e.oth (f.st : Int) with
 | none => rfl
 | some i =>
   obtain ⟨o, ho, _⟩ := Lk.bg hx
   simp only [Option.bind_some, ho, Option.map_some]
   by_cases hg : (o.opn || o.drp) = true
   . have h1 : ¬ (!o.opn && !o.drp) = true := by
      cases h1 : o.opn <;> cases h2 : o.drp <;> simp_all
     rw [if_pos hg, if_neg h1]
     simp only
     by_cases hop : o.opn = true
     . rw [if_pos hop, if_pos hop]
       have e1 : decide (f.k ≠ 2) = true := by simpa using hk
       rw [if_neg hk, e1, Bool.and_true, List.append_nil]
       rw [show (true : Bool) = o.opn from hop.symm]
     . rw [if_neg hop, if_neg hop]
       have e1 : decide (f.k ≠ 2) = o.drp := by
        have : o.drp = true := by
         cases h2 : o.drp with
         | true => rfl
         | false => rw [h2] at hg; simp at hg; exact absurd hg hop
        rw [this]
        simpa using hk
       rw [e1]
   . have h1 : (!o.opn && !o.drp) = true := by
      cases h1 : o.opn <;> cases h2 : o.drp <;> simp_all
     rw [if_neg hg, if_pos h1]
theorem Dz (e : Lk.En) (f : Lk.Fr) (hk : f.k = 2) : e.bH f = match e.bz f.st with
 | none => ([], 4, e)
 | some (i, o) => if o.cr < f.d.length ∨ e.room < f.d.length then ([], 10, e) else ((e.dX f.st f.d).1 ++ (if o.opn then [⟨3, f.st, 0, [], []⟩] else []), 0, (e.dX f.st f.d).2.2.RH i) := by
 unfold Lk.En.bH Lk.En.dX
 cases hx : Lk.bM e.oth (f.st : Int) with
 | none => unfold Lk.En.bz; rw [hx]; rfl
 | some i =>
   obtain ⟨o, ho, _⟩ := Lk.bg hx
   have hil := (List.getElem?_eq_some_iff.1 ho).1
   simp only [Option.bind_some, ho, Option.map_some]
   by_cases hg : (o.opn || o.drp) = true
   . have h1 : ¬ (!o.opn && !o.drp) = true := by
      cases h1 : o.opn <;> cases h2 : o.drp <;> simp_all
     have hgo : e.bz (f.st : Int) = some (i, o) := by unfold Lk.En.bz; rw [hx]; simp only [Option.bind_some, ho]; rw [if_pos hg]
     rw [if_neg h1, hgo]
     simp only
     by_cases hfl : o.cr < f.d.length ∨ e.room < f.d.length
     . rw [if_pos hfl, if_pos hfl]
     . rw [if_neg hfl, if_neg hfl, if_neg hfl]
       by_cases hop : o.opn = true
       . rw [if_pos hop, if_pos hop, if_pos hop, if_pos hk]
         have e1 : decide (f.k ≠ 2) = false := by simp [hk]
         unfold Lk.En.RH
         rw [List.getElem?_set_self hil]
         simp only [e1, Bool.and_false, uo]
       . rw [if_neg hop, if_neg hop, if_neg hop]
         have e1 : decide (f.k ≠ 2) = false := by simp [hk]
         have e2 : o.opn = false := by simpa using hop
         unfold Lk.En.RH
         rw [(bD _ _).2.1, List.getElem?_set_self hil]
         simp only [e1, uo, List.append_nil, e2]
         unfold Lk.En.back
         split <;> rfl
   . have h1 : (!o.opn && !o.drp) = true := by
      cases h1 : o.opn <;> cases h2 : o.drp <;> simp_all
     have hgo : e.bz (f.st : Int) = none := by unfold Lk.En.bz; rw [hx]; simp only [Option.bind_some, ho]; rw [if_neg hg]
     rw [if_pos h1, hgo]
theorem Hm (b i : Nat) (e : Lk.En) (d : PD) (o : Lk.Ot) (w : World) (hL : Live w b e d) (hg : e.bz (o.id : Int) = some (i, o)) (hW : Lk.Wf { e with oth := e.oth.set i { o with opn := false, drp := false } }) :
 Calls Tryz.prog 142 #[.pointer (some ⟨b, 11, none⟩), .int .i64 (o.id : Int)] w fun r w' => r = .returned (.tuple #[]) ∧ bf w b d { e with oth := e.oth.set i { o with opn := false, drp := false } } w' := by
 obtain ⟨ho, hod, _⟩ := cZ hg
 obtain ⟨p, hp, hI⟩ := jA hL hg
 have hOk := hL.wf.oth i o ho
 refine (Jy b d.mb d.mn p o.held d.ins (o.id : Int) o.cr o.drp false (fH e d) d.fs w hL.rw rfl hL.map ⟨by omega, by have := hOk.oL; omega⟩ hp hI).mono ?_
 rintro r w' ⟨rfl, hR, hI', hM, hO⟩
 refine ⟨rfl, hL.QI (o' := { o with opn := false, drp := false }) ho rfl hR (hO.mono (fun x hx => ?_)) (rs' := d.rs) (mn' := d.mn) ?_ rfl rfl rfl rfl hL.o9 hL.good hW (fun x hx => .inl hx) hM hL.mn ?_ (fun k hk => ?_) (fun q hq => ?_)⟩
 . rcases hx with hx | hx
   . exact .inr (.inr (.inr (hx ▸ hp)))
   . exact .inr (.inr (.inl hx))
 . simp [fH, ah, Lk.En.nextId]
 . unfold ji
   show match (if 0 < o.held then d.ins else fun x => if x = (o.id : Int) then none else d.ins x) (o.id : Int) with | some p => _ | none => _
   by_cases h0 : 0 < o.held
   . rw [if_pos h0, hp]
     exact ⟨by simp [h0], o.cr, o.drp, by simpa using hI', fun hx => by simp at hx⟩
   . rw [if_neg h0]
     simp
     omega
 . split
   . rfl
   . simp [hk]
 . split at hq
   . exact hq
   . simp at hq
theorem FS.new {w : World} {b : Nat} {e : Lk.En} {d : PD} {g B : Nat} {v : Value} {evs : List EvH} (h : FS w b e d g B v evs) : ¬ (foot b d w.heap.size ∨ aN g v evs w.heap.size) := fun hx => by
 rcases hx with hx | hx
 . have := h.live.lt _ hx; omega
 . have := h.told.lt _ hx; omega
theorem ru (b i : Nat) (e : Lk.En) (d : PD) (o : Lk.Ot) (k : Int) (hk : (o.id : Int) = k) (w : World) (hL : Live w b e d) (hg : e.bz k = some (i, o)) (hW : Lk.Wf { e with oth := e.oth.set i { o with opn := false, drp := false } }) :
 Calls Tryz.prog 142 #[.pointer (some ⟨b, 11, none⟩), .int .i64 k] w fun r w' => r = .returned (.tuple #[]) ∧ bf w b d { e with oth := e.oth.set i { o with opn := false, drp := false } } w' := by
 subst hk
 exact Hm b i e d o w hL hg hW
theorem uq (b g B : Nat) (d : PD) (v : Value) (evs : List EvH) (f : Lk.Fr) (ec : Nat) (e' : Lk.En) (evl : List Lk.Ev) (w : World) (hec : ec ≠ 0)
 (hP : Calls Tryz.prog 91 #[.pointer (some ⟨b, 0, none⟩), frA f, dO g] (w.alloc (.cells #[.int .i64 (f.k : Int), .int .i64 (f.st : Int), .string (bs f.d)] 79)) fun r w' => r = .returned (.int .i64 (ec : Int)) ∧ az (w.alloc (.cells #[.int .i64 (f.k : Int), .int .i64 (f.st : Int), .string (bs f.d)] 79)) b d g B v evs e' evl w') :
 Calls Tryz.prog 92 #[.pointer (some ⟨b, 0, none⟩), frA f, dO g] w fun r w' => r = .returned (.int .i64 (ec : Int)) ∧ az w b d g B v evs e' evl w' := by
 have HP := hide hP
 have hne : ((ec : Int) != 0) = true := by rw [bne_iff_ne]; omega
 have HB := hide (eY w f)
 clear hP hec
 unfold dO at *
 unfold frA at HP
 go_enter Tryz.func92, Tryz.ntmps92
 go_wp2_with fail
 refine (uh HP).mono ?_
 rintro r w1 ⟨rfl, hG⟩
 go_wp2_with fail
 go_ret
 exact ⟨rfl, az.before (uh HB) hG⟩
theorem Ho (b g B i : Nat) (e e1 : Lk.En) (d : PD) (o1 : Lk.Ot) (v : Value) (evs : List EvH) (f : Lk.Fr) (evl : List Lk.Ev) (w : World) (h : FS w b e d g B v evs) (hl : evs.length + evl.length <= 2 ^ 40) (hst : f.st <= 268435455) (hid : o1.id = f.st) (hg : e1.bz (f.st : Int) = some (i, o1)) (hW : Lk.Wf { e1 with oth := e1.oth.set i { o1 with opn := false, drp := false } })
 (hP : Calls Tryz.prog 91 #[.pointer (some ⟨b, 0, none⟩), frA f, dO g] (w.alloc (.cells #[.int .i64 (f.k : Int), .int .i64 (f.st : Int), .string (bs f.d)] 79)) fun r w' => r = .returned (.int .i64 0) ∧ az (w.alloc (.cells #[.int .i64 (f.k : Int), .int .i64 (f.st : Int), .string (bs f.d)] 79)) b d g B v evs e1 evl w') :
 Calls Tryz.prog 92 #[.pointer (some ⟨b, 0, none⟩), frA f, dO g] w fun r w' => r = .returned (.int .i64 0) ∧ az w b d g B v evs { e1 with oth := e1.oth.set i { o1 with opn := false, drp := false } } (evl ++ if o1.opn then [⟨3, f.st, 0, [], []⟩] else []) w' := by
 have hnew := h.new
 have HP := hide hP
 have HB := hide (eY w f)
 have HFR := hide (Is.new w 79 [.int .i64 (f.k : Int), .int .i64 (f.st : Int), .string (bs f.d)])
 have HX := hide (⟨hg, hW, hid⟩ : _ ∧ _ ∧ _)
 generalize hEV : (evl ++ if o1.opn then [⟨3, f.st, 0, [], []⟩] else []) = EV
 generalize hEE : ({ e1 with oth := e1.oth.set i { o1 with opn := false, drp := false } } : Lk.En) = EE
 have HEV := hide hEV
 have HEE := hide hEE
 clear hP h hg hW hid hEV hEE
 unfold dO at *
 unfold frA at HP
 go_enter Tryz.func92, Tryz.ntmps92
 go_wp2_with fail
 refine (uh HP).mono ?_
 rintro r w1 ⟨rfl, d1, v1, n1, hn1, hF1, hf1, ht1, hO1⟩
 have nI := (uh HFR).only hO1 hnew
 have k1 := nI.cell 1
 simp only [List.getElem?_cons_zero, List.getElem?_cons_succ] at k1
 have Um := nI.lt
 have BB := hF1.live.rw.lt
 obtain ⟨hg, hW, hid⟩ := uh HX
 obtain ⟨p, hp, hI⟩ := jA hF1.live hg
 have hpl := hI.lt
 have hlen1 : (evs ++ n1).length <= 2 ^ 40 := by
  have : n1.length = evl.length := by rw [<- hn1]; simp
  rw [List.length_append]
  omega
 obtain ⟨ho1, hod, _⟩ := cZ hg
 have Qb := (hF1.live.wf.oth i o1 ho1).two
 have HF := hide (fun n => jV b e1 d1 (f.st : Int) i p o1 (w1.drewN n) (hF1.drewN n).live ⟨by omega, by omega⟩ hg hp)
 have HOP := hide (fun n => open_any p o1.cr o1.held o1.drp false (w1.drewN n) (hI.drewN n))
 have HF1 := hide (⟨hn1, hF1, hf1, ht1, hO1, nI⟩ : _ ∧ _ ∧ _ ∧ _ ∧ _ ∧ _)
 clear hn1 hF1 hf1 ht1 hO1 nI hg hW hp hI ho1
 by_cases hop : o1.opn = true
 . have lD := Qb hop
   rw [lD] at HOP
   clear Qb hod lD
   go_wp2_with fail
   go_quiet ((go_at_call 117; exact Calls.quiet_of (uh HF _)))
   go_wp2_with fail
   refine (uh HOP _).mono ?_
   rintro r w2 ⟨rfl, rfl⟩
   obtain ⟨hn1, hF1, hf1, ht1, hO1, nI⟩ := uh HF1
   have HT := hide (jU b g B e1 d1 v1 (evs ++ n1) 3 f.st 0 [] (w1.drewN nq) (hF1.drewN nq) hlen1)
   have e0 : bs [] = ⟨#[]⟩ := rfl
   rw [e0] at HT
   have W9 := (hF1.drewN nq).new
   clear hn1 hF1 hf1 ht1 hO1 nI
   go_wp2_with fail
   refine (uh HT).mono ?_
   rintro r w3 ⟨rfl, d3, v3, n3, hn3, hF3, hf3, ht3, hO3⟩
   obtain ⟨hn1, hF1, hf1, ht1, hO1, nI⟩ := uh HF1
   have Un := (nI.drewN nq).only hO3 (fun hx => by
    have hsz : w.heap.size < w1.heap.size := Um
    rcases hx with hx | hx
    . rcases hf1 _ hx with h' | h'
      . exact hnew (.inl h')
      . rw [World.size_alloc] at h'; omega
    . rcases ht1 _ hx with h' | h'
      . exact hnew (.inr h')
      . rw [World.size_alloc] at h'; omega)
   have k3 := Un.cell 1
   simp only [List.getElem?_cons_zero, List.getElem?_cons_succ] at k3
   have Yd := Un.lt
   have PM := hF3.live.rw.lt
   obtain ⟨hg, hW, hid⟩ := uh HX
   have Qc := hide (fun n => ru b i e1 d3 o1 (f.st : Int) (by rw [hid]) (w3.drewN n) (hF3.drewN n).live hg hW)
   have HF3 := hide (⟨hn3, hF3, hf3, ht3, hO3⟩ : _ ∧ _ ∧ _ ∧ _ ∧ _)
   clear hn1 hF1 hf1 ht1 hO1 nI hn3 hF3 hf3 ht3 hO3 Un hg hW
   go_wp2_with fail
   go_cut [] (fun w6 => az w b d g B v evs EE EV w6)
   case first =>
    go_region_with (first | (go_at_call 142; refine (uh Qc 1).mono ?_; rintro r w5 ⟨rfl, hLP⟩))
    all_goals
     go_wp2_with fail
     go_meet
     obtain ⟨hn1, hF1, hf1, ht1, hO1, nI⟩ := uh HF1
     obtain ⟨hn3, hF3, hf3, ht3, hO3⟩ := uh HF3
     have g1 : az w3 b d3 g B v3 (evs ++ n1 ++ n3) EE [] w5 := az.before (Below.drewN (Below.refl _ _) 1) (by rw [<- uh HEE]; exact (hF3.drewN 1).ofL hLP)
     have g2 : az (w1.drewN nq) b d1 g B v1 (evs ++ n1) EE ([⟨3, f.st, 0, [], []⟩] ++ []) w5 := az.trans hn3 hF3 hf3 ht3 hO3 g1
     have g3 : az _ b d g B v evs EE (evl ++ ([⟨3, f.st, 0, [], []⟩] ++ [])) w5 := az.trans hn1 (hF1.drewN nq) hf1 ht1 (hO1.drewN nq) g2
     have g4 := az.before (uh HB) g3
     rw [<- uh HEV, if_pos hop]
     simpa using g4
   case rest =>
    go_wp2_with fail
    go_ret
    exact ⟨rfl, hcut⟩
 . have hop' : o1.opn = false := by simpa using hop
   have lD : o1.drp = true := by rw [hop'] at hod; simpa using hod
   rw [lD] at HOP
   clear Qb hod lD
   go_wp2_with fail
   go_quiet ((go_at_call 117; exact Calls.quiet_of (uh HF _)))
   go_wp2_with fail
   refine (uh HOP _).mono ?_
   rintro r w2 ⟨rfl, rfl⟩
   obtain ⟨hn1, hF1, hf1, ht1, hO1, nI⟩ := uh HF1
   obtain ⟨hg, hW, hid⟩ := uh HX
   have Qc := hide (fun n => ru b i e1 d1 o1 (f.st : Int) (by rw [hid]) (w1.drewN n) (hF1.drewN n).live hg hW)
   clear hn1 hF1 hf1 ht1 hO1 nI hg hW
   go_wp2_with fail
   go_cut [] (fun w6 => az w b d g B v evs EE EV w6)
   case first =>
    go_region_with (first | (go_at_call 142; refine (uh Qc (nq + 1)).mono ?_; rintro r w5 ⟨rfl, hLP⟩))
    all_goals
     go_wp2_with fail
     go_meet
     obtain ⟨hn1, hF1, hf1, ht1, hO1, nI⟩ := uh HF1
     have g2 : az w1 b d1 g B v1 (evs ++ n1) EE [] w5 := az.before (Below.drewN (Below.refl _ _) (nq + 1)) (by rw [<- uh HEE]; exact (hF1.drewN (nq + 1)).ofL hLP)
     have g3 : az _ b d g B v evs EE (evl ++ []) w5 := az.trans hn1 hF1 hf1 ht1 hO1 g2
     have g4 := az.before (uh HB) g3
     rw [<- uh HEV, if_neg hop]
     exact g4
   case rest =>
    go_wp2_with fail
    go_ret
    exact ⟨rfl, hcut⟩
theorem AU {e : Lk.En} (h : Lk.Wf e) (st : Nat) (dt : Lk.Bs) (hd : dt.length <= 64) : Lk.Wf (e.dX st dt).2.2 := by
 unfold Lk.En.dX
 cases hg : e.bz (st : Int) with
 | none => exact h
 | some x =>
   obtain ⟨i, o⟩ := x
   obtain ⟨ho, hod, _⟩ := cZ hg
   have hOk := h.oth i o ho
   simp only
   by_cases hfl : o.cr < dt.length ∨ e.room < dt.length
   . rw [if_pos hfl]; exact h
   . rw [if_neg hfl]
     by_cases hop : o.opn = true
     . rw [if_pos hop]
       have hdr := hOk.two hop
       exact h.fF (x := { o with cr := o.cr - dt.length, held := o.held + dt.length }) ho rfl (by have := hOk.cr; show o.cr - dt.length + (o.held + dt.length) <= _; omega) hOk.two (fun hx => by rw [show ({ o with cr := o.cr - dt.length, held := o.held + dt.length } : Lk.Ot).drp = o.drp from rfl, hdr] at hx; cases hx) (by show e.room - dt.length + (o.held + dt.length) = _; omega)
     . rw [if_neg hop]
       refine Lk.Wf.back ?_ (by omega)
       have := h.fF (x := { o with cr := o.cr - dt.length }) (r := e.room - dt.length + dt.length) ho rfl (by have := hOk.cr; show o.cr - dt.length + o.held <= _; omega) hOk.two hOk.drp (by show e.room - dt.length + dt.length + o.held = _; omega)
       exact this
theorem J3 {e : Lk.En} (hw : Lk.Wf e) {st i : Nat} {o : Lk.Ot} {dt : Lk.Bs} (hd : dt.length <= 64) (hg : e.bz (st : Int) = some (i, o)) (hfl : ¬ (o.cr < dt.length ∨ e.room < dt.length)) : ∃ o1, (e.dX st dt).2.2.bz (st : Int) = some (i, o1) ∧ o1.opn = o.opn ∧ o1.id = st ∧ (e.dX st dt).2.1 = 0 ∧ (e.dX st dt).1.length <= 1 := by
 obtain ⟨ho, hod, hid⟩ := cZ hg
 have hil := (List.getElem?_eq_some_iff.1 ho).1
 have hW := AU hw st dt hd
 unfold Lk.En.dX at hW ⊢
 rw [hg] at hW ⊢
 simp only at hW ⊢
 rw [if_neg hfl] at hW ⊢
 by_cases hop : o.opn = true
 . rw [if_pos hop] at hW ⊢
   have := lN (i := i) (o := { o with cr := o.cr - dt.length, held := o.held + dt.length }) hW (by show (e.oth.set i _)[i]? = _; rw [List.getElem?_set_self hil]) hod
   simp only at this
   rw [hid] at this
   refine ⟨_, this, rfl, by show o.id = st; omega, rfl, ?_⟩
   simp only
   split <;> simp
 . rw [if_neg hop] at hW ⊢
   have := lN (i := i) (o := { o with cr := o.cr - dt.length }) hW (by rw [(bD _ _).2.1]; show (e.oth.set i _)[i]? = _; rw [List.getElem?_set_self hil]) hod
   simp only at this
   rw [hid] at this
   exact ⟨_, this, rfl, by show o.id = st; omega, rfl, by simp⟩
theorem DC (b g B : Nat) (e : Lk.En) (d : PD) (v : Value) (evs : List EvH) (f : Lk.Fr) (w : World) (h : FS w b e d g B v evs) (hl : evs.length + 1 <= 2 ^ 40) (hst : f.st <= 268435455) (Nv : f.d.length <= 64) (hk : f.k = 2) (hW2 : Lk.Wf (e.bH f).2.2) :
 Calls Tryz.prog 92 #[.pointer (some ⟨b, 0, none⟩), frA f, dO g] w fun r w' => r = .returned (.int .i64 ((e.bH f).2.1 : Int)) ∧ az w b d g B v evs (e.bH f).2.2 (e.bH f).1 w' := by
 have hP := qH b g B e d v evs f _ (h.below (eY w f)) (by omega) hst Nv (AU h.live.wf f.st f.d Nv)
 rw [Dz e f hk] at hW2 ⊢
 cases hg : e.bz (f.st : Int) with
 | none =>
   have hpg : e.dX f.st f.d = ([], 4, e) := by unfold Lk.En.dX; rw [hg]
   rw [hpg] at hP
   exact uq b g B d v evs f 4 e [] w (by omega) hP
 | some x =>
   obtain ⟨i, o⟩ := x
   rw [hg] at hW2
   simp only at hW2 ⊢
   by_cases hfl : o.cr < f.d.length ∨ e.room < f.d.length
   . rw [if_pos hfl]
     have hpg : e.dX f.st f.d = ([], 10, e) := by
      unfold Lk.En.dX
      rw [hg]
      simp only
      rw [if_pos hfl]
     rw [hpg] at hP
     exact uq b g B d v evs f 10 e [] w (by omega) hP
   . rw [if_neg hfl] at hW2 ⊢
     obtain ⟨o1, hg1, Xa, Lc, herr, hlen⟩ := J3 h.live.wf Nv hg hfl
     rw [herr] at hP
     obtain ⟨ho1, _, _⟩ := cZ hg1
     have hend : (e.dX f.st f.d).2.2.RH i = { (e.dX f.st f.d).2.2 with oth := (e.dX f.st f.d).2.2.oth.set i { o1 with opn := false, drp := false } } := by unfold Lk.En.RH; rw [ho1]
     rw [hend] at hW2 ⊢
     have := Ho b g B i e (e.dX f.st f.d).2.2 d o1 v evs f (e.dX f.st f.d).1 w h (by omega) hst Lc hg1 hW2 hP
     rw [Xa] at this
     exact this
theorem yO (b i p : Nat) (e : Lk.En) (d : PD) (o : Lk.Ot) (w : World) (hL : Live w b e d) (ho : e.oth[i]? = some o) (hod : (o.opn || o.drp) = true) (hp : d.ins o.id = some p) (hW : Lk.Wf (({ e with oth := e.oth.set i { o with held := 0 } } : Lk.En).back o.held)) :
 Calls Tryz.prog 141 #[.pointer (some ⟨b, 11, none⟩), .pointer (some ⟨p, 0, none⟩), oN b] w fun r w' => r = .returned (.tuple #[]) ∧ bf w b d (({ e with oth := e.oth.set i { o with held := 0 } } : Lk.En).back o.held) w' := by
 obtain ⟨_, cr, cut, hI, hcc⟩ := (hL.yZ i o ho).some hp
 obtain ⟨rfl, rfl⟩ := hcc hod
 rw [hod] at hI
 have MZ := hL.wf.held ho
 have hroom : e.room <= 400 := by have := hL.wf.room; have := hL.wf.kN; omega
 refine (lC b p e.room o.held o.cr o.drp false (fH e d) d.fs w hL.rw rfl hI (by omega) (by omega)).mono ?_
 rintro r w' ⟨rfl, rs', hrs, hI', hR', hO'⟩
 refine ⟨rfl, hL.QI (o' := { o with held := 0 }) ho rfl hR' (hO'.mono (fun x hx => ?_)) (rs' := rs') (mn' := d.mn) (ins' := d.ins) ?_ (bD _ _).1 (bD _ _).2.1 (bD _ _).2.2.1 (bD _ _).2.2.2.1 ?_ ?_ hW hrs ?_ hL.mn ?_ (fun k _ => rfl) (fun q hq => hq)⟩
 . rcases hx with hx | hx | hx
   . exact .inl hx
   . exact .inr (.inr (.inr (hx ▸ hp)))
   . exact .inr (.inl hx)
 . rw [tC]
   simp [fH, ah, Lk.En.nextId]
 . rw [yh]
   simp [hL.o9]
 . refine jv hL.good (fun f hf => ?_)
   unfold uS at hf
   split at hf
   . simp at hf
     subst hf
     exact Lk.cO 0 o.held (by omega) (by omega)
   . simp at hf
 . refine hL.map.only hO' (fun hx => ?_)
   rcases hx with hx | hx | hx
   . exact (hL.fQ _ (.inl hx)).2.2.2.2.1 rfl
   . exact hL.map.ne hI hx
   . exact (hL.fQ _ (.inr hx)).2.2.2.2.1 rfl
 . unfold ji
   show match d.ins (o.id : Int) with | some p => _ | none => _
   rw [hp]
   refine ⟨by simp only [hod, Bool.true_or], (o.cr : Int), o.drp, ?_, fun _ => ⟨rfl, rfl⟩⟩
   simpa [hod] using hI'
def ToldAt (w : World) (f : Lk.Fr) (N : Nat) (u : Value) (wc : World) : Prop := ∃ t, u = .pointer (some ⟨t, 0, none⟩) ∧ w.heap.size < t ∧ Is wc t 116 [.int .i64 4, .int .i64 (f.st : Int), .int .i64 (N : Int), .slice none 0 0, .string ⟨#[]⟩] ∧ Is wc w.heap.size 79 [.int .i64 (f.k : Int), .int .i64 (f.st : Int), .string (bs f.d)] ∧ Below w.heap.size w wc
theorem Hq {w w1 : World} {f : Lk.Fr} {N : Nat} (hFr : Is w1 w.heap.size 79 [.int .i64 (f.k : Int), .int .i64 (f.st : Int), .string (bs f.d)]) (hb : Below w.heap.size w w1) : ToldAt w f N (.pointer (some ⟨w1.heap.size, 0, none⟩)) (w1.alloc (.cells #[.int .i64 4, .int .i64 (f.st : Int), .int .i64 (N : Int), .slice none 0 0, .string ⟨#[]⟩] 116)) :=
 ⟨w1.heap.size, rfl, hFr.lt, Is.new w1 116 [.int .i64 4, .int .i64 (f.st : Int), .int .i64 (N : Int), .slice none 0 0, .string ⟨#[]⟩], hFr.alloc _, hb.alloc hb.size _⟩
theorem Hr {w w1 : World} {f : Lk.Fr} {N : Nat} (hFr : Is w1 w.heap.size 79 [.int .i64 (f.k : Int), .int .i64 (f.st : Int), .string (bs f.d)]) (hX : Is w1 (w.heap.size + 1) 116 [.int .i64 0, .int .i64 0, .int .i64 0, .slice none 0 0, .string ⟨#[]⟩]) (hb : Below w.heap.size w w1) :
 ToldAt w f N (.pointer (some ⟨w.heap.size + 1, 0, none⟩)) (((((w1.setCell ⟨w.heap.size + 1, 0, none⟩ (.int .i64 4)).setCell ⟨w.heap.size + 1, 1, none⟩ (.int .i64 (f.st : Int))).setCell ⟨w.heap.size + 1, 2, none⟩ (.int .i64 (N : Int))).setCell ⟨w.heap.size + 1, 3, none⟩ (.slice none 0 0)).setCell ⟨w.heap.size + 1, 4, none⟩ (.string ⟨#[]⟩)) :=
 ⟨w.heap.size + 1, rfl, by omega, ((((hX.set 0 _).set 1 _).set 2 _).set 3 _).set 4 _, ((((hFr.other _ _ (by simp)).other _ _ (by simp)).other _ _ (by simp)).other _ _ (by simp)).other _ _ (by simp), ((((hb.setCell (by simp) _).setCell (by simp) _).setCell (by simp) _).setCell (by simp) _).setCell (by simp) _⟩
theorem J4 {e : Lk.En} {f : Lk.Fr} {i : Nat} {o : Lk.Ow} (h : e.lG (f.st : Int) = some (i, o)) : e.dh f = ([⟨4, f.st, Lk.numOf f.d, [], []⟩], 0, { e with own := e.own.set i { o with done := true } }) := by
 unfold Lk.En.dh
 unfold Lk.En.lG at h
 cases hx : Lk.bK e.own (f.st : Int) with
 | none => rw [hx] at h; cases h
 | some j =>
   rw [hx] at h
   obtain ⟨x, hxo, _⟩ := Lk.dR hx
   simp only [Option.bind_some, hxo, Option.map_some] at h ⊢
   by_cases hd : x.done = true
   . rw [if_pos hd] at h; cases h
   . rw [if_neg hd] at h
     simp at h
     obtain ⟨rfl, rfl⟩ := h
     rw [if_neg hd]
theorem Qd {e : Lk.En} (hw : Lk.Wf e) {k : Int} {i j : Nat} (h1 : Lk.bK e.own k = some i) (h2 : Lk.bM e.oth k = some j) : False := by
 obtain ⟨o, ho, e1⟩ := Lk.dR h1
 obtain ⟨x, hx, e2⟩ := Lk.bg h2
 have a := (hw.own i o ho).id
 have c := (hw.oth j x hx).id
 have := hw.side
 omega
def Lk.En.dM (e : Lk.En) (i : Nat) (o : Lk.Ot) : Lk.En := ({ e with oth := e.oth.set i { o with held := 0 } } : Lk.En).back o.held
theorem J5 {e : Lk.En} (hw : Lk.Wf e) {f : Lk.Fr} {i : Nat} {o : Lk.Ot} (hg : e.bz (f.st : Int) = some (i, o)) : e.dh f = (if o.opn then [⟨4, f.st, Lk.numOf f.d, [], []⟩] else [], 0, { e.dM i o with oth := (e.dM i o).oth.set i { { o with held := 0 } with opn := false, drp := false } }) := by
 obtain ⟨ho, hod, hid⟩ := cZ hg
 have hOk := hw.oth i o ho
 have hix : Lk.bM e.oth (f.st : Int) = some i := by
  unfold Lk.En.bz at hg
  cases hx : Lk.bM e.oth (f.st : Int) with
  | none => rw [hx] at hg; cases hg
  | some j =>
    obtain ⟨x, hxo, WB⟩ := Lk.bg hx
    have := EJ hw ho hxo (by omega)
    rw [this]
 have hown : Lk.bK e.own (f.st : Int) = none := by
  cases hx : Lk.bK e.own (f.st : Int) with
  | none => rfl
  | some j => exact (Qd hw hx hix).elim
 unfold Lk.En.dh
 rw [hown, hix]
 simp only [Option.bind_none, Option.bind_some, ho, Option.map_some]
 have e2 : (e.dM i o).oth.set i { { o with held := 0 } with opn := false, drp := false } = e.oth.set i { o with opn := false, drp := false, held := 0 } := by
  unfold Lk.En.dM
  rw [(bD _ _).2.1]
  exact uo _ _ _ _
 by_cases hop : o.opn = true
 . have hdr := hOk.two hop
   rw [if_pos hop, if_pos hop, e2]
   unfold Lk.En.dM
   have e3 : ({ o with opn := false, held := 0 } : Lk.Ot) = { o with opn := false, drp := false, held := 0 } := by rw [<- hdr]
   rw [e3]
   unfold Lk.En.back
   split <;> rfl
 . have hop' : o.opn = false := by simpa using hop
   have hdr : o.drp = true := by rw [hop'] at hod; simpa using hod
   have hh := hOk.drp hdr
   rw [if_neg hop, if_neg hop, e2]
   unfold Lk.En.dM
   have e3 : ({ o with drp := false } : Lk.Ot) = { o with opn := false, drp := false, held := 0 } := by rw [<- hop', <- hh]
   rw [e3]
   unfold Lk.En.back
   rw [if_neg (by omega)]
theorem Ht {e : Lk.En} (hw : Lk.Wf e) {f : Lk.Fr} (h0 : 0 < f.st) (hup : e.lG (f.st : Int) = none) (hg : e.bz (f.st : Int) = none) : e.dh f = ([], if (decide (f.st % 2 = e.nextId % 2 ∧ f.st < e.nextId) || decide (f.st % 2 = ah e % 2 ∧ f.st < ah e)) then 0 else 4, e) := by
 rw [<- uk hw h0, <- Dy hw h0]
 unfold Lk.En.dh
 cases hx : Lk.bK e.own (f.st : Int) with
 | some i =>
   obtain ⟨o, ho, hd⟩ := uV hup hx
   simp only [Option.bind_some, ho, Option.map_some]
   rw [if_pos hd]
   rfl
 | none =>
   simp only [Option.bind_none]
   cases hy : Lk.bM e.oth (f.st : Int) with
   | none => rfl
   | some i =>
     obtain ⟨o, ho, _⟩ := Lk.bg hy
     unfold Lk.En.bz at hg
     rw [hy] at hg
     simp only [Option.bind_some, ho, Option.map_some] at hg ⊢
     by_cases hod : (o.opn || o.drp) = true
     . rw [if_pos hod] at hg; cases hg
     . have hop : o.opn = false := by
        cases h : o.opn with
        | false => rfl
        | true => rw [h] at hod; simp at hod
       have hdr : o.drp = false := by
        cases h : o.drp with
        | false => rfl
        | true => rw [h] at hod; simp at hod
       rw [if_neg (by rw [hop]; simp)]
       have : e.oth.set i { o with drp := false } = e.oth := by
        apply set_self
        rw [ho]
        rw [<- hdr]
       rw [this]
       rfl
theorem wX {e : Lk.En} (h : Lk.Wf e) {i : Nat} {o : Lk.Ot} (ho : e.oth[i]? = some o) : Lk.Wf (e.dM i o) := by
 have hOk := h.oth i o ho
 have MZ := h.held ho
 unfold Lk.En.dM
 refine Lk.Wf.back ?_ (by omega)
 exact h.fF (x := { o with held := 0 }) (r := e.room + o.held) ho rfl (by have := hOk.cr; show o.cr + 0 <= _; omega) hOk.two (fun _ => rfl) (by show e.room + o.held + 0 = _; omega)
theorem wY {e : Lk.En} (h : Lk.Wf e) {i : Nat} {o : Lk.Ot} (ho : e.oth[i]? = some o) (hod : (o.opn || o.drp) = true) : (e.dM i o).bz (o.id : Int) = some (i, { o with held := 0 }) := by
 have hil := (List.getElem?_eq_some_iff.1 ho).1
 have := lN (i := i) (o := { o with held := 0 }) (wX h ho) (by unfold Lk.En.dM; rw [(bD _ _).2.1]; show (e.oth.set i _)[i]? = _; rw [List.getElem?_set_self hil]) hod
 exact this
theorem Hu (b : Nat) (e : Lk.En) (d : PD) (st : Int) (w : World) (hL : Live w b e d) (hk : I64 st) (hg : e.bz st = none) : ∃ q, ∀ n, Calls Tryz.prog 117 #[.pointer (some ⟨b, 11, none⟩), .int .i64 st] (w.drewN n) fun r w' => r = .returned (.tuple #[q, .bool false]) ∧ ∃ m, w' = (w.drewN n).drewN m := by
 have c17 : w.cell? ⟨b, 17, none⟩ = some (.map (some d.mb)) := hL.rw.blk.cell 17
 have hLn := fun n => hL.only ((Only.refl (fun _ => False) w).drewN n) (fun _ _ h => h)
 cases hp : d.ins st with
 | none => exact ⟨.pointer none, fun n => nC b d.mb d.mn d.ins st (w.drewN n) hL.rw.lt c17 (hLn n).map hk hp⟩
 | some p =>
   obtain ⟨i, o, cr, cut, ho, hid, hI, _, _⟩ := hL.KX hp
   have hd : (o.opn || o.drp) = false := by
    cases hx : (o.opn || o.drp) with
    | false => rfl
    | true =>
      have := lN hL.wf ho hx
      rw [hid, hg] at this
      cases this
   rw [hd] at hI
   exact ⟨_, fun n => jr b d.mb d.mn p d.ins st cr o.held cut true (w.drewN n) hL.rw.lt c17 (hLn n).map hk hp (hI.drewN n)⟩
end Go.Proofs.YtbkpdapagfjmmaaGreatDoor
