import Derived.Test.YtbkpdapagfjmmaaGreatDoorA37
set_option linter.unusedVariables false
set_option maxRecDepth 100000
set_option maxHeartbeats 16000000
namespace Go.Proofs.YtbkpdapagfjmmaaGreatDoor
open Go.RowKit
theorem AX (b g B : Nat) (e : Lk.En) (d : PD) (v : Value) (evs : List EvH) (f : Lk.Fr) (w : World) (h : FS w b e d g B v evs) (hl : evs.length <= 2 ^ 40) (Uw : 0 < f.st) (hst : f.st <= 268435455) (Nv : f.d.length <= 64) (RC : Nat) (EV : List Lk.Ev) (EE : Lk.En) (hRR : e.dh f = (EV, RC, EE)) (hWE : Lk.Wf EE) :
 Calls Tryz.prog 93 #[.pointer (some ⟨b, 0, none⟩), frA f, dO g] w fun r w' => r = .returned (.int .i64 (RC : Int)) ∧ az w b d g B v evs EE EV w' := by
 have hnew := h.new
 have HB := hide (eY w f)
 have HFR := hide (Is.new w 79 [.int .i64 (f.k : Int), .int .i64 (f.st : Int), .string (bs f.d)])
 have hbl := h.live.rw.lt
 have kQ := hide (fun W => jq f W (by omega))
 unfold frA at kQ
 have HH := hide h
 have HRR := hide hRR
 have HWE := hide hWE
 have hnl := Lk.nP f.d
 generalize hN : Lk.numOf f.d = N at *
 have HN := hide hN
 clear h hRR hWE hN
 unfold dO
 go_enter Tryz.func93, Tryz.ntmps93
 go_wp2_with fail
 go_cut [7] (fun u wc => ToldAt w f N u wc)
 case first =>
  go_region_with (first | (go_at_call 143; refine (uh kQ _).mono ?_; rintro r w1 ⟨rfl, hb1⟩; (first | have nI := (uh HFR).drew.below hb1 (by simp) | have nI := ((uh HFR).drew.alloc (.cells #[.int .i64 0, .int .i64 0, .int .i64 0, .slice none 0 0, .string ⟨#[]⟩] 116)).below hb1 (by simp <;> omega)); have z0 := nI.cell 0; have z1 := nI.cell 1; have z2 := nI.cell 2; have zl := nI.lt; simp only [List.getElem?_cons_zero, List.getElem?_cons_succ] at z0 z1 z2; try (have hX1 := (Is.new ((w.alloc (.cells #[.int .i64 (f.k : Int), .int .i64 (f.st : Int), .string (bs f.d)] 79)).drew) 116 [.int .i64 0, .int .i64 0, .int .i64 0, .slice none 0 0, .string ⟨#[]⟩]).below hb1 (by simp); have x0 := hX1.cell 0; have x1 := hX1.cell 1; have x2 := hX1.cell 2; have x3 := hX1.cell 3; have x4 := hX1.cell 4; have y0 := hX1.free 0; have y1 := hX1.free 1; have y2 := hX1.free 2; have y3 := hX1.free 3; have y4 := hX1.free 4; have xl := hX1.lt; simp only [List.getElem?_cons_zero, List.getElem?_cons_succ, World.size_drew, World.size_alloc] at x0 x1 x2 x3 x4 y0 y1 y2 y3 y4 xl)))
  all_goals
   go_wp2_with fail
   go_meet
   first
    | exact Hr nI (by simpa using hX1) ((((uh HB).drew).alloc (by simp <;> omega) (.cells #[.int .i64 0, .int .i64 0, .int .i64 0, .slice none 0 0, .string ⟨#[]⟩] 116)).trans (hb1.mono (by simp <;> omega)))
    | exact Hq nI ((uh HB).drew.trans (hb1.mono (by simp <;> omega)))
 case rest =>
  obtain ⟨t, rfl, htw, hIt, hFr, hbw⟩ := hcut
  have hFc := (uh HH).below hbw
  have hft : ¬ foot b d t := fun hx => by have := (uh HH).live.lt t hx; omega
  have hff : ¬ foot b d w.heap.size := fun hx => hnew (.inl hx)
  have k1 := hFr.cell 1
  simp only [List.getElem?_cons_zero, List.getElem?_cons_succ] at k1
  have hfl := hFr.lt
  have Vq := hFc.live.rw.lt
  have Xb := hbw.size
  have HDR := hide (fun n => oh b e d (f.st : Int) (wc.drewN n) (hFc.drewN n).live)
  have HIT := hide (⟨hIt, hFr, hbw, hFc⟩ : _ ∧ _ ∧ _ ∧ _)
  clear hIt hFr hbw hFc
  go_wp2_with fail
  go_cut [20] (fun u w2 => u = .bool (e.lG (f.st : Int)).isSome ∧ ∃ d2, FS w2 b (e.dropped (f.st : Int)) d2 g B v evs ∧ (∀ j, foot b d2 j -> foot b d j ∨ w.heap.size <= j) ∧ ¬ foot b d2 t ∧ ¬ foot b d2 w.heap.size ∧ Is w2 t 116 [.int .i64 4, .int .i64 (f.st : Int), .int .i64 (N : Int), .slice none 0 0, .string ⟨#[]⟩] ∧ Is w2 w.heap.size 79 [.int .i64 (f.k : Int), .int .i64 (f.st : Int), .string (bs f.d)] ∧ Only (fun j => foot b d j ∨ aN g v evs j) w w2)
  case first =>
   go_region_with (first | (go_at_call 75; refine (uh HDR 1).mono ?_; rintro r w2 ⟨rfl, hLP⟩))
   all_goals
    go_wp2_with fail
    go_meet
    obtain ⟨hIt, hFr, hbw, hFc⟩ := uh HIT
    obtain ⟨d2, hF2, hf2, hO2⟩ := (hFc.drewN 1).Ul hLP
    refine ⟨rfl, d2, hF2, fun j hj => ?_, fun hx => ?_, fun hx => ?_, (hIt.drewN 1).only hO2 hft, (hFr.drewN 1).only hO2 hff, ((Only.of_below hbw _).drewN 1).trans hO2 (fun j hj _ => .inl hj)⟩
    . exact (hf2 j hj).imp id (fun h' => Nat.le_trans Xb h')
    . rcases hf2 t hx with h' | h'
      . exact hft h'
      . have := hIt.lt
        have h'' : wc.heap.size <= t := h'
        omega
    . rcases hf2 _ hx with h' | h'
      . exact hff h'
      . have h'' : wc.heap.size <= w.heap.size := h'
        omega
  case rest =>
   obtain ⟨rfl, d2, hF2, hf2, Nz, Vr, Le, BC, hO2⟩ := hcut
   have x0 := Le.cell 0
   have x1 := Le.cell 1
   have x2 := Le.cell 2
   have x3 := Le.cell 3
   have x4 := Le.cell 4
   have xl := Le.lt
   have y1 := BC.cell 1
   have yl := BC.lt
   simp only [List.getElem?_cons_zero, List.getElem?_cons_succ] at x0 x1 x2 x3 x4 y1
   have Oy := hF2.live.rw.lt
   have e0 : bs [] = ⟨#[]⟩ := rfl
   cases hup : e.lG (f.st : Int) with
   | some q =>
     obtain ⟨i, o⟩ := q
     have hR := uh HRR
     rw [J4 hup, uh HN] at hR
     cases hR
     have hdr : e.dropped (f.st : Int) = { e with own := e.own.set i { o with done := true } } := by unfold Lk.En.dropped; rw [hup]
     rw [hdr] at hF2
     have HT := hide (jU b g B _ d2 v evs 4 f.st N [] wc hF2 hl)
     rw [e0] at HT
     have HX := hide (⟨hF2, hf2, hO2⟩ : _ ∧ _ ∧ _)
     clear hF2 hf2 hO2 Le BC hup hdr
     go_wp2_with fail
     refine (uh HT).mono ?_
     rintro r w3 ⟨rfl, hG⟩
     go_wp2_with fail
     go_ret
     obtain ⟨hF2, hf2, hO2⟩ := uh HX
     exact ⟨rfl, az.of hF2 hf2 hO2 hG⟩
   | none =>
     have hdr : e.dropped (f.st : Int) = e := by unfold Lk.En.dropped; rw [hup]
     rw [hdr] at hF2
     cases hg : e.bz (f.st : Int) with
     | none =>
       have hR := uh HRR
       rw [Ht hF2.live.wf Uw hup hg] at hR
       obtain ⟨q, hq⟩ := Hu b e d2 (f.st : Int) wc hF2.live ⟨by omega, by omega⟩ hg
       have HFI := hide hq
       have HBO := hide (fun n => qG b f.st e.nextId (wc.drewN n) Oy (hF2.live.rw.blk.cell 7))
       have HBI := hide (fun n => Dx b f.st (ah e) (wc.drewN n) Oy (hF2.live.rw.blk.cell 15))
       have HX := hide (fun n => az.of (hF2.drewN n) hf2 (hO2.drewN n) (az.same (hF2.drewN n)))
       clear hF2 hf2 hO2 Le BC hup hdr hg hq
       generalize hX : decide (f.st % 2 = e.nextId % 2 ∧ f.st < e.nextId) = X at *
       generalize hY : decide (f.st % 2 = ah e % 2 ∧ f.st < ah e) = Y at *
       clear hX hY
       cases X with
       | true =>
         cases hR
         go_wp2_with fail
         go_quiet ((go_at_call 117; exact Calls.quiet_of (uh HFI _)))
         go_wp2_with fail
         go_quiet ((first | (go_at_call 144; exact (uh HBO _).mono fun _ _ h => ⟨h.1, _, h.2⟩) | (go_at_call 145; exact (uh HBI _).mono fun _ _ h => ⟨h.1, _, h.2⟩)))
         go_wp2_with fail
         go_ret
         exact ⟨rfl, uh HX _⟩
       | false =>
         cases Y with
         | true =>
           cases hR
           go_wp2_with fail
           go_quiet ((go_at_call 117; exact Calls.quiet_of (uh HFI _)))
           go_wp2_with fail
           go_quiet ((first | (go_at_call 144; exact (uh HBO _).mono fun _ _ h => ⟨h.1, _, h.2⟩) | (go_at_call 145; exact (uh HBI _).mono fun _ _ h => ⟨h.1, _, h.2⟩)))
           go_wp2_with fail
           go_ret
           exact ⟨rfl, uh HX _⟩
         | false =>
           cases hR
           go_wp2_with fail
           go_quiet ((go_at_call 117; exact Calls.quiet_of (uh HFI _)))
           go_wp2_with fail
           go_quiet ((first | (go_at_call 144; exact (uh HBO _).mono fun _ _ h => ⟨h.1, _, h.2⟩) | (go_at_call 145; exact (uh HBI _).mono fun _ _ h => ⟨h.1, _, h.2⟩)))
           go_wp2_with fail
           go_ret
           exact ⟨rfl, uh HX _⟩
     | some q =>
       obtain ⟨i, o⟩ := q
       have hR := uh HRR
       rw [J5 hF2.live.wf hg, uh HN] at hR
       obtain ⟨ho, hod, hid⟩ := cZ hg
       obtain ⟨p, hp, hI⟩ := jA hF2.live hg
       have Qb := (hF2.live.wf.oth i o ho).two
       have hpl := hI.lt
       have HF := hide (fun n => jV b e d2 (f.st : Int) i p o (wc.drewN n) (hF2.drewN n).live ⟨by omega, by omega⟩ hg hp)
       have HOP := hide (fun n => open_any p o.cr o.held o.drp false (wc.drewN n) (hI.drewN n))
       have hrest : ∀ (W : World) (v3 : Value) (ev3 : List EvH), FS W b e d2 g B v3 ev3 -> Is W w.heap.size 79 [.int .i64 (f.k : Int), .int .i64 (f.st : Int), .string (bs f.d)] -> (Calls Tryz.prog 141 #[.pointer (some ⟨b, 11, none⟩), .pointer (some ⟨p, 0, none⟩), oN b] W fun r w' => r = .returned (.tuple #[]) ∧ ∃ d4, FS w' b (e.dM i o) d4 g B v3 ev3 ∧ (∀ j, foot b d4 j -> foot b d2 j ∨ W.heap.size <= j) ∧ Only (foot b d2) W w' ∧ Is w' w.heap.size 79 [.int .i64 (f.k : Int), .int .i64 (f.st : Int), .string (bs f.d)]) := by
        intro W v3 ev3 hW hFW
        refine (yO b i p e d2 o W hW.live ho hod hp (wX hW.live.wf ho)).mono ?_
        rintro r w' ⟨rfl, hLP⟩
        obtain ⟨d4, a1, a2, a3⟩ := hW.Ul hLP
        exact ⟨rfl, d4, a1, a2, a3, hFW.only a3 Vr⟩
       have RS := hide hrest
       have HX := hide (⟨hF2, hf2, hO2, BC, ho, hod, hid⟩ : _ ∧ _ ∧ _ ∧ _ ∧ _ ∧ _ ∧ _)
       clear hg hp hI ho hod
       by_cases hop : o.opn = true
       . have lD := Qb hop
         rw [lD] at HOP
         rw [if_pos hop] at hR
         cases hR
         have HT := hide (fun n => Du b g B e d2 v evs ⟨4, f.st, N, [], []⟩ (.slice none 0 0) (wc.drewN n) (hF2.drewN n) hl (World.ownsRow_nil _ _ _ _) (fun i hi => by cases hi) wc.heap.size (Nat.le_refl _) (fun i hi => by cases hi))
         unfold evA at HT
         rw [e0] at HT
         clear hF2 hf2 hO2 Le BC hup hdr Qb lD
         go_wp2_with fail
         go_quiet ((go_at_call 117; exact Calls.quiet_of (uh HF _)))
         go_wp2_with fail
         refine (uh HOP _).mono ?_
         rintro r w3 ⟨rfl, rfl⟩
         go_wp2_with fail
         refine (uh HT nq).mono ?_
         rintro r w4 ⟨rfl, v4, hF4, ht4, hO4⟩
         obtain ⟨hF2, hf2, hO2, BC, ho, hod, hid⟩ := uh HX
         have Vs := (BC.drewN nq).only hO4 (fun hx => by
          rcases hx with hx | hx
          . exact Vr hx
          . exact hnew (.inr hx))
         have RU := hide (fun n => uh RS (w4.drewN n) v4 _ (hF4.drewN n) (Vs.drewN n))
         unfold oN at RU
         have Yg := hF4.live.rw.lt
         have hsz2 : w.heap.size <= wc.heap.size := hO2.size
         have Vt : ∀ j, aN g v4 (evs ++ [(⟨4, f.st, N, [], []⟩, .slice none 0 0)]) j -> aN g v evs j ∨ w.heap.size <= j := fun j hj => (ht4 j hj).imp id (Nat.le_trans hsz2)
         have Vu : Only (fun j => foot b d j ∨ aN g v evs j) w w4 := (hO2.drewN nq).trans hO4 (fun j hj hlt => by
          rcases hj with hj | hj
          . rcases hf2 j hj with h' | h'
            . exact .inl h'
            . omega
          . exact .inr hj)
         have HX4 := hide (⟨hF4, hf2, Vt, Vu⟩ : _ ∧ _ ∧ _ ∧ _)
         have HHO := hide (⟨ho, hod, hid⟩ : _ ∧ _ ∧ _)
         clear hF2 hf2 hO2 BC hF4 ht4 hO4 Vs ho hod hid Vt Vu hsz2
         go_wp2_with fail
         obtain ⟨ho, hod, hid⟩ := uh HHO
         have hgo : (e.dM i o).bz (f.st : Int) = some (i, { o with held := 0 }) := by rw [<- hid]; exact wY (uh HX4).1.live.wf ho hod
         have HGO := hide hgo
         have HID := hide hid
         clear ho hod hid hgo
         go_cut [] (fun w5 => ∃ d4, FS w5 b (e.dM i o) d4 g B v4 (evs ++ [(⟨4, f.st, N, [], []⟩, .slice none 0 0)]) ∧ (∀ j, foot b d4 j -> foot b d2 j ∨ w4.heap.size <= j) ∧ Only (foot b d2) w4 w5 ∧ Is w5 w.heap.size 79 [.int .i64 (f.k : Int), .int .i64 (f.st : Int), .string (bs f.d)])
         case first =>
          go_region_with (first | (go_at_call 141; refine (uh RU 1).mono ?_; rintro r w5 ⟨rfl, d4, a1, a2, a3, a4⟩))
          all_goals
           go_wp2_with fail
           go_meet
           exact ⟨d4, a1, a2, ⟨a3.os, a3.tape, a3.output, a3.size, a3.block⟩, a4⟩
         case rest =>
          obtain ⟨d4, h4, hf4, hO5, Qe⟩ := hcut
          have z1 := Qe.cell 1
          have zl := Qe.lt
          simp only [List.getElem?_cons_zero, List.getElem?_cons_succ] at z1
          have Vf := h4.live.rw.lt
          have Qc := hide (fun n => ru b i (e.dM i o) d4 { o with held := 0 } (f.st : Int) (uh HID) (wc.drewN n) (h4.drewN n).live (uh HGO) (uh HWE))
          have H4 := hide (⟨h4, hf4, hO5⟩ : _ ∧ _ ∧ _)
          clear h4 hf4 hO5 Qe
          go_wp2_with fail
          go_cut [] (fun w6 => az w b d g B v evs { e.dM i o with oth := (e.dM i o).oth.set i { { o with held := 0 } with opn := false, drp := false } } [⟨4, f.st, N, [], []⟩] w6)
          case first =>
           go_region_with (first | (go_at_call 142; refine (uh Qc 1).mono ?_; rintro r w7 ⟨rfl, hLP⟩))
           all_goals
            go_wp2_with fail
            go_meet
            obtain ⟨h4, hf4, hO5⟩ := uh H4
            have g1 := az.before (Below.drewN (Below.refl _ _) 1) ((h4.drewN 1).ofL hLP)
            have g2 := az.of h4 hf4 (hO5.mono (fun j hj => .inl hj)) g1
            obtain ⟨hF4, hf2, ht4, hO4⟩ := uh HX4
            exact az.trans (n1 := [(⟨4, f.st, N, [], []⟩, .slice none 0 0)]) (l1 := [⟨4, f.st, N, [], []⟩]) rfl hF4 hf2 ht4 hO4 g2
          case rest =>
           go_wp2_with fail
           go_ret
           exact ⟨rfl, hcut⟩
       . have hop' : o.opn = false := by simpa using hop
         have lD : o.drp = true := by
          have hod := (uh HX).2.2.2.2.2.1
          rw [hop'] at hod
          simpa using hod
         rw [lD] at HOP
         rw [if_neg hop] at hR
         cases hR
         have RU := hide (fun n => uh RS (wc.drewN n) v evs (hF2.drewN n) (BC.drewN n))
         unfold oN at RU
         obtain ⟨W2, hW2⟩ : ∃ W, W = wc := ⟨_, rfl⟩
         have HX4 : Hid (FS W2 b e d2 g B v evs ∧ (∀ j, foot b d2 j -> foot b d j ∨ w.heap.size <= j) ∧ True ∧ Only (fun j => foot b d j ∨ aN g v evs j) w W2) := by rw [hW2]; exact ⟨hF2, hf2, trivial, hO2⟩
         have HHO := hide ((uh HX).2.2.2.2)
         have Vw : ∀ d4 w5, (∀ j, foot b d4 j -> foot b d2 j ∨ wc.heap.size <= j) ∧ Only (foot b d2) wc w5 -> (∀ j, foot b d4 j -> foot b d2 j ∨ W2.heap.size <= j) ∧ Only (foot b d2) W2 w5 := fun d4 w5 h => by rw [hW2]; exact h
         have Xc := hide Vw
         clear hF2 hf2 hO2 Le BC hup hdr Qb lD hop' hW2 Vw
         go_wp2_with fail
         go_quiet ((go_at_call 117; exact Calls.quiet_of (uh HF _)))
         go_wp2_with fail
         refine (uh HOP _).mono ?_
         rintro r w3 ⟨rfl, rfl⟩
         go_wp2_with fail
         obtain ⟨ho, hod, hid⟩ := uh HHO
         have hgo : (e.dM i o).bz (f.st : Int) = some (i, { o with held := 0 }) := by rw [<- hid]; exact wY (uh HX4).1.live.wf ho hod
         have HGO := hide hgo
         have HID := hide hid
         clear ho hod hid hgo
         go_cut [] (fun w5 => ∃ d4, FS w5 b (e.dM i o) d4 g B v (evs) ∧ (∀ j, foot b d4 j -> foot b d2 j ∨ W2.heap.size <= j) ∧ Only (foot b d2) W2 w5 ∧ Is w5 w.heap.size 79 [.int .i64 (f.k : Int), .int .i64 (f.st : Int), .string (bs f.d)])
         case first =>
          go_region_with (first | (go_at_call 141; refine (uh RU (nq + 1)).mono ?_; rintro r w5 ⟨rfl, d4, a1, a2, a3, a4⟩))
          all_goals
           go_wp2_with fail
           go_meet
           have hc := uh Xc d4 w5 ⟨a2, ⟨a3.os, a3.tape, a3.output, a3.size, a3.block⟩⟩
           exact ⟨d4, a1, hc.1, hc.2, a4⟩
         case rest =>
          obtain ⟨d4, h4, hf4, hO5, Qe⟩ := hcut
          have z1 := Qe.cell 1
          have zl := Qe.lt
          simp only [List.getElem?_cons_zero, List.getElem?_cons_succ] at z1
          have Vf := h4.live.rw.lt
          have Qc := hide (fun n => ru b i (e.dM i o) d4 { o with held := 0 } (f.st : Int) (uh HID) (wc.drewN n) (h4.drewN n).live (uh HGO) (uh HWE))
          have H4 := hide (⟨h4, hf4, hO5⟩ : _ ∧ _ ∧ _)
          clear h4 hf4 hO5 Qe
          go_wp2_with fail
          go_cut [] (fun w6 => az w b d g B v evs { e.dM i o with oth := (e.dM i o).oth.set i { { o with held := 0 } with opn := false, drp := false } } [] w6)
          case first =>
           go_region_with (first | (go_at_call 142; refine (uh Qc 1).mono ?_; rintro r w7 ⟨rfl, hLP⟩))
           all_goals
            go_wp2_with fail
            go_meet
            obtain ⟨h4, hf4, hO5⟩ := uh H4
            have g1 := az.before (Below.drewN (Below.refl _ _) 1) ((h4.drewN 1).ofL hLP)
            have g2 := az.of h4 hf4 (hO5.mono (fun j hj => .inl hj)) g1
            obtain ⟨hF4, hf2, ht4, hO4⟩ := uh HX4
            exact az.of hF4 hf2 hO4 g2
          case rest =>
           go_wp2_with fail
           go_ret
           exact ⟨rfl, hcut⟩
end Go.Proofs.YtbkpdapagfjmmaaGreatDoor
