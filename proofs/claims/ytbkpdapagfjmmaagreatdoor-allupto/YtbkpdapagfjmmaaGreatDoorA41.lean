import Derived.Test.YtbkpdapagfjmmaaGreatDoorA35
import Derived.Test.YtbkpdapagfjmmaaGreatDoorA40
set_option linter.unusedVariables false
set_option maxRecDepth 100000
set_option maxHeartbeats 16000000
namespace Go.Proofs.YtbkpdapagfjmmaaGreatDoor
open Go.RowKit
variable {κ : Prop}
theorem RFd.done {w W W' : World} {b : Nat} {p p' : RP} {fv : Value} {fs : List Lk.Fr} {e0 E E' : Lk.En} {i : Nat} {v : Value} {evs : List EvH} (h : RFd κ w W b p fv fs e0 i E p' v evs) (hP : aj κ W b p' E' W') (hk : E'.down = 0 -> κ) :
 fA True w b p E'.down E' (evs.map Prod.fst) (.returned (.tuple #[v, .int .i64 (E'.down : Int)])) W' := by
 obtain ⟨p2, h1, h2, h3⟩ := hP
 have hs := h.on.size
 refine ⟨v, evs, p2, rfl, rfl, h.sd.only h3 (fun j hj => h.sa j hj), fun j hj hx => ?_, h1.known hk, fun j hj => ?_, h.on.trans h3 (fun j hx hlt => ?_)⟩
 . rcases h2 j hx with x | x
   . exact h.sa j hj x
   . have := (h.sd.lt hj).2
     omega
 . rcases h2 j hj with x | x
   . exact h.ft j x
   . exact .inr (by omega)
 . rcases h.ft j hx with x | x
   . exact x
   . omega
theorem RFd.all {w W : World} {b : Nat} {p p' : RP} {fv : Value} {fs : List Lk.Fr} {e0 E : Lk.En} {i : Nat} {v : Value} {evs : List EvH} (h : RFd κ w W b p fv fs e0 i E p' v evs) (hx : ¬ i < fs.length ∨ E.down ≠ 0) : e0.frames fs = (evs.map Prod.fst, E) := by
 by_cases hi : i < fs.length
 . have hd : E.down ≠ 0 := hx.resolve_left (fun h => h hi)
   have e : fs.take i ++ fs.drop i = fs := List.take_append_drop i fs
   rw [<- e, Lk.En.ku, h.en]
   simp only [Lk.En.mZ _ _ hd]
   simp
 . have := h.en
   rw [List.take_of_length_le (by omega)] at this
   exact this
theorem Kw (b : Nat) (e : Lk.En) (p : RP) (t : ByteArray) (w : World) (h : aT True w b e p) (hw : Lk.Wf e) (ht : t.size <= 2 ^ 39) (hl : e.row.length <= 2 ^ 39) :
 Calls Tryz.prog 108 #[.pointer (some ⟨b, 0, none⟩), .string t] w (fA True w b p (e.feed t.data.toList).2.down (e.feed t.data.toList).2 (e.feed t.data.toList).1) := by
 have c13 : w.cell? ⟨b, 13, none⟩ = some (.int .i64 (e.down : Int)) := h.blk.cell 13
 have hbl := h.blk.lt
 by_cases hdn : e.down = 0
 . obtain ⟨s, f, hr1, hr2⟩ := h.rd
   obtain ⟨rfl, hs⟩ := hr2 trivial hdn
   have c4 : w.cell? ⟨b, 4, none⟩ = some (ptr p.rb) := h.blk.cell 4
   unfold ptr at c4
   have h72 : e.rest.length <= 72 := by
    have := Lk.lW e.rest (by rw [hw.rest])
    rw [hw.rest] at this
    exact this
   have hrf := sN p.rb s t e.rest 0 w (fun _ => ⟨hs, h72⟩) ht hr1
   simp only [Lk.fU, Lk.bC, Lk.jK, if_true] at hrf
   have hgood := (Lk.kY (e.rest ++ t.data.toList)).1
   have hlenA := Lk.Ci (e.rest ++ t.data.toList)
   have uz := Lk.qV (e.rest ++ t.data.toList)
   have htl : t.data.toList.length <= 2 ^ 39 := by rw [<- af]; exact ht
   rw [List.length_append] at hlenA
   have hF : e.feed t.data.toList = (((({ e with rest := (Lk.all (e.rest ++ t.data.toList)).2.2 } : Lk.En).frames (Lk.all (e.rest ++ t.data.toList)).1).1), Lk.En.falls (if (({ e with rest := (Lk.all (e.rest ++ t.data.toList)).2.2 } : Lk.En).frames (Lk.all (e.rest ++ t.data.toList)).1).2.down = 0 then { (({ e with rest := (Lk.all (e.rest ++ t.data.toList)).2.2 } : Lk.En).frames (Lk.all (e.rest ++ t.data.toList)).1).2 with down := (Lk.all (e.rest ++ t.data.toList)).2.1 } else (({ e with rest := (Lk.all (e.rest ++ t.data.toList)).2.2 } : Lk.En).frames (Lk.all (e.rest ++ t.data.toList)).1).2)) := by
    unfold Lk.En.feed
    rw [if_neg (by rw [hdn]; simp)]
   generalize hA : Lk.all (e.rest ++ t.data.toList) = A at *
   obtain ⟨fs, flt, rest⟩ := A
   simp only at hrf hgood hlenA uz hF
   have RY : fs.length <= 2 ^ 38 := by omega
   have Yh : (fs.length : Int) <= 1000000000000 := by omega
   have HRF := hide hrf
   have HST : Hid (∀ W fv s', W.ownsRow w.heap.size 66 3 fv fs.length (aZ fs) -> Is W p.rb 54 [.string s', .int .i64 (flt : Int)] -> ((flt : Int) = 0 -> s'.data.toList = rest) -> Turns p.rb w W -> RFd (flt = 0) w W b p fv fs { e with rest := rest } 0 { e with rest := rest } p gQ []) := by
    intro W fv s' h1 h2 h3 h4
    have hre := h.fed h2 h4 h3
    have hk : ((flt : Int) = 0) = (flt = 0) := by simp
    rw [hk] at hre
    refine ⟨hre, fun _ x => .inl x, (Only.dP h4).mono (fun i hi => .inr (.inr (.inr (.inl hi)))), h1, RSaid.nil _ _, fun i hi => ?_, by simp [Lk.En.frames], hw.at uz, by simp, by simp⟩
    rcases hi with hi | ⟨q, hq, _⟩
    . cases hi
    . cases hq
   have HG := hide hgood
   generalize hX : e.feed t.data.toList = X at *
   have HF := hide hF
   have HL := hide (⟨hl, RY⟩ : _ ∧ _)
   clear hrf hr1 hr2 hs h72 hlenA uz htl hA hX hF hgood h hw hl ht RY
   rw [hdn] at c13
   clear hdn
   go_enter Tryz.func108, Tryz.ntmps108
   go_wp2_with fail
   refine (uh HRF).mono ?_
   rintro r w1 ⟨fv, rfl, ho1, ⟨s', hI1, hs1⟩, hT1⟩
   have HR0 := hide (uh HST w1 fv s' ho1 hI1 hs1 hT1)
   obtain ⟨fa, fc, rfl⟩ := aJ ho1
   clear ho1 hI1 hs1 hT1 HST HRF c4 c13 hbl
   go_wp2_with fail
   go_loopw [8, 9] (fun v8 v9 wr => ∃ (i : Nat) (E : Lk.En) (p' : RP) (evs : List EvH), i <= fs.length ∧ v9 = .int .i64 i ∧ Hid (RFd (flt = 0) w wr b p (.slice fa fs.length fc) fs { e with rest := rest } i E p' v8 evs)) (fun _ v9 _ => fs.length - (intOf v9).toNat)
   case atStart => exact ⟨0, _, _, _, Nat.zero_le _, rfl, HR0⟩
   case round =>
    clear HR0
    obtain ⟨i, E, p', evs, hi, rfl, HR⟩ := hrel
    have hR := uh HR
    obtain ⟨oa, oc, rfl⟩ := aJ hR.sd.row
    have c13 : wr.cell? ⟨b, 13, none⟩ = some (.int .i64 (E.down : Int)) := hR.re.blk.cell 13
    have c11 : wr.cell? ⟨b, 11, none⟩ = some (.bool E.iH) := hR.re.blk.cell 11
    have hbl := hR.re.blk.lt
    have f13 := hR.re.blk.free 13
    by_cases hgo : i < fs.length ∧ E.down = 0
    . obtain ⟨hlt, hdn⟩ := hgo
      have hlt' : (i : Int) < fs.length := by omega
      rw [hdn] at c13
      obtain ⟨x, hx⟩ : ∃ x, fs[i]? = some x := ⟨_, List.getElem?_eq_getElem hlt⟩
      have hgx := uh HG x (List.mem_of_getElem? hx)
      have hrl := hR.rl
      have hel := hR.el
      obtain ⟨g, cap, hfe, _, hgl, hcap, hcs, _⟩ := ed (fun f : Lk.Fr => [Value.int .i64 (f.k : Int), .int .i64 (f.st : Int), .string ⟨f.d.toArray⟩]) (fun _ => rfl) hR.fr hx
      obtain ⟨rfl, rfl⟩ : fa = some ⟨g, 0, none⟩ ∧ fc = cap := by
       injection hfe with k1 k2 k3
       exact ⟨k1, k3⟩
      have a0 : wr.cell? ⟨g, i * 3, none⟩ = some (.int .i64 (x.k : Int)) := hcs 0 (by omega)
      have a1 : wr.cell? ⟨g, i * 3 + 1, none⟩ = some (.int .i64 (x.st : Int)) := hcs 1 (by omega)
      have a2 : wr.cell? ⟨g, i * 3 + 2, none⟩ = some (.string (bs x.d)) := hcs 2 (by omega)
      have HFR := hide (Hf b E p' x wr hR.re hR.wf hgx (by have := (uh HL).1; have := (uh HL).2; have e1 : ({ e with rest := rest } : Lk.En).row.length = e.row.length := rfl; omega))
      have HLE := hide (by have := (uh HL).2; have h2 := Lk.uy E x; omega : evs.length + (E.frame x).1.length <= 2 ^ 40)
      have HXX := hide (⟨hx, hdn, hgx⟩ : _ ∧ _ ∧ _)
      generalize hFX : E.frame x = FX at *
      clear hR hfe hcs hx hgx hrl hel hdn
      go_wp2_with fail
      refine (uh HFR).mono ?_
      rintro r w2 hG
      obtain ⟨v2, ev2, p2, rfl, h2, hI2⟩ := (uh HR).frame hG
      have HI0 : Hid (RIn (flt = 0) w w2 b p (.slice (some ⟨g, 0, none⟩) fs.length fc) fs FX.2.2 p2 (.slice oa evs.length oc) (evs ++ ev2.take 0) v2 ev2) := by rw [List.take_zero, List.append_nil]; exact hI2
      obtain ⟨va, vc, rfl⟩ := aJ hI2.s2.row
      have H2 := hide h2
      have hev2 : ev2.length <= 2 := by
       have := Lk.uy E x
       rw [hFX] at this
       rw [<- List.length_map (f := Prod.fst), h2]
       exact this.2
      have Xd := hide (by have := uh HLE; rw [<- h2, List.length_map] at this; exact this : evs.length + ev2.length <= 2 ^ 40)
      clear hG h2 hI2 HFR HLE c13 c11 hbl f13 a0 a1 a2 hgl
      go_wp2_with fail
      go_loopw [8, 12] (fun v8 v12 wx => ∃ (k : Nat), k <= ev2.length ∧ v12 = .int .i64 k ∧ Hid (RIn (flt = 0) w wx b p (.slice (some ⟨g, 0, none⟩) fs.length fc) fs FX.2.2 p2 v8 (evs ++ ev2.take k) (.slice va ev2.length vc) ev2)) (fun _ v12 _ => ev2.length - (intOf v12).toNat)
      case atStart => exact ⟨0, Nat.zero_le _, rfl, HI0⟩
      case round =>
       clear HI0
       obtain ⟨k, hk, rfl, HI⟩ := hrel
       have hI := uh HI
       obtain ⟨ua, uc, rfl⟩ := aJ hI.sd.row
       by_cases Xe : k < ev2.length
       . have Ux : (k : Int) < ev2.length := by omega
         obtain ⟨q, hq⟩ : ∃ q, ev2[k]? = some q := ⟨_, List.getElem?_eq_getElem Xe⟩
         obtain ⟨g2, cap2, hve, _, UX, hcap2, hcs2, _⟩ := ed evV (fun _ => rfl) hI.s2.row hq
         obtain ⟨rfl, rfl⟩ : va = some ⟨g2, 0, none⟩ ∧ vc = cap2 := by
          injection hve with k1 k2 k3
          exact ⟨k1, k3⟩
         have e0 : wr.cell? ⟨g2, k * 5, none⟩ = some (.int .i64 (q.1.k : Int)) := hcs2 0 (by omega)
         have e1 : wr.cell? ⟨g2, k * 5 + 1, none⟩ = some (.int .i64 (q.1.st : Int)) := hcs2 1 (by omega)
         have e2 : wr.cell? ⟨g2, k * 5 + 2, none⟩ = some (.int .i64 (q.1.n : Int)) := hcs2 2 (by omega)
         have e3 : wr.cell? ⟨g2, k * 5 + 3, none⟩ = some q.2 := hcs2 3 (by omega)
         have e4 : wr.cell? ⟨g2, k * 5 + 4, none⟩ = some (.string (bs q.1.t)) := hcs2 4 (by omega)
         obtain ⟨v', w', hr, hI', hf'⟩ := hI.push (List.mem_of_getElem? hq) (by have := uh Xd; rw [List.length_append, List.length_take]; omega) 217
         have ht1 : (evs ++ ev2.take k) ++ [q] = evs ++ ev2.take (k + 1) := by rw [List.take_add_one, hq, List.append_assoc]; rfl
         rw [ht1] at hI'
         obtain ⟨ya, yc, hq2⟩ := aJ (hI.s2.hds q (List.mem_of_getElem? hq))
         rw [hq2] at e3 hr
         have HA := hide hr
         have HN := hide hI'
         clear hI hve hcs2 hr hI' ht1 hq hq2 hf'
         go_wp2_with (at_builtin; refine Lib.wpList_append_run _ rfl _ _ _ _ rfl _ _ rfl rfl _ _ (uh HA) ?_)
         go_roundw
         case rel => exact ⟨k + 1, by omega, by go_num, uh HN⟩
         case measure => simp [intOf]; omega
       . have Ux : ¬ (k : Int) < ev2.length := by omega
         have hkk : ev2.take k = ev2 := List.take_of_length_le (by omega)
         have hI2 : RIn (flt = 0) w wr b p (.slice (some ⟨g, 0, none⟩) fs.length fc) fs (E.frame x).2.2 p2 (.slice ua (evs ++ ev2.take k).length uc) (evs ++ ev2) (.slice va ev2.length vc) ev2 := by
          rw [hkk] at hI ⊢
          rw [hFX]
          exact hI
         have hN := (uh HR).next (uh HXX).1 (uh HXX).2.1 (uh HXX).2.2 (by rw [hFX]; exact uh H2) hI2
         rw [hFX] at hN
         have c13 : wr.cell? ⟨b, 13, none⟩ = some (.int .i64 (FX.2.2.down : Int)) := hI.re.blk.cell 13
         have hbl := hI.re.blk.lt
         have f13 := hI.re.blk.free 13
         have HN := hide hN
         clear hI hI2 hN hkk
         go_wp2_with fail
         go_roundw
         case rel => exact ⟨i + 1, _, _, _, by omega, by go_num, uh HN⟩
         case measure => simp [intOf]; omega
    . have hall := hR.all (by omega)
      have hFX := uh HF
      rw [hall] at hFX
      simp only at hFX
      have HD := hide (fun (E' : Lk.En) (W' : World) (hP : aj (flt = 0) wr b p' E' W') (hk : E'.down = 0 -> flt = 0) => hR.done hP hk)
      have hrl := hR.rl
      have hrow : E.row.length <= 2 ^ 40 := by have := (uh HL).1; have := (uh HL).2; have e1 : ({ e with rest := rest } : Lk.En).row.length = e.row.length := rfl; omega
      have HRE := hide (⟨hR.re, hR.wf, hrow⟩ : _ ∧ _ ∧ _)
      clear hall hrl hrow HF HG HL
      by_cases hdn : E.down = 0
      . have hlt' : ¬ (i : Int) < fs.length := by omega
        rw [if_pos hdn] at hFX
        have hset := hR.re.set (e' := { E with down := flt }) 13 (.int .i64 (flt : Int)) rfl rfl rfl rfl rfl rfl (fun x => ⟨hdn, rfl⟩)
        have hO : Only (aI b p') wr (wr.setCell ⟨b, 13, none⟩ (.int .i64 (flt : Int))) := (Only.refl _ wr).set b 13 _ (fun _ => .inl rfl)
        rw [hdn] at c13
        by_cases RZ : flt ≠ 0 ∧ E.iH = false
        . obtain ⟨hf0, hb0⟩ := RZ
          have Xf : ¬ (flt : Int) = 0 := by omega
          have hE : ({ E with down := flt } : Lk.En).falls = ({ E with down := flt } : Lk.En).bye := by unfold Lk.En.falls; rw [if_pos ⟨hf0, hb0⟩]
          rw [hE] at hFX
          rw [hb0] at c11
          have HB := hide (xW b { E with down := flt } p' _ hset ((uh HRE).2.1.iI flt) (by show E.row.length <= _; have := (uh HRE).2.2; omega))
          have HO := hide hO
          have HX := hide hFX
          have HDN := hide hf0
          clear hset hO hFX hR hE hf0 hb0 hdn hgo
          go_wp2_with fail
          refine (uh HB).mono ?_
          rintro r w2 ⟨rfl, hP⟩
          have jD : Hid (∀ W', Below w2.heap.size w2 W' -> fA True w b p X.2.down X.2 X.1 (.returned (.tuple #[.slice oa evs.length oc, .int .i64 (X.2.down : Int)])) W') := by
           intro W' hb'
           have := uh HD _ _ ((aj.on (uh HO) hP).after hb') (fun x => absurd x (by show flt ≠ 0; exact uh HDN))
           rw [uh HX]
           exact this
          have q13 : w2.cell? ⟨b, 13, none⟩ = some (.int .i64 (X.2.down : Int)) := by
           obtain ⟨p9, h9, _⟩ := hP
           rw [uh HX]
           exact h9.blk.cell 13
          have Vx : b < w2.heap.size := by
           obtain ⟨p9, h9, _⟩ := hP
           exact h9.blk.lt
          clear hP
          go_wp2_with fail
          go_quiet (fail)
          go_wp2_with fail
          go_ret2
          exact uh jD _ ⟨rfl, rfl, rfl, Nat.le_refl _, fun _ _ => rfl⟩
        . have hE : ({ E with down := flt } : Lk.En).falls = { E with down := flt } := by unfold Lk.En.falls; rw [if_neg RZ]
          rw [hE] at hFX
          have jD : Hid (∀ W', Below wr.heap.size (wr.setCell ⟨b, 13, none⟩ (.int .i64 (flt : Int))) W' -> fA True w b p X.2.down X.2 X.1 (.returned (.tuple #[.slice oa evs.length oc, .int .i64 (flt : Int)])) W') := by
           intro W' hb'
           rw [hFX]
           exact uh HD _ _ ⟨p', hset.below (by simpa using hb'), fun _ x => .inl x, hO.below (by simpa using hb')⟩ (fun x => x)
          clear hset hO hFX hR hE hdn hgo
          by_cases hf0 : flt = 0
          . subst hf0
            clear RZ
            go_wp2_with fail
            go_quiet (fail)
            go_wp2_with fail
            go_ret2
            exact uh jD _ ⟨rfl, rfl, rfl, Nat.le_refl _, fun _ _ => rfl⟩
          . have Xf : ¬ (flt : Int) = 0 := by omega
            have hb1 : E.iH = true := by
             cases hb : E.iH with
             | true => rfl
             | false => exact absurd ⟨hf0, hb⟩ RZ
            rw [hb1] at c11
            clear RZ hf0 hb1
            go_wp2_with fail
            go_quiet (fail)
            go_wp2_with fail
            go_ret2
            exact uh jD _ ⟨rfl, rfl, rfl, Nat.le_refl _, fun _ _ => rfl⟩
      . have hd' : ¬ (E.down : Int) = 0 := by omega
        rw [if_neg hdn] at hFX
        by_cases hb0 : E.iH = false
        . have hE : E.falls = E.bye := by unfold Lk.En.falls; rw [if_pos ⟨hdn, hb0⟩]
          rw [hE] at hFX
          rw [hb0] at c11
          have HB := hide (xW b E p' _ hR.re (uh HRE).2.1 (by have := (uh HRE).2.2; omega))
          have HO := hide (Only.refl (aI b p') wr)
          have HX := hide hFX
          have HDN := hide hdn
          clear hFX hR hE hb0 hdn hgo
          generalize (E.down : Int) = DN at *
          by_cases hlt : i < fs.length
          . have hlt' : (i : Int) < fs.length := by omega
            go_wp2_with fail
            refine (uh HB).mono ?_
            rintro r w2 ⟨rfl, hP⟩
            have jD : Hid (∀ W', Below w2.heap.size w2 W' -> fA True w b p X.2.down X.2 X.1 (.returned (.tuple #[.slice oa evs.length oc, .int .i64 (X.2.down : Int)])) W') := by
             intro W' hb'
             have := uh HD _ _ ((aj.on (uh HO) hP).after hb') (fun x => absurd x (by show E.down ≠ 0; exact uh HDN))
             rw [uh HX]
             exact this
            have q13 : w2.cell? ⟨b, 13, none⟩ = some (.int .i64 (X.2.down : Int)) := by
             obtain ⟨p9, h9, _⟩ := hP
             rw [uh HX]
             exact h9.blk.cell 13
            have Vx : b < w2.heap.size := by
             obtain ⟨p9, h9, _⟩ := hP
             exact h9.blk.lt
            clear hP
            go_wp2_with fail
            go_quiet (fail)
            go_wp2_with fail
            go_ret2
            exact uh jD _ ⟨rfl, rfl, rfl, Nat.le_refl _, fun _ _ => rfl⟩
          . have hlt' : ¬ (i : Int) < fs.length := by omega
            go_wp2_with fail
            refine (uh HB).mono ?_
            rintro r w2 ⟨rfl, hP⟩
            have jD : Hid (∀ W', Below w2.heap.size w2 W' -> fA True w b p X.2.down X.2 X.1 (.returned (.tuple #[.slice oa evs.length oc, .int .i64 (X.2.down : Int)])) W') := by
             intro W' hb'
             have := uh HD _ _ ((aj.on (uh HO) hP).after hb') (fun x => absurd x (by show E.down ≠ 0; exact uh HDN))
             rw [uh HX]
             exact this
            have q13 : w2.cell? ⟨b, 13, none⟩ = some (.int .i64 (X.2.down : Int)) := by
             obtain ⟨p9, h9, _⟩ := hP
             rw [uh HX]
             exact h9.blk.cell 13
            have Vx : b < w2.heap.size := by
             obtain ⟨p9, h9, _⟩ := hP
             exact h9.blk.lt
            clear hP
            go_wp2_with fail
            go_quiet (fail)
            go_wp2_with fail
            go_ret2
            exact uh jD _ ⟨rfl, rfl, rfl, Nat.le_refl _, fun _ _ => rfl⟩
        . have hb1 : E.iH = true := by simpa using hb0
          have hE : E.falls = E := by unfold Lk.En.falls; rw [if_neg (fun x => hb0 x.2)]
          rw [hE] at hFX
          rw [hb1] at c11
          have jD : Hid (∀ W', Below wr.heap.size wr W' -> fA True w b p X.2.down X.2 X.1 (.returned (.tuple #[.slice oa evs.length oc, .int .i64 (E.down : Int)])) W') := by
           intro W' hb'
           rw [hFX]
           exact uh HD _ _ ((aj.same hR.re).after hb') (fun x => absurd x hdn)
          clear hFX hR hE hb0 hb1 hdn hgo
          generalize (E.down : Int) = DN at *
          by_cases hlt : i < fs.length
          . have hlt' : (i : Int) < fs.length := by omega
            go_wp2_with fail
            go_quiet (fail)
            go_wp2_with fail
            go_ret2
            exact uh jD _ ⟨rfl, rfl, rfl, Nat.le_refl _, fun _ _ => rfl⟩
          . have hlt' : ¬ (i : Int) < fs.length := by omega
            go_wp2_with fail
            go_quiet (fail)
            go_wp2_with fail
            go_ret2
            exact uh jD _ ⟨rfl, rfl, rfl, Nat.le_refl _, fun _ _ => rfl⟩
 . have hF : e.feed t.data.toList = ([], e) := e.jP _ hdn
   rw [hF]
   have HF : Hid (∀ W', Below w.heap.size w W' -> fA True w b p e.down e [] (.returned (.tuple #[.slice none 0 0, .int .i64 (e.down : Int)])) W') := fun W' hb' => fA.none ((aj.same h).after hb')
   have hd' : ¬ (e.down : Int) = 0 := by omega
   simp only
   generalize (e.down : Int) = DN at *
   clear h hw hF hdn
   go_enter Tryz.func108, Tryz.ntmps108
   go_wp2_with fail
   go_quiet (fail)
   go_wp2_with fail
   go_ret2
   exact uh HF _ ⟨rfl, rfl, rfl, Nat.le_refl _, fun _ _ => rfl⟩
end Go.Proofs.YtbkpdapagfjmmaaGreatDoor
