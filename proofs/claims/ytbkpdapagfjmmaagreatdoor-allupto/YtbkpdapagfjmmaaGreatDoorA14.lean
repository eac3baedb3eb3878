import Derived.Test.YtbkpdapagfjmmaaGreatDoorA13
set_option linter.unusedVariables false
set_option maxRecDepth 100000
set_option maxHeartbeats 16000000
namespace Go.Proofs.YtbkpdapagfjmmaaGreatDoor
open Go.RowKit
variable {κ : Prop}
theorem CJ {n : Nat} (h : n = 0) : ((n : Int) != 0) = false := by rw [h]; rfl
theorem zY {n : Nat} (h : n ≠ 0) : ((n : Int) != 0) = true := by simp; omega
theorem Js (b : Nat) (e : Lk.En) (p : RP) (t : ByteArray) (w : World) (h : aT κ w b e p) (hl : e.row.length <= 2 ^ 42) :
 Calls Tryz.prog 113 #[.pointer (some ⟨b, 0, none⟩), .string t] w fun r w' => r = .returned (.int .i64 ((e.iy t.data.toList).1 : Int)) ∧ aj κ w b p (e.iy t.data.toList).2 w' := by
 have c13 : w.cell? ⟨b, 13, none⟩ = some (.int .i64 (e.down : Int)) := h.blk.cell 13
 have hbl := h.blk.lt
 have HSM := hide (aj.same h)
 have hts := af t
 unfold Lk.En.iy
 by_cases hd : e.down = 0
 . rw [if_neg (by rw [hd]; simp)]
   have hd' := CJ hd
   by_cases h8 : t.data.toList.length = 8
   . rw [if_neg (by rw [h8]; simp)]
     have h8' : ((t.size : Int) != 8) = false := by simp; omega
     have htb : bs t.data.toList = t := by unfold bs; rfl
     have HS := hide (fV b e p 5 0 t.data.toList w h (Lk.iY 5 _ (.inl rfl) h8) hl)
     rw [htb] at HS
     generalize (e.down : Int) = DN at *
     clear h h8 hd hts HSM
     go_enter Tryz.func113, Tryz.ntmps113
     go_wp2_with fail
     refine (uh HS).mono ?_
     rintro r w1 ⟨rfl, hP⟩
     have HP := hide hP
     clear hP
     go_wp2_with fail
     go_ret
     exact ⟨rfl, uh HP⟩
   . rw [if_pos h8]
     have h8' : ((t.size : Int) != 8) = true := by simp; omega
     generalize (e.down : Int) = DN at *
     clear h h8 hd hts
     go_enter Tryz.func113, Tryz.ntmps113
     go_wp2_with fail
     go_ret
     exact ⟨rfl, uh HSM⟩
 . rw [if_pos hd]
   have hd' := zY hd
   generalize (e.down : Int) = DN at *
   clear h hd hts
   go_enter Tryz.func113, Tryz.ntmps113
   go_wp2_with fail
   go_ret
   exact ⟨rfl, uh HSM⟩
theorem Jt (b : Nat) (e : Lk.En) (p : RP) (w : World) (h : aT κ w b e p) (hw : Lk.Wf e) (hl : e.row.length <= 2 ^ 42) :
 Calls Tryz.prog 114 #[.pointer (some ⟨b, 0, none⟩)] w fun r w' => r = .returned (.int .i64 (e.iC.1 : Int)) ∧ aj κ w b p e.iC.2 w' := by
 have c13 : w.cell? ⟨b, 13, none⟩ = some (.int .i64 (e.down : Int)) := h.blk.cell 13
 have c11 : w.cell? ⟨b, 11, none⟩ = some (.bool e.iH) := h.blk.cell 11
 have hbl := h.blk.lt
 have HSM := hide (aj.same h)
 have HS := hide (xW b e p w h hw hl)
 unfold Lk.En.iC
 by_cases hd : e.down = 0
 . rw [if_neg (by rw [hd]; simp)]
   have hd' := CJ hd
   cases hb : e.iH with
   | true =>
     rw [if_pos rfl]
     rw [hb] at c11
     generalize (e.down : Int) = DN at *
     clear h hd hb
     go_enter Tryz.func114, Tryz.ntmps114
     go_wp2_with fail
     go_ret
     exact ⟨rfl, uh HSM⟩
   | false =>
     rw [if_neg (by simp)]
     rw [hb] at c11
     generalize (e.down : Int) = DN at *
     clear h hd hb HSM
     go_enter Tryz.func114, Tryz.ntmps114
     go_wp2_with fail
     refine (uh HS).mono ?_
     rintro r w1 ⟨rfl, hP⟩
     have HP := hide hP
     clear hP
     go_wp2_with fail
     go_ret
     exact ⟨rfl, uh HP⟩
 . rw [if_pos hd]
   have hd' := zY hd
   generalize (e.down : Int) = DN at *
   clear h hd
   go_enter Tryz.func114, Tryz.ntmps114
   go_wp2_with fail
   go_ret
   exact ⟨rfl, uh HSM⟩
theorem zZ (b : Nat) (e : Lk.En) (p : RP) (k n : Int) (w : World) (h : aT κ w b e p) (hw : Lk.Wf e) (hl : e.row.length <= 2 ^ 41) :
 Calls Tryz.prog 111 #[.pointer (some ⟨b, 0, none⟩), .int .i64 k, .int .i64 n] w fun r w' => r = .returned (.int .i64 ((e.aP k n).1 : Int)) ∧ aj κ w b p (e.aP k n).2 w' := by
 have c13 : w.cell? ⟨b, 13, none⟩ = some (.int .i64 (e.down : Int)) := h.blk.cell 13
 have c7 : w.cell? ⟨b, 7, none⟩ = some p.tv := h.blk.cell 7
 have hbl := h.blk.lt
 have HSM := hide (aj.same h)
 have Gl := hw.wE
 have HOT := hide (fun W (hR : aT κ W b e p) => lX b e p k W hR (by omega))
 have HE := hide h
 unfold Lk.En.aP
 by_cases hd : e.down = 0
 . rw [if_neg (by rw [hd]; simp)]
   have hd' := CJ hd
   by_cases hn : n < 1
   . rw [if_pos hn]
     generalize (e.down : Int) = DN at *
     clear h hd
     go_enter Tryz.func111, Tryz.ntmps111
     go_wp2_with fail
     go_ret
     exact ⟨rfl, uh HSM⟩
   . rw [if_neg hn]
     cases hix : Lk.bM e.oth k with
     | none =>
       simp only
       rw [hix] at HOT
       have HO1 := hide (uh HOT w h)
       generalize (e.down : Int) = DN at *
       clear h hd HOT
       go_enter Tryz.func111, Tryz.ntmps111
       go_wp2_with fail
       refine (uh HO1).mono ?_
       rintro r w1 ⟨rfl, rfl⟩
       simp only [ixO]
       go_wp2_with fail
       go_ret
       exact ⟨rfl, uh HSM⟩
     | some i =>
       simp only
       obtain ⟨o, ho, hid⟩ := Lk.bg hix
       rw [ho]
       simp only
       rw [hix] at HOT
       have HO1 := hide (uh HOT w h)
       have hok := hw.oth i o ho
       have hroom := hw.room
       have hw2 := hw.kN
       have hcr := hok.cr
       have hi : i < e.oth.length := (List.getElem?_eq_some_iff.1 ho).1
       obtain ⟨g, cap, hv, hgl, hcap, x0, x1, x2, x3, x4, hfz, hgb⟩ := h.MJ ho
       have hi' : (i : Int) < e.oth.length := by omega
       have hi0 : (0 : Int) <= i := by omega
       rw [hv] at c7
       by_cases hh : (o.held : Int) < n
       . rw [if_pos hh]
         generalize (e.down : Int) = DN at *
         generalize (o.held : Int) = HD at *
         clear h hd HOT hv hfz
         go_enter Tryz.func111, Tryz.ntmps111
         go_wp2_with fail
         refine (uh HO1).mono ?_
         rintro r w1 ⟨rfl, rfl⟩
         simp only [ixO]
         go_wp2_with fail
         go_ret
         exact ⟨rfl, uh HSM⟩
       . rw [if_neg hh]
         obtain ⟨m, rfl⟩ : ∃ m : Nat, n = m := ⟨n.toNat, by omega⟩
         rw [Int.toNat_natCast]
         have hm1 : 1 <= m := by omega
         have hm2 : m <= o.held := by omega
         obtain ⟨s1, s1o⟩ := h.fF ho hv 2 (.int .i64 ((o.held - m : Nat) : Int)) { o with held := o.held - m } (by omega) rfl
         have s2 := s1.set (e' := { e with oth := e.oth.set i { o with held := o.held - m }, room := e.room + m }) 9 (.int .i64 ((e.room + m : Nat) : Int)) rfl rfl rfl rfl rfl rfl (fun x => ⟨x, rfl⟩)
         have s2o : Only (aI b p) w (((w.setCell ⟨g, i * 5 + 2, none⟩ (.int .i64 ((o.held - m : Nat) : Int))).setCell ⟨b, 9, none⟩ (.int .i64 ((e.room + m : Nat) : Int))).drew) := (s1o.set b 9 _ (fun _ => .inl rfl)).drew
         have s3 : aT κ (((w.setCell ⟨g, i * 5 + 2, none⟩ (.int .i64 ((o.held - m : Nat) : Int))).setCell ⟨b, 9, none⟩ (.int .i64 ((e.room + m : Nat) : Int))).drew) b { e with oth := e.oth.set i { o with held := o.held - m }, room := e.room + m } p := s2.below ⟨rfl, rfl, rfl, Nat.le_refl _, fun _ _ => rfl⟩
         have c9 : w.cell? ⟨b, 9, none⟩ = some (.int .i64 (e.room : Int)) := h.blk.cell 9
         have f9 := h.blk.free 9
         have fg := hfz (i * 5 + 2)
         have e1 : (o.held : Int) - m = ((o.held - m : Nat) : Int) := by omega
         have e2 : (e.room : Int) + m = ((e.room + m : Nat) : Int) := by omega
         have hu1 : ((e.room + m : Nat) : Int) <= 1000 := by omega
         have hu2 : (0 : Int) <= ((e.room + m : Nat) : Int) := by omega
         have hu3 : (0 : Int) <= ((o.held - m : Nat) : Int) := by omega
         have hu4 : ((o.held - m : Nat) : Int) <= 1000 := by omega
         have hu5 : (o.held : Int) <= 1000 := by omega
         have hu6 : (m : Int) <= 1000 := by omega
         have hu7 : (1 : Int) <= m := by omega
         have kQ := hide (fun W => eu m (m : Int) W rfl (by omega))
         have HS1 := hide (fun W (hR : aT κ W b _ p) => fV b { e with oth := e.oth.set i { o with held := o.held - m }, room := e.room + m } p 4 0 (Lk.wire m) W hR (Lk.cO 0 m (by omega) (by omega)) (by show e.row.length <= _; omega))
         have HX := hide (⟨s3, s2o⟩ : _ ∧ _)
         have MK := hok.oL
         have hlt2 : i < (e.oth.set i { o with held := o.held - m }).length := by rw [List.length_set]; exact hi
         have ho2 : (e.oth.set i { o with held := o.held - m })[i]? = some { o with held := o.held - m } := List.getElem?_set_self hi
         have HAF : Hid (∀ w4 p4, aT κ w4 b (({ e with oth := e.oth.set i { o with held := o.held - m }, room := e.room + m } : Lk.En).send 4 0 (Lk.wire m)) p4 -> ∃ g4 cap4, w4.cell? ⟨b, 7, none⟩ = some (.slice (some ⟨g4, 0, none⟩) e.oth.length cap4) ∧ p4.tv = .slice (some ⟨g4, 0, none⟩) e.oth.length cap4 ∧ g4 < w4.heap.size ∧ e.oth.length <= cap4 ∧ b < w4.heap.size ∧ w4.cell? ⟨g4, i * 5 + 1, none⟩ = some (.int .i64 (o.cr : Int)) ∧ w4.cell? ⟨g4, i * 5 + 3, none⟩ = some (.bool o.opn) ∧ w4.frozen? ⟨g4, i * 5 + 1, none⟩ = false
          ∧ aT κ (w4.setCell ⟨g4, i * 5 + 1, none⟩ (.int .i64 ((o.cr + m : Nat) : Int))) b (({ e with oth := e.oth.set i { o with held := o.held - m, cr := o.cr + m }, room := e.room + m } : Lk.En).send 4 0 (Lk.wire m)) p4 ∧ Only (aI b p4) w4 (w4.setCell ⟨g4, i * 5 + 1, none⟩ (.int .i64 ((o.cr + m : Nat) : Int)))) := by
          intro w4 p4 h4
          have ho4 : (({ e with oth := e.oth.set i { o with held := o.held - m }, room := e.room + m } : Lk.En).send 4 0 (Lk.wire m)).oth[i]? = some { o with held := o.held - m } := ho2
          obtain ⟨g4, cap4, y0, y1, y2, y3, y4, y5, y6, y7, y8, y9⟩ := h4.MJ ho4
          obtain ⟨t1, t2⟩ := h4.fF ho4 y0 1 (.int .i64 ((o.cr + m : Nat) : Int)) { o with held := o.held - m, cr := o.cr + m } (by omega) rfl
          have hc : w4.cell? ⟨b, 7, none⟩ = some p4.tv := h4.blk.cell 7
          have hle : (({ e with oth := e.oth.set i { o with held := o.held - m }, room := e.room + m } : Lk.En).send 4 0 (Lk.wire m)).oth.length = e.oth.length := by show (e.oth.set i _).length = _; rw [List.length_set]
          rw [hle] at y0 y2
          rw [y0] at hc
          refine ⟨g4, cap4, hc, y0, y1, y2, h4.blk.lt, y4, y6, y8 _, ?_, t2⟩
          have hE : ({ (({ e with oth := e.oth.set i { o with held := o.held - m }, room := e.room + m } : Lk.En).send 4 0 (Lk.wire m)) with oth := (({ e with oth := e.oth.set i { o with held := o.held - m }, room := e.room + m } : Lk.En).send 4 0 (Lk.wire m)).oth.set i { o with held := o.held - m, cr := o.cr + m } } : Lk.En) = ({ e with oth := e.oth.set i { o with held := o.held - m, cr := o.cr + m }, room := e.room + m } : Lk.En).send 4 0 (Lk.wire m) := by
           simp [Lk.En.send, List.set_set]
          rw [hE] at t1
          exact t1
         have HS2 := hide (fun W p4 (hR : aT κ W b _ p4) => fV b (({ e with oth := e.oth.set i { o with held := o.held - m, cr := o.cr + m }, room := e.room + m } : Lk.En).send 4 0 (Lk.wire m)) p4 4 o.id (Lk.wire m) W hR (Lk.cO o.id m MK (by omega)) (by show (e.row ++ [_]).length <= _; rw [List.length_append, List.length_singleton]; omega))
         have hcr2 : ((o.cr + m : Nat) : Int) <= 1000 := by omega
         have hcr3 : (0 : Int) <= ((o.cr + m : Nat) : Int) := by omega
         have e3 : (o.cr : Int) + m = ((o.cr + m : Nat) : Int) := by omega
         have hh' : decide ((o.held : Int) < (m : Int)) = false := by simpa using hh
         have hgb' : b ≠ g := Ne.symm hgb
         subst hid
         generalize hHM : ((o.held - m : Nat) : Int) = HM at *
         generalize hRM : ((e.room + m : Nat) : Int) = RM at *
         generalize hCM : ((o.cr + m : Nat) : Int) = CM at *
         generalize (e.down : Int) = DN at *
         generalize (o.held : Int) = HD at *
         generalize (e.room : Int) = R0 at *
         generalize (o.cr : Int) = CR at *
         clear h hd HOT hv hfz hHM hRM hCM hh s1 s2 s3 s1o s2o hok hroom hw hw2 hcr ho ho2 HSM hix
         cases hop : o.opn with
         | false =>
           have hR : Hid ((({ e with oth := e.oth.set i (o.eat m), room := e.room + m } : Lk.En).send 4 0 (Lk.wire m)) = ({ e with oth := e.oth.set i { o with held := o.held - m }, room := e.room + m } : Lk.En).send 4 0 (Lk.wire m)) := by
            have : o.eat m = { o with held := o.held - m } := by unfold Lk.Ot.eat; rw [hop]; rfl
            rw [this]
            exact rfl
           rw [if_neg (by simp)]
           have HOP := hide hop
           clear hop
           go_enter Tryz.func111, Tryz.ntmps111
           go_wp2_with fail
           refine (uh HO1).mono ?_
           rintro r w1 ⟨rfl, rfl⟩
           simp only [ixO]
           go_wp2_with fail
           go_region
           go_wp2_with fail
           refine (uh kQ _).mono ?_
           rintro r w3 ⟨rfl, hb3⟩
           obtain ⟨s3, s2o⟩ := uh HX
           have HS3 := hide (uh HS1 w3 (s3.below hb3))
           have HO3 := hide (s2o.below hb3)
           clear s3 s2o hb3
           go_wp2_with fail
           refine (uh HS3).mono ?_
           rintro r w4 ⟨rfl, hP⟩
           obtain ⟨p4, h4, h4f, h4o⟩ := aj.on (uh HO3) hP
           obtain ⟨g4, cap4, z1, z2, z3, z4, z5, z6, z7, z8, z9, z10⟩ := uh HAF w4 p4 h4
           rw [uh HOP] at z7
           have HF := hide (⟨p4, h4, h4f, h4o⟩ : aj κ _ b p _ w4)
           clear hP h4 h4f h4o z2 z9 z10
           go_wp2_with fail
           go_ret
           exact ⟨rfl, by rw [uh hR]; exact uh HF⟩
         | true =>
           have hR : Hid ((({ e with oth := e.oth.set i (o.eat m), room := e.room + m } : Lk.En).send 4 0 (Lk.wire m)) = ({ e with oth := e.oth.set i { o with held := o.held - m, cr := o.cr + m }, room := e.room + m } : Lk.En).send 4 0 (Lk.wire m)) := by
            have : o.eat m = { o with held := o.held - m, cr := o.cr + m } := by unfold Lk.Ot.eat; rw [hop]; rfl
            rw [this]
            exact rfl
           rw [if_pos rfl]
           have HOP := hide hop
           clear hop
           go_enter Tryz.func111, Tryz.ntmps111
           go_wp2_with fail
           refine (uh HO1).mono ?_
           rintro r w1 ⟨rfl, rfl⟩
           simp only [ixO]
           go_wp2_with fail
           go_region
           go_wp2_with fail
           refine (uh kQ _).mono ?_
           rintro r w3 ⟨rfl, hb3⟩
           obtain ⟨s3, s2o⟩ := uh HX
           have HS3 := hide (uh HS1 w3 (s3.below hb3))
           have HO3 := hide (s2o.below hb3)
           clear s3 s2o hb3
           go_wp2_with fail
           refine (uh HS3).mono ?_
           rintro r w4 ⟨rfl, hP⟩
           obtain ⟨p4, h4, h4f, h4o⟩ := aj.on (uh HO3) hP
           obtain ⟨g4, cap4, z1, z2, z3, z4, z5, z6, z7, z8, z9, z10⟩ := uh HAF w4 p4 h4
           rw [uh HOP] at z7
           have HX4 := hide (⟨z9, z10, h4f, h4o⟩ : _ ∧ _ ∧ _ ∧ _)
           clear hP h4 h4f h4o z2 z9 z10
           go_wp2_with fail
           go_region
           go_wp2_with fail
           refine (uh kQ _).mono ?_
           rintro r w5 ⟨rfl, hb5⟩
           obtain ⟨z9, z10, h4f, h4o⟩ := uh HX4
           have z9' := (z9.below (w' := (w4.setCell ⟨g4, i * 5 + 1, none⟩ (.int .i64 CM)).drew) ⟨rfl, rfl, rfl, Nat.le_refl _, fun _ _ => rfl⟩).below hb5
           have HS5 := hide (uh HS2 w5 p4 z9')
           have HO5 := hide (⟨(z10.drew).below hb5, h4f, h4o⟩ : _ ∧ _ ∧ _)
           clear z9 z10 h4f h4o z9' hb5
           go_wp2_with fail
           refine (uh HS5).mono ?_
           rintro r w6 ⟨rfl, hP⟩
           obtain ⟨k1, k2, k3⟩ := uh HO5
           have HF := hide (aj.trans k2 k3 (aj.on k1 hP))
           clear hP k1 k2 k3
           go_wp2_with fail
           go_ret
           exact ⟨rfl, by rw [uh hR]; exact uh HF⟩
 . rw [if_pos hd]
   have hd' := zY hd
   generalize (e.down : Int) = DN at *
   clear h hd
   go_enter Tryz.func111, Tryz.ntmps111
   go_wp2_with fail
   go_ret
   exact ⟨rfl, uh HSM⟩
theorem aT.Ox {w : World} {b : Nat} {e : Lk.En} {p : RP} (h : aT κ w b e p) {i : Nat} {x : Lk.Ot} (hx : e.oth[i]? = some x) : ∃ g cap, w.cell? ⟨b, 7, none⟩ = some (.slice (some ⟨g, 0, none⟩) e.oth.length cap) ∧ p.tv = .slice (some ⟨g, 0, none⟩) e.oth.length cap ∧ g < w.heap.size ∧ e.oth.length <= cap ∧ b < w.heap.size ∧ w.cell? ⟨g, i * 5 + 1, none⟩ = some (.int .i64 (x.cr : Int)) ∧ w.cell? ⟨g, i * 5 + 2, none⟩ = some (.int .i64 (x.held : Int)) ∧ w.cell? ⟨g, i * 5 + 3, none⟩ = some (.bool x.opn) ∧ w.cell? ⟨g, i * 5 + 4, none⟩ = some (.bool x.drp) ∧ (∀ j, w.frozen? ⟨g, j, none⟩ = false) ∧ g ≠ b := by
 obtain ⟨g, cap, y0, y1, y2, y3, y4, y5, y6, y7, y8, y9⟩ := h.MJ hx
 have hc : w.cell? ⟨b, 7, none⟩ = some p.tv := h.blk.cell 7
 rw [y0] at hc
 exact ⟨g, cap, hc, y0, y1, y2, h.blk.lt, y4, y5, y6, y7, y8, y9⟩
theorem aT.ML {w : World} {b : Nat} {e : Lk.En} {p : RP} (h : aT κ w b e p) {i : Nat} {x : Lk.Ow} (hx : e.own[i]? = some x) : ∃ g cap, w.cell? ⟨b, 6, none⟩ = some (.slice (some ⟨g, 0, none⟩) e.own.length cap) ∧ p.wv = .slice (some ⟨g, 0, none⟩) e.own.length cap ∧ g < w.heap.size ∧ e.own.length <= cap ∧ b < w.heap.size ∧ w.cell? ⟨g, i * 4, none⟩ = some (.int .i64 (x.id : Int)) ∧ w.cell? ⟨g, i * 4 + 1, none⟩ = some (.string (bs x.left)) ∧ w.cell? ⟨g, i * 4 + 2, none⟩ = some (.int .i64 (x.cr : Int)) ∧ w.cell? ⟨g, i * 4 + 3, none⟩ = some (.bool x.done) ∧ (∀ j, w.frozen? ⟨g, j, none⟩ = false) ∧ g ≠ b := by
 obtain ⟨g, cap, y0, y1, y2, y3, y4, y5, y6, y7, y8⟩ := h.Rh hx
 have hc : w.cell? ⟨b, 6, none⟩ = some p.wv := h.blk.cell 6
 rw [y0] at hc
 exact ⟨g, cap, hc, y0, y1, y2, h.blk.lt, y3, y4, y5, y6, y7, y8⟩
theorem Gm (b : Nat) (e : Lk.En) (p : RP) (k c : Int) (i : Nat) (o : Lk.Ow) (w : World) (h : aT κ w b e p) (hw : Lk.Wf e) (hl : e.row.length <= 2 ^ 41) (hd : e.down = 0) (hc : ¬ (c < 0 ∨ 268435455 < c)) (hix : Lk.bK e.own k = some i) (ho : e.own[i]? = some o) (hnd : o.done = false) :
 Calls Tryz.prog 112 #[.pointer (some ⟨b, 0, none⟩), .int .i64 k, .int .i64 c] w fun r w' => r = .returned (.int .i64 0) ∧ aj κ w b p (({ e with own := e.own.set i { o with done := true } } : Lk.En).send 3 o.id (Lk.wire c.toNat)) w' := by
 have c13 : w.cell? ⟨b, 13, none⟩ = some (.int .i64 (e.down : Int)) := h.blk.cell 13
 have hd' := CJ hd
 have Gl := hw.wF
 have HOW := hide (qY b e p k w h (by omega))
 rw [hix] at HOW
 have hok := hw.own i o ho
 obtain ⟨o', ho', hid⟩ := Lk.dR hix
 have e0 : o' = o := by rw [ho] at ho'; exact (Option.some.inj ho').symm
 subst e0
 have hi : i < e.own.length := (List.getElem?_eq_some_iff.1 ho).1
 obtain ⟨g, cap, c6, hv, hgl, hcap, hbl, x0, x1, x2, x3, hfz, hgb⟩ := h.ML ho
 rw [hnd] at x3
 have hi' : (i : Int) < e.own.length := by omega
 have hi0 : (0 : Int) <= i := by omega
 obtain ⟨s1, s1o⟩ := h.kL ho hv 3 (.bool true) { o' with done := true } (by omega) rfl
 obtain ⟨m, rfl⟩ : ∃ m : Nat, c = m := ⟨c.toNat, by omega⟩
 rw [Int.toNat_natCast]
 have hm : m <= 268435455 := by omega
 have hm1 : ¬ (m : Int) < 0 := by omega
 have hm2 : ¬ (268435455 : Int) < m := by omega
 have QG : 0 < o'.id := by have := hok.id; omega
 have kQ := hide (fun W => eu m (m : Int) W rfl hm)
 have HS := hide (fun W hb => fV b { e with own := e.own.set i { o' with done := true } } p 3 o'.id (Lk.wire m) W (s1.below hb) (Lk.gz o'.id m QG hok.oL hm) (by show e.row.length <= _; omega))
 have HO := hide s1o
 have fg := hfz (i * 4 + 3)
 have hgb' : b ≠ g := Ne.symm hgb
 subst hid
 generalize (e.down : Int) = DN at *
 clear h hd hv hfz s1 s1o hok hw ho ho' hix hnd hc x0 x1 x2
 go_enter Tryz.func112, Tryz.ntmps112
 go_wp2_with fail
 refine (uh HOW).mono ?_
 rintro r w1 ⟨rfl, rfl⟩
 simp only [ixO]
 go_wp2_with fail
 refine (uh kQ _).mono ?_
 rintro r w3 ⟨rfl, hb3⟩
 have HS3 := hide (uh HS w3 hb3)
 have HB := hide hb3
 clear hb3
 go_wp2_with fail
 refine (uh HS3).mono ?_
 rintro r w4 ⟨rfl, hP⟩
 have HF := hide (aj.on (uh HO) (aj.before (uh HB) hP))
 clear hP
 go_wp2_with fail
 go_ret
 exact ⟨rfl, uh HF⟩
def Wq (e : Lk.En) (k : Int) : Prop := ∃ i o, Lk.bK e.own k = some i ∧ e.own[i]? = some o ∧ o.done = false
theorem wG (b : Nat) (e : Lk.En) (p : RP) (k c : Int) (w : World) (h : aT κ w b e p) (hw : Lk.Wf e) (hl : e.row.length <= 2 ^ 41) (hd : e.down = 0) (hc : ¬ (c < 0 ∨ 268435455 < c)) (hno : ∀ i o, Lk.bK e.own k = some i -> e.own[i]? = some o -> o.done = true) (R : Nat) (E : Lk.En)
 (hR : (∃ i o, Lk.bM e.oth k = some i ∧ e.oth[i]? = some o ∧ o.opn = true ∧ R = 0 ∧ E = ((({ e with oth := e.oth.set i { o with opn := false, drp := true, held := 0 } } : Lk.En).send 3 o.id (Lk.wire c.toNat)).back o.held)) ∨ ((∀ i o, Lk.bM e.oth k = some i -> e.oth[i]? = some o -> o.opn = false) ∧ R = 14 ∧ E = e)) :
 Calls Tryz.prog 112 #[.pointer (some ⟨b, 0, none⟩), .int .i64 k, .int .i64 c] w fun r w' => r = .returned (.int .i64 (R : Int)) ∧ aj κ w b p E w' := by
 have c13 : w.cell? ⟨b, 13, none⟩ = some (.int .i64 (e.down : Int)) := h.blk.cell 13
 have hd' := CJ hd
 have Gl := hw.wF
 have PE := hw.wE
 have HOW := hide (qY b e p k w h (by omega))
 have HOT := hide (fun W (hR : aT κ W b e p) => lX b e p k W hR (by omega))
 obtain ⟨m, rfl⟩ : ∃ m : Nat, c = m := ⟨c.toNat, by omega⟩
 rw [Int.toNat_natCast] at hR
 have hm : m <= 268435455 := by omega
 have hm1 : ¬ (m : Int) < 0 := by omega
 have hm2 : ¬ (268435455 : Int) < m := by omega
 have hbl := h.blk.lt
 have hown : ∃ z : Int, ixO (Lk.bK e.own k) = z ∧ (z < 0 ∨ ∃ i : Nat, z = i ∧ (i : Int) < e.own.length ∧ ∃ g cap, w.cell? ⟨b, 6, none⟩ = some (.slice (some ⟨g, 0, none⟩) e.own.length cap) ∧ g < w.heap.size ∧ e.own.length <= cap ∧ w.cell? ⟨g, i * 4 + 3, none⟩ = some (.bool true)) := by
  cases hx : Lk.bK e.own k with
  | none => exact ⟨-1, rfl, .inl (by omega)⟩
  | some i =>
    obtain ⟨o, ho, _⟩ := Lk.dR hx
    have hi : i < e.own.length := (List.getElem?_eq_some_iff.1 ho).1
    obtain ⟨g, cap, c6, hv, hgl, hcap, hbl, x0, x1, x2, x3, hfz, hgb⟩ := h.ML ho
    rw [hno i o hx ho] at x3
    exact ⟨i, rfl, .inr ⟨i, rfl, by omega, g, cap, c6, hgl, hcap, x3⟩⟩
 obtain ⟨z, hz, hown⟩ := hown
 rw [hz] at HOW
 have HE := hide h
 have HOWN := hide hown
 have HRR := hide hR
 generalize (e.down : Int) = DN at *
 clear h hd hno hR hz hown hc
 go_enter Tryz.func112, Tryz.ntmps112
 go_wp2_with fail
 refine (uh HOW).mono ?_
 rintro r w1 ⟨rfl, rfl⟩
 go_upto_region 6 with fail
 go_cut [35] (fun s35 wx => s35 = .bool false ∧ wx = w1)
 case first =>
  rcases uh HOWN with hz0 | ⟨i, rfl, hi, g, cap, c6, hgl, hcap, x3⟩
  . have hz0' : ¬ (0 : Int) <= z := by omega
    go_wp2_with fail
    go_meet
    exact ⟨rfl, rfl⟩
  . have hi0 : (0 : Int) <= i := by omega
    go_wp2_with fail
    go_meet
    exact ⟨rfl, rfl⟩
 case rest =>
  obtain ⟨rfl, rfl⟩ := hcut
  have h := uh HE
  rcases uh HRR with ⟨i, o, hix, ho, hop, rfl, rfl⟩ | ⟨U5, rfl, hEE⟩
  . have HO1 := hide (uh HOT wc h)
    rw [hix] at HO1
    have hok := hw.oth i o ho
    have hroom := hw.room
    have hw2 := hw.kN
    have hcr := hok.cr
    obtain ⟨o', ho', hid⟩ := Lk.bg hix
    have e0 : o' = o := by rw [ho] at ho'; exact (Option.some.inj ho').symm
    subst e0
    have hi : i < e.oth.length := (List.getElem?_eq_some_iff.1 ho).1
    obtain ⟨g, cap, c7, hv, hgl, hcap, _, x1, x2, x3, x4, hfz, hgb⟩ := h.Ox ho
    rw [hop] at x3
    have hi' : (i : Int) < e.oth.length := by omega
    have hi0 : (0 : Int) <= i := by omega
    have QG : 0 < o'.id := by have := hok.id; have := hw.side; omega
    obtain ⟨s1, s1o⟩ := h.fF ho hv 3 (.bool false) { o' with opn := false } (by omega) rfl
    have ho1 : ({ e with oth := e.oth.set i { o' with opn := false } } : Lk.En).oth[i]? = some { o' with opn := false } := List.getElem?_set_self hi
    have hv1 : p.tv = .slice (some ⟨g, 0, none⟩) ({ e with oth := e.oth.set i { o' with opn := false } } : Lk.En).oth.length cap := by rw [hv]; simp
    obtain ⟨s2, s2o⟩ := s1.fF ho1 hv1 4 (.bool true) { o' with opn := false, drp := true } (by omega) rfl
    have hE2 : ({ ({ e with oth := e.oth.set i { o' with opn := false } } : Lk.En) with oth := ({ e with oth := e.oth.set i { o' with opn := false } } : Lk.En).oth.set i { o' with opn := false, drp := true } } : Lk.En) = { e with oth := e.oth.set i { o' with opn := false, drp := true } } := by simp [List.set_set]
    rw [hE2] at s2
    have kQ := hide (fun W => eu m (m : Int) W rfl hm)
    have HS := hide (fun W hb => fV b { e with oth := e.oth.set i { o' with opn := false, drp := true } } p 3 o'.id (Lk.wire m) W (s2.below hb) (Lk.gz o'.id m QG hok.oL hm) (by show e.row.length <= _; omega))
    have HO := hide (s1o.trans s2o (fun _ x _ => x))
    have HAF : Hid (∀ w4 p4, aT κ w4 b (({ e with oth := e.oth.set i { o' with opn := false, drp := true } } : Lk.En).send 3 o'.id (Lk.wire m)) p4 -> ∃ g4 cap4, w4.cell? ⟨b, 7, none⟩ = some (.slice (some ⟨g4, 0, none⟩) e.oth.length cap4) ∧ g4 < w4.heap.size ∧ e.oth.length <= cap4 ∧ b < w4.heap.size ∧ w4.cell? ⟨g4, i * 5 + 2, none⟩ = some (.int .i64 (o'.held : Int))) := by
     intro w4 p4 h4
     have ho4 : (({ e with oth := e.oth.set i { o' with opn := false, drp := true } } : Lk.En).send 3 o'.id (Lk.wire m)).oth[i]? = some { o' with opn := false, drp := true } := List.getElem?_set_self hi
     obtain ⟨g4, cap4, y0, y1, y2, y3, y4, y5, y6, y7, y8, y9, y10⟩ := h4.Ox ho4
     have hle : (({ e with oth := e.oth.set i { o' with opn := false, drp := true } } : Lk.En).send 3 o'.id (Lk.wire m)).oth.length = e.oth.length := by show (e.oth.set i _).length = _; rw [List.length_set]
     rw [hle] at y0 y3
     exact ⟨g4, cap4, y0, y2, y3, y4, y6⟩
    have HBK := hide (fun W p4 (hR : aT κ W b _ p4) => sV b (({ e with oth := e.oth.set i { o' with opn := false, drp := true } } : Lk.En).send 3 o'.id (Lk.wire m)) p4 o'.held W hR (by omega) (by show e.room <= _; omega) (by show (e.row ++ [_]).length <= _; rw [List.length_append, List.length_singleton]; omega))
    have HBF : Hid (∀ w5 p5, aT κ w5 b ((({ e with oth := e.oth.set i { o' with opn := false, drp := true } } : Lk.En).send 3 o'.id (Lk.wire m)).back o'.held) p5 -> ∃ g5 cap5, w5.cell? ⟨b, 7, none⟩ = some (.slice (some ⟨g5, 0, none⟩) e.oth.length cap5) ∧ g5 < w5.heap.size ∧ e.oth.length <= cap5 ∧ b < w5.heap.size ∧ w5.cell? ⟨g5, i * 5 + 2, none⟩ = some (.int .i64 (o'.held : Int)) ∧ w5.frozen? ⟨g5, i * 5 + 2, none⟩ = false ∧ aj κ w5 b p5 ((({ e with oth := e.oth.set i { o' with opn := false, drp := true, held := 0 } } : Lk.En).send 3 o'.id (Lk.wire m)).back o'.held) (w5.setCell ⟨g5, i * 5 + 2, none⟩ (.int .i64 0))) := by
     intro w5 p5 h5
     have hoth : ((({ e with oth := e.oth.set i { o' with opn := false, drp := true } } : Lk.En).send 3 o'.id (Lk.wire m)).back o'.held).oth = e.oth.set i { o' with opn := false, drp := true } := by rw [Lk.ED]; rfl
     have ho5 : ((({ e with oth := e.oth.set i { o' with opn := false, drp := true } } : Lk.En).send 3 o'.id (Lk.wire m)).back o'.held).oth[i]? = some { o' with opn := false, drp := true } := by rw [hoth]; exact List.getElem?_set_self hi
     obtain ⟨g5, cap5, y0, y1, y2, y3, y4, y5, y6, y7, y8, y9, y10⟩ := h5.Ox ho5
     obtain ⟨t1, t2⟩ := h5.fF ho5 y1 2 (.int .i64 0) { o' with opn := false, drp := true, held := 0 } (by omega) rfl
     have hle : ((({ e with oth := e.oth.set i { o' with opn := false, drp := true } } : Lk.En).send 3 o'.id (Lk.wire m)).back o'.held).oth.length = e.oth.length := by rw [hoth, List.length_set]
     rw [hle] at y0 y3
     refine ⟨g5, cap5, y0, y2, y3, y4, y6, y9 _, p5, ?_, fun _ x => .inl x, t2⟩
     have hE : ({ ((({ e with oth := e.oth.set i { o' with opn := false, drp := true } } : Lk.En).send 3 o'.id (Lk.wire m)).back o'.held) with oth := ((({ e with oth := e.oth.set i { o' with opn := false, drp := true } } : Lk.En).send 3 o'.id (Lk.wire m)).back o'.held).oth.set i { o' with opn := false, drp := true, held := 0 } } : Lk.En) = (({ e with oth := e.oth.set i { o' with opn := false, drp := true, held := 0 } } : Lk.En).send 3 o'.id (Lk.wire m)).back o'.held := by
      unfold Lk.En.back
      split <;> simp [Lk.En.send, List.set_set]
     rw [hE] at t1
     exact t1
    have f3 := hfz (i * 5 + 3)
    have f4 := hfz (i * 5 + 4)
    have hgb' : b ≠ g := Ne.symm hgb
    subst hid
    clear h hv hfz s1 s1o s2 s2o hok hroom hw hw2 hcr ho ho' ho1 hv1 hE2 hix hop HE HRR HOWN HOW HOT x1 x2
    go_wp2_with fail
    refine (uh HO1).mono ?_
    rintro r w2 ⟨rfl, rfl⟩
    simp only [ixO]
    go_wp2_with fail
    refine (uh kQ _).mono ?_
    rintro r w3 ⟨rfl, hb3⟩
    have HS3 := hide (uh HS w3 hb3)
    have HB := hide hb3
    clear hb3
    go_wp2_with fail
    refine (uh HS3).mono ?_
    rintro r w4 ⟨rfl, hP⟩
    obtain ⟨p4, h4, h4f, h4o⟩ := aj.on (uh HO) (aj.before (uh HB) hP)
    obtain ⟨g4, cap4, z1, z2, z3, z4, z5⟩ := uh HAF w4 p4 h4
    have HB4 := hide (uh HBK w4 p4 h4)
    have HX4 := hide (⟨h4f, h4o⟩ : _ ∧ _)
    clear hP h4 h4f h4o HS3 HB
    go_wp2_with fail
    refine (uh HB4).mono ?_
    rintro r w5 ⟨rfl, hP⟩
    obtain ⟨h4f, h4o⟩ := uh HX4
    obtain ⟨p5, h5, h5f, h5o⟩ := aj.trans h4f h4o hP
    obtain ⟨g5, cap5, y1, y2, y3, y4, y5, y6, y7⟩ := uh HBF w5 p5 h5
    have HF := hide (aj.trans h5f h5o y7)
    clear hP h4f h4o h5 h5f h5o y7 z1 z2 z3 z4 z5
    go_wp2_with fail
    go_ret
    exact ⟨rfl, uh HF⟩
  . have HEE := hide hEE
    clear hEE
    have HO1 := hide (uh HOT wc h)
    have hoth : ∃ z2 : Int, ixO (Lk.bM e.oth k) = z2 ∧ (z2 < 0 ∨ ∃ i : Nat, z2 = i ∧ (i : Int) < e.oth.length ∧ ∃ g cap, wc.cell? ⟨b, 7, none⟩ = some (.slice (some ⟨g, 0, none⟩) e.oth.length cap) ∧ g < wc.heap.size ∧ e.oth.length <= cap ∧ wc.cell? ⟨g, i * 5 + 3, none⟩ = some (.bool false)) := by
     cases hx : Lk.bM e.oth k with
     | none => exact ⟨-1, rfl, .inl (by omega)⟩
     | some i =>
       obtain ⟨o, ho, _⟩ := Lk.bg hx
       have hi : i < e.oth.length := (List.getElem?_eq_some_iff.1 ho).1
       obtain ⟨g, cap, c7, hv, hgl, hcap, _, x1, x2, x3, x4, hfz, hgb⟩ := h.Ox ho
       rw [U5 i o hx ho] at x3
       exact ⟨i, rfl, .inr ⟨i, rfl, by omega, g, cap, c7, hgl, hcap, x3⟩⟩
    obtain ⟨z2, hz2, hoth⟩ := hoth
    rw [hz2] at HO1
    have HF := hide (aj.same h)
    clear h hz2 U5 HE HRR HOWN HOW HOT
    go_wp2_with fail
    refine (uh HO1).mono ?_
    rintro r w2 ⟨rfl, rfl⟩
    rcases hoth with hz0 | ⟨i, rfl, hi, g, cap, c7, hgl, hcap, x3⟩
    . go_wp2_with fail
      go_ret
      exact ⟨rfl, by rw [uh HEE]; exact uh HF⟩
    . have hi0 : ¬ (i : Int) < 0 := by omega
      go_wp2_with fail
      go_ret
      exact ⟨rfl, by rw [uh HEE]; exact uh HF⟩
theorem Gn (b : Nat) (e : Lk.En) (p : RP) (k c : Int) (w : World) (h : aT κ w b e p) (hw : Lk.Wf e) (hl : e.row.length <= 2 ^ 41) :
 Calls Tryz.prog 112 #[.pointer (some ⟨b, 0, none⟩), .int .i64 k, .int .i64 c] w fun r w' => r = .returned (.int .i64 ((e.dN k c).1 : Int)) ∧ aj κ w b p (e.dN k c).2 w' := by
 unfold Lk.En.dN
 by_cases hd : e.down = 0
 . rw [if_neg (by rw [hd]; simp)]
   by_cases hc : c < 0 ∨ 268435455 < c
   . rw [if_pos hc]
     have c13 : w.cell? ⟨b, 13, none⟩ = some (.int .i64 (e.down : Int)) := h.blk.cell 13
     have hbl := h.blk.lt
     have hd' := CJ hd
     have HSM := hide (aj.same h)
     generalize (e.down : Int) = DN at *
     by_cases hc0 : c < 0
     . clear h hd hc
       go_enter Tryz.func112, Tryz.ntmps112
       go_wp2_with fail
       go_ret
       exact ⟨rfl, uh HSM⟩
     . have hc1 : (268435455 : Int) < c := by omega
       clear h hd hc
       go_enter Tryz.func112, Tryz.ntmps112
       go_wp2_with fail
       go_ret
       exact ⟨rfl, uh HSM⟩
   . rw [if_neg hc]
     cases hx : (Lk.bK e.own k).bind fun i => (e.own[i]?).bind fun o => if o.done then none else some (i, o) with
     | some r =>
       obtain ⟨i, o⟩ := r
       obtain ⟨j, hj1, hj⟩ := Option.bind_eq_some_iff.1 hx
       obtain ⟨o', ho', hj⟩ := Option.bind_eq_some_iff.1 hj
       split at hj
       . cases hj
       . rename_i hnd
         cases hj
         exact Gm b e p k c i o w h hw hl hd hc hj1 ho' (by simpa using hnd)
     | none =>
       simp only
       have hno : ∀ i o, Lk.bK e.own k = some i -> e.own[i]? = some o -> o.done = true := fun i o h1 h2 => by
        rw [h1] at hx
        simp only [Option.bind_some, h2] at hx
        cases hdn : o.done with
        | true => rfl
        | false => rw [hdn] at hx; simp at hx
       cases hy : (Lk.bM e.oth k).bind fun i => (e.oth[i]?).bind fun o => if o.opn then some (i, o) else none with
       | some r =>
         obtain ⟨i, o⟩ := r
         obtain ⟨j, hj1, hj⟩ := Option.bind_eq_some_iff.1 hy
         obtain ⟨o', ho', hj⟩ := Option.bind_eq_some_iff.1 hj
         split at hj
         . rename_i hop
           cases hj
           exact wG b e p k c w h hw hl hd hc hno _ _ (.inl ⟨i, o, hj1, ho', hop, rfl, rfl⟩)
         . cases hj
       | none =>
         refine wG b e p k c w h hw hl hd hc hno _ _ (.inr ⟨fun i o h1 h2 => ?_, rfl, rfl⟩)
         rw [h1] at hy
         simp only [Option.bind_some, h2] at hy
         cases hop : o.opn with
         | false => rfl
         | true => rw [hop] at hy; simp at hy
 . rw [if_pos hd]
   have c13 : w.cell? ⟨b, 13, none⟩ = some (.int .i64 (e.down : Int)) := h.blk.cell 13
   have hbl := h.blk.lt
   have hd' := zY hd
   have HSM := hide (aj.same h)
   generalize (e.down : Int) = DN at *
   clear h hd
   go_enter Tryz.func112, Tryz.ntmps112
   go_wp2_with fail
   go_ret
   exact ⟨rfl, uh HSM⟩
end Go.Proofs.YtbkpdapagfjmmaaGreatDoor
