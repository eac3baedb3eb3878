import Derived.Test.YtbkpdapagfjmmaaGreatDoorA20
set_option linter.unusedVariables false
set_option maxRecDepth 100000
set_option maxHeartbeats 16000000
namespace Go.Proofs.YtbkpdapagfjmmaaGreatDoor
open Go.RowKit
variable {κ : Prop}
theorem aT.Ox {w : World} {b : Nat} {e : Lk.En} {p : RP} (h : aT κ w b e p) {i : Nat} {x : Lk.Ot} (hx : e.oth[i]? = some x) : ∃ g cap, w.cell? ⟨b, 7, none⟩ = some (.slice (some ⟨g, 0, none⟩) e.oth.length cap) ∧ p.tv = .slice (some ⟨g, 0, none⟩) e.oth.length cap ∧ g < w.heap.size ∧ e.oth.length <= cap ∧ b < w.heap.size ∧ w.cell? ⟨g, i * 5 + 1, none⟩ = some (.int .i64 (x.cr : Int)) ∧ w.cell? ⟨g, i * 5 + 2, none⟩ = some (.int .i64 (x.held : Int)) ∧ w.cell? ⟨g, i * 5 + 3, none⟩ = some (.bool x.opn) ∧ w.cell? ⟨g, i * 5 + 4, none⟩ = some (.bool x.drp) ∧ (∀ j, w.frozen? ⟨g, j, none⟩ = false) ∧ g ≠ b := by
 obtain ⟨g, cap, y0, y1, y2, y3, y4, y5, y6, y7, y8, y9⟩ := h.MJ hx
 have hc : w.cell? ⟨b, 7, none⟩ = some p.tv := h.blk.cell 7
 rw [y0] at hc
 exact ⟨g, cap, hc, y0, y1, y2, h.blk.lt, y4, y5, y6, y7, y8, y9⟩
theorem aT.ML {w : World} {b : Nat} {e : Lk.En} {p : RP} (h : aT κ w b e p) {i : Nat} {x : Lk.Ow} (hx : e.own[i]? = some x) : ∃ g cap, w.cell? ⟨b, 6, none⟩ = some (.slice (some ⟨g, 0, none⟩) e.own.length cap) ∧ p.wv = .slice (some ⟨g, 0, none⟩) e.own.length cap ∧ g < w.heap.size ∧ e.own.length <= cap ∧ b < w.heap.size ∧ w.cell? ⟨g, i * 4, none⟩ = some (.int .i64 (x.id : Int)) ∧ w.cell? ⟨g, i * 4 + 1, none⟩ = some (.string (bs x.left)) ∧ w.cell? ⟨g, i * 4 + 2, none⟩ = some (.int .i64 (x.cr : Int)) ∧ w.cell? ⟨g, i * 4 + 3, none⟩ = some (.bool x.done) ∧ (∀ j, w.frozen? ⟨g, j, none⟩ = false) ∧ g ≠ b := by
 obtain ⟨g, cap, y0, y1, y2, y3, y4, y5, y6, y7, y8⟩ := h.Rh hx
 have hc : w.cell? ⟨b, 6, none⟩ = some p.wv := h.blk.cell 6
 rw [y0] at hc
 exact ⟨g, cap, hc, y0, y1, y2, h.blk.lt, y3, y4, y5, y6, y7, y8⟩
theorem Gm (b : Nat) (e : Lk.En) (p : RP) (k c : Int) (i : Nat) (o : Lk.Ow) (w : World) (h : aT κ w b e p) (hw : Lk.Wf e) (hl : e.row.length <= 2 ^ 41) (hd : e.down = 0) (hc : ¬ (c < 0 ∨ 268435455 < c)) (hix : Lk.bK e.own k = some i) (ho : e.own[i]? = some o) (hnd : o.done = false) :
 Calls Tryz.prog 112 #[.pointer (some ⟨b, 0, none⟩), .int .i64 k, .int .i64 c] w fun r w' => r = .returned (.int .i64 0) ∧ aj κ w b p (({ e with own := e.own.set i { o with done := true } } : Lk.En).send 3 o.id (Lk.wire c.toNat)) w' := by
 have c13 : w.cell? ⟨b, 13, none⟩ = some (.int .i64 (e.down : Int)) := h.blk.cell 13
 have hd' := CJ hd
 have Gl := hw.wF
 have HOW := hide (qY b e p k w h (by omega))
 rw [hix] at HOW
 have hok := hw.own i o ho
 obtain ⟨o', ho', hid⟩ := Lk.dR hix
 have e0 : o' = o := by rw [ho] at ho'; exact (Option.some.inj ho').symm
 subst e0
 have hi : i < e.own.length := (List.getElem?_eq_some_iff.1 ho).1
 obtain ⟨g, cap, c6, hv, hgl, hcap, hbl, x0, x1, x2, x3, hfz, hgb⟩ := h.ML ho
 rw [hnd] at x3
 have hi' : (i : Int) < e.own.length := by omega
 have hi0 : (0 : Int) <= i := by omega
 obtain ⟨s1, s1o⟩ := h.kL ho hv 3 (.bool true) { o' with done := true } (by omega) rfl
 obtain ⟨m, rfl⟩ : ∃ m : Nat, c = m := ⟨c.toNat, by omega⟩
 rw [Int.toNat_natCast]
 have hm : m <= 268435455 := by omega
 have hm1 : ¬ (m : Int) < 0 := by omega
 have hm2 : ¬ (268435455 : Int) < m := by omega
 have QG : 0 < o'.id := by have := hok.id; omega
 have kQ := hide (fun W => eu m (m : Int) W rfl hm)
 have HS := hide (fun W hb => fV b { e with own := e.own.set i { o' with done := true } } p 3 o'.id (Lk.wire m) W (s1.below hb) (Lk.gz o'.id m QG hok.oL hm) (by show e.row.length <= _; omega))
 have HO := hide s1o
 have fg := hfz (i * 4 + 3)
 have hgb' : b ≠ g := Ne.symm hgb
 subst hid
 generalize (e.down : Int) = DN at *
 clear h hd hv hfz s1 s1o hok hw ho ho' hix hnd hc x0 x1 x2
 go_enter Tryz.func112, Tryz.ntmps112
 go_wp2_with fail
 refine (uh HOW).mono ?_
 rintro r w1 ⟨rfl, rfl⟩
 simp only [ixO]
 go_wp2_with fail
 refine (uh kQ _).mono ?_
 rintro r w3 ⟨rfl, hb3⟩
 have HS3 := hide (uh HS w3 hb3)
 have HB := hide hb3
 clear hb3
 go_wp2_with fail
 refine (uh HS3).mono ?_
 rintro r w4 ⟨rfl, hP⟩
 have HF := hide (aj.on (uh HO) (aj.before (uh HB) hP))
 clear hP
 go_wp2_with fail
 go_ret
 exact ⟨rfl, uh HF⟩
def Wq (e : Lk.En) (k : Int) : Prop := ∃ i o, Lk.bK e.own k = some i ∧ e.own[i]? = some o ∧ o.done = false
theorem wG (b : Nat) (e : Lk.En) (p : RP) (k c : Int) (w : World) (h : aT κ w b e p) (hw : Lk.Wf e) (hl : e.row.length <= 2 ^ 41) (hd : e.down = 0) (hc : ¬ (c < 0 ∨ 268435455 < c)) (hno : ∀ i o, Lk.bK e.own k = some i -> e.own[i]? = some o -> o.done = true) (R : Nat) (E : Lk.En)
 (hR : (∃ i o, Lk.bM e.oth k = some i ∧ e.oth[i]? = some o ∧ o.opn = true ∧ R = 0 ∧ E = ((({ e with oth := e.oth.set i { o with opn := false, drp := true, held := 0 } } : Lk.En).send 3 o.id (Lk.wire c.toNat)).back o.held)) ∨ ((∀ i o, Lk.bM e.oth k = some i -> e.oth[i]? = some o -> o.opn = false) ∧ R = 14 ∧ E = e)) :
 Calls Tryz.prog 112 #[.pointer (some ⟨b, 0, none⟩), .int .i64 k, .int .i64 c] w fun r w' => r = .returned (.int .i64 (R : Int)) ∧ aj κ w b p E w' := by
 have c13 : w.cell? ⟨b, 13, none⟩ = some (.int .i64 (e.down : Int)) := h.blk.cell 13
 have hd' := CJ hd
 have Gl := hw.wF
 have PE := hw.wE
 have HOW := hide (qY b e p k w h (by omega))
 have HOT := hide (fun W (hR : aT κ W b e p) => lX b e p k W hR (by omega))
 obtain ⟨m, rfl⟩ : ∃ m : Nat, c = m := ⟨c.toNat, by omega⟩
 rw [Int.toNat_natCast] at hR
 have hm : m <= 268435455 := by omega
 have hm1 : ¬ (m : Int) < 0 := by omega
 have hm2 : ¬ (268435455 : Int) < m := by omega
 have hbl := h.blk.lt
 have hown : ∃ z : Int, ixO (Lk.bK e.own k) = z ∧ (z < 0 ∨ ∃ i : Nat, z = i ∧ (i : Int) < e.own.length ∧ ∃ g cap, w.cell? ⟨b, 6, none⟩ = some (.slice (some ⟨g, 0, none⟩) e.own.length cap) ∧ g < w.heap.size ∧ e.own.length <= cap ∧ w.cell? ⟨g, i * 4 + 3, none⟩ = some (.bool true)) := by
  cases hx : Lk.bK e.own k with
  | none => exact ⟨-1, rfl, .inl (by omega)⟩
  | some i =>
    obtain ⟨o, ho, _⟩ := Lk.dR hx
    have hi : i < e.own.length := (List.getElem?_eq_some_iff.1 ho).1
    obtain ⟨g, cap, c6, hv, hgl, hcap, hbl, x0, x1, x2, x3, hfz, hgb⟩ := h.ML ho
    rw [hno i o hx ho] at x3
    exact ⟨i, rfl, .inr ⟨i, rfl, by omega, g, cap, c6, hgl, hcap, x3⟩⟩
 obtain ⟨z, hz, hown⟩ := hown
 rw [hz] at HOW
 have HE := hide h
 have HOWN := hide hown
 have HRR := hide hR
 generalize (e.down : Int) = DN at *
 clear h hd hno hR hz hown hc
 go_enter Tryz.func112, Tryz.ntmps112
 go_wp2_with fail
 refine (uh HOW).mono ?_
 rintro r w1 ⟨rfl, rfl⟩
 go_upto_region 6 with fail
 go_cut [35] (fun s35 wx => s35 = .bool false ∧ wx = w1)
 case first =>
  rcases uh HOWN with hz0 | ⟨i, rfl, hi, g, cap, c6, hgl, hcap, x3⟩
  . have hz0' : ¬ (0 : Int) <= z := by omega
    go_wp2_with fail
    go_meet
    exact ⟨rfl, rfl⟩
  . have hi0 : (0 : Int) <= i := by omega
    go_wp2_with fail
    go_meet
    exact ⟨rfl, rfl⟩
 case rest =>
  obtain ⟨rfl, rfl⟩ := hcut
  have h := uh HE
  rcases uh HRR with ⟨i, o, hix, ho, hop, rfl, rfl⟩ | ⟨U5, rfl, hEE⟩
  . have HO1 := hide (uh HOT wc h)
    rw [hix] at HO1
    have hok := hw.oth i o ho
    have hroom := hw.room
    have hw2 := hw.kN
    have hcr := hok.cr
    obtain ⟨o', ho', hid⟩ := Lk.bg hix
    have e0 : o' = o := by rw [ho] at ho'; exact (Option.some.inj ho').symm
    subst e0
    have hi : i < e.oth.length := (List.getElem?_eq_some_iff.1 ho).1
    obtain ⟨g, cap, c7, hv, hgl, hcap, _, x1, x2, x3, x4, hfz, hgb⟩ := h.Ox ho
    rw [hop] at x3
    have hi' : (i : Int) < e.oth.length := by omega
    have hi0 : (0 : Int) <= i := by omega
    have QG : 0 < o'.id := by have := hok.id; have := hw.side; omega
    obtain ⟨s1, s1o⟩ := h.fF ho hv 3 (.bool false) { o' with opn := false } (by omega) rfl
    have ho1 : ({ e with oth := e.oth.set i { o' with opn := false } } : Lk.En).oth[i]? = some { o' with opn := false } := List.getElem?_set_self hi
    have hv1 : p.tv = .slice (some ⟨g, 0, none⟩) ({ e with oth := e.oth.set i { o' with opn := false } } : Lk.En).oth.length cap := by rw [hv]; simp
    obtain ⟨s2, s2o⟩ := s1.fF ho1 hv1 4 (.bool true) { o' with opn := false, drp := true } (by omega) rfl
    have hE2 : ({ ({ e with oth := e.oth.set i { o' with opn := false } } : Lk.En) with oth := ({ e with oth := e.oth.set i { o' with opn := false } } : Lk.En).oth.set i { o' with opn := false, drp := true } } : Lk.En) = { e with oth := e.oth.set i { o' with opn := false, drp := true } } := by simp [List.set_set]
    rw [hE2] at s2
    have kQ := hide (fun W => eu m (m : Int) W rfl hm)
    have HS := hide (fun W hb => fV b { e with oth := e.oth.set i { o' with opn := false, drp := true } } p 3 o'.id (Lk.wire m) W (s2.below hb) (Lk.gz o'.id m QG hok.oL hm) (by show e.row.length <= _; omega))
    have HO := hide (s1o.trans s2o (fun _ x _ => x))
    have HAF : Hid (∀ w4 p4, aT κ w4 b (({ e with oth := e.oth.set i { o' with opn := false, drp := true } } : Lk.En).send 3 o'.id (Lk.wire m)) p4 -> ∃ g4 cap4, w4.cell? ⟨b, 7, none⟩ = some (.slice (some ⟨g4, 0, none⟩) e.oth.length cap4) ∧ g4 < w4.heap.size ∧ e.oth.length <= cap4 ∧ b < w4.heap.size ∧ w4.cell? ⟨g4, i * 5 + 2, none⟩ = some (.int .i64 (o'.held : Int))) := by
     intro w4 p4 h4
     have ho4 : (({ e with oth := e.oth.set i { o' with opn := false, drp := true } } : Lk.En).send 3 o'.id (Lk.wire m)).oth[i]? = some { o' with opn := false, drp := true } := List.getElem?_set_self hi
     obtain ⟨g4, cap4, y0, y1, y2, y3, y4, y5, y6, y7, y8, y9, y10⟩ := h4.Ox ho4
     have hle : (({ e with oth := e.oth.set i { o' with opn := false, drp := true } } : Lk.En).send 3 o'.id (Lk.wire m)).oth.length = e.oth.length := by show (e.oth.set i _).length = _; rw [List.length_set]
     rw [hle] at y0 y3
     exact ⟨g4, cap4, y0, y2, y3, y4, y6⟩
    have HBK := hide (fun W p4 (hR : aT κ W b _ p4) => sV b (({ e with oth := e.oth.set i { o' with opn := false, drp := true } } : Lk.En).send 3 o'.id (Lk.wire m)) p4 o'.held W hR (by omega) (by show e.room <= _; omega) (by show (e.row ++ [_]).length <= _; rw [List.length_append, List.length_singleton]; omega))
    have HBF : Hid (∀ w5 p5, aT κ w5 b ((({ e with oth := e.oth.set i { o' with opn := false, drp := true } } : Lk.En).send 3 o'.id (Lk.wire m)).back o'.held) p5 -> ∃ g5 cap5, w5.cell? ⟨b, 7, none⟩ = some (.slice (some ⟨g5, 0, none⟩) e.oth.length cap5) ∧ g5 < w5.heap.size ∧ e.oth.length <= cap5 ∧ b < w5.heap.size ∧ w5.cell? ⟨g5, i * 5 + 2, none⟩ = some (.int .i64 (o'.held : Int)) ∧ w5.frozen? ⟨g5, i * 5 + 2, none⟩ = false ∧ aj κ w5 b p5 ((({ e with oth := e.oth.set i { o' with opn := false, drp := true, held := 0 } } : Lk.En).send 3 o'.id (Lk.wire m)).back o'.held) (w5.setCell ⟨g5, i * 5 + 2, none⟩ (.int .i64 0))) := by
     intro w5 p5 h5
     have hoth : ((({ e with oth := e.oth.set i { o' with opn := false, drp := true } } : Lk.En).send 3 o'.id (Lk.wire m)).back o'.held).oth = e.oth.set i { o' with opn := false, drp := true } := by rw [Lk.ED]; rfl
     have ho5 : ((({ e with oth := e.oth.set i { o' with opn := false, drp := true } } : Lk.En).send 3 o'.id (Lk.wire m)).back o'.held).oth[i]? = some { o' with opn := false, drp := true } := by rw [hoth]; exact List.getElem?_set_self hi
     obtain ⟨g5, cap5, y0, y1, y2, y3, y4, y5, y6, y7, y8, y9, y10⟩ := h5.Ox ho5
     obtain ⟨t1, t2⟩ := h5.fF ho5 y1 2 (.int .i64 0) { o' with opn := false, drp := true, held := 0 } (by omega) rfl
     have hle : ((({ e with oth := e.oth.set i { o' with opn := false, drp := true } } : Lk.En).send 3 o'.id (Lk.wire m)).back o'.held).oth.length = e.oth.length := by rw [hoth, List.length_set]
     rw [hle] at y0 y3
     refine ⟨g5, cap5, y0, y2, y3, y4, y6, y9 _, p5, ?_, fun _ x => .inl x, t2⟩
     have hE : ({ ((({ e with oth := e.oth.set i { o' with opn := false, drp := true } } : Lk.En).send 3 o'.id (Lk.wire m)).back o'.held) with oth := ((({ e with oth := e.oth.set i { o' with opn := false, drp := true } } : Lk.En).send 3 o'.id (Lk.wire m)).back o'.held).oth.set i { o' with opn := false, drp := true, held := 0 } } : Lk.En) = (({ e with oth := e.oth.set i { o' with opn := false, drp := true, held := 0 } } : Lk.En).send 3 o'.id (Lk.wire m)).back o'.held := by
      unfold Lk.En.back
      split <;> simp [Lk.En.send, List.set_set]
     rw [hE] at t1
     exact t1
    have f3 := hfz (i * 5 + 3)
    have f4 := hfz (i * 5 + 4)
    have hgb' : b ≠ g := Ne.symm hgb
    subst hid
    clear h hv hfz s1 s1o s2 s2o hok hroom hw hw2 hcr ho ho' ho1 hv1 hE2 hix hop HE HRR HOWN HOW HOT x1 x2
    go_wp2_with fail
    refine (uh HO1).mono ?_
    rintro r w2 ⟨rfl, rfl⟩
    simp only [ixO]
    go_wp2_with fail
    refine (uh kQ _).mono ?_
    rintro r w3 ⟨rfl, hb3⟩
    have HS3 := hide (uh HS w3 hb3)
    have HB := hide hb3
    clear hb3
    go_wp2_with fail
    refine (uh HS3).mono ?_
    rintro r w4 ⟨rfl, hP⟩
    obtain ⟨p4, h4, h4f, h4o⟩ := aj.on (uh HO) (aj.before (uh HB) hP)
    obtain ⟨g4, cap4, z1, z2, z3, z4, z5⟩ := uh HAF w4 p4 h4
    have HB4 := hide (uh HBK w4 p4 h4)
    have HX4 := hide (⟨h4f, h4o⟩ : _ ∧ _)
    clear hP h4 h4f h4o HS3 HB
    go_wp2_with fail
    refine (uh HB4).mono ?_
    rintro r w5 ⟨rfl, hP⟩
    obtain ⟨h4f, h4o⟩ := uh HX4
    obtain ⟨p5, h5, h5f, h5o⟩ := aj.trans h4f h4o hP
    obtain ⟨g5, cap5, y1, y2, y3, y4, y5, y6, y7⟩ := uh HBF w5 p5 h5
    have HF := hide (aj.trans h5f h5o y7)
    clear hP h4f h4o h5 h5f h5o y7 z1 z2 z3 z4 z5
    go_wp2_with fail
    go_ret
    exact ⟨rfl, uh HF⟩
  . have HEE := hide hEE
    clear hEE
    have HO1 := hide (uh HOT wc h)
    have hoth : ∃ z2 : Int, ixO (Lk.bM e.oth k) = z2 ∧ (z2 < 0 ∨ ∃ i : Nat, z2 = i ∧ (i : Int) < e.oth.length ∧ ∃ g cap, wc.cell? ⟨b, 7, none⟩ = some (.slice (some ⟨g, 0, none⟩) e.oth.length cap) ∧ g < wc.heap.size ∧ e.oth.length <= cap ∧ wc.cell? ⟨g, i * 5 + 3, none⟩ = some (.bool false)) := by
     cases hx : Lk.bM e.oth k with
     | none => exact ⟨-1, rfl, .inl (by omega)⟩
     | some i =>
       obtain ⟨o, ho, _⟩ := Lk.bg hx
       have hi : i < e.oth.length := (List.getElem?_eq_some_iff.1 ho).1
       obtain ⟨g, cap, c7, hv, hgl, hcap, _, x1, x2, x3, x4, hfz, hgb⟩ := h.Ox ho
       rw [U5 i o hx ho] at x3
       exact ⟨i, rfl, .inr ⟨i, rfl, by omega, g, cap, c7, hgl, hcap, x3⟩⟩
    obtain ⟨z2, hz2, hoth⟩ := hoth
    rw [hz2] at HO1
    have HF := hide (aj.same h)
    clear h hz2 U5 HE HRR HOWN HOW HOT
    go_wp2_with fail
    refine (uh HO1).mono ?_
    rintro r w2 ⟨rfl, rfl⟩
    rcases hoth with hz0 | ⟨i, rfl, hi, g, cap, c7, hgl, hcap, x3⟩
    . go_wp2_with fail
      go_ret
      exact ⟨rfl, by rw [uh HEE]; exact uh HF⟩
    . have hi0 : ¬ (i : Int) < 0 := by omega
      go_wp2_with fail
      go_ret
      exact ⟨rfl, by rw [uh HEE]; exact uh HF⟩
theorem Gn (b : Nat) (e : Lk.En) (p : RP) (k c : Int) (w : World) (h : aT κ w b e p) (hw : Lk.Wf e) (hl : e.row.length <= 2 ^ 41) :
 Calls Tryz.prog 112 #[.pointer (some ⟨b, 0, none⟩), .int .i64 k, .int .i64 c] w fun r w' => r = .returned (.int .i64 ((e.dN k c).1 : Int)) ∧ aj κ w b p (e.dN k c).2 w' := by
 unfold Lk.En.dN
 by_cases hd : e.down = 0
 . rw [if_neg (by rw [hd]; simp)]
   by_cases hc : c < 0 ∨ 268435455 < c
   . rw [if_pos hc]
     have c13 : w.cell? ⟨b, 13, none⟩ = some (.int .i64 (e.down : Int)) := h.blk.cell 13
     have hbl := h.blk.lt
     have hd' := CJ hd
     have HSM := hide (aj.same h)
     generalize (e.down : Int) = DN at *
     by_cases hc0 : c < 0
     . clear h hd hc
       go_enter Tryz.func112, Tryz.ntmps112
       go_wp2_with fail
       go_ret
       exact ⟨rfl, uh HSM⟩
     . have hc1 : (268435455 : Int) < c := by omega
       clear h hd hc
       go_enter Tryz.func112, Tryz.ntmps112
       go_wp2_with fail
       go_ret
       exact ⟨rfl, uh HSM⟩
   . rw [if_neg hc]
     cases hx : (Lk.bK e.own k).bind fun i => (e.own[i]?).bind fun o => if o.done then none else some (i, o) with
     | some r =>
       obtain ⟨i, o⟩ := r
       obtain ⟨j, hj1, hj⟩ := Option.bind_eq_some_iff.1 hx
       obtain ⟨o', ho', hj⟩ := Option.bind_eq_some_iff.1 hj
       split at hj
       . cases hj
       . rename_i hnd
         cases hj
         exact Gm b e p k c i o w h hw hl hd hc hj1 ho' (by simpa using hnd)
     | none =>
       simp only
       have hno : ∀ i o, Lk.bK e.own k = some i -> e.own[i]? = some o -> o.done = true := fun i o h1 h2 => by
        rw [h1] at hx
        simp only [Option.bind_some, h2] at hx
        cases hdn : o.done with
        | true => rfl
        | false => rw [hdn] at hx; simp at hx
       cases hy : (Lk.bM e.oth k).bind fun i => (e.oth[i]?).bind fun o => if o.opn then some (i, o) else none with
       | some r =>
         obtain ⟨i, o⟩ := r
         obtain ⟨j, hj1, hj⟩ := Option.bind_eq_some_iff.1 hy
         obtain ⟨o', ho', hj⟩ := Option.bind_eq_some_iff.1 hj
         split at hj
         . rename_i hop
           cases hj
           exact wG b e p k c w h hw hl hd hc hno _ _ (.inl ⟨i, o, hj1, ho', hop, rfl, rfl⟩)
         . cases hj
       | none =>
         refine wG b e p k c w h hw hl hd hc hno _ _ (.inr ⟨fun i o h1 h2 => ?_, rfl, rfl⟩)
         rw [h1] at hy
         simp only [Option.bind_some, h2] at hy
         cases hop : o.opn with
         | false => rfl
         | true => rw [hop] at hy; simp at hy
 . rw [if_pos hd]
   have c13 : w.cell? ⟨b, 13, none⟩ = some (.int .i64 (e.down : Int)) := h.blk.cell 13
   have hbl := h.blk.lt
   have hd' := zY hd
   have HSM := hide (aj.same h)
   generalize (e.down : Int) = DN at *
   clear h hd
   go_enter Tryz.func112, Tryz.ntmps112
   go_wp2_with fail
   go_ret
   exact ⟨rfl, uh HSM⟩
theorem og {B : Nat} {w w1 : World} (h : Below B w w1) (n : Nat) : Below B w (w1.drewN n) := ⟨h.os, h.tape, h.output, h.size, h.block⟩
theorem MM {l : Lk.Bs} (h : l = []) : bs l = ⟨#[]⟩ := by rw [h]; rfl
theorem EF (b : Nat) (e : Lk.En) (p : RP) (i : Nat) (o : Lk.Ow) (w : World) (h : aT κ w b e p) (ho : e.own[i]? = some o) :
 Calls Tryz.prog 158 #[.pointer (some ⟨b, 0, none⟩), .int .i64 (i : Int)] w fun r w' => r = .returned (.bool (e.may o)) ∧ Below w.heap.size w w' := by
 have hi : i < e.own.length := (List.getElem?_eq_some_iff.1 ho).1
 obtain ⟨g, cap, c6, hv, hgl, hcap, hbl, x0, x1, x2, x3, hfz, hgb⟩ := h.ML ho
 have c8 : w.cell? ⟨b, 8, none⟩ = some (.int .i64 (e.all : Int)) := h.blk.cell 8
 have hi' : (i : Int) < e.own.length := by omega
 have hb := (Below.refl w.heap.size w).alloc (Nat.le_refl _) (.cells #[.int .i64 (o.id : Int), .string (bs o.left), .int .i64 (o.cr : Int), .bool o.done] 258)
 have HB := hide hb
 unfold Lk.En.may
 clear h hv hfz hb
 cases hdn : o.done with
 | true =>
   rw [hdn] at x3 HB
   go_enter Tryz.func158, Tryz.ntmps158
   go_wp2_with fail
   go_ret
   exact ⟨rfl, uh HB⟩
 | false =>
   rw [hdn] at x3 HB
   by_cases hle : o.left = []
   . have hb0 := MM hle
     rw [hle]
     rw [hb0] at x1 HB
     clear hle hb0
     go_enter Tryz.func158, Tryz.ntmps158
     go_wp2_with fail
     go_ret
     exact ⟨rfl, uh HB⟩
   . have hb0 : (bs o.left).toList.isEmpty = false := by rw [ByteArray.toList_eq]; simpa [bs] using hle
     have hemp : o.left.isEmpty = false := by simpa using hle
     rw [hemp]
     by_cases h1 : 0 < o.cr
     . have h1' : (0 : Int) < o.cr := by omega
       by_cases h2 : 0 < e.all
       . have h2' : (0 : Int) < e.all := by omega
         simp only [h1, h2]
         generalize (o.cr : Int) = CR at *
         generalize (e.all : Int) = AL at *
         clear hle h1 h2
         go_enter Tryz.func158, Tryz.ntmps158
         go_wp2_with fail
         go_ret
         exact ⟨rfl, uh HB⟩
       . have h2' : ¬ (0 : Int) < e.all := by omega
         simp only [h1, h2]
         generalize (o.cr : Int) = CR at *
         generalize (e.all : Int) = AL at *
         clear hle h1 h2
         go_enter Tryz.func158, Tryz.ntmps158
         go_wp2_with fail
         go_ret
         exact ⟨rfl, uh HB⟩
     . have h1' : ¬ (0 : Int) < o.cr := by omega
       simp only [h1]
       generalize (o.cr : Int) = CR at *
       generalize (e.all : Int) = AL at *
       clear hle h1
       go_enter Tryz.func158, Tryz.ntmps158
       go_wp2_with fail
       go_ret
       exact ⟨rfl, uh HB⟩
theorem MN {e : Lk.En} {i : Nat} {o : Lk.Ow} (ho : e.own[i]? = some o) (hm : e.may o = true) (ht : e.turn < o.id) (hn : ∀ j x, j < i -> e.own[j]? = some x -> ¬ (e.may x = true ∧ e.turn < x.id)) : e.next = some i := by
 unfold Lk.En.next
 have hi : i < e.own.length := (List.getElem?_eq_some_iff.1 ho).1
 have : e.own.findIdx? (fun o => e.may o && decide (e.turn < o.id)) = some i := by
  rw [List.findIdx?_eq_some_iff_getElem]
  have e0 : e.own[i] = o := (List.getElem?_eq_some_iff.1 ho).2
  refine ⟨hi, by rw [e0]; simp [hm, ht], fun j hj => ?_⟩
  have := hn j e.own[j] hj (List.getElem?_eq_getElem (by omega))
  simpa using this
 rw [this]
theorem Gp {e : Lk.En} (hn : ∀ (j : Nat) (x : Lk.Ow), e.own[j]? = some x -> ¬ (e.may x = true ∧ e.turn < x.id)) : e.next = e.own.findIdx? e.may := by
 unfold Lk.En.next
 have : e.own.findIdx? (fun o => e.may o && decide (e.turn < o.id)) = none := by
  rw [List.findIdx?_eq_none_iff]
  intro o ho
  obtain ⟨j, hj⟩ := List.getElem?_of_mem ho
  have := hn j o hj
  simpa using this
 rw [this]
theorem Ju (b : Nat) (e : Lk.En) (p : RP) (w : World) (h : aT κ w b e p) (hw : Lk.Wf e) :
 Calls Tryz.prog 106 #[.pointer (some ⟨b, 0, none⟩)] w fun r w' => r = .returned (.int .i64 (ixO e.next)) ∧ Below w.heap.size w w' := by
 have Gl := hw.wF
 have HE := hide h
 obtain ⟨va, vc, hv⟩ := aJ h.own
 have HV := hide hv
 have HC : Hid (∀ wr, Below w.heap.size w wr -> wr.cell? ⟨b, 6, none⟩ = some (.slice va e.own.length vc) ∧ wr.cell? ⟨b, 10, none⟩ = some (.int .i64 (e.turn : Int)) ∧ b < wr.heap.size ∧ w.heap.size <= wr.heap.size) := fun wr hb => by
  have h1 := (h.below hb).blk
  have c6 : wr.cell? ⟨b, 6, none⟩ = some p.wv := h1.cell 6
  rw [hv] at c6
  exact ⟨c6, h1.cell 10, h1.lt, hb.size⟩
 clear h hw hv
 go_enter Tryz.func106, Tryz.ntmps106
 go_wp2_with fail
 go_loopw [3] (fun u wr => ∃ i : Nat, i <= e.own.length ∧ u = .int .i64 i ∧ Hid (Below w.heap.size w wr ∧ ∀ j x, j < i -> e.own[j]? = some x -> ¬ (e.may x = true ∧ e.turn < x.id))) (fun u _ => e.own.length - (intOf u).toNat)
 case atStart => exact ⟨0, Nat.zero_le _, rfl, Below.refl _ _, fun j x hj => by omega⟩
 case round =>
  obtain ⟨i, hi, rfl, HN⟩ := hrel
  obtain ⟨hbw, hn⟩ := uh HN
  obtain ⟨c6, c10, hbl, hws⟩ := uh HC wr hbw
  by_cases hlt : i < e.own.length
  . have hlt' : (i : Int) < e.own.length := by omega
    have ho : e.own[i]? = some e.own[i] := List.getElem?_eq_getElem hlt
    generalize e.own[i] = o at ho
    have HM := hide (EF b e p i o wr ((uh HE).below hbw) ho)
    have HNX : Hid (∀ i', i' = i + 1 -> ¬ (e.may o = true ∧ e.turn < o.id) -> ∀ j x, j < i' -> e.own[j]? = some x -> ¬ (e.may x = true ∧ e.turn < x.id)) := fun i' hi' hno j x hj hx => by
     by_cases hji : j = i
     . subst hji
       rw [ho] at hx
       cases hx
       exact hno
     . exact hn j x (by omega) hx
    have HF : Hid (e.may o = true -> e.turn < o.id -> e.next = some i) := fun h1 h2 => MN ho h1 h2 hn
    have HAT : Hid (∀ w1, Below w.heap.size w w1 -> ∃ g cap, va = some ⟨g, 0, none⟩ ∧ vc = cap ∧ e.own.length <= cap ∧ g < w1.heap.size ∧ w1.cell? ⟨g, i * 4, none⟩ = some (.int .i64 (o.id : Int))) := fun w1 hb1 => by
     obtain ⟨g, cap, c6, hv, hgl, hcap, _, x0, _⟩ := ((uh HE).below hb1).ML ho
     have hv2 := uh HV
     rw [hv] at hv2
     injection hv2 with k1 k2 k3
     exact ⟨g, cap, k1.symm, k3.symm, hcap, hgl, x0⟩
    have HBW := hide hbw
    generalize hmo : e.may o = mo at *
    clear hn hbw HN ho hmo
    go_wp2_with fail
    refine (uh HM).mono ?_
    rintro r w1 ⟨rfl, hb1⟩
    have hb2 := (uh HBW).trans (hb1.mono hws)
    obtain ⟨d6, d10, dbl, dws⟩ := uh HC w1 hb2
    obtain ⟨g, cap, rfl, rfl, hcap, hgl, x0⟩ := uh HAT w1 hb2
    have HB2 := hide hb2
    clear hb1 hb2 c6 c10 hbl
    cases mo with
    | false =>
      have HR := hide (uh HNX _ rfl (fun z => by cases z.1))
      go_wp2_with fail
      go_quiet (fail)
      go_wp2_with fail
      go_roundw
      case rel => exact ⟨i + 1, by omega, by go_num, og (uh HB2) _, uh HR⟩
      case measure => simp [intOf]; omega
    | true =>
      by_cases ht : e.turn < o.id
      . have ht' : (e.turn : Int) < o.id := by omega
        have HF2 := hide (uh HF rfl ht)
        generalize (e.turn : Int) = TU at *
        generalize (o.id : Int) = ID at *
        clear ht HF HNX HAT
        go_wp2_with fail
        go_quiet (fail)
        go_wp2_with fail
        go_ret
        exact ⟨by rw [uh HF2]; rfl, og (uh HB2) _⟩
      . have ht' : decide ((e.turn : Int) < o.id) = false := by simp; omega
        have HR := hide (uh HNX _ rfl (fun z => ht z.2))
        generalize (e.turn : Int) = TU at *
        generalize (o.id : Int) = ID at *
        clear ht HF HNX HAT
        go_wp2_with fail
        go_quiet (fail)
        go_wp2_with fail
        go_roundw
        case rel => exact ⟨i + 1, by omega, by go_num, og (uh HB2) _, uh HR⟩
        case measure => simp [intOf]; omega
  . have hlt' : ¬ (i : Int) < e.own.length := by omega
    have HNX := hide (Gp (fun j x hx => hn j x (by have := (List.getElem?_eq_some_iff.1 hx).1; omega) hx))
    have HB0 := hide hbw
    clear hn hbw HN
    go_wp2_with fail
    go_loopw [5] (fun u wr => ∃ i : Nat, i <= e.own.length ∧ u = .int .i64 i ∧ Hid (Below w.heap.size w wr ∧ ∀ j x, j < i -> e.own[j]? = some x -> e.may x = false)) (fun u _ => e.own.length - (intOf u).toNat)
    case atStart => exact ⟨0, Nat.zero_le _, rfl, uh HB0, fun j x hj => by omega⟩
    case round =>
     clear HB0
     obtain ⟨i, hi, rfl, HN⟩ := hrel
     obtain ⟨hbw, hn⟩ := uh HN
     obtain ⟨c6, c10, hbl, hws⟩ := uh HC wr hbw
     by_cases hlt : i < e.own.length
     . have hlt' : (i : Int) < e.own.length := by omega
       have ho : e.own[i]? = some e.own[i] := List.getElem?_eq_getElem hlt
       generalize e.own[i] = o at ho
       have HM := hide (EF b e p i o wr ((uh HE).below hbw) ho)
       have HR : Hid (e.may o = false -> ∀ j x, j < i + 1 -> e.own[j]? = some x -> e.may x = false) := fun hno j x hj hx => by
        by_cases hji : j = i
        . subst hji
          rw [ho] at hx
          cases hx
          exact hno
        . exact hn j x (by omega) hx
       have HF : Hid (e.may o = true -> e.next = some i) := fun h1 => by
        rw [uh HNX, List.findIdx?_eq_some_iff_getElem]
        have e0 : e.own[i] = o := (List.getElem?_eq_some_iff.1 ho).2
        refine ⟨hlt, by rw [e0]; exact h1, fun j hj => ?_⟩
        have := hn j e.own[j] hj (List.getElem?_eq_getElem (by omega))
        simp [this]
       have HBW := hide hbw
       generalize hmo : e.may o = mo at *
       clear hn hbw HN ho hmo
       go_wp2_with fail
       refine (uh HM).mono ?_
       rintro r w1 ⟨rfl, hb1⟩
       have HB2 := hide ((uh HBW).trans (hb1.mono hws))
       clear hb1 c6 c10 hbl
       cases mo with
       | false =>
         have HR2 := hide (uh HR rfl)
         go_wp2_with fail
         go_roundw
         case rel => exact ⟨i + 1, by omega, by go_num, uh HB2, uh HR2⟩
         case measure => simp [intOf]; omega
       | true =>
         have HF2 := hide (uh HF rfl)
         go_wp2_with fail
         go_ret
         exact ⟨by rw [uh HF2]; rfl, uh HB2⟩
     . have hlt' : ¬ (i : Int) < e.own.length := by omega
       have HF : Hid (e.next = none) := by
        have : e.next = none := by
         rw [uh HNX, List.findIdx?_eq_none_iff]
         intro o ho
         obtain ⟨j, hj⟩ := List.getElem?_of_mem ho
         exact hn j o (by have := (List.getElem?_eq_some_iff.1 hj).1; omega) hj
        exact this
       have HB0 := hide hbw
       clear hn hbw HN
       go_wp2_with fail
       go_ret
       exact ⟨by rw [uh HF]; rfl, uh HB0⟩
theorem MO (p : Lk.Bs) (n : Nat) : (bs p).extract 0 n = bs (p.take n) := by
 apply ByteArray.ext
 apply Array.toList_inj.1
 simp [bs]
theorem MP (p : Lk.Bs) (n : Nat) : (bs p).extract n p.length = bs (p.drop n) := by
 apply ByteArray.ext
 apply Array.toList_inj.1
 rw [dI, List.take_of_length_le (by simp [bs])]
 simp [bs]
theorem sW {X w9 : World} (h : Below X.drew.drew.drew.heap.size X.drew.drew.drew w9) : Below X.heap.size X w9 := ⟨h.os, h.tape, h.output, h.size, h.block⟩
theorem PG (x y : Int) (w : World) : Calls Tryz.prog 159 #[.int .i64 x, .int .i64 y] w fun r w' => r = .returned (.int .i64 (min x y)) ∧ w' = w := by
 by_cases h : x < y
 . have e : min x y = x := by omega
   rw [e]
   clear e
   go_enter Tryz.func159, Tryz.ntmps159
   go_wp2_with fail
   go_ret
   exact ⟨rfl, rfl⟩
 . have e : min x y = y := by omega
   rw [e]
   clear e
   go_enter Tryz.func159, Tryz.ntmps159
   go_wp2_with fail
   go_ret
   exact ⟨rfl, rfl⟩
theorem aT.sent {w : World} {b : Nat} {e : Lk.En} {p : RP} (h : aT κ w b e p) {i g cap n : Nat} {o : Lk.Ow} (ho : e.own[i]? = some o) (hg : p.wv = .slice (some ⟨g, 0, none⟩) e.own.length cap) (hn : n <= o.left.length) (y : Lk.Ow) (hy : y = if n = o.left.length then { o with done := true } else o) (w8 : World) (h8 : w8 = if n = o.left.length then w.setCell ⟨g, i * 4 + 3, none⟩ (.bool true) else w) :
 aT κ w8 b { e with own := e.own.set i y } p ∧ Only (aI b p) w w8 := by
 by_cases hc : n = o.left.length
 . rw [if_pos hc] at hy h8
   subst hy h8
   exact h.kL ho hg 3 (.bool true) { o with done := true } (by omega) rfl
 . rw [if_neg hc] at hy h8
   subst h8
   rw [hy]
   have : e.own.set i o = e.own := by
    obtain ⟨hi, hx⟩ := List.getElem?_eq_some_iff.1 ho
    rw [<- hx]
    exact List.set_getElem_self hi
   rw [this]
   exact ⟨h, Only.refl _ _⟩
theorem aT.TT {w8 : World} {b : Nat} {e : Lk.En} {p : RP} {i g cap n : Nat} {o y : Lk.Ow} (hi : i < e.own.length) (h : aT κ w8 b { e with own := e.own.set i y } p) (hg : p.wv = .slice (some ⟨g, 0, none⟩) e.own.length cap) (hyi : y.id = o.id) (hyl : y.left = o.left) (hyc : y.cr = o.cr) :
 aT κ ((((w8.setCell ⟨g, i * 4 + 1, none⟩ (.string (bs (o.left.drop n)))).setCell ⟨g, i * 4 + 2, none⟩ (.int .i64 ((o.cr - n : Nat) : Int))).setCell ⟨b, 8, none⟩ (.int .i64 ((e.all - n : Nat) : Int))).setCell ⟨b, 10, none⟩ (.int .i64 (o.id : Int))) b { e with own := e.own.set i ⟨o.id, o.left.drop n, o.cr - n, y.done⟩, all := e.all - n, turn := o.id } p
 ∧ Only (aI b p) w8 ((((w8.setCell ⟨g, i * 4 + 1, none⟩ (.string (bs (o.left.drop n)))).setCell ⟨g, i * 4 + 2, none⟩ (.int .i64 ((o.cr - n : Nat) : Int))).setCell ⟨b, 8, none⟩ (.int .i64 ((e.all - n : Nat) : Int))).setCell ⟨b, 10, none⟩ (.int .i64 (o.id : Int))) := by
 have g1 : p.wv = .slice (some ⟨g, 0, none⟩) (e.own.set i y).length cap := by rw [List.length_set]; exact hg
 obtain ⟨s1, t1⟩ := h.kL (i := i) (x := y) (List.getElem?_set_self hi) g1 1 (.string (bs (o.left.drop n))) { y with left := o.left.drop n } (by omega) rfl
 have g2 : p.wv = .slice (some ⟨g, 0, none⟩) ((e.own.set i y).set i { y with left := o.left.drop n }).length cap := by simp only [List.length_set]; exact hg
 obtain ⟨s2, t2⟩ := s1.kL (i := i) (x := { y with left := o.left.drop n }) (List.getElem?_set_self (by rw [List.length_set]; exact hi)) g2 2 (.int .i64 ((o.cr - n : Nat) : Int)) { y with left := o.left.drop n, cr := o.cr - n } (by omega) rfl
 have hE : ((e.own.set i y).set i { y with left := o.left.drop n }).set i { y with left := o.left.drop n, cr := o.cr - n } = e.own.set i ⟨o.id, o.left.drop n, o.cr - n, y.done⟩ := by
  simp only [List.set_set]
  rw [<- hyi]
 have s3 := s2.set (e' := { e with own := e.own.set i ⟨o.id, o.left.drop n, o.cr - n, y.done⟩, all := e.all - n }) 8 (.int .i64 ((e.all - n : Nat) : Int)) rfl rfl rfl rfl hE.symm rfl (fun x => ⟨x, rfl⟩)
 have s4 := s3.set (e' := { e with own := e.own.set i ⟨o.id, o.left.drop n, o.cr - n, y.done⟩, all := e.all - n, turn := o.id }) 10 (.int .i64 (o.id : Int)) rfl rfl rfl rfl rfl rfl (fun x => ⟨x, rfl⟩)
 exact ⟨s4, ((t1.trans t2 (fun _ x _ => x)).set b 8 _ (fun _ => .inl rfl)).set b 10 _ (fun _ => .inl rfl)⟩
theorem Jv (b : Nat) (e : Lk.En) (p : RP) (i : Nat) (o : Lk.Ow) (w : World) (h : aT κ w b e p) (hw : Lk.Wf e) (ho : e.own[i]? = some o) (hm : e.may o = true) :
 Calls Tryz.prog 107 #[.pointer (some ⟨b, 0, none⟩), .int .i64 (i : Int)] w fun r w' => r = .returned (.string (bs (e.cu i o).1)) ∧ aj κ w b p (e.cu i o).2 w' := by
 have hi : i < e.own.length := (List.getElem?_eq_some_iff.1 ho).1
 have hi' : (i : Int) < e.own.length := by omega
 have hok := hw.own i o ho
 have hml := Lk.xE e o
 have hnd : o.done = false := by
  unfold Lk.En.may at hm
  cases hd : o.done with
  | false => rfl
  | true => rw [hd] at hm; simp at hm
 have hgood := Lk.zB hm (by have := hok.id; omega) hok.oL
 have hal := hw.all
 have hcr := hok.cr
 have hll := hok.left
 have hBx := Is.new w 258 [.int .i64 (o.id : Int), .string (bs o.left), .int .i64 (o.cr : Int), .bool false]
 have hbW := (Below.refl w.heap.size w).alloc (Nat.le_refl _) (.cells #[.int .i64 (o.id : Int), .string (bs o.left), .int .i64 (o.cr : Int), .bool false] 258)
 obtain ⟨g, cap, c6, hv, hgl, hcap, hbl, x0, x1, x2, x3, hfz, hgb⟩ := h.ML ho
 have hW := h.below hbW
 rw [hnd] at x3
 have hwW : w.heap.size < (w.alloc (.cells #[.int .i64 (o.id : Int), .string (bs o.left), .int .i64 (o.cr : Int), .bool false] 258)).heap.size := by simp
 have hbn : b ≠ w.heap.size := by omega
 have hgn : g ≠ w.heap.size := by omega
 have Ri : e.most o = if o.left = [] then 0 else min (min o.left.length 16) (min o.cr e.all) := by
  unfold Lk.En.most
  by_cases hle : o.left = []
  . rw [if_pos hle, if_pos (by rw [hle]; rfl)]
  . rw [if_neg hle, if_neg (by simpa using hle)]
 have hbo : e.cu i o = (Lk.packed (e.mD o).k o.id (o.left.take (e.most o)), { e with own := e.own.set i ⟨o.id, o.left.drop (e.most o), o.cr - e.most o, o.done || decide (e.most o = o.left.length)⟩, all := e.all - e.most o, turn := o.id }) := rfl
 rw [hbo]
 have hfr : (e.mD o).k = if e.most o = o.left.length then 2 else 1 := rfl
 have hfd : (e.mD o).d = o.left.take (e.most o) := rfl
 have hfs : (e.mD o).st = o.id := rfl
 rw [hfd, hfs] at hgood
 generalize (e.mD o).k = KD at *
 generalize hN : e.most o = N at *
 have htk := MO o.left N
 have hdr := MP o.left N
 have hsz := ax o.left
 have HPK := hide (fun W => vZ KD o.id (o.left.take N) W hgood)
 have HF8 := hide (fun (nq : Nat) (y : Lk.Ow) hy (w8 : World) h8 => (hW.below (og (Below.refl _ (w.alloc (.cells #[.int .i64 (o.id : Int), .string (bs o.left), .int .i64 (o.cr : Int), .bool false] 258))) nq)).sent ho hv hml.1 y hy w8 h8)
 have HF9 := hide (fun (w8 : World) (y : Lk.Ow) (hR : aT κ w8 b { e with own := e.own.set i y } p) h1 h2 h3 => aT.TT (w8 := w8) (b := b) (y := y) (n := N) (o := o) hi hR hv h1 h2 h3)
 have o0 : (w.alloc (.cells #[.int .i64 (o.id : Int), .string (bs o.left), .int .i64 (o.cr : Int), .bool false] 258)).cell? ⟨w.heap.size, 0, none⟩ = some (.int .i64 (o.id : Int)) := hBx.cell 0
 have o1 : (w.alloc (.cells #[.int .i64 (o.id : Int), .string (bs o.left), .int .i64 (o.cr : Int), .bool false] 258)).cell? ⟨w.heap.size, 1, none⟩ = some (.string (bs o.left)) := hBx.cell 1
 have o2 : (w.alloc (.cells #[.int .i64 (o.id : Int), .string (bs o.left), .int .i64 (o.cr : Int), .bool false] 258)).cell? ⟨w.heap.size, 2, none⟩ = some (.int .i64 (o.cr : Int)) := hBx.cell 2
 have c8 : (w.alloc (.cells #[.int .i64 (o.id : Int), .string (bs o.left), .int .i64 (o.cr : Int), .bool false] 258)).cell? ⟨b, 8, none⟩ = some (.int .i64 (e.all : Int)) := hW.blk.cell 8
 have d6 : (w.alloc (.cells #[.int .i64 (o.id : Int), .string (bs o.left), .int .i64 (o.cr : Int), .bool false] 258)).cell? ⟨b, 6, none⟩ = some (.slice (some ⟨g, 0, none⟩) e.own.length cap) := by have := hW.blk.cell 6; rw [this]; show some p.wv = _; rw [hv]
 have hWb := hW.blk.lt
 have hWg : g < (w.alloc (.cells #[.int .i64 (o.id : Int), .string (bs o.left), .int .i64 (o.cr : Int), .bool false] 258)).heap.size := by omega
 have HBW := hide hbW
 have HBX := hide hBx
 have HW0 := hide hW
 have HZ : Hid ((∀ j, (w.alloc (.cells #[.int .i64 (o.id : Int), .string (bs o.left), .int .i64 (o.cr : Int), .bool false] 258)).frozen? ⟨g, j, none⟩ = false) ∧ (w.alloc (.cells #[.int .i64 (o.id : Int), .string (bs o.left), .int .i64 (o.cr : Int), .bool false] 258)).cell? ⟨g, i * 4 + 3, none⟩ = some (.bool false)) := by
  obtain ⟨g2, cap2, k1, k2, _, _, _, _, _, _, k9, k3, _⟩ := hW.ML ho
  rw [d6] at k1
  have e1 : g2 = g := by injection k1 with k1; injection k1 with k1 _ _; injection k1 with k1; injection k1 with k1 _ _; exact k1.symm
  rw [<- e1]
  rw [hnd] at k9
  exact ⟨k3, k9⟩
 have HND := hide hnd
 clear hnd
 have HMO := hide Ri
 have HPV := hide hv
 have HAL := hide hal
 have HFR := hide hfr
 have Ws : (N : Int) <= 300 := by omega
 have XU : (N : Int) <= ((bs o.left).size : Int) := by omega
 have hNn : N <= (bs o.left).size := by omega
 clear h hw ho hm hok hal hgood hW hbW hBx Ri hfr hfd hfs hbo hv hN hfz
 go_enter Tryz.func107, Tryz.ntmps107
 go_wp2_with fail
 generalize hWW : w.alloc (.cells #[.int .i64 (o.id : Int), .string (bs o.left), .int .i64 (o.cr : Int), .bool false] 258) = W at *
 clear hWW
 go_quiet ((go_at_call 159; exact Calls.quiet_of_same (PG _ _ _)))
 go_upto_if 31 with fail
 go_cut [6] (fun s6 wx => s6 = .int .i64 (N : Int) ∧ wx = W.drewN nq)
 case first =>
  have HBL : Hid ((bs o.left).toList.isEmpty = decide (o.left = [])) := by
   have : (bs o.left).toList.isEmpty = decide (o.left = []) := by
    rw [sS]
    cases o.left <;> rfl
   exact this
  generalize (bs o.left).toList.isEmpty = BL at *
  cases BL with
  | true =>
    have hle : o.left = [] := of_decide_eq_true (uh HBL).symm
    have HN0 : Hid (N = 0) := by
     have h1 := uh HMO
     rw [if_pos hle] at h1
     exact h1
    clear hle
    go_wp2_with fail
    go_meet
    exact ⟨by rw [uh HN0]; rfl, rfl⟩
  | false =>
    have hle : ¬ o.left = [] := of_decide_eq_false (uh HBL).symm
    have HN0 : Hid (min (min (o.left.length : Int) 16) (min (o.cr : Int) (e.all : Int)) = (N : Int)) := by
     have h1 := uh HMO
     rw [if_neg hle] at h1
     have h2 : min (min (o.left.length : Int) 16) (min (o.cr : Int) (e.all : Int)) = (N : Int) := by omega
     exact h2
    clear hle
    go_wp2_with fail
    go_meet
    exact ⟨congrArg _ (uh HN0), rfl⟩
 case rest =>
  obtain ⟨rfl, rfl⟩ := hcut
  clear x0 x1 x2 x3 c6
  have f1 : W.frozen? ⟨g, i * 4 + 1, none⟩ = false := (uh HZ).1 _
  have f2 : W.frozen? ⟨g, i * 4 + 2, none⟩ = false := (uh HZ).1 _
  have f3 : W.frozen? ⟨g, i * 4 + 3, none⟩ = false := (uh HZ).1 _
  have x3W : W.cell? ⟨g, i * 4 + 3, none⟩ = some (.bool false) := (uh HZ).2
  have f8 : W.frozen? ⟨b, 8, none⟩ = false := (uh HW0).blk.free 8
  have f10 : W.frozen? ⟨b, 10, none⟩ = false := (uh HW0).blk.free 10
  go_upto_if 36 with fail
  go_cut [7] (fun s7 w8 => s7 = .int .i64 (KD : Int) ∧ Hid (w8 = if N = o.left.length then (W.drewN nq).setCell ⟨g, i * 4 + 3, none⟩ (.bool true) else W.drewN nq))
  case first =>
   have HBL : Hid (((N : Int) == (o.left.length : Int)) = decide (N = o.left.length)) := by
    have : ((N : Int) == (o.left.length : Int)) = decide (N = o.left.length) := by
     by_cases h : N = o.left.length
     . rw [h]; simp
     . rw [decide_eq_false h]; simp; omega
    exact this
   generalize ((N : Int) == (o.left.length : Int)) = BL at *
   cases BL with
   | true =>
     have hle : N = o.left.length := of_decide_eq_true (uh HBL).symm
     have HK : Hid (KD = 2) := by have h1 := uh HFR; rw [if_pos hle] at h1; exact h1
     have HLE := hide hle
     clear hle
     go_wp2_with fail
     go_meet
     refine ⟨by rw [uh HK]; rfl, ?_⟩
     show _ = _
     rw [if_pos (uh HLE)]
   | false =>
     have hle : ¬ N = o.left.length := of_decide_eq_false (uh HBL).symm
     have HK : Hid (KD = 1) := by have h1 := uh HFR; rw [if_neg hle] at h1; exact h1
     have HLE := hide hle
     clear hle
     go_wp2_with fail
     go_meet
     refine ⟨by rw [uh HK]; rfl, ?_⟩
     show _ = _
     rw [if_neg (uh HLE)]
  case rest =>
   obtain ⟨rfl, HW8⟩ := hcut
   have hw8 := uh HW8
   obtain ⟨s8, t8⟩ := uh HF8 nq _ rfl wc hw8
   generalize hY : (if N = o.left.length then ({ o with done := true } : Lk.Ow) else o) = y at s8
   have hy1 : y.id = o.id ∧ y.left = o.left ∧ y.cr = o.cr ∧ y.done = (o.done || decide (N = o.left.length)) := by
    rw [<- hY]
    split
    . rename_i h; rw [decide_eq_true h]; simp
    . rename_i h; rw [decide_eq_false h]; simp
   obtain ⟨s9, t9⟩ := uh HF9 wc y s8 hy1.1 hy1.2.1 hy1.2.2.1
   have hb8 : Is wc w.heap.size 258 [.int .i64 (o.id : Int), .string (bs o.left), .int .i64 (o.cr : Int), .bool false] := by
    rw [hw8]
    split
    . exact ((uh HBX).drewN nq).other _ _ (Ne.symm hgn)
    . exact (uh HBX).drewN nq
   have ho8 : ({ e with own := e.own.set i y } : Lk.En).own[i]? = some y := List.getElem?_set_self hi
   obtain ⟨g8, U6, q6, qv, qg, Ti, qb, q0, q1, q2, q3, qz, _⟩ := s8.ML ho8
   have Rj : ({ e with own := e.own.set i y } : Lk.En).own.length = e.own.length := by simp
   rw [Rj] at q6 qv Ti
   rw [uh HPV] at qv
   obtain ⟨rfl, rfl⟩ : g8 = g ∧ U6 = cap := by
    injection qv with k1 k2 k3
    injection k1 with k1
    injection k1 with k1
    exact ⟨k1.symm, k3.symm⟩
   have r0 : wc.cell? ⟨w.heap.size, 0, none⟩ = some (.int .i64 (o.id : Int)) := hb8.cell 0
   have r1 : wc.cell? ⟨w.heap.size, 1, none⟩ = some (.string (bs o.left)) := hb8.cell 1
   have r2 : wc.cell? ⟨w.heap.size, 2, none⟩ = some (.int .i64 (o.cr : Int)) := hb8.cell 2
   have rl := hb8.lt
   have q8 : wc.cell? ⟨b, 8, none⟩ = some (.int .i64 (e.all : Int)) := s8.blk.cell 8
   have q10 : wc.cell? ⟨b, 10, none⟩ = some (.int .i64 (e.turn : Int)) := s8.blk.cell 10
   have z8 := s8.blk.free 8
   have z10 := s8.blk.free 10
   have z1 := qz (i * 4 + 1)
   have z2 := qz (i * 4 + 2)
   have e1 : (o.cr : Int) - N = ((o.cr - N : Nat) : Int) := by omega
   have e2 : (e.all : Int) - N = ((e.all - N : Nat) : Int) := by omega
   have hall := uh HAL
   have u1 : ((o.cr - N : Nat) : Int) <= 100000 := by omega
   have u2 : ((e.all - N : Nat) : Int) <= 100000 := by omega
   have u3 : (0 : Int) <= ((o.cr - N : Nat) : Int) := by omega
   have u4 : (0 : Int) <= ((e.all - N : Nat) : Int) := by omega
   have u5 : (o.cr : Int) <= 100000 := by omega
   have u6 : (e.all : Int) <= 100000 := by omega
   rw [hy1.2.2.2] at s9
   have hO8 : Only (aI b p) w wc := (Only.of_below (uh HBW) _).trans t8.CG (fun _ x _ => x)
   have jD := hide (⟨s9, hO8.trans t9 (fun _ x _ => x)⟩ : _ ∧ _)
   clear hO8
   have hgb' : b ≠ g8 := Ne.symm hgb
   have hne1 : ¬ w.heap.size = b := Ne.symm hbn
   have hne2 : ¬ w.heap.size = g8 := Ne.symm hgn
   generalize ((o.cr - N : Nat) : Int) = CN at *
   generalize ((e.all - N : Nat) : Int) = AN at *
   generalize (o.cr : Int) = CR at *
   generalize (e.all : Int) = AL at *
   clear s8 t8 s9 t9 hb8 ho8 hY hy1 hw8 HW8 qz qv q3 q0 Rj HF8 HF9 o0 o1 o2 c8 d6 f1 f2 f3 f8 f10 x3W HZ HND HMO HFR HBX
   go_wp2_with fail
   go_region
   go_wp2_with fail
   go_region
   go_wp2_with fail
   go_region_with (first | (go_at_call 56; refine (uh HPK _).mono ?_; rintro r w9 ⟨rfl, hb9⟩))
   all_goals
    have HB9 := hide hb9
    clear hb9
    go_wp2_with fail
    go_ret
    obtain ⟨s9, t9⟩ := uh jD
    exact ⟨rfl, p, s9.below (sW (uh HB9)), fun _ x => .inl x, t9.below (sW (uh HB9))⟩
end Go.Proofs.YtbkpdapagfjmmaaGreatDoor
