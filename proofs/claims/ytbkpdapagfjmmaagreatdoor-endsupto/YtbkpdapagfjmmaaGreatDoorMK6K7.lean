import Derived.Test.YtbkpdapagfjmmaaGreatDoorMSpec21K5
set_option linter.unusedVariables false
set_option maxRecDepth 100000
set_option maxHeartbeats 16000000
namespace Go.Proofs.YtbkpdapagfjmmaaGreatDoor
open Go.RowKit
variable {κ : Prop}
theorem REnd.oth7 {w : World} {b : Nat} {e : Lk.En} {p : RP} (h : REnd κ w b e p) {i : Nat} {x : Lk.Ot} (hx : e.oth[i]? = some x) : ∃ g cap, w.cell? ⟨b, 7, none⟩ = some (.slice (some ⟨g, 0, none⟩) e.oth.length cap) ∧ p.tv = .slice (some ⟨g, 0, none⟩) e.oth.length cap ∧ g < w.heap.size ∧ e.oth.length ≤ cap ∧ b < w.heap.size ∧ w.cell? ⟨g, i * 5 + 1, none⟩ = some (.int .i64 (x.cr : Int)) ∧ w.cell? ⟨g, i * 5 + 2, none⟩ = some (.int .i64 (x.held : Int)) ∧ w.cell? ⟨g, i * 5 + 3, none⟩ = some (.bool x.opn) ∧ w.cell? ⟨g, i * 5 + 4, none⟩ = some (.bool x.drp) ∧ (∀ j, w.frozen? ⟨g, j, none⟩ = false) ∧ g ≠ b := by
  obtain ⟨g, cap, y0, y1, y2, y3, y4, y5, y6, y7, y8, y9⟩ := h.atOth hx
  have hc : w.cell? ⟨b, 7, none⟩ = some p.tv := h.blk.cell 7
  rw [y0] at hc
  exact ⟨g, cap, hc, y0, y1, y2, h.blk.lt, y4, y5, y6, y7, y8, y9⟩
theorem REnd.own6 {w : World} {b : Nat} {e : Lk.En} {p : RP} (h : REnd κ w b e p) {i : Nat} {x : Lk.Ow} (hx : e.own[i]? = some x) : ∃ g cap, w.cell? ⟨b, 6, none⟩ = some (.slice (some ⟨g, 0, none⟩) e.own.length cap) ∧ p.wv = .slice (some ⟨g, 0, none⟩) e.own.length cap ∧ g < w.heap.size ∧ e.own.length ≤ cap ∧ b < w.heap.size ∧ w.cell? ⟨g, i * 4, none⟩ = some (.int .i64 (x.id : Int)) ∧ w.cell? ⟨g, i * 4 + 1, none⟩ = some (.string (bs x.left)) ∧ w.cell? ⟨g, i * 4 + 2, none⟩ = some (.int .i64 (x.cr : Int)) ∧ w.cell? ⟨g, i * 4 + 3, none⟩ = some (.bool x.done) ∧ (∀ j, w.frozen? ⟨g, j, none⟩ = false) ∧ g ≠ b := by
  obtain ⟨g, cap, y0, y1, y2, y3, y4, y5, y6, y7, y8⟩ := h.atOwn hx
  have hc : w.cell? ⟨b, 6, none⟩ = some p.wv := h.blk.cell 6
  rw [y0] at hc
  exact ⟨g, cap, hc, y0, y1, y2, h.blk.lt, y3, y4, y5, y6, y7, y8⟩
theorem rreset_own (b : Nat) (e : Lk.En) (p : RP) (k c : Int) (i : Nat) (o : Lk.Ow) (w : World) (h : REnd κ w b e p) (hw : Lk.Wf e) (hl : e.row.length ≤ 2 ^ 41) (hd : e.down = 0) (hc : ¬ (c < 0 ∨ 268435455 < c)) (hix : Lk.ownIx e.own k = some i) (ho : e.own[i]? = some o) (hnd : o.done = false) :
    Calls Tryz.prog 112 #[.pointer (some ⟨b, 0, none⟩), .int .i64 k, .int .i64 c] w fun r w' => r = .returned (.int .i64 0) ∧ RPost κ w b p (({ e with own := e.own.set i { o with done := true } } : Lk.En).send 3 o.id (Lk.wire c.toNat)) w' := by
  have c13 : w.cell? ⟨b, 13, none⟩ = some (.int .i64 (e.down : Int)) := h.blk.cell 13
  have hd' := dn_no hd
  have holen := hw.ownLen
  have HOW := hide (rown_any b e p k w h (by omega))
  rw [hix] at HOW
  have hok := hw.own i o ho
  obtain ⟨o', ho', hid⟩ := Lk.ownIx_some hix
  have e0 : o' = o := by rw [ho] at ho'; exact (Option.some.inj ho').symm
  subst e0
  have hi : i < e.own.length := (List.getElem?_eq_some_iff.1 ho).1
  obtain ⟨g, cap, c6, hv, hgl, hcap, hbl, x0, x1, x2, x3, hfz, hgb⟩ := h.own6 ho
  rw [hnd] at x3
  have hi' : (i : Int) < e.own.length := by omega
  have hi0 : (0 : Int) ≤ i := by omega
  obtain ⟨s1, s1o⟩ := h.setOwn ho hv 3 (.bool true) { o' with done := true } (by omega) rfl
  obtain ⟨m, rfl⟩ : ∃ m : Nat, c = m := ⟨c.toNat, by omega⟩
  rw [Int.toNat_natCast]
  have hm : m ≤ 268435455 := by omega
  have hm1 : ¬ (m : Int) < 0 := by omega
  have hm2 : ¬ (268435455 : Int) < m := by omega
  have hid0 : 0 < o'.id := by have := hok.id; omega
  have HNUM := hide (fun W => rnumber_at m (m : Int) W rfl hm)
  have HS := hide (fun W hb => rsend_any b { e with own := e.own.set i { o' with done := true } } p 3 o'.id (Lk.wire m) W (s1.below hb) (Lk.good_reset o'.id m hid0 hok.id28 hm) (by show e.row.length ≤ _; omega))
  have HO := hide s1o
  have fg := hfz (i * 4 + 3)
  have hgb' : b ≠ g := Ne.symm hgb
  subst hid
  generalize (e.down : Int) = DN at *
  clear h hd hv hfz s1 s1o hok hw ho ho' hix hnd hc x0 x1 x2
  go_enter Tryz.func112, Tryz.ntmps112
  go_wp2_with fail
  refine (uh HOW).mono ?_
  rintro r w1 ⟨rfl, rfl⟩
  simp only [ixO]
  go_wp2_with fail
  refine (uh HNUM _).mono ?_
  rintro r w3 ⟨rfl, hb3⟩
  have HS3 := hide (uh HS w3 hb3)
  have HB := hide hb3
  clear hb3
  go_wp2_with fail
  refine (uh HS3).mono ?_
  rintro r w4 ⟨rfl, hP⟩
  have HF := hide (RPost.on (uh HO) (RPost.before (uh HB) hP))
  clear hP
  go_wp2_with fail
  go_ret
  exact ⟨rfl, uh HF⟩
def ownUp (e : Lk.En) (k : Int) : Prop := ∃ i o, Lk.ownIx e.own k = some i ∧ e.own[i]? = some o ∧ o.done = false
theorem rreset_oth (b : Nat) (e : Lk.En) (p : RP) (k c : Int) (w : World) (h : REnd κ w b e p) (hw : Lk.Wf e) (hl : e.row.length ≤ 2 ^ 41) (hd : e.down = 0) (hc : ¬ (c < 0 ∨ 268435455 < c)) (hno : ∀ i o, Lk.ownIx e.own k = some i → e.own[i]? = some o → o.done = true) (R : Nat) (E : Lk.En)
    (hR : (∃ i o, Lk.othIx e.oth k = some i ∧ e.oth[i]? = some o ∧ o.opn = true ∧ R = 0 ∧ E = ((({ e with oth := e.oth.set i { o with opn := false, drp := true, held := 0 } } : Lk.En).send 3 o.id (Lk.wire c.toNat)).back o.held)) ∨ ((∀ i o, Lk.othIx e.oth k = some i → e.oth[i]? = some o → o.opn = false) ∧ R = 14 ∧ E = e)) :
    Calls Tryz.prog 112 #[.pointer (some ⟨b, 0, none⟩), .int .i64 k, .int .i64 c] w fun r w' => r = .returned (.int .i64 (R : Int)) ∧ RPost κ w b p E w' := by
  have c13 : w.cell? ⟨b, 13, none⟩ = some (.int .i64 (e.down : Int)) := h.blk.cell 13
  have hd' := dn_no hd
  have holen := hw.ownLen
  have htlen := hw.othLen
  have HOW := hide (rown_any b e p k w h (by omega))
  have HOT := hide (fun W (hR : REnd κ W b e p) => rother_any b e p k W hR (by omega))
  obtain ⟨m, rfl⟩ : ∃ m : Nat, c = m := ⟨c.toNat, by omega⟩
  rw [Int.toNat_natCast] at hR
  have hm : m ≤ 268435455 := by omega
  have hm1 : ¬ (m : Int) < 0 := by omega
  have hm2 : ¬ (268435455 : Int) < m := by omega
  have hbl := h.blk.lt
  have hown : ∃ z : Int, ixO (Lk.ownIx e.own k) = z ∧ (z < 0 ∨ ∃ i : Nat, z = i ∧ (i : Int) < e.own.length ∧ ∃ g cap, w.cell? ⟨b, 6, none⟩ = some (.slice (some ⟨g, 0, none⟩) e.own.length cap) ∧ g < w.heap.size ∧ e.own.length ≤ cap ∧ w.cell? ⟨g, i * 4 + 3, none⟩ = some (.bool true)) := by
    cases hx : Lk.ownIx e.own k with
    | none => exact ⟨-1, rfl, .inl (by omega)⟩
    | some i =>
      obtain ⟨o, ho, _⟩ := Lk.ownIx_some hx
      have hi : i < e.own.length := (List.getElem?_eq_some_iff.1 ho).1
      obtain ⟨g, cap, c6, hv, hgl, hcap, hbl, x0, x1, x2, x3, hfz, hgb⟩ := h.own6 ho
      rw [hno i o hx ho] at x3
      exact ⟨i, rfl, .inr ⟨i, rfl, by omega, g, cap, c6, hgl, hcap, x3⟩⟩
  obtain ⟨z, hz, hown⟩ := hown
  rw [hz] at HOW
  have HE := hide h
  have HOWN := hide hown
  have HRR := hide hR
  generalize (e.down : Int) = DN at *
  clear h hd hno hR hz hown hc
  go_enter Tryz.func112, Tryz.ntmps112
  go_wp2_with fail
  refine (uh HOW).mono ?_
  rintro r w1 ⟨rfl, rfl⟩
  go_upto_region 6 with fail
  go_cut [35] (fun s35 wx => s35 = .bool false ∧ wx = w1)
  case first =>
    rcases uh HOWN with hz0 | ⟨i, rfl, hi, g, cap, c6, hgl, hcap, x3⟩
    · have hz0' : ¬ (0 : Int) ≤ z := by omega
      go_wp2_with fail
      go_meet
      exact ⟨rfl, rfl⟩
    · have hi0 : (0 : Int) ≤ i := by omega
      go_wp2_with fail
      go_meet
      exact ⟨rfl, rfl⟩
  case rest =>
    obtain ⟨rfl, rfl⟩ := hcut
    have h := uh HE
    rcases uh HRR with ⟨i, o, hix, ho, hop, rfl, rfl⟩ | ⟨hno2, rfl, hEE⟩
    · have HO1 := hide (uh HOT wc h)
      rw [hix] at HO1
      have hok := hw.oth i o ho
      have hroom := hw.room
      have hw2 := hw.win2
      have hcr := hok.cr
      obtain ⟨o', ho', hid⟩ := Lk.othIx_some hix
      have e0 : o' = o := by rw [ho] at ho'; exact (Option.some.inj ho').symm
      subst e0
      have hi : i < e.oth.length := (List.getElem?_eq_some_iff.1 ho).1
      obtain ⟨g, cap, c7, hv, hgl, hcap, _, x1, x2, x3, x4, hfz, hgb⟩ := h.oth7 ho
      rw [hop] at x3
      have hi' : (i : Int) < e.oth.length := by omega
      have hi0 : (0 : Int) ≤ i := by omega
      have hid0 : 0 < o'.id := by have := hok.id; have := hw.side; omega
      obtain ⟨s1, s1o⟩ := h.setOth ho hv 3 (.bool false) { o' with opn := false } (by omega) rfl
      have ho1 : ({ e with oth := e.oth.set i { o' with opn := false } } : Lk.En).oth[i]? = some { o' with opn := false } := List.getElem?_set_self hi
      have hv1 : p.tv = .slice (some ⟨g, 0, none⟩) ({ e with oth := e.oth.set i { o' with opn := false } } : Lk.En).oth.length cap := by rw [hv]; simp
      obtain ⟨s2, s2o⟩ := s1.setOth ho1 hv1 4 (.bool true) { o' with opn := false, drp := true } (by omega) rfl
      have hE2 : ({ ({ e with oth := e.oth.set i { o' with opn := false } } : Lk.En) with oth := ({ e with oth := e.oth.set i { o' with opn := false } } : Lk.En).oth.set i { o' with opn := false, drp := true } } : Lk.En) = { e with oth := e.oth.set i { o' with opn := false, drp := true } } := by simp [List.set_set]
      rw [hE2] at s2
      have HNUM := hide (fun W => rnumber_at m (m : Int) W rfl hm)
      have HS := hide (fun W hb => rsend_any b { e with oth := e.oth.set i { o' with opn := false, drp := true } } p 3 o'.id (Lk.wire m) W (s2.below hb) (Lk.good_reset o'.id m hid0 hok.id28 hm) (by show e.row.length ≤ _; omega))
      have HO := hide (s1o.trans s2o (fun _ x _ => x))
      have HAF : Hid (∀ w4 p4, REnd κ w4 b (({ e with oth := e.oth.set i { o' with opn := false, drp := true } } : Lk.En).send 3 o'.id (Lk.wire m)) p4 → ∃ g4 cap4, w4.cell? ⟨b, 7, none⟩ = some (.slice (some ⟨g4, 0, none⟩) e.oth.length cap4) ∧ g4 < w4.heap.size ∧ e.oth.length ≤ cap4 ∧ b < w4.heap.size ∧ w4.cell? ⟨g4, i * 5 + 2, none⟩ = some (.int .i64 (o'.held : Int))) := by
        intro w4 p4 h4
        have ho4 : (({ e with oth := e.oth.set i { o' with opn := false, drp := true } } : Lk.En).send 3 o'.id (Lk.wire m)).oth[i]? = some { o' with opn := false, drp := true } := List.getElem?_set_self hi
        obtain ⟨g4, cap4, y0, y1, y2, y3, y4, y5, y6, y7, y8, y9, y10⟩ := h4.oth7 ho4
        have hle : (({ e with oth := e.oth.set i { o' with opn := false, drp := true } } : Lk.En).send 3 o'.id (Lk.wire m)).oth.length = e.oth.length := by show (e.oth.set i _).length = _; rw [List.length_set]
        rw [hle] at y0 y3
        exact ⟨g4, cap4, y0, y2, y3, y4, y6⟩
      have HBK := hide (fun W p4 (hR : REnd κ W b _ p4) => rback_any b (({ e with oth := e.oth.set i { o' with opn := false, drp := true } } : Lk.En).send 3 o'.id (Lk.wire m)) p4 o'.held W hR (by omega) (by show e.room ≤ _; omega) (by show (e.row ++ [_]).length ≤ _; rw [List.length_append, List.length_singleton]; omega))
      have HBF : Hid (∀ w5 p5, REnd κ w5 b ((({ e with oth := e.oth.set i { o' with opn := false, drp := true } } : Lk.En).send 3 o'.id (Lk.wire m)).back o'.held) p5 → ∃ g5 cap5, w5.cell? ⟨b, 7, none⟩ = some (.slice (some ⟨g5, 0, none⟩) e.oth.length cap5) ∧ g5 < w5.heap.size ∧ e.oth.length ≤ cap5 ∧ b < w5.heap.size ∧ w5.cell? ⟨g5, i * 5 + 2, none⟩ = some (.int .i64 (o'.held : Int)) ∧ w5.frozen? ⟨g5, i * 5 + 2, none⟩ = false ∧ RPost κ w5 b p5 ((({ e with oth := e.oth.set i { o' with opn := false, drp := true, held := 0 } } : Lk.En).send 3 o'.id (Lk.wire m)).back o'.held) (w5.setCell ⟨g5, i * 5 + 2, none⟩ (.int .i64 0))) := by
        intro w5 p5 h5
        have hoth : ((({ e with oth := e.oth.set i { o' with opn := false, drp := true } } : Lk.En).send 3 o'.id (Lk.wire m)).back o'.held).oth = e.oth.set i { o' with opn := false, drp := true } := by rw [Lk.back_oth]; rfl
        have ho5 : ((({ e with oth := e.oth.set i { o' with opn := false, drp := true } } : Lk.En).send 3 o'.id (Lk.wire m)).back o'.held).oth[i]? = some { o' with opn := false, drp := true } := by rw [hoth]; exact List.getElem?_set_self hi
        obtain ⟨g5, cap5, y0, y1, y2, y3, y4, y5, y6, y7, y8, y9, y10⟩ := h5.oth7 ho5
        obtain ⟨t1, t2⟩ := h5.setOth ho5 y1 2 (.int .i64 0) { o' with opn := false, drp := true, held := 0 } (by omega) rfl
        have hle : ((({ e with oth := e.oth.set i { o' with opn := false, drp := true } } : Lk.En).send 3 o'.id (Lk.wire m)).back o'.held).oth.length = e.oth.length := by rw [hoth, List.length_set]
        rw [hle] at y0 y3
        refine ⟨g5, cap5, y0, y2, y3, y4, y6, y9 _, p5, ?_, fun _ x => .inl x, t2⟩
        have hE : ({ ((({ e with oth := e.oth.set i { o' with opn := false, drp := true } } : Lk.En).send 3 o'.id (Lk.wire m)).back o'.held) with oth := ((({ e with oth := e.oth.set i { o' with opn := false, drp := true } } : Lk.En).send 3 o'.id (Lk.wire m)).back o'.held).oth.set i { o' with opn := false, drp := true, held := 0 } } : Lk.En) = (({ e with oth := e.oth.set i { o' with opn := false, drp := true, held := 0 } } : Lk.En).send 3 o'.id (Lk.wire m)).back o'.held := by
          unfold Lk.En.back
          split <;> simp [Lk.En.send, List.set_set]
        rw [hE] at t1
        exact t1
      have f3 := hfz (i * 5 + 3)
      have f4 := hfz (i * 5 + 4)
      have hgb' : b ≠ g := Ne.symm hgb
      subst hid
      clear h hv hfz s1 s1o s2 s2o hok hroom hw hw2 hcr ho ho' ho1 hv1 hE2 hix hop HE HRR HOWN HOW HOT x1 x2
      go_wp2_with fail
      refine (uh HO1).mono ?_
      rintro r w2 ⟨rfl, rfl⟩
      simp only [ixO]
      go_wp2_with fail
      refine (uh HNUM _).mono ?_
      rintro r w3 ⟨rfl, hb3⟩
      have HS3 := hide (uh HS w3 hb3)
      have HB := hide hb3
      clear hb3
      go_wp2_with fail
      refine (uh HS3).mono ?_
      rintro r w4 ⟨rfl, hP⟩
      obtain ⟨p4, h4, h4f, h4o⟩ := RPost.on (uh HO) (RPost.before (uh HB) hP)
      obtain ⟨g4, cap4, z1, z2, z3, z4, z5⟩ := uh HAF w4 p4 h4
      have HB4 := hide (uh HBK w4 p4 h4)
      have HX4 := hide (⟨h4f, h4o⟩ : _ ∧ _)
      clear hP h4 h4f h4o HS3 HB
      go_wp2_with fail
      refine (uh HB4).mono ?_
      rintro r w5 ⟨rfl, hP⟩
      obtain ⟨h4f, h4o⟩ := uh HX4
      obtain ⟨p5, h5, h5f, h5o⟩ := RPost.trans h4f h4o hP
      obtain ⟨g5, cap5, y1, y2, y3, y4, y5, y6, y7⟩ := uh HBF w5 p5 h5
      have HF := hide (RPost.trans h5f h5o y7)
      clear hP h4f h4o h5 h5f h5o y7 z1 z2 z3 z4 z5
      go_wp2_with fail
      go_ret
      exact ⟨rfl, uh HF⟩
    · have HEE := hide hEE
      clear hEE
      have HO1 := hide (uh HOT wc h)
      have hoth : ∃ z2 : Int, ixO (Lk.othIx e.oth k) = z2 ∧ (z2 < 0 ∨ ∃ i : Nat, z2 = i ∧ (i : Int) < e.oth.length ∧ ∃ g cap, wc.cell? ⟨b, 7, none⟩ = some (.slice (some ⟨g, 0, none⟩) e.oth.length cap) ∧ g < wc.heap.size ∧ e.oth.length ≤ cap ∧ wc.cell? ⟨g, i * 5 + 3, none⟩ = some (.bool false)) := by
        cases hx : Lk.othIx e.oth k with
        | none => exact ⟨-1, rfl, .inl (by omega)⟩
        | some i =>
          obtain ⟨o, ho, _⟩ := Lk.othIx_some hx
          have hi : i < e.oth.length := (List.getElem?_eq_some_iff.1 ho).1
          obtain ⟨g, cap, c7, hv, hgl, hcap, _, x1, x2, x3, x4, hfz, hgb⟩ := h.oth7 ho
          rw [hno2 i o hx ho] at x3
          exact ⟨i, rfl, .inr ⟨i, rfl, by omega, g, cap, c7, hgl, hcap, x3⟩⟩
      obtain ⟨z2, hz2, hoth⟩ := hoth
      rw [hz2] at HO1
      have HF := hide (RPost.same h)
      clear h hz2 hno2 HE HRR HOWN HOW HOT
      go_wp2_with fail
      refine (uh HO1).mono ?_
      rintro r w2 ⟨rfl, rfl⟩
      rcases hoth with hz0 | ⟨i, rfl, hi, g, cap, c7, hgl, hcap, x3⟩
      · go_wp2_with fail
        go_ret
        exact ⟨rfl, by rw [uh HEE]; exact uh HF⟩
      · have hi0 : ¬ (i : Int) < 0 := by omega
        go_wp2_with fail
        go_ret
        exact ⟨rfl, by rw [uh HEE]; exact uh HF⟩
theorem rreset_any (b : Nat) (e : Lk.En) (p : RP) (k c : Int) (w : World) (h : REnd κ w b e p) (hw : Lk.Wf e) (hl : e.row.length ≤ 2 ^ 41) :
    Calls Tryz.prog 112 #[.pointer (some ⟨b, 0, none⟩), .int .i64 k, .int .i64 c] w fun r w' => r = .returned (.int .i64 ((e.resetC k c).1 : Int)) ∧ RPost κ w b p (e.resetC k c).2 w' := by
  unfold Lk.En.resetC
  by_cases hd : e.down = 0
  · rw [if_neg (by rw [hd]; simp)]
    by_cases hc : c < 0 ∨ 268435455 < c
    · rw [if_pos hc]
      have c13 : w.cell? ⟨b, 13, none⟩ = some (.int .i64 (e.down : Int)) := h.blk.cell 13
      have hbl := h.blk.lt
      have hd' := dn_no hd
      have HSM := hide (RPost.same h)
      generalize (e.down : Int) = DN at *
      by_cases hc0 : c < 0
      · clear h hd hc
        go_enter Tryz.func112, Tryz.ntmps112
        go_wp2_with fail
        go_ret
        exact ⟨rfl, uh HSM⟩
      · have hc1 : (268435455 : Int) < c := by omega
        clear h hd hc
        go_enter Tryz.func112, Tryz.ntmps112
        go_wp2_with fail
        go_ret
        exact ⟨rfl, uh HSM⟩
    · rw [if_neg hc]
      cases hx : (Lk.ownIx e.own k).bind fun i => (e.own[i]?).bind fun o => if o.done then none else some (i, o) with
      | some r =>
        obtain ⟨i, o⟩ := r
        obtain ⟨j, hj1, hj⟩ := Option.bind_eq_some_iff.1 hx
        obtain ⟨o', ho', hj⟩ := Option.bind_eq_some_iff.1 hj
        split at hj
        · cases hj
        · rename_i hnd
          cases hj
          exact rreset_own b e p k c i o w h hw hl hd hc hj1 ho' (by simpa using hnd)
      | none =>
        simp only
        have hno : ∀ i o, Lk.ownIx e.own k = some i → e.own[i]? = some o → o.done = true := fun i o h1 h2 => by
          rw [h1] at hx
          simp only [Option.bind_some, h2] at hx
          cases hdn : o.done with
          | true => rfl
          | false => rw [hdn] at hx; simp at hx
        cases hy : (Lk.othIx e.oth k).bind fun i => (e.oth[i]?).bind fun o => if o.opn then some (i, o) else none with
        | some r =>
          obtain ⟨i, o⟩ := r
          obtain ⟨j, hj1, hj⟩ := Option.bind_eq_some_iff.1 hy
          obtain ⟨o', ho', hj⟩ := Option.bind_eq_some_iff.1 hj
          split at hj
          · rename_i hop
            cases hj
            exact rreset_oth b e p k c w h hw hl hd hc hno _ _ (.inl ⟨i, o, hj1, ho', hop, rfl, rfl⟩)
          · cases hj
        | none =>
          refine rreset_oth b e p k c w h hw hl hd hc hno _ _ (.inr ⟨fun i o h1 h2 => ?_, rfl, rfl⟩)
          rw [h1] at hy
          simp only [Option.bind_some, h2] at hy
          cases hop : o.opn with
          | false => rfl
          | true => rw [hop] at hy; simp at hy
  · rw [if_pos hd]
    have c13 : w.cell? ⟨b, 13, none⟩ = some (.int .i64 (e.down : Int)) := h.blk.cell 13
    have hbl := h.blk.lt
    have hd' := dn_yes hd
    have HSM := hide (RPost.same h)
    generalize (e.down : Int) = DN at *
    clear h hd
    go_enter Tryz.func112, Tryz.ntmps112
    go_wp2_with fail
    go_ret
    exact ⟨rfl, uh HSM⟩
end Go.Proofs.YtbkpdapagfjmmaaGreatDoor

namespace Go.Proofs.YtbkpdapagfjmmaaGreatDoor
open Go.RowKit
variable {κ : Prop}
theorem below_dnK {B : Nat} {w w1 : World} (h : Below B w w1) (n : Nat) : Below B w (w1.drewN n) := ⟨h.os, h.tape, h.output, h.size, h.block⟩
theorem bs_empty {l : Lk.Bs} (h : l = []) : bs l = ⟨#[]⟩ := by rw [h]; rfl
theorem rmay_any (b : Nat) (e : Lk.En) (p : RP) (i : Nat) (o : Lk.Ow) (w : World) (h : REnd κ w b e p) (ho : e.own[i]? = some o) :
    Calls Tryz.prog 158 #[.pointer (some ⟨b, 0, none⟩), .int .i64 (i : Int)] w fun r w' => r = .returned (.bool (e.may o)) ∧ Below w.heap.size w w' := by
  have hi : i < e.own.length := (List.getElem?_eq_some_iff.1 ho).1
  obtain ⟨g, cap, c6, hv, hgl, hcap, hbl, x0, x1, x2, x3, hfz, hgb⟩ := h.own6 ho
  have c8 : w.cell? ⟨b, 8, none⟩ = some (.int .i64 (e.all : Int)) := h.blk.cell 8
  have hi' : (i : Int) < e.own.length := by omega
  have hb := (Below.refl w.heap.size w).alloc (Nat.le_refl _) (.cells #[.int .i64 (o.id : Int), .string (bs o.left), .int .i64 (o.cr : Int), .bool o.done] 258)
  have HB := hide hb
  unfold Lk.En.may
  clear h hv hfz hb
  cases hdn : o.done with
  | true =>
    rw [hdn] at x3 HB
    go_enter Tryz.func158, Tryz.ntmps158
    go_wp2_with fail
    go_ret
    exact ⟨rfl, uh HB⟩
  | false =>
    rw [hdn] at x3 HB
    by_cases hle : o.left = []
    · have hb0 := bs_empty hle
      rw [hle]
      rw [hb0] at x1 HB
      clear hle hb0
      go_enter Tryz.func158, Tryz.ntmps158
      go_wp2_with fail
      go_ret
      exact ⟨rfl, uh HB⟩
    · have hb0 : (bs o.left).toList.isEmpty = false := by rw [ByteArray.toList_eq]; simpa [bs] using hle
      have hemp : o.left.isEmpty = false := by simpa using hle
      rw [hemp]
      by_cases h1 : 0 < o.cr
      · have h1' : (0 : Int) < o.cr := by omega
        by_cases h2 : 0 < e.all
        · have h2' : (0 : Int) < e.all := by omega
          simp only [h1, h2]
          generalize (o.cr : Int) = CR at *
          generalize (e.all : Int) = AL at *
          clear hle h1 h2
          go_enter Tryz.func158, Tryz.ntmps158
          go_wp2_with fail
          go_ret
          exact ⟨rfl, uh HB⟩
        · have h2' : ¬ (0 : Int) < e.all := by omega
          simp only [h1, h2]
          generalize (o.cr : Int) = CR at *
          generalize (e.all : Int) = AL at *
          clear hle h1 h2
          go_enter Tryz.func158, Tryz.ntmps158
          go_wp2_with fail
          go_ret
          exact ⟨rfl, uh HB⟩
      · have h1' : ¬ (0 : Int) < o.cr := by omega
        simp only [h1]
        generalize (o.cr : Int) = CR at *
        generalize (e.all : Int) = AL at *
        clear hle h1
        go_enter Tryz.func158, Tryz.ntmps158
        go_wp2_with fail
        go_ret
        exact ⟨rfl, uh HB⟩
theorem next_one {e : Lk.En} {i : Nat} {o : Lk.Ow} (ho : e.own[i]? = some o) (hm : e.may o = true) (ht : e.turn < o.id) (hn : ∀ j x, j < i → e.own[j]? = some x → ¬ (e.may x = true ∧ e.turn < x.id)) : e.next = some i := by
  unfold Lk.En.next
  have hi : i < e.own.length := (List.getElem?_eq_some_iff.1 ho).1
  have : e.own.findIdx? (fun o => e.may o && decide (e.turn < o.id)) = some i := by
    rw [List.findIdx?_eq_some_iff_getElem]
    have e0 : e.own[i] = o := (List.getElem?_eq_some_iff.1 ho).2
    refine ⟨hi, by rw [e0]; simp [hm, ht], fun j hj => ?_⟩
    have := hn j e.own[j] hj (List.getElem?_eq_getElem (by omega))
    simpa using this
  rw [this]
theorem next_none1 {e : Lk.En} (hn : ∀ (j : Nat) (x : Lk.Ow), e.own[j]? = some x → ¬ (e.may x = true ∧ e.turn < x.id)) : e.next = e.own.findIdx? e.may := by
  unfold Lk.En.next
  have : e.own.findIdx? (fun o => e.may o && decide (e.turn < o.id)) = none := by
    rw [List.findIdx?_eq_none_iff]
    intro o ho
    obtain ⟨j, hj⟩ := List.getElem?_of_mem ho
    have := hn j o hj
    simpa using this
  rw [this]
theorem rturn_any (b : Nat) (e : Lk.En) (p : RP) (w : World) (h : REnd κ w b e p) (hw : Lk.Wf e) :
    Calls Tryz.prog 106 #[.pointer (some ⟨b, 0, none⟩)] w fun r w' => r = .returned (.int .i64 (ixO e.next)) ∧ Below w.heap.size w w' := by
  have holen := hw.ownLen
  have HE := hide h
  obtain ⟨va, vc, hv⟩ := row_form h.own
  have HV := hide hv
  have HC : Hid (∀ wr, Below w.heap.size w wr → wr.cell? ⟨b, 6, none⟩ = some (.slice va e.own.length vc) ∧ wr.cell? ⟨b, 10, none⟩ = some (.int .i64 (e.turn : Int)) ∧ b < wr.heap.size ∧ w.heap.size ≤ wr.heap.size) := fun wr hb => by
    have h1 := (h.below hb).blk
    have c6 : wr.cell? ⟨b, 6, none⟩ = some p.wv := h1.cell 6
    rw [hv] at c6
    exact ⟨c6, h1.cell 10, h1.lt, hb.size⟩
  clear h hw hv
  go_enter Tryz.func106, Tryz.ntmps106
  go_wp2_with fail
  go_loopw [3] (fun u wr => ∃ i : Nat, i ≤ e.own.length ∧ u = .int .i64 i ∧ Hid (Below w.heap.size w wr ∧ ∀ j x, j < i → e.own[j]? = some x → ¬ (e.may x = true ∧ e.turn < x.id))) (fun u _ => e.own.length - (intOf u).toNat)
  case atStart => exact ⟨0, Nat.zero_le _, rfl, Below.refl _ _, fun j x hj => by omega⟩
  case round =>
    obtain ⟨i, hi, rfl, HN⟩ := hrel
    obtain ⟨hbw, hn⟩ := uh HN
    obtain ⟨c6, c10, hbl, hws⟩ := uh HC wr hbw
    by_cases hlt : i < e.own.length
    · have hlt' : (i : Int) < e.own.length := by omega
      have ho : e.own[i]? = some e.own[i] := List.getElem?_eq_getElem hlt
      generalize e.own[i] = o at ho
      have HM := hide (rmay_any b e p i o wr ((uh HE).below hbw) ho)
      have HNX : Hid (∀ i', i' = i + 1 → ¬ (e.may o = true ∧ e.turn < o.id) → ∀ j x, j < i' → e.own[j]? = some x → ¬ (e.may x = true ∧ e.turn < x.id)) := fun i' hi' hno j x hj hx => by
        by_cases hji : j = i
        · subst hji
          rw [ho] at hx
          cases hx
          exact hno
        · exact hn j x (by omega) hx
      have HF : Hid (e.may o = true → e.turn < o.id → e.next = some i) := fun h1 h2 => next_one ho h1 h2 hn
      have HAT : Hid (∀ w1, Below w.heap.size w w1 → ∃ g cap, va = some ⟨g, 0, none⟩ ∧ vc = cap ∧ e.own.length ≤ cap ∧ g < w1.heap.size ∧ w1.cell? ⟨g, i * 4, none⟩ = some (.int .i64 (o.id : Int))) := fun w1 hb1 => by
        obtain ⟨g, cap, c6, hv, hgl, hcap, _, x0, _⟩ := ((uh HE).below hb1).own6 ho
        have hv2 := uh HV
        rw [hv] at hv2
        injection hv2 with k1 k2 k3
        exact ⟨g, cap, k1.symm, k3.symm, hcap, hgl, x0⟩
      have HBW := hide hbw
      generalize hmo : e.may o = mo at *
      clear hn hbw HN ho hmo
      go_wp2_with fail
      refine (uh HM).mono ?_
      rintro r w1 ⟨rfl, hb1⟩
      have hb2 := (uh HBW).trans (hb1.mono hws)
      obtain ⟨d6, d10, dbl, dws⟩ := uh HC w1 hb2
      obtain ⟨g, cap, rfl, rfl, hcap, hgl, x0⟩ := uh HAT w1 hb2
      have HB2 := hide hb2
      clear hb1 hb2 c6 c10 hbl
      cases mo with
      | false =>
        have HR := hide (uh HNX _ rfl (fun z => by cases z.1))
        go_wp2_with fail
        go_quiet (fail)
        go_wp2_with fail
        go_roundw
        case rel => exact ⟨i + 1, by omega, by go_num, below_dnK (uh HB2) _, uh HR⟩
        case measure => simp [intOf]; omega
      | true =>
        by_cases ht : e.turn < o.id
        · have ht' : (e.turn : Int) < o.id := by omega
          have HF2 := hide (uh HF rfl ht)
          generalize (e.turn : Int) = TU at *
          generalize (o.id : Int) = ID at *
          clear ht HF HNX HAT
          go_wp2_with fail
          go_quiet (fail)
          go_wp2_with fail
          go_ret
          exact ⟨by rw [uh HF2]; rfl, below_dnK (uh HB2) _⟩
        · have ht' : decide ((e.turn : Int) < o.id) = false := by simp; omega
          have HR := hide (uh HNX _ rfl (fun z => ht z.2))
          generalize (e.turn : Int) = TU at *
          generalize (o.id : Int) = ID at *
          clear ht HF HNX HAT
          go_wp2_with fail
          go_quiet (fail)
          go_wp2_with fail
          go_roundw
          case rel => exact ⟨i + 1, by omega, by go_num, below_dnK (uh HB2) _, uh HR⟩
          case measure => simp [intOf]; omega
    · have hlt' : ¬ (i : Int) < e.own.length := by omega
      have HNX := hide (next_none1 (fun j x hx => hn j x (by have := (List.getElem?_eq_some_iff.1 hx).1; omega) hx))
      have HB0 := hide hbw
      clear hn hbw HN
      go_wp2_with fail
      go_loopw [5] (fun u wr => ∃ i : Nat, i ≤ e.own.length ∧ u = .int .i64 i ∧ Hid (Below w.heap.size w wr ∧ ∀ j x, j < i → e.own[j]? = some x → e.may x = false)) (fun u _ => e.own.length - (intOf u).toNat)
      case atStart => exact ⟨0, Nat.zero_le _, rfl, uh HB0, fun j x hj => by omega⟩
      case round =>
        clear HB0
        obtain ⟨i, hi, rfl, HN⟩ := hrel
        obtain ⟨hbw, hn⟩ := uh HN
        obtain ⟨c6, c10, hbl, hws⟩ := uh HC wr hbw
        by_cases hlt : i < e.own.length
        · have hlt' : (i : Int) < e.own.length := by omega
          have ho : e.own[i]? = some e.own[i] := List.getElem?_eq_getElem hlt
          generalize e.own[i] = o at ho
          have HM := hide (rmay_any b e p i o wr ((uh HE).below hbw) ho)
          have HR : Hid (e.may o = false → ∀ j x, j < i + 1 → e.own[j]? = some x → e.may x = false) := fun hno j x hj hx => by
            by_cases hji : j = i
            · subst hji
              rw [ho] at hx
              cases hx
              exact hno
            · exact hn j x (by omega) hx
          have HF : Hid (e.may o = true → e.next = some i) := fun h1 => by
            rw [uh HNX, List.findIdx?_eq_some_iff_getElem]
            have e0 : e.own[i] = o := (List.getElem?_eq_some_iff.1 ho).2
            refine ⟨hlt, by rw [e0]; exact h1, fun j hj => ?_⟩
            have := hn j e.own[j] hj (List.getElem?_eq_getElem (by omega))
            simp [this]
          have HBW := hide hbw
          generalize hmo : e.may o = mo at *
          clear hn hbw HN ho hmo
          go_wp2_with fail
          refine (uh HM).mono ?_
          rintro r w1 ⟨rfl, hb1⟩
          have HB2 := hide ((uh HBW).trans (hb1.mono hws))
          clear hb1 c6 c10 hbl
          cases mo with
          | false =>
            have HR2 := hide (uh HR rfl)
            go_wp2_with fail
            go_roundw
            case rel => exact ⟨i + 1, by omega, by go_num, uh HB2, uh HR2⟩
            case measure => simp [intOf]; omega
          | true =>
            have HF2 := hide (uh HF rfl)
            go_wp2_with fail
            go_ret
            exact ⟨by rw [uh HF2]; rfl, uh HB2⟩
        · have hlt' : ¬ (i : Int) < e.own.length := by omega
          have HF : Hid (e.next = none) := by
            have : e.next = none := by
              rw [uh HNX, List.findIdx?_eq_none_iff]
              intro o ho
              obtain ⟨j, hj⟩ := List.getElem?_of_mem ho
              exact hn j o (by have := (List.getElem?_eq_some_iff.1 hj).1; omega) hj
            exact this
          have HB0 := hide hbw
          clear hn hbw HN
          go_wp2_with fail
          go_ret
          exact ⟨by rw [uh HF]; rfl, uh HB0⟩
end Go.Proofs.YtbkpdapagfjmmaaGreatDoor
