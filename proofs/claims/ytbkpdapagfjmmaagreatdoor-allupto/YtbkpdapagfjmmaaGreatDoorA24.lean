import Derived.Test.YtbkpdapagfjmmaaGreatDoorA23
set_option linter.unusedVariables false
set_option maxRecDepth 100000
set_option maxHeartbeats 16000000
namespace Go.Proofs.YtbkpdapagfjmmaaGreatDoor
open Go.RowKit
variable {κ : Prop}
theorem Nl {w : World} {B : Nat} {v : Value} {evs : List EvH} (ho : w.ownsRow B 261 5 v evs.length (nH evs)) (q : EvH) (a : Nat) (ha : Is w a 261 (evV q)) (hq : q.2 = .slice none 0 0) (hn : evs.length <= 2 ^ 40) (hB : B <= w.heap.size) (ty : TypeId) :
 ∃ v' w', (Builtin.append_ #[217, 217] ty #[v, .slice (some ⟨a, 0, none⟩) 1 1]).run Tryz.prog w = .ok v' w' ∧ w'.ownsRow B 261 5 v' (evs ++ [q]).length (nH (evs ++ [q])) ∧ w.grownBy w' v.ownBlock := by
 obtain ⟨i, hi, hz0, hz1, hz2⟩ := info_parts EZ
 obtain ⟨v', w', hr, h1, h2, _⟩ := run_append_own (P := Tryz.prog) w B 217 ty 261 i (.agg #[.int .i64 0, .int .i64 0, .int .i64 0, .slice none 0 0, .string ⟨#[]⟩]) 5 64 Tryz.underlying217 hi hz0 hz1 hz2 rfl (by omega) v evs.length (nH evs) ho ⟨a, 0, none⟩ 1 1 (evV q) rfl
  (fun j u hj => by
   have e : (⟨a, 0, none⟩ : Addr).add j = ⟨a, j, none⟩ := by unfold Addr.add; split <;> simp_all
   rw [e, ha.cell]
   exact hj)
  (fun u hu => by
   unfold evV at hu
   rw [hq] at hu
   simp at hu
   rcases hu with rfl | rfl | rfl | rfl | rfl <;> rfl)
  (by unfold maxLen; omega) (by omega) hB
 refine ⟨v', w', hr, ?_, h2⟩
 have e1 : nH evs ++ evV q = nH (evs ++ [q]) := by simp [nH]
 have e2 : evs.length + 1 = (evs ++ [q]).length := by simp
 rw [e1, e2] at h1
 exact h1
theorem JM {W0 W : World} {v : Value} {evs : List EvH} (hb : Below W0.heap.size W0 W) (ho : W.ownsRow W0.heap.size 261 5 v evs.length (nH evs)) (q : EvH) (hq : q.2 = .slice none 0 0) (hn : evs.length <= 2 ^ 40) (ty : TypeId) :
 ∃ v' w', (Builtin.append_ #[217, 217] ty #[v, .slice (some ⟨W.heap.size, 0, none⟩) 1 1]).run Tryz.prog (W.alloc (.cells #[.int .i64 (q.1.k : Int), .int .i64 (q.1.st : Int), .int .i64 (q.1.n : Int), q.2, .string (bs q.1.t)] 261)) = .ok v' w' ∧ w'.ownsRow W0.heap.size 261 5 v' (evs ++ [q]).length (nH (evs ++ [q])) ∧ Below W0.heap.size W0 w' := by
 have hb1 := hb.alloc hb.size (.cells #[.int .i64 (q.1.k : Int), .int .i64 (q.1.st : Int), .int .i64 (q.1.n : Int), q.2, .string (bs q.1.t)] 261)
 have ho1 := ho.alloc (.cells #[.int .i64 (q.1.k : Int), .int .i64 (q.1.st : Int), .int .i64 (q.1.n : Int), q.2, .string (bs q.1.t)] 261)
 obtain ⟨v', w', hr, h1, h2⟩ := Nl ho1 q W.heap.size (Is.new W 261 (evV q)) hq hn hb1.size ty
 refine ⟨v', w', hr, h1, ⟨h2.os.trans hb1.os, h2.tape.trans hb1.tape, h2.output.trans hb1.output, Nat.le_trans hb1.size h2.size, fun i hi => (h2.block i (Nat.lt_of_lt_of_le hi hb1.size) (fun x => ?_)).trans (hb1.block i hi)⟩⟩
 have := (ho1.lt i x.symm).1
 omega
theorem iE (X : World) : Below X.heap.size X X.drew := ⟨rfl, rfl, rfl, Nat.le_refl _, fun _ _ => rfl⟩
theorem fA.evs {w W0 w' : World} {b : Nat} {E : Lk.En} {p : RP} {R : Nat} {v : Value} {evs : List EvH} (h : aj κ w b p E W0) (hb : Below W0.heap.size W0 w') (hs : w.heap.size <= W0.heap.size) (ho : w'.ownsRow W0.heap.size 261 5 v evs.length (nH evs)) (hn : ∀ q ∈ evs, q.2 = .slice Option.none 0 0 ∧ q.1.hs = []) : fA κ w b p R E (evs.map Prod.fst) (.returned (.tuple #[v, .int .i64 (R : Int)])) w' := fA.plain hs (h.after hb) ho hn
def pcY (o : Lk.Ot) (n k : Nat) : Lk.Ot := { o with cr := o.cr - n, opn := o.opn && decide (k ≠ 2), drp := o.drp && decide (k ≠ 2) }
theorem aT.piece {w : World} {b : Nat} {e : Lk.En} {p : RP} (h : aT κ w b e p) {i g cap n : Nat} {o : Lk.Ot} (ho : e.oth[i]? = some o) (hg : p.tv = .slice (some ⟨g, 0, none⟩) e.oth.length cap) :
 aT κ ((w.setCell ⟨g, i * 5 + 1, none⟩ (.int .i64 ((o.cr - n : Nat) : Int))).setCell ⟨b, 9, none⟩ (.int .i64 ((e.room - n : Nat) : Int))) b { e with oth := e.oth.set i { o with cr := o.cr - n }, room := e.room - n } p
 ∧ Only (aI b p) w ((w.setCell ⟨g, i * 5 + 1, none⟩ (.int .i64 ((o.cr - n : Nat) : Int))).setCell ⟨b, 9, none⟩ (.int .i64 ((e.room - n : Nat) : Int))) := by
 obtain ⟨s1, t1⟩ := h.fF ho hg 1 (.int .i64 ((o.cr - n : Nat) : Int)) { o with cr := o.cr - n } (by omega) rfl
 exact ⟨s1.set (e' := { e with oth := e.oth.set i { o with cr := o.cr - n }, room := e.room - n }) 9 (.int .i64 ((e.room - n : Nat) : Int)) rfl rfl rfl rfl rfl rfl (fun x => ⟨x, rfl⟩), t1.set b 9 _ (fun _ => .inl rfl)⟩
theorem aT.last {w : World} {b : Nat} {e : Lk.En} {p : RP} {i g cap n k : Nat} {o : Lk.Ot} (hi : i < e.oth.length) (h : aT κ w b { e with oth := e.oth.set i { o with cr := o.cr - n }, room := e.room - n } p) (hg : p.tv = .slice (some ⟨g, 0, none⟩) e.oth.length cap) (w' : World) (hw' : w' = if k = 2 then (w.setCell ⟨g, i * 5 + 3, none⟩ (.bool false)).setCell ⟨g, i * 5 + 4, none⟩ (.bool false) else w) :
 aT κ w' b { e with oth := e.oth.set i (pcY o n k), room := e.room - n } p ∧ Only (aI b p) w w' := by
 by_cases hk : k = 2
 . rw [if_pos hk] at hw'
   subst hw'
   have g1 : p.tv = .slice (some ⟨g, 0, none⟩) (e.oth.set i { o with cr := o.cr - n }).length cap := by rw [List.length_set]; exact hg
   obtain ⟨s1, t1⟩ := h.fF (i := i) (x := { o with cr := o.cr - n }) (List.getElem?_set_self hi) g1 3 (.bool false) { o with cr := o.cr - n, opn := false } (by omega) rfl
   have g2 : p.tv = .slice (some ⟨g, 0, none⟩) ((e.oth.set i { o with cr := o.cr - n }).set i { o with cr := o.cr - n, opn := false }).length cap := by simp only [List.length_set]; exact hg
   obtain ⟨s2, t2⟩ := s1.fF (i := i) (x := { o with cr := o.cr - n, opn := false }) (List.getElem?_set_self (by rw [List.length_set]; exact hi)) g2 4 (.bool false) { o with cr := o.cr - n, opn := false, drp := false } (by omega) rfl
   have hE : ((e.oth.set i { o with cr := o.cr - n }).set i { o with cr := o.cr - n, opn := false }).set i { o with cr := o.cr - n, opn := false, drp := false } = e.oth.set i (pcY o n k) := by
    simp only [List.set_set]
    unfold pcY
    rw [hk]
    simp
   refine ⟨?_, t1.trans t2 (fun _ x _ => x)⟩
   rw [<- hE]
   exact s2
 . rw [if_neg hk] at hw'
   subst hw'
   have : pcY o n k = { o with cr := o.cr - n } := by unfold pcY; simp [hk]
   rw [this]
   exact ⟨h, Only.refl _ _⟩
theorem wQ (b : Nat) (e : Lk.En) (p : RP) (f : Lk.Fr) (w : World) (h : aT κ w b e p) (hw : Lk.Wf e) (hd : f.d.length <= 64) (hl : e.row.length <= 2 ^ 41) :
 Calls Tryz.prog 181 #[.pointer (some ⟨b, 0, none⟩), frV f] w (fA κ w b p (e.bH f).2.1 (e.bH f).2.2 (e.bH f).1) := by
 have PE := hw.wE
 have hroom := hw.room
 have hwin := hw.kN
 have hbW := (Below.refl w.heap.size w).alloc (Nat.le_refl _) (.cells #[.int .i64 (f.k : Int), .int .i64 (f.st : Int), .string (bs f.d)] 66)
 have hBx := Is.new w 66 [.int .i64 (f.k : Int), .int .i64 (f.st : Int), .string (bs f.d)]
 have hW := h.below hbW
 have hwW : w.heap.size < (w.alloc (.cells #[.int .i64 (f.k : Int), .int .i64 (f.st : Int), .string (bs f.d)] 66)).heap.size := by simp
 have hft : ∀ i, aI b p i -> i < w.heap.size := fun i hi => h.lt hi
 generalize hWW : w.alloc (.cells #[.int .i64 (f.k : Int), .int .i64 (f.st : Int), .string (bs f.d)] 66) = W at *
 have o0 : W.cell? ⟨w.heap.size, 0, none⟩ = some (.int .i64 (f.k : Int)) := hBx.cell 0
 have o1 : W.cell? ⟨w.heap.size, 1, none⟩ = some (.int .i64 (f.st : Int)) := hBx.cell 1
 have o2 : W.cell? ⟨w.heap.size, 2, none⟩ = some (.string (bs f.d)) := hBx.cell 2
 have HOT := hide (lX b e p (f.st : Int) W hW (by omega))
 have hsz := ax f.d
 have HBX := hide hBx
 have HW := hide (⟨hbW, hW, hft⟩ : _ ∧ _ ∧ _)
 generalize hX : e.bH f = X
 have HX := hide hX
 unfold Lk.En.bH at hX
 clear h hW hbW hBx hft
 cases hy : Lk.bM e.oth (f.st : Int) with
 | none =>
   rw [hy] at HOT hX
   simp only [ixO] at HOT
   simp only [Option.bind_none] at hX
   obtain ⟨hbW, hW, hft⟩ := uh HW
   have HF : Hid (fA κ w b p X.2.1 X.2.2 X.1 (.returned (.tuple #[.slice none 0 0, .int .i64 4])) W) := by
    rw [<- hX]
    exact fA.none (R := 4) (aj.before hbW (aj.same hW))
   clear hX HX hy hbW hW hft HW HBX
   go_enter Tryz.func181, Tryz.ntmps181
   go_wp2_with fail
   refine (uh HOT).mono ?_
   rintro r w1 ⟨rfl, rfl⟩
   go_wp2_with fail
   go_ret2
   exact uh HF
 | some i =>
   obtain ⟨o, ho, hid⟩ := Lk.bg hy
   have hok := hw.oth i o ho
   have hcr := hok.cr
   have hi : i < e.oth.length := (List.getElem?_eq_some_iff.1 ho).1
   have hi' : (i : Int) < e.oth.length := by omega
   have hi1 : ¬ (i : Int) < 0 := by omega
   rw [hy] at HOT hX
   simp only [ixO] at HOT
   simp only [Option.bind_some, ho, Option.map_some] at hX
   obtain ⟨hbW, hW, hft⟩ := uh HW
   obtain ⟨g, cap, c7, hv, hgl, hcap, hbl, x1, x2, x3, x4, hfz, hgb⟩ := hW.Ox ho
   by_cases hcl : (!o.opn && !o.drp) = true
   . rw [if_pos hcl] at hX
     have HF : Hid (fA κ w b p X.2.1 X.2.2 X.1 (.returned (.tuple #[.slice none 0 0, .int .i64 4])) W) := by
      rw [<- hX]
      exact fA.none (R := 4) (aj.before hbW (aj.same hW))
     have h1 : o.opn = false ∧ o.drp = false := by simpa using hcl
     rw [h1.1] at x3
     rw [h1.2] at x4
     clear hX HX hy hbW hW hft HW HBX ho hok hcl h1 hfz hv
     go_enter Tryz.func181, Tryz.ntmps181
     go_wp2_with fail
     refine (uh HOT).mono ?_
     rintro r w1 ⟨rfl, rfl⟩
     go_wp2_with fail
     go_ret2
     exact uh HF
   . rw [if_neg hcl] at hX
     replace HX := hide hX
     have HCL := hide hcl
     have HHO := hide (⟨ho, hok, hv, hfz⟩ : _ ∧ _ ∧ _ ∧ _)
     have c9 : W.cell? ⟨b, 9, none⟩ = some (.int .i64 (e.room : Int)) := hW.blk.cell 9
     have f9 := hW.blk.free 9
     have f1 := hfz (i * 5 + 1)
     have f2 := hfz (i * 5 + 2)
     have f3 := hfz (i * 5 + 3)
     have f4 := hfz (i * 5 + 4)
     have hgb' : b ≠ g := Ne.symm hgb
     have hnb : b ≠ w.heap.size := by have := hft b (.inl rfl); omega
     have hng : g ≠ w.heap.size := by have := hft g (.inr (.inr (.inr (.inr (.inr (.inr (.inr (.inr (by rw [hv]; rfl))))))))); omega
     clear hX hy hbW hW hft ho hok hcl hfz hv
     generalize hN : f.d.length = N at *
     have hszI : ((bs f.d).size : Int) = N := by omega
     go_enter Tryz.func181, Tryz.ntmps181
     go_wp2_with fail
     refine (uh HOT).mono ?_
     rintro r w1 ⟨rfl, rfl⟩
     go_upto_region 2 with fail
     go_cut [37] (fun s37 wx => s37 = .bool false ∧ wx = w1)
     case first =>
      have hc := uh HCL
      cases hop : o.opn with
      | true =>
        rw [hop] at x3
        clear hc hop
        go_wp2_with fail
        go_meet
        exact ⟨rfl, rfl⟩
      | false =>
        have hdr : o.drp = true := by
         rw [hop] at hc
         simpa using hc
        rw [hop] at x3
        rw [hdr] at x4
        clear hc hop hdr
        go_wp2_with fail
        go_meet
        exact ⟨rfl, rfl⟩
     case rest =>
      obtain ⟨rfl, rfl⟩ := hcut
      by_cases hc : o.cr < N ∨ e.room < N
      . have hX := uh HX
        rw [if_pos hc] at hX
        obtain ⟨hbW, hW, hft⟩ := uh HW
        have HF : Hid (fA κ w b p X.2.1 X.2.2 X.1 (.returned (.tuple #[.slice none 0 0, .int .i64 10])) wc) := by
         rw [<- hX]
         exact fA.none (R := 10) (aj.before hbW (aj.same hW))
        clear hX HX hbW hW hft
        by_cases hc1 : o.cr < N
        . have hc1' : (o.cr : Int) < N := by omega
          clear hc
          go_wp2_with fail
          go_ret2
          exact uh HF
        . have hc1' : ¬ (o.cr : Int) < N := by omega
          have hc2' : (e.room : Int) < N := by omega
          clear hc
          go_wp2_with fail
          go_ret2
          exact uh HF
      . have hX := uh HX
        rw [if_neg hc] at hX
        replace HX := hide hX
        have hc1' : ¬ (o.cr : Int) < N := by omega
        have hc2' : ¬ (e.room : Int) < N := by omega
        obtain ⟨hbW, hW, hft⟩ := uh HW
        obtain ⟨ho, hok, hv, hfz⟩ := uh HHO
        have e1 : (o.cr : Int) - N = ((o.cr - N : Nat) : Int) := by omega
        have e2 : (e.room : Int) - N = ((e.room - N : Nat) : Int) := by omega
        have u1 : ((o.cr - N : Nat) : Int) <= 1000 := by omega
        have u2 : ((e.room - N : Nat) : Int) <= 1000 := by omega
        have u3 : (0 : Int) <= ((o.cr - N : Nat) : Int) := by omega
        have u4 : (0 : Int) <= ((e.room - N : Nat) : Int) := by omega
        have u5 : (o.cr : Int) <= 1000 := by omega
        have u6 : (e.room : Int) <= 1000 := by omega
        have HP := hide (hW.piece (n := N) ho hv)
        have HL := hide (fun w2 (h2 : aT κ w2 b { e with oth := e.oth.set i { o with cr := o.cr - N }, room := e.room - N } p) => aT.last (k := f.k) hi h2 hv)
        generalize hCN : ((o.cr - N : Nat) : Int) = CN at *
        generalize hRN : ((e.room - N : Nat) : Int) = RN at *
        generalize hCR : (o.cr : Int) = CR at *
        generalize hER : (e.room : Int) = ER at *
        have HH := hide (⟨hCN, hRN, hCR, hER⟩ : _ ∧ _ ∧ _ ∧ _)
        clear hX hc hbW hW hft ho hok hv hfz hCN hRN hCR hER
        go_wp2_with fail
        go_region
        go_upto_if 95 with fail
        obtain ⟨wa, hwa⟩ : ∃ wa, wa = wc := ⟨_, rfl⟩
        subst hwa
        go_cut [] (fun w8 => Hid (w8 = World.drew (if f.k = 2 then (((wa.setCell ⟨g, i * 5 + 1, none⟩ (.int .i64 CN)).setCell ⟨b, 9, none⟩ (.int .i64 RN)).setCell ⟨g, i * 5 + 3, none⟩ (.bool false)).setCell ⟨g, i * 5 + 4, none⟩ (.bool false) else ((wa.setCell ⟨g, i * 5 + 1, none⟩ (.int .i64 CN)).setCell ⟨b, 9, none⟩ (.int .i64 RN)))))
        case first =>
         have HBL : Hid (((f.k : Int) == 2) = decide (f.k = 2)) := by
          have : ((f.k : Int) == 2) = decide (f.k = 2) := by
           by_cases h : f.k = 2
           . rw [h]; rfl
           . rw [decide_eq_false h]; simp; omega
          exact this
         generalize ((f.k : Int) == 2) = BL at *
         cases BL with
         | true =>
           go_wp2_with fail
           go_meet
           show _ = _
           rw [if_pos (of_decide_eq_true (uh HBL).symm)]
         | false =>
           go_wp2_with fail
           go_meet
           show _ = _
           rw [if_neg (of_decide_eq_false (uh HBL).symm)]
        case rest =>
         have hw8 := uh hcut
         clear hcut
         obtain ⟨hp1, hp2⟩ := uh HP
         obtain ⟨s7, t7⟩ := uh HL _ hp1 _ rfl
         have b7 : Is (if f.k = 2 then (((wa.setCell ⟨g, i * 5 + 1, none⟩ (.int .i64 CN)).setCell ⟨b, 9, none⟩ (.int .i64 RN)).setCell ⟨g, i * 5 + 3, none⟩ (.bool false)).setCell ⟨g, i * 5 + 4, none⟩ (.bool false) else ((wa.setCell ⟨g, i * 5 + 1, none⟩ (.int .i64 CN)).setCell ⟨b, 9, none⟩ (.int .i64 RN))) w.heap.size 66 [.int .i64 (f.k : Int), .int .i64 (f.st : Int), .string (bs f.d)] := by
          have k := ((uh HBX).other ⟨g, i * 5 + 1, none⟩ (.int .i64 CN) (Ne.symm hng)).other ⟨b, 9, none⟩ (.int .i64 RN) (Ne.symm hnb)
          split
          . exact (k.other _ _ (Ne.symm hng)).other _ _ (Ne.symm hng)
          . exact k
         generalize (if f.k = 2 then (((wa.setCell ⟨g, i * 5 + 1, none⟩ (.int .i64 CN)).setCell ⟨b, 9, none⟩ (.int .i64 RN)).setCell ⟨g, i * 5 + 3, none⟩ (.bool false)).setCell ⟨g, i * 5 + 4, none⟩ (.bool false) else ((wa.setCell ⟨g, i * 5 + 1, none⟩ (.int .i64 CN)).setCell ⟨b, 9, none⟩ (.int .i64 RN))) = V8 at *
         have s8 := s7.below (iE V8)
         have b8 := b7.below (iE V8) b7.lt
         have t8 : Only (aI b p) w V8.drew := ((Only.of_below (uh HW).1 _).trans (hp2.trans t7 (fun _ x _ => x)) (fun _ x _ => x)).below (iE V8)
         rw [<- hw8] at s8 b8 t8
         clear hw8 hp1 hp2 s7 t7 b7
         have ho8 : ({ e with oth := e.oth.set i (pcY o N f.k), room := e.room - N } : Lk.En).oth[i]? = some (pcY o N f.k) := List.getElem?_set_self hi
         obtain ⟨g8, U6, q7, qv, qg, Ti, qb, q1, q2, q3, q4, qz, qgb⟩ := s8.Ox ho8
         have Rj : ({ e with oth := e.oth.set i (pcY o N f.k), room := e.room - N } : Lk.En).oth.length = e.oth.length := by simp
         rw [Rj] at q7 Ti
         have r0 : wc.cell? ⟨w.heap.size, 0, none⟩ = some (.int .i64 (f.k : Int)) := b8.cell 0
         have r1 : wc.cell? ⟨w.heap.size, 1, none⟩ = some (.int .i64 (f.st : Int)) := b8.cell 1
         have r2 : wc.cell? ⟨w.heap.size, 2, none⟩ = some (.string (bs f.d)) := b8.cell 2
         have rl := b8.lt
         have z2 := qz (i * 5 + 2)
         have Vl : g8 ≠ w.heap.size := by
          have := (uh HW).2.2 g8 (.inr (.inr (.inr (.inr (.inr (.inr (.inr (.inr (by rw [qv]; rfl)))))))))
          omega
         have b9 := b8.other ⟨g8, i * 5 + 2, none⟩ (.int .i64 ((o.held + N : Nat) : Int)) (Ne.symm Vl)
         have hsg := s8.fF ho8 qv 2 (.int .i64 ((o.held + N : Nat) : Int)) { pcY o N f.k with held := o.held + N } (by omega) rfl
         have hroom' : e.room <= 400 := by omega
         have HBK := hide (sV b _ p N wc s8 (by omega) (by show e.room - N <= 400; omega) (by show e.row.length <= _; omega))
         have hX := uh HX
         have hc := uh HCL
         clear s8 b8 q1 q3 q4 qz qv ho8 Rj o0 o1 o2 c7 x1 x2 x3 x4 f9 f1 f2 f3 f4 c9 HL HP HX HCL HHO HOT HBX HW
         cases hop : o.opn with
         | false =>
           rw [hop] at hX hc
           have hdr : o.drp = true := by simpa using hc
           have hE : ({ e with oth := e.oth.set i (pcY o N f.k), room := e.room - N } : Lk.En) = { e with oth := e.oth.set i { o with cr := o.cr - N, drp := decide (f.k ≠ 2) }, room := e.room - N } := by
            unfold pcY
            rw [hop, hdr]
            simp
           rw [hE] at HBK
           rw [if_neg (by decide)] at hX
           have HF : Hid (∀ w9, aj κ wc b p X.2.2 w9 -> fA κ w b p X.2.1 X.2.2 X.1 (.returned (.tuple #[.slice none 0 0, .int .i64 0])) w9) := by
            rw [<- hX]
            exact fun w9 h9 => fA.none (R := 0) (aj.trans (fun _ x => .inl x) t8 h9)
           have WM : Hid (Calls Tryz.prog 165 #[.pointer (some ⟨b, 0, none⟩), .int .i64 (N : Int)] wc fun r w' => r = .returned (.tuple #[]) ∧ aj κ wc b p X.2.2 w') := by
            rw [<- hX]
            rw [hop] at HBK
            exact uh HBK
           clear hX hc hdr hE HBK t8 hsg hop b9
           go_wp2_with fail
           refine (uh WM).mono ?_
           rintro r w9 ⟨rfl, h9⟩
           have HF9 := hide (uh HF w9 h9)
           clear h9
           go_wp2_with fail
           go_ret2
           exact uh HF9
         | true =>
           rw [hop] at hX
           rw [if_pos rfl] at hX
           obtain ⟨sg, tg⟩ := hsg
           have hE : ({ ({ e with oth := e.oth.set i (pcY o N f.k), room := e.room - N } : Lk.En) with oth := ({ e with oth := e.oth.set i (pcY o N f.k), room := e.room - N } : Lk.En).oth.set i { pcY o N f.k with held := o.held + N } } : Lk.En) = { e with oth := e.oth.set i { o with cr := o.cr - N, held := o.held + N, opn := decide (f.k ≠ 2), drp := o.drp && decide (f.k ≠ 2) }, room := e.room - N } := by
            unfold pcY
            rw [hop]
            simp [List.set_set]
           rw [hE] at sg
           have e3 : (o.held : Int) + N = ((o.held + N : Nat) : Int) := by omega
           have v1 : ((o.held + N : Nat) : Int) <= 1000 := by omega
           have v2 : (0 : Int) <= ((o.held + N : Nat) : Int) := by omega
           have v3 : (o.held : Int) <= 1000 := by omega
           have hP : aj κ w b p X.2.2 (wc.setCell ⟨g8, i * 5 + 2, none⟩ (.int .i64 ((o.held + N : Nat) : Int))).drew := by
            rw [<- hX]
            exact ⟨p, sg.below (iE _), fun _ x => .inl x, (t8.trans tg (fun _ x _ => x)).below (iE _)⟩
           replace b9 := b9.below (iE _) b9.lt
           have Ru : w.heap.size <= (wc.setCell ⟨g8, i * 5 + 2, none⟩ (.int .i64 ((o.held + N : Nat) : Int))).drew.heap.size := Nat.le_of_lt b9.lt
           have HP9 := hide (⟨hP, b9, Ru⟩ : _ ∧ _ ∧ _)
           have q2' : wc.cell? ⟨g8, i * 5 + 2, none⟩ = some (.int .i64 (o.held : Int)) := q2
           have hX1 : X.1 = (if 0 < N then [(⟨2, f.st, 0, [], f.d⟩ : Lk.Ev)] else []) ++ (if f.k = 2 then [(⟨3, f.st, 0, [], []⟩ : Lk.Ev)] else []) := by rw [<- hX]
           have hX2 : X.2.1 = 0 := by rw [<- hX]
           have HX := hide (⟨hX1, hX2⟩ : _ ∧ _)
           clear hP b9 Ru sg tg hE t8 hX hX1 hX2 HBK hc hop q2
           generalize ((o.held + N : Nat) : Int) = HN at *
           generalize (o.held : Int) = OH at *
           go_wp2_with fail
           go_region
           generalize hV9 : (wc.setCell ⟨g8, i * 5 + 2, none⟩ (.int .i64 HN)).drew = V9 at *
           obtain ⟨hP, b9, Ru⟩ := uh HP9
           have y0 : V9.cell? ⟨w.heap.size, 0, none⟩ = some (.int .i64 (f.k : Int)) := b9.cell 0
           have y1 : V9.cell? ⟨w.heap.size, 1, none⟩ = some (.int .i64 (f.st : Int)) := b9.cell 1
           have y2 : V9.cell? ⟨w.heap.size, 2, none⟩ = some (.string (bs f.d)) := b9.cell 2
           have yl := b9.lt
           have HR3 : Hid (∀ W v evs, Below V9.heap.size V9 W -> W.ownsRow V9.heap.size 261 5 v evs.length (nH evs) -> (∀ q ∈ evs, q.2 = .slice Option.none 0 0 ∧ q.1.hs = []) -> evs.map Prod.fst = X.1 -> fA κ w b p X.2.1 X.2.2 X.1 (.returned (.tuple #[v, .int .i64 0])) W) := by
            intro W v evs k1 k2 k3 k4
            rw [(uh HX).2, <- k4]
            exact fA.evs (R := 0) hP k1 Ru k2 k3
           have HBF := hide b9
           have hbr := Below.refl V9.heap.size V9
           have hnil := World.ownsRow_nil V9 V9.heap.size 261 5
           have HT : Hid (∀ W v evs, Below V9.heap.size V9 W -> W.ownsRow V9.heap.size 261 5 v evs.length (nH evs) -> evs.length <= 1 -> ∃ v' w', (Builtin.append_ #[217, 217] 217 #[v, .slice (some ⟨W.heap.size, 0, none⟩) 1 1]).run Tryz.prog (W.alloc (.cells #[.int .i64 3, .int .i64 (f.st : Int), .int .i64 0, .slice none 0 0, .string ⟨#[]⟩] 261)) = .ok v' w' ∧ w'.ownsRow V9.heap.size 261 5 v' (evs ++ [((⟨3, f.st, 0, [], []⟩ : Lk.Ev), (.slice none 0 0 : Value))]).length (nH (evs ++ [((⟨3, f.st, 0, [], []⟩ : Lk.Ev), (.slice none 0 0 : Value))])) ∧ Below V9.heap.size V9 w') := by
            intro W v evs k1 k2 k3
            exact JM k1 k2 ((⟨3, f.st, 0, [], []⟩ : Lk.Ev), (.slice none 0 0 : Value)) rfl (by omega) _
           clear hP b9 Ru HP9 hV9 q7 qg qb Ti z2 r0 r1 r2 rl q2' Vl
           by_cases hk : f.k = 2
           . have hk' : (f.k : Int) = 2 := by omega
             rw [hk'] at y0
             have HK := hide hk
             clear hk hk'
             by_cases h0 : 0 < N
             . have h0' : (0 : Int) < N := by omega
               obtain ⟨v4, w4, hr4, ho4, hb4⟩ := JM (evs := []) hbr hnil ((⟨2, f.st, 0, [], f.d⟩ : Lk.Ev), (.slice none 0 0 : Value)) rfl (Nat.zero_le _) 217
               obtain ⟨v5, w5, hr5, ho5, hb5⟩ := uh HT w4 v4 _ hb4 ho4 (Nat.le_refl _)
               have HA2 : Hid ((Builtin.append_ #[217, 217] 217 #[.slice none 0 0, .slice (some ⟨V9.heap.size, 0, none⟩) 1 1]).run Tryz.prog (V9.alloc (.cells #[.int .i64 2, .int .i64 (f.st : Int), .int .i64 0, .slice none 0 0, .string (bs f.d)] 261)) = .ok v4 w4) := hr4
               have HA3 := hide hr5
               have b4 := (uh HBF).below hb4 yl
               have x0 : w4.cell? ⟨w.heap.size, 0, none⟩ = some (.int .i64 2) := by rw [b4.cell 0]; exact congrArg (fun x : Nat => some (Value.int .i64 (x : Int))) (uh HK)
               have x1 : w4.cell? ⟨w.heap.size, 1, none⟩ = some (.int .i64 (f.st : Int)) := b4.cell 1
               have xl := b4.lt
               have HF := hide (uh HR3 w5 v5 _ hb5 ho5 (fun q hq => by simp at hq; rcases hq with rfl | rfl <;> exact ⟨rfl, rfl⟩) (by rw [(uh HX).1, if_pos h0, if_pos (uh HK)]; rfl))
               clear hr4 hr5 ho4 ho5 hb4 hb5 b4 h0 HBF HT HR3 HX
               go_wp2_with (at_builtin; first | refine Lib.wpList_append_run _ rfl _ _ _ _ rfl _ _ rfl rfl _ _ (uh HA2) ?_ | refine Lib.wpList_append_run _ rfl _ _ _ _ rfl _ _ rfl rfl _ _ (uh HA3) ?_)
               go_ret2
               exact uh HF
             . have h0' : ¬ (0 : Int) < N := by omega
               obtain ⟨v5, w5, hr5, ho5, hb5⟩ := uh HT V9 gQ [] hbr hnil (by show 0 <= _; omega)
               have HA3 : Hid ((Builtin.append_ #[217, 217] 217 #[.slice none 0 0, .slice (some ⟨V9.heap.size, 0, none⟩) 1 1]).run Tryz.prog (V9.alloc (.cells #[.int .i64 3, .int .i64 (f.st : Int), .int .i64 0, .slice none 0 0, .string ⟨#[]⟩] 261)) = .ok v5 w5) := hr5
               have HF := hide (uh HR3 w5 v5 _ hb5 ho5 (fun q hq => by simp at hq; subst hq; exact ⟨rfl, rfl⟩) (by rw [(uh HX).1, if_neg h0, if_pos (uh HK)]; rfl))
               clear hr5 ho5 hb5 h0 HBF HT HR3 HX
               go_wp2_with (at_builtin; refine Lib.wpList_append_run _ rfl _ _ _ _ rfl _ _ rfl rfl _ _ (uh HA3) ?_)
               go_ret2
               exact uh HF
           . have hk' : ¬ (f.k : Int) = 2 := by omega
             have HK := hide hk
             clear hk
             by_cases h0 : 0 < N
             . have h0' : (0 : Int) < N := by omega
               obtain ⟨v4, w4, hr4, ho4, hb4⟩ := JM (evs := []) hbr hnil ((⟨2, f.st, 0, [], f.d⟩ : Lk.Ev), (.slice none 0 0 : Value)) rfl (Nat.zero_le _) 217
               have HA2 : Hid ((Builtin.append_ #[217, 217] 217 #[.slice none 0 0, .slice (some ⟨V9.heap.size, 0, none⟩) 1 1]).run Tryz.prog (V9.alloc (.cells #[.int .i64 2, .int .i64 (f.st : Int), .int .i64 0, .slice none 0 0, .string (bs f.d)] 261)) = .ok v4 w4) := hr4
               have b4 := (uh HBF).below hb4 yl
               have x0 : w4.cell? ⟨w.heap.size, 0, none⟩ = some (.int .i64 (f.k : Int)) := b4.cell 0
               have xl := b4.lt
               have HF := hide (uh HR3 w4 v4 _ hb4 ho4 (fun q hq => by simp at hq; subst hq; exact ⟨rfl, rfl⟩) (by rw [(uh HX).1, if_pos h0, if_neg (uh HK)]; rfl))
               clear hr4 ho4 hb4 b4 h0 HBF HT HR3 HX
               go_wp2_with (at_builtin; refine Lib.wpList_append_run _ rfl _ _ _ _ rfl _ _ rfl rfl _ _ (uh HA2) ?_)
               go_ret2
               exact uh HF
             . have h0' : ¬ (0 : Int) < N := by omega
               have HF := hide (uh HR3 V9 gQ [] hbr hnil (by simp) (by rw [(uh HX).1, if_neg h0, if_neg (uh HK)]; rfl))
               clear h0 HBF HT HR3 HX
               go_wp2_with fail
               go_ret2
               exact uh HF
theorem uf (c : UInt8) (w : World) : Calls Tryz.prog 175 #[.int .u8 c.toNat] w fun e w' => e = .returned (.bool (Lk.aG c)) ∧ w' = w := by
 rw [qx]
 go_enter Tryz.func175, Tryz.ntmps175
 go_wp2
 all_goals go_ret
 all_goals refine ⟨aH ?_, rfl⟩
 all_goals first | rfl | (rw [Bool.eq_iff_iff]; simp <;> omega)
theorem lK (c : UInt8) (w : World) : Calls Tryz.prog 176 #[.int .u8 c.toNat] w fun e w' => e = .returned (.bool (Lk.aB c)) ∧ w' = w := by
 rw [oq]
 go_enter Tryz.func176, Tryz.ntmps176
 go_wp2
 all_goals go_ret
 all_goals refine ⟨aH ?_, rfl⟩
 all_goals first | rfl | (rw [Bool.eq_iff_iff]; simp <;> omega)
theorem PZ (n v : ByteArray) : Lk.good ⟨n.data.toList, v.data.toList⟩ = ((decide (1 <= n.size ∧ n.size <= 16) && n.data.toList.all Lk.aG) && (decide (v.size <= 32) && v.data.toList.all Lk.aB)) := by
 rw [af n, af v]
 rfl
theorem Di (n v : ByteArray) (w : World) (hb : ¬ (1 <= n.size ∧ n.size <= 16) ∨ ¬ v.size <= 32) :
 Calls Tryz.prog 149 #[.agg #[.string n, .string v]] w fun e w' => e = .returned (.bool false) ∧ Below w.heap.size w w' := by
 by_cases h1 : (n.size : Int) < 1
 . go_enter Tryz.func149, Tryz.ntmps149
   go_wp2_with fail
   go_ret
   exact ⟨rfl, by ((repeat' (first | exact Below.refl _ _ | assumption | apply Below.drew | apply Below.alloc | apply Below.setCell)) <;> (simp <;> omega))⟩
 . by_cases h2 : 16 < (n.size : Int)
   . go_enter Tryz.func149, Tryz.ntmps149
     go_wp2_with fail
     go_ret
     exact ⟨rfl, by ((repeat' (first | exact Below.refl _ _ | assumption | apply Below.drew | apply Below.alloc | apply Below.setCell)) <;> (simp <;> omega))⟩
   . have h3 : 32 < (v.size : Int) := by omega
     have h1' : 1 <= (n.size : Int) := by omega
     go_enter Tryz.func149, Tryz.ntmps149
     go_wp2_with fail
     go_ret
     exact ⟨rfl, by ((repeat' (first | exact Below.refl _ _ | assumption | apply Below.drew | apply Below.alloc | apply Below.setCell)) <;> (simp <;> omega))⟩
theorem GV (n v : ByteArray) (w : World) (hn1 : 1 <= n.size) (hn2 : n.size <= 16) (hv : v.size <= 32) (A : Bool) (HA : Hid ((n.data.toList.all Lk.aG && v.data.toList.all Lk.aB) = A)) :
 Calls Tryz.prog 149 #[.agg #[.string n, .string v]] w fun e w' => e = .returned (.bool A) ∧ Below w.heap.size w w' := by
 have i1 : ¬ (n.size : Int) < 1 := by omega
 have i2 : ¬ 16 < (n.size : Int) := by omega
 have i3 : ¬ 32 < (v.size : Int) := by omega
 have hbel := (Below.refl w.heap.size w).alloc (Nat.le_refl _) (.cells #[.string n, .string v] 206)
 go_enter Tryz.func149, Tryz.ntmps149
 go_wp2_with fail
 go_loopw [3] (fun u wr => ∃ k : Nat, u = .int .i64 k ∧ k <= n.size ∧ Hid (∀ j (hj : j < n.size), j < k -> Lk.aG n[j] = true) ∧ wr = w.alloc (.cells #[.string n, .string v] 206)) (fun u _ => n.size - (intOf u).toNat)
 case atStart => exact ⟨0, rfl, by omega, fun j hj h => by omega, rfl⟩
 case round =>
  obtain ⟨k, rfl, hk, HK, rfl⟩ := hrel
  by_cases hlt : k < n.size
  . have hlt' : (k : Int) < n.size := by omega
    generalize hq : Lk.aG n[k] = Q
    have HQ := hide hq
    have HC := hide (show ∀ w, Calls Tryz.prog 175 #[.int .u8 n[k].toNat] w fun e w' => e = .returned (.bool Q) ∧ w' = w from fun w => by rw [<- hq]; exact uf n[k] w)
    clear hq
    go_wp2_with fail
    refine (uh HC _).mono ?_
    rintro e w' ⟨rfl, rfl⟩
    cases Q
    . go_wp2_with fail
      go_ret
      refine ⟨aH ?_, hbel⟩
      rw [<- uh HA, yt n Lk.aG k hlt (uh HQ)]
      rfl
    . go_wp2_with fail
      go_roundw
      case rel => exact ⟨k + 1, by simp, by omega, fun j hj h => (Nat.lt_succ_iff_lt_or_eq.1 h).elim (fun h => uh HK j hj h) (fun h => by subst h; exact uh HQ), trivial⟩
      case measure => simp [intOf]; omega
  . have hlt' : ¬ (k : Int) < n.size := by omega
    have hall := EU n Lk.aG (fun j hj => (uh HK) j hj (by omega))
    have Ji := hide hall
    clear hall
    go_wp2_with fail
    go_loopw [4] (fun u wr => ∃ k : Nat, u = .int .i64 k ∧ k <= v.size ∧ Hid (∀ j (hj : j < v.size), j < k -> Lk.aB v[j] = true) ∧ wr = w.alloc (.cells #[.string n, .string v] 206)) (fun u _ => v.size - (intOf u).toNat)
    case atStart => exact ⟨0, rfl, by omega, fun j hj h => by omega, rfl⟩
    case round =>
     obtain ⟨i, rfl, hi, HI, rfl⟩ := hrel
     by_cases hlt : i < v.size
     . have hlt' : (i : Int) < v.size := by omega
       generalize hq : Lk.aB v[i] = Q
       have HQ := hide hq
       have HC := hide (show ∀ w, Calls Tryz.prog 176 #[.int .u8 v[i].toNat] w fun e w' => e = .returned (.bool Q) ∧ w' = w from fun w => by rw [<- hq]; exact lK v[i] w)
       clear hq
       go_wp2_with fail
       refine (uh HC _).mono ?_
       rintro e w' ⟨rfl, rfl⟩
       cases Q
       . go_wp2_with fail
         go_ret
         refine ⟨aH ?_, hbel⟩
         rw [<- uh HA, yt v Lk.aB i hlt (uh HQ), Bool.and_false]
       . go_wp2_with fail
         go_roundw
         case rel => exact ⟨i + 1, by simp, by omega, fun j hj h => (Nat.lt_succ_iff_lt_or_eq.1 h).elim (fun h => uh HI j hj h) (fun h => by subst h; exact uh HQ), trivial⟩
         case measure => simp [intOf]; omega
     . have hlt' : ¬ (i : Int) < v.size := by omega
       go_wp2_with fail
       go_ret
       refine ⟨aH ?_, hbel⟩
       rw [<- uh HA, uh Ji, EU v Lk.aB (fun j hj => (uh HI) j hj (by omega))]
       rfl
theorem Dj (h : Lk.Hd) (Q : Bool) (hq : Hid (Lk.good h = Q)) (w : World) :
 Calls Tryz.prog 149 #[hdA h] w fun e w' => e = .returned (.bool Q) ∧ Below w.heap.size w w' := by
 have e := PZ (bs h.n) (bs h.v)
 rw [fJ, fJ, ax, ax] at e
 have e2 : Lk.good h = Lk.good ⟨h.n, h.v⟩ := rfl
 rw [<- e2, uh hq] at e
 by_cases hb : ¬ (1 <= (bs h.n).size ∧ (bs h.n).size <= 16) ∨ ¬ (bs h.v).size <= 32
 . have : Q = false := by
    rw [ax, ax] at hb
    rw [e]
    rcases hb with hb | hb
    . rw [decide_eq_false hb]; rfl
    . rw [decide_eq_false hb]; simp
   rw [this]
   exact Di (bs h.n) (bs h.v) w hb
 . simp only [not_or, Classical.not_not] at hb
   refine GV (bs h.n) (bs h.v) w hb.1.1 hb.1.2 hb.2 Q (hide ?_)
   rw [ax, ax] at hb
   rw [e, decide_eq_true hb.1, decide_eq_true hb.2, fJ, fJ]
   simp
theorem yx (B g cap : Nat) (l : List Lk.Hd) (w : World) (hl : l.length <= 6) (E P : Int) (HW : Hid ((Lk.di 0 l).1 = E ∧ (Lk.di 0 l).2 = P))
 (own : Hid (w.ownsRow B 206 2 (.slice (some ⟨g, 0, none⟩) l.length cap) l.length (aQ l))) :
 Calls Tryz.prog 101 #[.slice (some ⟨g, 0, none⟩) l.length cap] w fun e w' =>
  e = .returned (.tuple #[.int .i64 E, .int .i64 P]) ∧ Below w.heap.size w w' := by
 have hl6 : ¬ 6 < (l.length : Int) := by omega
 go_enter Tryz.func101, Tryz.ntmps101
 go_wp2_with fail
 go_loopw [4] (fun u wr => ∃ k : Nat, u = .int .i64 k ∧ k <= l.length ∧ Hid (Lk.di 0 l = Lk.di k (l.drop k)) ∧ Below w.heap.size w wr) (fun u _ => l.length - (intOf u).toNat)
 case atStart => exact ⟨0, rfl, by omega, rfl, Below.refl _ _⟩
 case round =>
  obtain ⟨k, rfl, hk, HK, hbel⟩ := hrel
  by_cases hlt : k < l.length
  . have hlt' : (k : Int) < l.length := by omega
    obtain ⟨x, hx⟩ : ∃ x, l[k]? = some x := ⟨_, List.getElem?_eq_getElem hlt⟩
    obtain ⟨hg2, x0, x1⟩ := jJ (jO (uh own) hbel (by omega)) hx
    have hdr : l.drop k = x :: l.drop (k + 1) := by
     rw [List.getElem?_eq_getElem hlt] at hx
     cases hx
     exact List.drop_eq_getElem_cons hlt
    have HD := hide hdr
    have hwr := hbel.size
    generalize hq : Lk.good x = Q
    have HQ := hide hq
    clear hx hdr hq
    go_wp2_with fail
    refine (Dj x Q HQ _).mono ?_
    rintro e w1 ⟨rfl, hb1⟩
    have iL := hbel.trans (hb1.mono hwr)
    clear x0 x1 hb1 hbel
    cases Q
    . go_wp2_with fail
      go_ret2
      have e := uh HK
      rw [uh HD, Lk.di, uh HQ] at e
      have e2 := uh HW
      rw [e] at e2
      obtain ⟨rfl, rfl⟩ := e2
      exact ⟨rfl, iL⟩
    . go_wp2_with fail
      go_roundw
      case rel =>
       refine ⟨k + 1, by simp, by omega, ?_, iL⟩
       have e := uh HK
       rw [uh HD, Lk.di, uh HQ] at e
       exact e
      case measure => simp [intOf]; omega
  . have hlt' : ¬ (k : Int) < l.length := by omega
    go_wp2_with fail
    go_ret2
    have e := uh HK
    rw [List.drop_eq_nil_of_le (by omega), Lk.di] at e
    have e2 := uh HW
    rw [e] at e2
    obtain ⟨rfl, rfl⟩ := e2
    exact ⟨rfl, hbel⟩
theorem yz (l cap : Nat) (ad : Option Addr) (w : World) (hl : 6 < (l : Int)) :
 Calls Tryz.prog 101 #[.slice ad l cap] w fun e w' => e = .returned (.tuple #[.int .i64 8, .int .i64 0]) ∧ Below w.heap.size w w' := by
 go_enter Tryz.func101, Tryz.ntmps101
 go_wp2_with fail
 go_ret2
 exact ⟨rfl, Below.refl _ _⟩
theorem yA (w : World) :
 Calls Tryz.prog 101 #[.slice none 0 0] w fun e w' => e = .returned (.tuple #[.int .i64 0, .int .i64 0]) ∧ Below w.heap.size w w' := by
 go_enter Tryz.func101, Tryz.ntmps101
 go_wp2_with fail
 refine wp_loop_rounds 1 ?_
 rw [rounds_succ]
 go_wp2_with fail
 go_ret2
 exact ⟨rfl, Below.refl _ _⟩
theorem lL (B : Nat) (v : Value) (l : List Lk.Hd) (w : World) (own : w.ownsRow B 206 2 v l.length (aQ l)) :
 Calls Tryz.prog 101 #[v] w fun e w' => e = .returned (.tuple #[.int .i64 (Lk.wrong l).1, .int .i64 (Lk.wrong l).2]) ∧ Below w.heap.size w w' := by
 rcases eP own with ⟨rfl, rfl⟩ | ⟨g, cap, rfl, _⟩
 . exact yA w
 . unfold Lk.wrong
   split
   . exact yz l.length cap _ w (by omega)
   . exact yx B g cap l w (by omega) _ _ (hide ⟨rfl, rfl⟩) (hide own)
end Go.Proofs.YtbkpdapagfjmmaaGreatDoor
