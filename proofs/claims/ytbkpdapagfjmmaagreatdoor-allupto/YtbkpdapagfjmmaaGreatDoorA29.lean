import Derived.Test.YtbkpdapagfjmmaaGreatDoorA28
import Derived.Test.YtbkpdapagfjmmaaGreatDoorA33
import Derived.Maps.AppendAt
set_option linter.unusedVariables false
set_option maxRecDepth 100000
set_option maxHeartbeats 16000000
namespace Go.Proofs.YtbkpdapagfjmmaaGreatDoor
open Go.RowKit
variable {κ : Prop}
theorem Nl {w : World} {B : Nat} {v : Value} {evs : List EvH} (ho : w.ownsRow B 261 5 v evs.length (nH evs)) (q : EvH) (a : Nat) (ha : Is w a 261 (evV q)) (hq : q.2 = .slice none 0 0) (hn : evs.length <= 2 ^ 40) (hB : B <= w.heap.size) (ty : TypeId) :
 ∃ v' w', (Builtin.append_ #[217, 217] ty #[v, .slice (some ⟨a, 0, none⟩) 1 1]).run Tryz.prog w = .ok v' w' ∧ w'.ownsRow B 261 5 v' (evs ++ [q]).length (nH (evs ++ [q])) ∧ w.grownBy w' v.ownBlock := by
 obtain ⟨i, hi, hz0, hz1, hz2⟩ := info_parts EZ
 obtain ⟨v', w', hr, h1, h2, _⟩ := run_append_own (P := Tryz.prog) w B 217 ty 261 i (.agg #[.int .i64 0, .int .i64 0, .int .i64 0, .slice none 0 0, .string ⟨#[]⟩]) 5 64 Tryz.underlying217 hi hz0 hz1 hz2 rfl (by omega) v evs.length (nH evs) ho ⟨a, 0, none⟩ 1 1 (evV q) rfl
  (fun j u hj => by
   have e : (⟨a, 0, none⟩ : Addr).add j = ⟨a, j, none⟩ := by unfold Addr.add; split <;> simp_all
   rw [e, ha.cell]
   exact hj)
  (fun u hu => by
   unfold evV at hu
   rw [hq] at hu
   simp at hu
   rcases hu with rfl | rfl | rfl | rfl | rfl <;> rfl)
  (by unfold maxLen; omega) (by omega) hB
 refine ⟨v', w', hr, ?_, h2⟩
 have e1 : nH evs ++ evV q = nH (evs ++ [q]) := by simp [nH]
 have e2 : evs.length + 1 = (evs ++ [q]).length := by simp
 rw [e1, e2] at h1
 exact h1
theorem JM {W0 W : World} {v : Value} {evs : List EvH} (hb : Below W0.heap.size W0 W) (ho : W.ownsRow W0.heap.size 261 5 v evs.length (nH evs)) (q : EvH) (hq : q.2 = .slice none 0 0) (hn : evs.length <= 2 ^ 40) (ty : TypeId) :
 ∃ v' w', (Builtin.append_ #[217, 217] ty #[v, .slice (some ⟨W.heap.size, 0, none⟩) 1 1]).run Tryz.prog (W.alloc (.cells #[.int .i64 (q.1.k : Int), .int .i64 (q.1.st : Int), .int .i64 (q.1.n : Int), q.2, .string (bs q.1.t)] 261)) = .ok v' w' ∧ w'.ownsRow W0.heap.size 261 5 v' (evs ++ [q]).length (nH (evs ++ [q])) ∧ Below W0.heap.size W0 w' := by
 have hb1 := hb.alloc hb.size (.cells #[.int .i64 (q.1.k : Int), .int .i64 (q.1.st : Int), .int .i64 (q.1.n : Int), q.2, .string (bs q.1.t)] 261)
 have ho1 := ho.alloc (.cells #[.int .i64 (q.1.k : Int), .int .i64 (q.1.st : Int), .int .i64 (q.1.n : Int), q.2, .string (bs q.1.t)] 261)
 obtain ⟨v', w', hr, h1, h2⟩ := Nl ho1 q W.heap.size (Is.new W 261 (evV q)) hq hn hb1.size ty
 refine ⟨v', w', hr, h1, ⟨h2.os.trans hb1.os, h2.tape.trans hb1.tape, h2.output.trans hb1.output, Nat.le_trans hb1.size h2.size, fun i hi => (h2.block i (Nat.lt_of_lt_of_le hi hb1.size) (fun x => ?_)).trans (hb1.block i hi)⟩⟩
 have := (ho1.lt i x.symm).1
 omega
theorem iE (X : World) : Below X.heap.size X X.drew := ⟨rfl, rfl, rfl, Nat.le_refl _, fun _ _ => rfl⟩
theorem fA.evs {w W0 w' : World} {b : Nat} {E : Lk.En} {p : RP} {R : Nat} {v : Value} {evs : List EvH} (h : aj κ w b p E W0) (hb : Below W0.heap.size W0 w') (hs : w.heap.size <= W0.heap.size) (ho : w'.ownsRow W0.heap.size 261 5 v evs.length (nH evs)) (hn : ∀ q ∈ evs, q.2 = .slice Option.none 0 0 ∧ q.1.hs = []) : fA κ w b p R E (evs.map Prod.fst) (.returned (.tuple #[v, .int .i64 (R : Int)])) w' := fA.plain hs (h.after hb) ho hn
def pcY (o : Lk.Ot) (n k : Nat) : Lk.Ot := { o with cr := o.cr - n, opn := o.opn && decide (k ≠ 2), drp := o.drp && decide (k ≠ 2) }
theorem aT.piece {w : World} {b : Nat} {e : Lk.En} {p : RP} (h : aT κ w b e p) {i g cap n : Nat} {o : Lk.Ot} (ho : e.oth[i]? = some o) (hg : p.tv = .slice (some ⟨g, 0, none⟩) e.oth.length cap) :
 aT κ ((w.setCell ⟨g, i * 5 + 1, none⟩ (.int .i64 ((o.cr - n : Nat) : Int))).setCell ⟨b, 9, none⟩ (.int .i64 ((e.room - n : Nat) : Int))) b { e with oth := e.oth.set i { o with cr := o.cr - n }, room := e.room - n } p
 ∧ Only (aI b p) w ((w.setCell ⟨g, i * 5 + 1, none⟩ (.int .i64 ((o.cr - n : Nat) : Int))).setCell ⟨b, 9, none⟩ (.int .i64 ((e.room - n : Nat) : Int))) := by
 obtain ⟨s1, t1⟩ := h.fF ho hg 1 (.int .i64 ((o.cr - n : Nat) : Int)) { o with cr := o.cr - n } (by omega) rfl
 exact ⟨s1.set (e' := { e with oth := e.oth.set i { o with cr := o.cr - n }, room := e.room - n }) 9 (.int .i64 ((e.room - n : Nat) : Int)) rfl rfl rfl rfl rfl rfl (fun x => ⟨x, rfl⟩), t1.set b 9 _ (fun _ => .inl rfl)⟩
theorem aT.last {w : World} {b : Nat} {e : Lk.En} {p : RP} {i g cap n k : Nat} {o : Lk.Ot} (hi : i < e.oth.length) (h : aT κ w b { e with oth := e.oth.set i { o with cr := o.cr - n }, room := e.room - n } p) (hg : p.tv = .slice (some ⟨g, 0, none⟩) e.oth.length cap) (w' : World) (hw' : w' = if k = 2 then (w.setCell ⟨g, i * 5 + 3, none⟩ (.bool false)).setCell ⟨g, i * 5 + 4, none⟩ (.bool false) else w) :
 aT κ w' b { e with oth := e.oth.set i (pcY o n k), room := e.room - n } p ∧ Only (aI b p) w w' := by
 by_cases hk : k = 2
 . rw [if_pos hk] at hw'
   subst hw'
   have g1 : p.tv = .slice (some ⟨g, 0, none⟩) (e.oth.set i { o with cr := o.cr - n }).length cap := by rw [List.length_set]; exact hg
   obtain ⟨s1, t1⟩ := h.fF (i := i) (x := { o with cr := o.cr - n }) (List.getElem?_set_self hi) g1 3 (.bool false) { o with cr := o.cr - n, opn := false } (by omega) rfl
   have g2 : p.tv = .slice (some ⟨g, 0, none⟩) ((e.oth.set i { o with cr := o.cr - n }).set i { o with cr := o.cr - n, opn := false }).length cap := by simp only [List.length_set]; exact hg
   obtain ⟨s2, t2⟩ := s1.fF (i := i) (x := { o with cr := o.cr - n, opn := false }) (List.getElem?_set_self (by rw [List.length_set]; exact hi)) g2 4 (.bool false) { o with cr := o.cr - n, opn := false, drp := false } (by omega) rfl
   have hE : ((e.oth.set i { o with cr := o.cr - n }).set i { o with cr := o.cr - n, opn := false }).set i { o with cr := o.cr - n, opn := false, drp := false } = e.oth.set i (pcY o n k) := by
    simp only [List.set_set]
    unfold pcY
    rw [hk]
    simp
   refine ⟨?_, t1.trans t2 (fun _ x _ => x)⟩
   rw [<- hE]
   exact s2
 . rw [if_neg hk] at hw'
   subst hw'
   have : pcY o n k = { o with cr := o.cr - n } := by unfold pcY; simp [hk]
   rw [this]
   exact ⟨h, Only.refl _ _⟩
theorem wQ (b : Nat) (e : Lk.En) (p : RP) (f : Lk.Fr) (w : World) (h : aT κ w b e p) (hw : Lk.Wf e) (hd : f.d.length <= 64) (hl : e.row.length <= 2 ^ 41) :
 Calls Tryz.prog 181 #[.pointer (some ⟨b, 0, none⟩), frV f] w (fA κ w b p (e.bH f).2.1 (e.bH f).2.2 (e.bH f).1) := by
 have PE := hw.wE
 have hroom := hw.room
 have hwin := hw.kN
 have hbW := (Below.refl w.heap.size w).alloc (Nat.le_refl _) (.cells #[.int .i64 (f.k : Int), .int .i64 (f.st : Int), .string (bs f.d)] 66)
 have hBx := Is.new w 66 [.int .i64 (f.k : Int), .int .i64 (f.st : Int), .string (bs f.d)]
 have hW := h.below hbW
 have hwW : w.heap.size < (w.alloc (.cells #[.int .i64 (f.k : Int), .int .i64 (f.st : Int), .string (bs f.d)] 66)).heap.size := by simp
 have hft : ∀ i, aI b p i -> i < w.heap.size := fun i hi => h.lt hi
 generalize hWW : w.alloc (.cells #[.int .i64 (f.k : Int), .int .i64 (f.st : Int), .string (bs f.d)] 66) = W at *
 have o0 : W.cell? ⟨w.heap.size, 0, none⟩ = some (.int .i64 (f.k : Int)) := hBx.cell 0
 have o1 : W.cell? ⟨w.heap.size, 1, none⟩ = some (.int .i64 (f.st : Int)) := hBx.cell 1
 have o2 : W.cell? ⟨w.heap.size, 2, none⟩ = some (.string (bs f.d)) := hBx.cell 2
 have HOT := hide (lX b e p (f.st : Int) W hW (by omega))
 have hsz := ax f.d
 have HBX := hide hBx
 have HW := hide (⟨hbW, hW, hft⟩ : _ ∧ _ ∧ _)
 generalize hX : e.bH f = X
 have HX := hide hX
 unfold Lk.En.bH at hX
 clear h hW hbW hBx hft
 cases hy : Lk.bM e.oth (f.st : Int) with
 | none =>
   rw [hy] at HOT hX
   simp only [ixO] at HOT
   simp only [Option.bind_none] at hX
   obtain ⟨hbW, hW, hft⟩ := uh HW
   have HF : Hid (fA κ w b p X.2.1 X.2.2 X.1 (.returned (.tuple #[.slice none 0 0, .int .i64 4])) W) := by
    rw [<- hX]
    exact fA.none (R := 4) (aj.before hbW (aj.same hW))
   clear hX HX hy hbW hW hft HW HBX
   go_enter Tryz.func181, Tryz.ntmps181
   go_wp2_with fail
   refine (uh HOT).mono ?_
   rintro r w1 ⟨rfl, rfl⟩
   go_wp2_with fail
   go_ret2
   exact uh HF
 | some i =>
   obtain ⟨o, ho, hid⟩ := Lk.bg hy
   have hok := hw.oth i o ho
   have hcr := hok.cr
   have hi : i < e.oth.length := (List.getElem?_eq_some_iff.1 ho).1
   have hi' : (i : Int) < e.oth.length := by omega
   have hi1 : ¬ (i : Int) < 0 := by omega
   rw [hy] at HOT hX
   simp only [ixO] at HOT
   simp only [Option.bind_some, ho, Option.map_some] at hX
   obtain ⟨hbW, hW, hft⟩ := uh HW
   obtain ⟨g, cap, c7, hv, hgl, hcap, hbl, x1, x2, x3, x4, hfz, hgb⟩ := hW.Ox ho
   by_cases hcl : (!o.opn && !o.drp) = true
   . rw [if_pos hcl] at hX
     have HF : Hid (fA κ w b p X.2.1 X.2.2 X.1 (.returned (.tuple #[.slice none 0 0, .int .i64 4])) W) := by
      rw [<- hX]
      exact fA.none (R := 4) (aj.before hbW (aj.same hW))
     have h1 : o.opn = false ∧ o.drp = false := by simpa using hcl
     rw [h1.1] at x3
     rw [h1.2] at x4
     clear hX HX hy hbW hW hft HW HBX ho hok hcl h1 hfz hv
     go_enter Tryz.func181, Tryz.ntmps181
     go_wp2_with fail
     refine (uh HOT).mono ?_
     rintro r w1 ⟨rfl, rfl⟩
     go_wp2_with fail
     go_ret2
     exact uh HF
   . rw [if_neg hcl] at hX
     replace HX := hide hX
     have HCL := hide hcl
     have HHO := hide (⟨ho, hok, hv, hfz⟩ : _ ∧ _ ∧ _ ∧ _)
     have c9 : W.cell? ⟨b, 9, none⟩ = some (.int .i64 (e.room : Int)) := hW.blk.cell 9
     have f9 := hW.blk.free 9
     have f1 := hfz (i * 5 + 1)
     have f2 := hfz (i * 5 + 2)
     have f3 := hfz (i * 5 + 3)
     have f4 := hfz (i * 5 + 4)
     have hgb' : b ≠ g := Ne.symm hgb
     have hnb : b ≠ w.heap.size := by have := hft b (.inl rfl); omega
     have hng : g ≠ w.heap.size := by have := hft g (.inr (.inr (.inr (.inr (.inr (.inr (.inr (.inr (by rw [hv]; rfl))))))))); omega
     clear hX hy hbW hW hft ho hok hcl hfz hv
     generalize hN : f.d.length = N at *
     have hszI : ((bs f.d).size : Int) = N := by omega
     go_enter Tryz.func181, Tryz.ntmps181
     go_wp2_with fail
     refine (uh HOT).mono ?_
     rintro r w1 ⟨rfl, rfl⟩
     go_upto_region 2 with fail
     go_cut [37] (fun s37 wx => s37 = .bool false ∧ wx = w1)
     case first =>
      have hc := uh HCL
      cases hop : o.opn with
      | true =>
        rw [hop] at x3
        clear hc hop
        go_wp2_with fail
        go_meet
        exact ⟨rfl, rfl⟩
      | false =>
        have hdr : o.drp = true := by
         rw [hop] at hc
         simpa using hc
        rw [hop] at x3
        rw [hdr] at x4
        clear hc hop hdr
        go_wp2_with fail
        go_meet
        exact ⟨rfl, rfl⟩
     case rest =>
      obtain ⟨rfl, rfl⟩ := hcut
      by_cases hc : o.cr < N ∨ e.room < N
      . have hX := uh HX
        rw [if_pos hc] at hX
        obtain ⟨hbW, hW, hft⟩ := uh HW
        have HF : Hid (fA κ w b p X.2.1 X.2.2 X.1 (.returned (.tuple #[.slice none 0 0, .int .i64 10])) wc) := by
         rw [<- hX]
         exact fA.none (R := 10) (aj.before hbW (aj.same hW))
        clear hX HX hbW hW hft
        by_cases hc1 : o.cr < N
        . have hc1' : (o.cr : Int) < N := by omega
          clear hc
          go_wp2_with fail
          go_ret2
          exact uh HF
        . have hc1' : ¬ (o.cr : Int) < N := by omega
          have hc2' : (e.room : Int) < N := by omega
          clear hc
          go_wp2_with fail
          go_ret2
          exact uh HF
      . have hX := uh HX
        rw [if_neg hc] at hX
        replace HX := hide hX
        have hc1' : ¬ (o.cr : Int) < N := by omega
        have hc2' : ¬ (e.room : Int) < N := by omega
        obtain ⟨hbW, hW, hft⟩ := uh HW
        obtain ⟨ho, hok, hv, hfz⟩ := uh HHO
        have e1 : (o.cr : Int) - N = ((o.cr - N : Nat) : Int) := by omega
        have e2 : (e.room : Int) - N = ((e.room - N : Nat) : Int) := by omega
        have u1 : ((o.cr - N : Nat) : Int) <= 1000 := by omega
        have u2 : ((e.room - N : Nat) : Int) <= 1000 := by omega
        have u3 : (0 : Int) <= ((o.cr - N : Nat) : Int) := by omega
        have u4 : (0 : Int) <= ((e.room - N : Nat) : Int) := by omega
        have u5 : (o.cr : Int) <= 1000 := by omega
        have u6 : (e.room : Int) <= 1000 := by omega
        have HP := hide (hW.piece (n := N) ho hv)
        have HL := hide (fun w2 (h2 : aT κ w2 b { e with oth := e.oth.set i { o with cr := o.cr - N }, room := e.room - N } p) => aT.last (k := f.k) hi h2 hv)
        generalize hCN : ((o.cr - N : Nat) : Int) = CN at *
        generalize hRN : ((e.room - N : Nat) : Int) = RN at *
        generalize hCR : (o.cr : Int) = CR at *
        generalize hER : (e.room : Int) = ER at *
        have HH := hide (⟨hCN, hRN, hCR, hER⟩ : _ ∧ _ ∧ _ ∧ _)
        clear hX hc hbW hW hft ho hok hv hfz hCN hRN hCR hER
        go_wp2_with fail
        go_region
        go_upto_if 95 with fail
        obtain ⟨wa, hwa⟩ : ∃ wa, wa = wc := ⟨_, rfl⟩
        subst hwa
        go_cut [] (fun w8 => Hid (w8 = World.drew (if f.k = 2 then (((wa.setCell ⟨g, i * 5 + 1, none⟩ (.int .i64 CN)).setCell ⟨b, 9, none⟩ (.int .i64 RN)).setCell ⟨g, i * 5 + 3, none⟩ (.bool false)).setCell ⟨g, i * 5 + 4, none⟩ (.bool false) else ((wa.setCell ⟨g, i * 5 + 1, none⟩ (.int .i64 CN)).setCell ⟨b, 9, none⟩ (.int .i64 RN)))))
        case first =>
         have HBL : Hid (((f.k : Int) == 2) = decide (f.k = 2)) := by
          have : ((f.k : Int) == 2) = decide (f.k = 2) := by
           by_cases h : f.k = 2
           . rw [h]; rfl
           . rw [decide_eq_false h]; simp; omega
          exact this
         generalize ((f.k : Int) == 2) = BL at *
         cases BL with
         | true =>
           go_wp2_with fail
           go_meet
           show _ = _
           rw [if_pos (of_decide_eq_true (uh HBL).symm)]
         | false =>
           go_wp2_with fail
           go_meet
           show _ = _
           rw [if_neg (of_decide_eq_false (uh HBL).symm)]
        case rest =>
         have hw8 := uh hcut
         clear hcut
         obtain ⟨hp1, hp2⟩ := uh HP
         obtain ⟨s7, t7⟩ := uh HL _ hp1 _ rfl
         have b7 : Is (if f.k = 2 then (((wa.setCell ⟨g, i * 5 + 1, none⟩ (.int .i64 CN)).setCell ⟨b, 9, none⟩ (.int .i64 RN)).setCell ⟨g, i * 5 + 3, none⟩ (.bool false)).setCell ⟨g, i * 5 + 4, none⟩ (.bool false) else ((wa.setCell ⟨g, i * 5 + 1, none⟩ (.int .i64 CN)).setCell ⟨b, 9, none⟩ (.int .i64 RN))) w.heap.size 66 [.int .i64 (f.k : Int), .int .i64 (f.st : Int), .string (bs f.d)] := by
          have k := ((uh HBX).other ⟨g, i * 5 + 1, none⟩ (.int .i64 CN) (Ne.symm hng)).other ⟨b, 9, none⟩ (.int .i64 RN) (Ne.symm hnb)
          split
          . exact (k.other _ _ (Ne.symm hng)).other _ _ (Ne.symm hng)
          . exact k
         generalize (if f.k = 2 then (((wa.setCell ⟨g, i * 5 + 1, none⟩ (.int .i64 CN)).setCell ⟨b, 9, none⟩ (.int .i64 RN)).setCell ⟨g, i * 5 + 3, none⟩ (.bool false)).setCell ⟨g, i * 5 + 4, none⟩ (.bool false) else ((wa.setCell ⟨g, i * 5 + 1, none⟩ (.int .i64 CN)).setCell ⟨b, 9, none⟩ (.int .i64 RN))) = V8 at *
         have s8 := s7.below (iE V8)
         have b8 := b7.below (iE V8) b7.lt
         have t8 : Only (aI b p) w V8.drew := ((Only.of_below (uh HW).1 _).trans (hp2.trans t7 (fun _ x _ => x)) (fun _ x _ => x)).below (iE V8)
         rw [<- hw8] at s8 b8 t8
         clear hw8 hp1 hp2 s7 t7 b7
         have ho8 : ({ e with oth := e.oth.set i (pcY o N f.k), room := e.room - N } : Lk.En).oth[i]? = some (pcY o N f.k) := List.getElem?_set_self hi
         obtain ⟨g8, U6, q7, qv, qg, Ti, qb, q1, q2, q3, q4, qz, qgb⟩ := s8.Ox ho8
         have Rj : ({ e with oth := e.oth.set i (pcY o N f.k), room := e.room - N } : Lk.En).oth.length = e.oth.length := by simp
         rw [Rj] at q7 Ti
         have r0 : wc.cell? ⟨w.heap.size, 0, none⟩ = some (.int .i64 (f.k : Int)) := b8.cell 0
         have r1 : wc.cell? ⟨w.heap.size, 1, none⟩ = some (.int .i64 (f.st : Int)) := b8.cell 1
         have r2 : wc.cell? ⟨w.heap.size, 2, none⟩ = some (.string (bs f.d)) := b8.cell 2
         have rl := b8.lt
         have z2 := qz (i * 5 + 2)
         have Vl : g8 ≠ w.heap.size := by
          have := (uh HW).2.2 g8 (.inr (.inr (.inr (.inr (.inr (.inr (.inr (.inr (by rw [qv]; rfl)))))))))
          omega
         have b9 := b8.other ⟨g8, i * 5 + 2, none⟩ (.int .i64 ((o.held + N : Nat) : Int)) (Ne.symm Vl)
         have hsg := s8.fF ho8 qv 2 (.int .i64 ((o.held + N : Nat) : Int)) { pcY o N f.k with held := o.held + N } (by omega) rfl
         have hroom' : e.room <= 400 := by omega
         have HBK := hide (sV b _ p N wc s8 (by omega) (by show e.room - N <= 400; omega) (by show e.row.length <= _; omega))
         have hX := uh HX
         have hc := uh HCL
         clear s8 b8 q1 q3 q4 qz qv ho8 Rj o0 o1 o2 c7 x1 x2 x3 x4 f9 f1 f2 f3 f4 c9 HL HP HX HCL HHO HOT HBX HW
         cases hop : o.opn with
         | false =>
           rw [hop] at hX hc
           have hdr : o.drp = true := by simpa using hc
           have hE : ({ e with oth := e.oth.set i (pcY o N f.k), room := e.room - N } : Lk.En) = { e with oth := e.oth.set i { o with cr := o.cr - N, drp := decide (f.k ≠ 2) }, room := e.room - N } := by
            unfold pcY
            rw [hop, hdr]
            simp
           rw [hE] at HBK
           rw [if_neg (by decide)] at hX
           have HF : Hid (∀ w9, aj κ wc b p X.2.2 w9 -> fA κ w b p X.2.1 X.2.2 X.1 (.returned (.tuple #[.slice none 0 0, .int .i64 0])) w9) := by
            rw [<- hX]
            exact fun w9 h9 => fA.none (R := 0) (aj.trans (fun _ x => .inl x) t8 h9)
           have WM : Hid (Calls Tryz.prog 165 #[.pointer (some ⟨b, 0, none⟩), .int .i64 (N : Int)] wc fun r w' => r = .returned (.tuple #[]) ∧ aj κ wc b p X.2.2 w') := by
            rw [<- hX]
            rw [hop] at HBK
            exact uh HBK
           clear hX hc hdr hE HBK t8 hsg hop b9
           go_wp2_with fail
           refine (uh WM).mono ?_
           rintro r w9 ⟨rfl, h9⟩
           have HF9 := hide (uh HF w9 h9)
           clear h9
           go_wp2_with fail
           go_ret2
           exact uh HF9
         | true =>
           rw [hop] at hX
           rw [if_pos rfl] at hX
           obtain ⟨sg, tg⟩ := hsg
           have hE : ({ ({ e with oth := e.oth.set i (pcY o N f.k), room := e.room - N } : Lk.En) with oth := ({ e with oth := e.oth.set i (pcY o N f.k), room := e.room - N } : Lk.En).oth.set i { pcY o N f.k with held := o.held + N } } : Lk.En) = { e with oth := e.oth.set i { o with cr := o.cr - N, held := o.held + N, opn := decide (f.k ≠ 2), drp := o.drp && decide (f.k ≠ 2) }, room := e.room - N } := by
            unfold pcY
            rw [hop]
            simp [List.set_set]
           rw [hE] at sg
           have e3 : (o.held : Int) + N = ((o.held + N : Nat) : Int) := by omega
           have v1 : ((o.held + N : Nat) : Int) <= 1000 := by omega
           have v2 : (0 : Int) <= ((o.held + N : Nat) : Int) := by omega
           have v3 : (o.held : Int) <= 1000 := by omega
           have hP : aj κ w b p X.2.2 (wc.setCell ⟨g8, i * 5 + 2, none⟩ (.int .i64 ((o.held + N : Nat) : Int))).drew := by
            rw [<- hX]
            exact ⟨p, sg.below (iE _), fun _ x => .inl x, (t8.trans tg (fun _ x _ => x)).below (iE _)⟩
           replace b9 := b9.below (iE _) b9.lt
           have Ru : w.heap.size <= (wc.setCell ⟨g8, i * 5 + 2, none⟩ (.int .i64 ((o.held + N : Nat) : Int))).drew.heap.size := Nat.le_of_lt b9.lt
           have HP9 := hide (⟨hP, b9, Ru⟩ : _ ∧ _ ∧ _)
           have q2' : wc.cell? ⟨g8, i * 5 + 2, none⟩ = some (.int .i64 (o.held : Int)) := q2
           have hX1 : X.1 = (if 0 < N then [(⟨2, f.st, 0, [], f.d⟩ : Lk.Ev)] else []) ++ (if f.k = 2 then [(⟨3, f.st, 0, [], []⟩ : Lk.Ev)] else []) := by rw [<- hX]
           have hX2 : X.2.1 = 0 := by rw [<- hX]
           have HX := hide (⟨hX1, hX2⟩ : _ ∧ _)
           clear hP b9 Ru sg tg hE t8 hX hX1 hX2 HBK hc hop q2
           generalize ((o.held + N : Nat) : Int) = HN at *
           generalize (o.held : Int) = OH at *
           go_wp2_with fail
           go_region
           generalize hV9 : (wc.setCell ⟨g8, i * 5 + 2, none⟩ (.int .i64 HN)).drew = V9 at *
           obtain ⟨hP, b9, Ru⟩ := uh HP9
           have y0 : V9.cell? ⟨w.heap.size, 0, none⟩ = some (.int .i64 (f.k : Int)) := b9.cell 0
           have y1 : V9.cell? ⟨w.heap.size, 1, none⟩ = some (.int .i64 (f.st : Int)) := b9.cell 1
           have y2 : V9.cell? ⟨w.heap.size, 2, none⟩ = some (.string (bs f.d)) := b9.cell 2
           have yl := b9.lt
           have HR3 : Hid (∀ W v evs, Below V9.heap.size V9 W -> W.ownsRow V9.heap.size 261 5 v evs.length (nH evs) -> (∀ q ∈ evs, q.2 = .slice Option.none 0 0 ∧ q.1.hs = []) -> evs.map Prod.fst = X.1 -> fA κ w b p X.2.1 X.2.2 X.1 (.returned (.tuple #[v, .int .i64 0])) W) := by
            intro W v evs k1 k2 k3 k4
            rw [(uh HX).2, <- k4]
            exact fA.evs (R := 0) hP k1 Ru k2 k3
           have HBF := hide b9
           have hbr := Below.refl V9.heap.size V9
           have hnil := World.ownsRow_nil V9 V9.heap.size 261 5
           have HT : Hid (∀ W v evs, Below V9.heap.size V9 W -> W.ownsRow V9.heap.size 261 5 v evs.length (nH evs) -> evs.length <= 1 -> ∃ v' w', (Builtin.append_ #[217, 217] 217 #[v, .slice (some ⟨W.heap.size, 0, none⟩) 1 1]).run Tryz.prog (W.alloc (.cells #[.int .i64 3, .int .i64 (f.st : Int), .int .i64 0, .slice none 0 0, .string ⟨#[]⟩] 261)) = .ok v' w' ∧ w'.ownsRow V9.heap.size 261 5 v' (evs ++ [((⟨3, f.st, 0, [], []⟩ : Lk.Ev), (.slice none 0 0 : Value))]).length (nH (evs ++ [((⟨3, f.st, 0, [], []⟩ : Lk.Ev), (.slice none 0 0 : Value))])) ∧ Below V9.heap.size V9 w') := by
            intro W v evs k1 k2 k3
            exact JM k1 k2 ((⟨3, f.st, 0, [], []⟩ : Lk.Ev), (.slice none 0 0 : Value)) rfl (by omega) _
           clear hP b9 Ru HP9 hV9 q7 qg qb Ti z2 r0 r1 r2 rl q2' Vl
           by_cases hk : f.k = 2
           . have hk' : (f.k : Int) = 2 := by omega
             rw [hk'] at y0
             have HK := hide hk
             clear hk hk'
             by_cases h0 : 0 < N
             . have h0' : (0 : Int) < N := by omega
               obtain ⟨v4, w4, hr4, ho4, hb4⟩ := JM (evs := []) hbr hnil ((⟨2, f.st, 0, [], f.d⟩ : Lk.Ev), (.slice none 0 0 : Value)) rfl (Nat.zero_le _) 217
               obtain ⟨v5, w5, hr5, ho5, hb5⟩ := uh HT w4 v4 _ hb4 ho4 (Nat.le_refl _)
               have HA2 : Hid ((Builtin.append_ #[217, 217] 217 #[.slice none 0 0, .slice (some ⟨V9.heap.size, 0, none⟩) 1 1]).run Tryz.prog (V9.alloc (.cells #[.int .i64 2, .int .i64 (f.st : Int), .int .i64 0, .slice none 0 0, .string (bs f.d)] 261)) = .ok v4 w4) := hr4
               have HA3 := hide hr5
               have b4 := (uh HBF).below hb4 yl
               have x0 : w4.cell? ⟨w.heap.size, 0, none⟩ = some (.int .i64 2) := by rw [b4.cell 0]; exact congrArg (fun x : Nat => some (Value.int .i64 (x : Int))) (uh HK)
               have x1 : w4.cell? ⟨w.heap.size, 1, none⟩ = some (.int .i64 (f.st : Int)) := b4.cell 1
               have xl := b4.lt
               have HF := hide (uh HR3 w5 v5 _ hb5 ho5 (fun q hq => by simp at hq; rcases hq with rfl | rfl <;> exact ⟨rfl, rfl⟩) (by rw [(uh HX).1, if_pos h0, if_pos (uh HK)]; rfl))
               clear hr4 hr5 ho4 ho5 hb4 hb5 b4 h0 HBF HT HR3 HX
               go_wp2_with (at_builtin; first | refine Lib.wpList_append_run _ rfl _ _ _ _ rfl _ _ rfl rfl _ _ (uh HA2) ?_ | refine Lib.wpList_append_run _ rfl _ _ _ _ rfl _ _ rfl rfl _ _ (uh HA3) ?_)
               go_ret2
               exact uh HF
             . have h0' : ¬ (0 : Int) < N := by omega
               obtain ⟨v5, w5, hr5, ho5, hb5⟩ := uh HT V9 gQ [] hbr hnil (by show 0 <= _; omega)
               have HA3 : Hid ((Builtin.append_ #[217, 217] 217 #[.slice none 0 0, .slice (some ⟨V9.heap.size, 0, none⟩) 1 1]).run Tryz.prog (V9.alloc (.cells #[.int .i64 3, .int .i64 (f.st : Int), .int .i64 0, .slice none 0 0, .string ⟨#[]⟩] 261)) = .ok v5 w5) := hr5
               have HF := hide (uh HR3 w5 v5 _ hb5 ho5 (fun q hq => by simp at hq; subst hq; exact ⟨rfl, rfl⟩) (by rw [(uh HX).1, if_neg h0, if_pos (uh HK)]; rfl))
               clear hr5 ho5 hb5 h0 HBF HT HR3 HX
               go_wp2_with (at_builtin; refine Lib.wpList_append_run _ rfl _ _ _ _ rfl _ _ rfl rfl _ _ (uh HA3) ?_)
               go_ret2
               exact uh HF
           . have hk' : ¬ (f.k : Int) = 2 := by omega
             have HK := hide hk
             clear hk
             by_cases h0 : 0 < N
             . have h0' : (0 : Int) < N := by omega
               obtain ⟨v4, w4, hr4, ho4, hb4⟩ := JM (evs := []) hbr hnil ((⟨2, f.st, 0, [], f.d⟩ : Lk.Ev), (.slice none 0 0 : Value)) rfl (Nat.zero_le _) 217
               have HA2 : Hid ((Builtin.append_ #[217, 217] 217 #[.slice none 0 0, .slice (some ⟨V9.heap.size, 0, none⟩) 1 1]).run Tryz.prog (V9.alloc (.cells #[.int .i64 2, .int .i64 (f.st : Int), .int .i64 0, .slice none 0 0, .string (bs f.d)] 261)) = .ok v4 w4) := hr4
               have b4 := (uh HBF).below hb4 yl
               have x0 : w4.cell? ⟨w.heap.size, 0, none⟩ = some (.int .i64 (f.k : Int)) := b4.cell 0
               have xl := b4.lt
               have HF := hide (uh HR3 w4 v4 _ hb4 ho4 (fun q hq => by simp at hq; subst hq; exact ⟨rfl, rfl⟩) (by rw [(uh HX).1, if_pos h0, if_neg (uh HK)]; rfl))
               clear hr4 ho4 hb4 b4 h0 HBF HT HR3 HX
               go_wp2_with (at_builtin; refine Lib.wpList_append_run _ rfl _ _ _ _ rfl _ _ rfl rfl _ _ (uh HA2) ?_)
               go_ret2
               exact uh HF
             . have h0' : ¬ (0 : Int) < N := by omega
               have HF := hide (uh HR3 V9 gQ [] hbr hnil (by simp) (by rw [(uh HX).1, if_neg h0, if_neg (uh HK)]; rfl))
               clear h0 HBF HT HR3 HX
               go_wp2_with fail
               go_ret2
               exact uh HF
theorem aT.Rz {w w' : World} {b : Nat} {e : Lk.En} {p : RP} (h : aT κ w b e p) {L : List Lk.Hd} {v' : Value} (hT : RTab w' p.ib 100 L v') (hTu : Turns p.ib w w') (hv : ∀ k, v'.ownBlock = some k -> w.heap.size <= k) : aT κ w' b { e with inn := L } { p with vi := v' } ∧ (∀ i, aI b { p with vi := v' } i -> aI b p i ∨ w.heap.size <= i) ∧ Only (aI b p) w w' := by
 have hO : Only (· = p.ib) w w' := Only.dP hTu
 obtain ⟨a1, _, a3, a4, a5, a6, a7⟩ := h.apt h.inn.blk
 have a1 := a1 (nbq rfl)
 have a3 := a3 (nbq rfl)
 have a4 := (a4 (nbq rfl)).1
 have a5 := a5 (nbq rfl)
 have a6 := a6 (nbq rfl)
 have a7 := a7 (nbq rfl)
 obtain ⟨s, f, r1, r2⟩ := h.rd
 have hR : aT κ w' b { e with inn := L } { p with vi := v' } := ⟨h.blk.only hO a1, h.out.only hO h.ne (fun i hi => a4 i hi), hT, ⟨s, f, r1.only hO a3, r2⟩, h.row.only hO (fun i hi => a5 i hi), ag h.own hO (fun i hi => a6 i hi), ag h.oth hO (fun i hi => a7 i hi), h.ne, by
  cases hx : p.vo.ownBlock with
  | none => exact .inl rfl
  | some k =>
    refine .inr (fun e2 => ?_)
    have q1 := hv k e2.symm
    have q2 := (h.out.own.lt k hx).2
    omega⟩
 refine ⟨hR, fun i hi => ?_, hO.mono (fun i hi => .inr (.inr (.inl hi)))⟩
 rcases hi with hi | hi | hi | hi | hi | hi | hi | hi | hi
 . exact .inl (.inl hi)
 . exact .inl (.inr (.inl hi))
 . exact .inl (.inr (.inr (.inl hi)))
 . exact .inl (.inr (.inr (.inr (.inl hi))))
 . exact .inl (.inr (.inr (.inr (.inr (.inl hi)))))
 . exact .inr (hv i hi)
 . exact .inl (.inr (.inr (.inr (.inr (.inr (.inr (.inl hi)))))))
 . exact .inl (.inr (.inr (.inr (.inr (.inr (.inr (.inr (.inl hi))))))))
 . exact .inl (.inr (.inr (.inr (.inr (.inr (.inr (.inr (.inr hi))))))))
theorem aT.RD {w w' : World} {b : Nat} {e : Lk.En} {p : RP} (h : aT κ w b e p) {v' : Value} {l : List Lk.Ot} (hq : w'.ownsRow 0 265 5 v' l.length (L8 l)) (hv : v'.ownBlock = p.tv.ownBlock ∨ ∀ k, v'.ownBlock = some k -> w.heap.size <= k) (hO : Only (fun i => p.tv.ownBlock = some i) w w') : aj κ w b p { e with oth := l } (w'.setCell ⟨b, 7, none⟩ v') := by
 have hap : ∀ i, p.tv.ownBlock = some i -> b ≠ i ∧ (p.ob ≠ i ∧ p.ib ≠ i) ∧ p.rb ≠ i ∧ ((∀ j, p.vo.ownBlock = some j -> j ≠ i) ∧ ∀ j, p.vi.ownBlock = some j -> j ≠ i) ∧ (∀ j, p.rv.ownBlock = some j -> j ≠ i) ∧ ∀ j, p.wv.ownBlock = some j -> j ≠ i := fun i hi => by
  obtain ⟨cs, hI⟩ := iM h.oth hi
  obtain ⟨a1, a2, a3, a4, a5, a6, _⟩ := h.apt hI
  exact ⟨a1 (nbq rfl), a2 (nbq rfl), a3 (nbq rfl), a4 (nbq rfl), a5 (nbq rfl), a6 (nbq rfl)⟩
 have hO2 : Only (fun i => p.tv.ownBlock = some i ∨ i = b) w (w'.setCell ⟨b, 7, none⟩ v') := (hO.mono (fun i hi => .inl hi)).set b 7 v' (fun _ => .inr rfl)
 obtain ⟨c1, c2, c3, c4, c5, c6, c7, c8⟩ := h.apart
 have hn : ∀ i, (∀ j, p.tv.ownBlock = some j -> i ≠ j) -> i ≠ b -> ¬ (p.tv.ownBlock = some i ∨ i = b) := fun i h1 h2 hx => by
  rcases hx with hx | hx
  . exact h1 i hx rfl
  . exact h2 hx
 have hI := (h.blk.only hO (fun hb => (hap b hb).1 rfl)).set 7 v'
 have hbq : ∀ i, v'.ownBlock = some i -> i ≠ b := fun i hi => by
  rcases hv with hv | hv
  . rw [hv] at hi
    exact c8 i hi
  . have := hv i hi
    have := h.blk.lt
    omega
 obtain ⟨s, f, r1, r2⟩ := h.rd
 refine ⟨{ p with tv := v' }, ⟨hI, h.out.only hO2 (hn _ (fun j hj => (hap j hj).2.1.1) (Ne.symm c1)) (fun i hi => hn i (fun j hj => (hap j hj).2.2.2.1.1 i hi) (c4 i hi)), h.inn.only hO2 (hn _ (fun j hj => (hap j hj).2.1.2) (Ne.symm c2)) (fun i hi => hn i (fun j hj => (hap j hj).2.2.2.1.2 i hi) (c5 i hi)), ⟨s, f, r1.only hO2 (hn _ (fun j hj => (hap j hj).2.2.1) (Ne.symm c3)), r2⟩, h.row.only hO2 (fun i hi => hn i (fun j hj => (hap j hj).2.2.2.2.1 i hi) (c6 i hi)), ag h.own hO2 (fun i hi => hn i (fun j hj => (hap j hj).2.2.2.2.2 i hi) (c7 i hi)), ag hq ((Only.refl (· = b) w').set b 7 v' (fun _ => rfl)) hbq, h.ne, h.nv⟩, fun i hi => ?_, hO2.mono (fun i hi => ?_)⟩
 . rcases hi with hi | hi | hi | hi | hi | hi | hi | hi | hi
   . exact .inl (.inl hi)
   . exact .inl (.inr (.inl hi))
   . exact .inl (.inr (.inr (.inl hi)))
   . exact .inl (.inr (.inr (.inr (.inl hi))))
   . exact .inl (.inr (.inr (.inr (.inr (.inl hi)))))
   . exact .inl (.inr (.inr (.inr (.inr (.inr (.inl hi))))))
   . exact .inl (.inr (.inr (.inr (.inr (.inr (.inr (.inl hi)))))))
   . exact .inl (.inr (.inr (.inr (.inr (.inr (.inr (.inr (.inl hi))))))))
   . rcases hv with hv | hv
     . have hi : v'.ownBlock = some i := hi
       rw [hv] at hi
       exact .inl (.inr (.inr (.inr (.inr (.inr (.inr (.inr (.inr hi))))))))
     . exact .inr (hv i hi)
 . rcases hi with hi | hi
   . exact .inr (.inr (.inr (.inr (.inr (.inr (.inr (.inr hi)))))))
   . exact .inl hi
theorem aT.RG {w w' : World} {b : Nat} {e : Lk.En} {p : RP} (h : aT κ w b e p) {v' : Value} {l : List Lk.Ow} (hq : w'.ownsRow 0 258 4 v' l.length (L6 l)) (hv : v'.ownBlock = p.wv.ownBlock ∨ ∀ k, v'.ownBlock = some k -> w.heap.size <= k) (hO : Only (fun i => p.wv.ownBlock = some i) w w') : aj κ w b p { e with own := l } (w'.setCell ⟨b, 6, none⟩ v') := by
 have hap : ∀ i, p.wv.ownBlock = some i -> b ≠ i ∧ (p.ob ≠ i ∧ p.ib ≠ i) ∧ p.rb ≠ i ∧ ((∀ j, p.vo.ownBlock = some j -> j ≠ i) ∧ ∀ j, p.vi.ownBlock = some j -> j ≠ i) ∧ (∀ j, p.rv.ownBlock = some j -> j ≠ i) ∧ ∀ j, p.tv.ownBlock = some j -> j ≠ i := fun i hi => by
  obtain ⟨cs, hI⟩ := iM h.own hi
  obtain ⟨a1, a2, a3, a4, a5, _, a7⟩ := h.apt hI
  exact ⟨a1 (nbq rfl), a2 (nbq rfl), a3 (nbq rfl), a4 (nbq rfl), a5 (nbq rfl), a7 (nbq rfl)⟩
 have hO2 : Only (fun i => p.wv.ownBlock = some i ∨ i = b) w (w'.setCell ⟨b, 6, none⟩ v') := (hO.mono (fun i hi => .inl hi)).set b 6 v' (fun _ => .inr rfl)
 obtain ⟨c1, c2, c3, c4, c5, c6, c7, c8⟩ := h.apart
 have hn : ∀ i, (∀ j, p.wv.ownBlock = some j -> i ≠ j) -> i ≠ b -> ¬ (p.wv.ownBlock = some i ∨ i = b) := fun i h1 h2 hx => by
  rcases hx with hx | hx
  . exact h1 i hx rfl
  . exact h2 hx
 have hI := (h.blk.only hO (fun hb => (hap b hb).1 rfl)).set 6 v'
 have hbq : ∀ i, v'.ownBlock = some i -> i ≠ b := fun i hi => by
  rcases hv with hv | hv
  . rw [hv] at hi
    exact c7 i hi
  . have := hv i hi
    have := h.blk.lt
    omega
 obtain ⟨s, f, r1, r2⟩ := h.rd
 refine ⟨{ p with wv := v' }, ⟨hI, h.out.only hO2 (hn _ (fun j hj => (hap j hj).2.1.1) (Ne.symm c1)) (fun i hi => hn i (fun j hj => (hap j hj).2.2.2.1.1 i hi) (c4 i hi)), h.inn.only hO2 (hn _ (fun j hj => (hap j hj).2.1.2) (Ne.symm c2)) (fun i hi => hn i (fun j hj => (hap j hj).2.2.2.1.2 i hi) (c5 i hi)), ⟨s, f, r1.only hO2 (hn _ (fun j hj => (hap j hj).2.2.1) (Ne.symm c3)), r2⟩, h.row.only hO2 (fun i hi => hn i (fun j hj => (hap j hj).2.2.2.2.1 i hi) (c6 i hi)), ag hq ((Only.refl (· = b) w').set b 6 v' (fun _ => rfl)) hbq, ag h.oth hO2 (fun i hi => hn i (fun j hj => (hap j hj).2.2.2.2.2 i hi) (c8 i hi)), h.ne, h.nv⟩, fun i hi => ?_, hO2.mono (fun i hi => ?_)⟩
 . rcases hi with hi | hi | hi | hi | hi | hi | hi | hi | hi
   . exact .inl (.inl hi)
   . exact .inl (.inr (.inl hi))
   . exact .inl (.inr (.inr (.inl hi)))
   . exact .inl (.inr (.inr (.inr (.inl hi))))
   . exact .inl (.inr (.inr (.inr (.inr (.inl hi)))))
   . exact .inl (.inr (.inr (.inr (.inr (.inr (.inl hi))))))
   . exact .inl (.inr (.inr (.inr (.inr (.inr (.inr (.inl hi)))))))
   . rcases hv with hv | hv
     . have hi : v'.ownBlock = some i := hi
       rw [hv] at hi
       exact .inl (.inr (.inr (.inr (.inr (.inr (.inr (.inr (.inl hi))))))))
     . exact .inr (hv i hi)
   . exact .inl (.inr (.inr (.inr (.inr (.inr (.inr (.inr (.inr hi))))))))
 . rcases hi with hi | hi
   . exact .inr (.inr (.inr (.inr (.inr (.inr (.inr (.inl hi)))))))
   . exact .inl hi
theorem AO (w : World) (c d : Obj) : Below w.heap.size w ((w.alloc c).alloc d).drew.drew := by
 have h := ((Below.refl w.heap.size w).alloc (Nat.le_refl _) c).alloc (by simp) d
 exact ⟨h.os, h.tape, h.output, h.size, h.block⟩
theorem Ns (w : World) (c : Obj) (y : Lk.Ot) : ∀ j u, (rtV y)[j]? = some u -> ((w.alloc c).alloc (.cells #[.int .i64 (y.id : Int), .int .i64 (y.cr : Int), .int .i64 (y.held : Int), .bool y.opn, .bool y.drp] 265)).drew.drew.cell? ((⟨w.heap.size + 1, 0, none⟩ : Addr).add j) = some u := by
 intro j u hj
 have e : (⟨w.heap.size + 1, 0, none⟩ : Addr).add j = ⟨w.heap.size + 1, j, none⟩ := by unfold Addr.add; split <;> simp_all
 have hI := Is.new (w.alloc c) 265 (rtV y)
 rw [World.size_alloc] at hI
 rw [e]
 exact (hI.cell j).trans hj
theorem Nu : (Tryz.prog.info? 265).map (fun i => (i.zero, i.size, i.bytes)) = some (some (.agg #[.int .i64 0, .int .i64 0, .int .i64 0, .bool false, .bool false]), 5, 32) := by kernel_rfl
theorem wV {w : World} {B B' : Nat} {e : TypeId} {size n : Nat} {v : Value} {xs : List Value} (h : w.ownsRow B e size v n xs) (hB : B' <= B) : w.ownsRow B' e size v n xs := by
 refine ⟨h.1, ?_⟩
 rcases h.2 with k | ⟨g, cap, cur, k0, k1, k2⟩
 . exact .inl k
 . exact .inr ⟨g, cap, cur, k0, by omega, k2⟩
theorem fA.head {w wc w' : World} {b B : Nat} {E : Lk.En} {p p' : RP} {st : Nat} {hs : List Lk.Hd} {lv : Value} (h1 : aT κ wc b E p') (h2 : ∀ i, aI b p' i -> aI b p i ∨ w.heap.size <= i) (h3 : Only (aI b p) w wc) (hB : w.heap.size <= B) (hr : wc.ownsRow B 206 2 lv hs.length (aQ hs)) (hn : ∀ i, lv.ownBlock = some i -> ¬ aI b p' i)
 (hb : Below (wc.heap.size + 1) (wc.alloc (.cells #[.int .i64 1, .int .i64 (st : Int), .int .i64 0, lv, .string ⟨#[]⟩] 261)) w') :
 fA κ w b p 0 E [⟨1, st, 0, hs, []⟩] (.returned (.tuple #[.slice (some ⟨wc.heap.size, 0, Option.none⟩) 1 1, .int .i64 0])) w' := by
 have hbw : Below wc.heap.size wc w' := ((Below.refl _ wc).alloc (Nat.le_refl _) _).trans (hb.mono (by omega))
 have hsz := h3.size
 refine ⟨_, [(⟨1, st, 0, hs, []⟩, lv)], p', rfl, rfl, ⟨wV (jO (E5 wc 261 (⟨1, st, 0, hs, []⟩, lv)) hb (by simp)) hsz, fun q hq => ?_⟩, fun i hi => ?_, h1.below hbw, h2, h3.trans (Only.of_below hbw _) (fun _ x _ => x)⟩
 . simp at hq
   subst hq
   exact wV (own_below hr hbw) hB
 . rcases hi with hi | ⟨q, hq, hi⟩
   . have hi : some wc.heap.size = some i := hi
     injection hi with hi
     exact fun hx => by have := h1.lt hx; omega
   . simp at hq
     subst hq
     exact hn i hi
end Go.Proofs.YtbkpdapagfjmmaaGreatDoor
