import Derived.Test.YtbkpdapagfjmmaaGreatDoorA32
import Derived.Test.YtbkpdapagfjmmaaGreatDoorA28
set_option linter.unusedVariables false
set_option maxRecDepth 100000
set_option maxHeartbeats 16000000
namespace Go.Proofs.YtbkpdapagfjmmaaGreatDoor
open Go.RowKit
theorem AU {e : Lk.En} (h : Lk.Wf e) (st : Nat) (dt : Lk.Bs) (hd : dt.length <= 64) : Lk.Wf (e.dX st dt).2.2 := by
 unfold Lk.En.dX
 cases hg : e.bz (st : Int) with
 | none => exact h
 | some x =>
   obtain ⟨i, o⟩ := x
   obtain ⟨ho, hod, _⟩ := cZ hg
   have hOk := h.oth i o ho
   simp only
   by_cases hfl : o.cr < dt.length ∨ e.room < dt.length
   . rw [if_pos hfl]; exact h
   . rw [if_neg hfl]
     by_cases hop : o.opn = true
     . rw [if_pos hop]
       have hdr := hOk.two hop
       exact h.fF (x := { o with cr := o.cr - dt.length, held := o.held + dt.length }) ho rfl (by have := hOk.cr; show o.cr - dt.length + (o.held + dt.length) <= _; omega) hOk.two (fun hx => by rw [show ({ o with cr := o.cr - dt.length, held := o.held + dt.length } : Lk.Ot).drp = o.drp from rfl, hdr] at hx; cases hx) (by show e.room - dt.length + (o.held + dt.length) = _; omega)
     . rw [if_neg hop]
       refine Lk.Wf.back ?_ (by omega)
       have := h.fF (x := { o with cr := o.cr - dt.length }) (r := e.room - dt.length + dt.length) ho rfl (by have := hOk.cr; show o.cr - dt.length + o.held <= _; omega) hOk.two hOk.drp (by show e.room - dt.length + dt.length + o.held = _; omega)
       exact this
theorem J3 {e : Lk.En} (hw : Lk.Wf e) {st i : Nat} {o : Lk.Ot} {dt : Lk.Bs} (hd : dt.length <= 64) (hg : e.bz (st : Int) = some (i, o)) (hfl : ¬ (o.cr < dt.length ∨ e.room < dt.length)) : ∃ o1, (e.dX st dt).2.2.bz (st : Int) = some (i, o1) ∧ o1.opn = o.opn ∧ o1.id = st ∧ (e.dX st dt).2.1 = 0 ∧ (e.dX st dt).1.length <= 1 := by
 obtain ⟨ho, hod, hid⟩ := cZ hg
 have hil := (List.getElem?_eq_some_iff.1 ho).1
 have hW := AU hw st dt hd
 unfold Lk.En.dX at hW ⊢
 rw [hg] at hW ⊢
 simp only at hW ⊢
 rw [if_neg hfl] at hW ⊢
 by_cases hop : o.opn = true
 . rw [if_pos hop] at hW ⊢
   have := lN (i := i) (o := { o with cr := o.cr - dt.length, held := o.held + dt.length }) hW (by show (e.oth.set i _)[i]? = _; rw [List.getElem?_set_self hil]) hod
   simp only at this
   rw [hid] at this
   refine ⟨_, this, rfl, by show o.id = st; omega, rfl, ?_⟩
   simp only
   split <;> simp
 . rw [if_neg hop] at hW ⊢
   have := lN (i := i) (o := { o with cr := o.cr - dt.length }) hW (by rw [(bD _ _).2.1]; show (e.oth.set i _)[i]? = _; rw [List.getElem?_set_self hil]) hod
   simp only at this
   rw [hid] at this
   exact ⟨_, this, rfl, by show o.id = st; omega, rfl, by simp⟩
theorem DC (b g B : Nat) (e : Lk.En) (d : PD) (v : Value) (evs : List EvH) (f : Lk.Fr) (w : World) (h : FS w b e d g B v evs) (hl : evs.length + 1 <= 2 ^ 40) (hst : f.st <= 268435455) (Nv : f.d.length <= 64) (hk : f.k = 2) (hW2 : Lk.Wf (e.bH f).2.2) :
 Calls Tryz.prog 92 #[.pointer (some ⟨b, 0, none⟩), frA f, dO g] w fun r w' => r = .returned (.int .i64 ((e.bH f).2.1 : Int)) ∧ az w b d g B v evs (e.bH f).2.2 (e.bH f).1 w' := by
 have hP := qH b g B e d v evs f _ (h.below (eY w f)) (by omega) hst Nv (AU h.live.wf f.st f.d Nv)
 rw [Dz e f hk] at hW2 ⊢
 cases hg : e.bz (f.st : Int) with
 | none =>
   have hpg : e.dX f.st f.d = ([], 4, e) := by unfold Lk.En.dX; rw [hg]
   rw [hpg] at hP
   exact uq b g B d v evs f 4 e [] w (by omega) hP
 | some x =>
   obtain ⟨i, o⟩ := x
   rw [hg] at hW2
   simp only at hW2 ⊢
   by_cases hfl : o.cr < f.d.length ∨ e.room < f.d.length
   . rw [if_pos hfl]
     have hpg : e.dX f.st f.d = ([], 10, e) := by
      unfold Lk.En.dX
      rw [hg]
      simp only
      rw [if_pos hfl]
     rw [hpg] at hP
     exact uq b g B d v evs f 10 e [] w (by omega) hP
   . rw [if_neg hfl] at hW2 ⊢
     obtain ⟨o1, hg1, Xa, Lc, herr, hlen⟩ := J3 h.live.wf Nv hg hfl
     rw [herr] at hP
     obtain ⟨ho1, _, _⟩ := cZ hg1
     have hend : (e.dX f.st f.d).2.2.RH i = { (e.dX f.st f.d).2.2 with oth := (e.dX f.st f.d).2.2.oth.set i { o1 with opn := false, drp := false } } := by unfold Lk.En.RH; rw [ho1]
     rw [hend] at hW2 ⊢
     have := Ho b g B i e (e.dX f.st f.d).2.2 d o1 v evs f (e.dX f.st f.d).1 w h (by omega) hst Lc hg1 hW2 hP
     rw [Xa] at this
     exact this
theorem yO (b i p : Nat) (e : Lk.En) (d : PD) (o : Lk.Ot) (w : World) (hL : Live w b e d) (ho : e.oth[i]? = some o) (hod : (o.opn || o.drp) = true) (hp : d.ins o.id = some p) (hW : Lk.Wf (({ e with oth := e.oth.set i { o with held := 0 } } : Lk.En).back o.held)) :
 Calls Tryz.prog 141 #[.pointer (some ⟨b, 11, none⟩), .pointer (some ⟨p, 0, none⟩), oN b] w fun r w' => r = .returned (.tuple #[]) ∧ bf w b d (({ e with oth := e.oth.set i { o with held := 0 } } : Lk.En).back o.held) w' := by
 obtain ⟨_, cr, cut, hI, hcc⟩ := (hL.yZ i o ho).some hp
 obtain ⟨rfl, rfl⟩ := hcc hod
 rw [hod] at hI
 have MZ := hL.wf.held ho
 have hroom : e.room <= 400 := by have := hL.wf.room; have := hL.wf.kN; omega
 refine (lC b p e.room o.held o.cr o.drp false (fH e d) d.fs w hL.rw rfl hI (by omega) (by omega)).mono ?_
 rintro r w' ⟨rfl, rs', hrs, hI', hR', hO'⟩
 refine ⟨rfl, hL.QI (o' := { o with held := 0 }) ho rfl hR' (hO'.mono (fun x hx => ?_)) (rs' := rs') (mn' := d.mn) (ins' := d.ins) ?_ (bD _ _).1 (bD _ _).2.1 (bD _ _).2.2.1 (bD _ _).2.2.2.1 ?_ ?_ hW hrs ?_ hL.mn ?_ (fun k _ => rfl) (fun q hq => hq)⟩
 . rcases hx with hx | hx | hx
   . exact .inl hx
   . exact .inr (.inr (.inr (hx ▸ hp)))
   . exact .inr (.inl hx)
 . rw [tC]
   simp [fH, ah, Lk.En.nextId]
 . rw [yh]
   simp [hL.o9]
 . refine jv hL.good (fun f hf => ?_)
   unfold uS at hf
   split at hf
   . simp at hf
     subst hf
     exact Lk.cO 0 o.held (by omega) (by omega)
   . simp at hf
 . refine hL.map.only hO' (fun hx => ?_)
   rcases hx with hx | hx | hx
   . exact (hL.fQ _ (.inl hx)).2.2.2.2.1 rfl
   . exact hL.map.ne hI hx
   . exact (hL.fQ _ (.inr hx)).2.2.2.2.1 rfl
 . unfold ji
   show match d.ins (o.id : Int) with | some p => _ | none => _
   rw [hp]
   refine ⟨by simp only [hod, Bool.true_or], (o.cr : Int), o.drp, ?_, fun _ => ⟨rfl, rfl⟩⟩
   simpa [hod] using hI'
def ToldAt (w : World) (f : Lk.Fr) (N : Nat) (u : Value) (wc : World) : Prop := ∃ t, u = .pointer (some ⟨t, 0, none⟩) ∧ w.heap.size < t ∧ Is wc t 116 [.int .i64 4, .int .i64 (f.st : Int), .int .i64 (N : Int), .slice none 0 0, .string ⟨#[]⟩] ∧ Is wc w.heap.size 79 [.int .i64 (f.k : Int), .int .i64 (f.st : Int), .string (bs f.d)] ∧ Below w.heap.size w wc
theorem Hq {w w1 : World} {f : Lk.Fr} {N : Nat} (hFr : Is w1 w.heap.size 79 [.int .i64 (f.k : Int), .int .i64 (f.st : Int), .string (bs f.d)]) (hb : Below w.heap.size w w1) : ToldAt w f N (.pointer (some ⟨w1.heap.size, 0, none⟩)) (w1.alloc (.cells #[.int .i64 4, .int .i64 (f.st : Int), .int .i64 (N : Int), .slice none 0 0, .string ⟨#[]⟩] 116)) :=
 ⟨w1.heap.size, rfl, hFr.lt, Is.new w1 116 [.int .i64 4, .int .i64 (f.st : Int), .int .i64 (N : Int), .slice none 0 0, .string ⟨#[]⟩], hFr.alloc _, hb.alloc hb.size _⟩
theorem Hr {w w1 : World} {f : Lk.Fr} {N : Nat} (hFr : Is w1 w.heap.size 79 [.int .i64 (f.k : Int), .int .i64 (f.st : Int), .string (bs f.d)]) (hX : Is w1 (w.heap.size + 1) 116 [.int .i64 0, .int .i64 0, .int .i64 0, .slice none 0 0, .string ⟨#[]⟩]) (hb : Below w.heap.size w w1) :
 ToldAt w f N (.pointer (some ⟨w.heap.size + 1, 0, none⟩)) (((((w1.setCell ⟨w.heap.size + 1, 0, none⟩ (.int .i64 4)).setCell ⟨w.heap.size + 1, 1, none⟩ (.int .i64 (f.st : Int))).setCell ⟨w.heap.size + 1, 2, none⟩ (.int .i64 (N : Int))).setCell ⟨w.heap.size + 1, 3, none⟩ (.slice none 0 0)).setCell ⟨w.heap.size + 1, 4, none⟩ (.string ⟨#[]⟩)) :=
 ⟨w.heap.size + 1, rfl, by omega, ((((hX.set 0 _).set 1 _).set 2 _).set 3 _).set 4 _, ((((hFr.other _ _ (by simp)).other _ _ (by simp)).other _ _ (by simp)).other _ _ (by simp)).other _ _ (by simp), ((((hb.setCell (by simp) _).setCell (by simp) _).setCell (by simp) _).setCell (by simp) _).setCell (by simp) _⟩
def Uo (w : World) (t o : Nat) (T : TypeId) (cs : List Value) (B : Nat) (v : Value) (X : Lk.XR) (e : Ending) (w' : World) : Prop :=
 match X with
 | .ok hs L2 => (∃ lv v', e = .returned (.tuple #[lv, .int .i64 0, .int .i64 0]) ∧ w'.ownsRow w.heap.size 112 2 lv hs.length (aQ hs) ∧ Is w' t T (((cs.set o aU).set (o + 1) (.int .i64 ((B : Int) - Lk.weights L2))).set (o + 2) v') ∧ w'.ownsRow 0 112 2 v' L2.length (aQ L2) ∧ fZ w.heap.size v v' ∧ Lk.weights L2 <= B ∧ (lv.ownBlock = none ∨ lv.ownBlock ≠ v'.ownBlock) ∧ hs.length <= 6) ∧ Turns t w w'
 | .err ec q => e = .returned (.tuple #[.slice none 0 0, .int .i64 (ec : Int), .int .i64 (q : Int)]) ∧ Below w.heap.size w w'
theorem uu (t o B : Nat) (T : TypeId) (cs : List Value) (L : List Lk.Hd) (v : Value) (s : ByteArray) (w : World) (hs : s.size <= 2 ^ 48) (hI : Is w t T cs) (hT : T ≠ 112) (k0 : cs[o]? = some aU) (k1 : cs[o + 1]? = some (.int .i64 ((B : Int) - Lk.weights L))) (k2 : cs[o + 2]? = some v) (own : w.ownsRow 0 112 2 v L.length (aQ L)) (hle : Lk.weights L <= B) (hB : B <= 200) (hfx : Fx w) (X : Lk.XR) (HX : Hid (Lk.exR B s.data.toList 6 L 0 = X)) :
 Calls Tryz.prog 62 #[.pointer (some ⟨t, o, none⟩), .string s] w (Uo w t o T cs B v X) := by
 obtain ⟨va, oM, hv⟩ := yF own
 generalize hvn : L.length = vn at hv
 subst hv
 have h0 := hfx.1
 have HVN := hide hvn
 clear hvn
 have hI0 := Is.new w 208 [.string s, .int .i64 0, aU, .int .i64 ((B : Int) - Lk.weights L), .slice va vn oM]
 have hb0 := (Below.refl w.heap.size w).alloc (Nat.le_refl _) (.cells #[.string s, .int .i64 0, aU, .int .i64 ((B : Int) - Lk.weights L), .slice va vn oM] 208)
 have hK0 : Blk (w.alloc (.cells #[.string s, .int .i64 0, aU, .int .i64 ((B : Int) - Lk.weights L), .slice va vn oM] 208)) w.heap.size s 0 B L (.slice va vn oM) :=
  ⟨hI0, own.alloc _, hle, hB, hfx.below hb0 h0, by omega⟩
 have HC := hide (AB w.heap.size s 0 B L (.slice va vn oM) _ hs (Nat.zero_le _) hK0 X HX)
 have c0 : w.cell? ⟨t, o, none⟩ = some aU := by rw [hI.cell]; exact k0
 have c1 : w.cell? ⟨t, o + 1, none⟩ = some (.int .i64 ((B : Int) - Lk.weights L)) := by rw [hI.cell]; exact k1
 have c2 : w.cell? ⟨t, o + 2, none⟩ = some (.slice va vn oM) := by rw [hI.cell]; exact k2
 have htl := hI.lt
 have HI := hide hI
 have HB0 := hide hb0
 have HKK := hide (⟨k0, k1, k2⟩ : _ ∧ _ ∧ _)
 clear hI0 hK0 hI hb0 own k0 k1 k2
 go_enter Tryz.func62, Tryz.ntmps62
 go_wp2_with fail
 refine (uh HC).mono ?_
 rintro e w1 ⟨hm, hT1⟩
 have hbel : Below w.heap.size w w1 := Turns.toBelow (uh HB0) hT1 (Nat.le_refl _) (by simp)
 cases X with
 | err ec q =>
   obtain ⟨rfl, L', v', hK1⟩ := hm
   have hec : ((ec : Int) != 0) = true := by
    rw [bne_iff_ne]
    rcases Lk.yG _ _ _ _ _ _ _ (uh HX) with rfl | rfl <;> decide
   have d1 := hK1.blk.cell 1
   simp only [List.getElem?_cons_zero, List.getElem?_cons_succ] at d1
   clear hK1
   go_wp2_with fail
   go_quiet (fail)
   go_wp2_with fail
   go_ret3
   exact ⟨rfl, Below.drewN hbel _⟩
 | ok hl L2 =>
   obtain ⟨lv, q, v', rfl, ho1, ⟨hK1, hN1⟩, hdis, hl6⟩ := hm
   obtain ⟨wa, Ur, hv'⟩ := yF hK1.own
   generalize hwn : L2.length = wn at hv'
   subst hv'
   clear hwn
   have hI1 := (uh HI).below hbel htl
   have hne : t ≠ w.heap.size := by omega
   have d2 := hK1.blk.cell 2
   have d3 := hK1.blk.cell 3
   have d4 := hK1.blk.cell 4
   obtain ⟨k0, k1, k2⟩ := uh HKK
   have e0 : w1.cell? ⟨t, o, none⟩ = some aU := by rw [hI1.cell]; exact k0
   have e1 : w1.cell? ⟨t, o + 1, none⟩ = some (.int .i64 ((B : Int) - Lk.weights L)) := by rw [hI1.cell]; exact k1
   have e2 : w1.cell? ⟨t, o + 2, none⟩ = some (.slice va vn oM) := by rw [hI1.cell]; exact k2
   have f0 := hI1.free o
   have f1 := hI1.free (o + 1)
   have f2 := hI1.free (o + 2)
   have Ye := hI1.lt
   simp only [List.getElem?_cons_zero, List.getElem?_cons_succ] at d2 d3 d4
   have HK1 := hide hK1
   have HI1 := hide hI1
   have HO1 := hide ho1
   clear hK1 hI1 ho1 k0 k1 k2
   go_wp2_with fail
   go_ret3
   have hTT := (((Below.turns hbel t).set o aU).set (o + 1) (.int .i64 ((B : Int) - Lk.weights L2))).set (o + 2) (.slice wa wn Ur)
   have hg : w1.grownBy _ (some t) := (((Turns.refl t w1).set o aU).set (o + 1) (.int .i64 ((B : Int) - Lk.weights L2))).set (o + 2) (.slice wa wn Ur)
   have hob := own_base (B := w.heap.size) (by simp) (uh HO1)
   refine ⟨⟨lv, _, rfl, iP hob (uh HI1) hT hg, ?_, iP (uh HK1).own (uh HI1) hT hg, hN1.mono (by simp), (uh HK1).le, hdis, hl6⟩, hTT⟩
   exact (((uh HI1).set o aU).set (o + 1) (.int .i64 ((B : Int) - Lk.weights L2))).set (o + 2) (.slice wa wn Ur)
theorem Live.Us {w w' : World} {b : Nat} {e : Lk.En} {d : PD} {L : List Lk.Hd} {v' : Value} (h : Live w b e d) (hI : Is w' b 101 ((((fH e d).cells.set 11 aU).set 12 (.int .i64 (((100 : Nat) : Int) - Lk.weights L))).set 13 v')) (hO : Turns b w w') (hv : w'.ownsRow 0 112 2 v' L.length (aQ L)) (hN : fZ w.heap.size d.iv v') (hle : Lk.weights L <= 100) :
 Live w' b { e with inn := L } { d with iv := v' } ∧ (∀ i, foot b { d with iv := v' } i -> foot b d i ∨ w.heap.size <= i) ∧ Only (foot b d) w w' := by
 have hOn := Only.dP hO
 have hs := h.fQ
 have hw := h.wf
 have hf : ∀ i, foot b { d with iv := v' } i -> foot b d i ∨ w.heap.size <= i := by
  intro i hi
  rcases hi with hi | hi | hi | hi | hi | hi | hi | hi
  . exact .inl (.inl hi)
  . exact .inl (.inr (.inl hi))
  . rcases hN with h' | h'
    . exact .inl (.inr (.inr (.inl (by rw [<- h']; exact hi))))
    . exact .inr (h' i hi)
  . exact .inl (.inr (.inr (.inr (.inl hi))))
  . exact .inl (.inr (.inr (.inr (.inr (.inl hi)))))
  . exact .inl (.inr (.inr (.inr (.inr (.inr (.inl hi))))))
  . exact .inl (.inr (.inr (.inr (.inr (.inr (.inr (.inl hi)))))))
  . exact .inl (.inr (.inr (.inr (.inr (.inr (.inr (.inr hi)))))))
 refine ⟨⟨h.rw.cell (c' := fH { e with inn := L } { d with iv := v' }) hI hOn rfl, h.o9, h.good, ?_, hv, ?_, ?_, h.psn, h.ps4, ?_, h.mn, ?_, h.none, h.inj, ⟨hw.side, hw.BJ, hw.kN, hw.out, hle, fun i o ho => by obtain ⟨a, b, c, d⟩ := hw.own i o ho; exact ⟨a, b, c, d⟩, fun i o ho => by obtain ⟨a, b, c, d, f⟩ := hw.oth i o ho; exact ⟨a, b, c, d, f⟩, hw.all, hw.room, hw.row, hw.rest⟩, fun i hi => ?_⟩, hf, hOn.mono (fun i hi => .inl hi)⟩
 . exact ag h.out hOn (fun i hi hx => (hs i (.inl hx)).1 hi)
 . exact ag h.sl hOn (fun i hi hx => (hs i (.inl hx)).2.2.1 hi)
 . exact h.outs.only hOn (fun p hp hx => (hs p (.inl hx)).2.2.2.1 hp)
 . exact h.map.only hOn (fun hx => (hs _ (.inl hx)).2.2.2.2.1 rfl)
 . exact fun i o ho => (h.yZ i o ho).only hOn (fun p hp hx => (hs p (.inl hx)).2.2.2.2.2 _ hp)
 . rcases hf i hi with h' | h'
   . exact h.pos i h'
   . have := h.pos b (.inl rfl)
     have := h.rw.lt
     omega
theorem Live.RI {w w' : World} {b p : Nat} {e : Lk.En} {d : PD} (h : Live w b e d) (hp : w.heap.size <= p) (hI : Is w' p 227 (inV (e.win : Int) 0 false false)) (hR : Rw w' b { fH e d with su := (ah e : Int) + 2 } d.fs) (hM : bW Tryz.prog 3 w' d.mb (d.mn + 1) (fun x => if x = (ah e : Int) then some p else d.ins x)) (hO : Only (fun i => i = b ∨ i = d.mb) w w')
 (hW : Lk.Wf { e with oth := e.oth ++ [⟨ah e, e.win, 0, true, false⟩] }) :
 Live w' b { e with oth := e.oth ++ [⟨ah e, e.win, 0, true, false⟩] } { d with mn := d.mn + 1, ins := fun x => if x = (ah e : Int) then some p else d.ins x } ∧ (∀ i, foot b { d with mn := d.mn + 1, ins := fun x => if x = (ah e : Int) then some p else d.ins x } i -> foot b d i ∨ w.heap.size <= i) ∧ Only (foot b d) w w' := by
 have hs := h.fQ
 have hmb : ∀ (v : Value) (n : Nat) (T : TypeId) (k : Nat) (xs : List Value), w.ownsRow 0 T k v n xs -> v.ownBlock ≠ some d.mb := fun v n T k xs ho => h.map.Eg ho
 have hold : ∀ k q, d.ins k = some q -> q < w.heap.size := fun k q hq => h.lt q (.inr (.inr (.inr (.inr (.inr (.inr (.inr ⟨k, hq⟩)))))))
 have Ut : ∀ (i : Nat) (o : Lk.Ot), e.oth[i]? = some o -> o.id ≠ ah e := fun i o ho hx => by
  have h1 := (h.wf.oth i o ho).id
  have h2 := (List.getElem?_eq_some_iff.1 ho).1
  unfold ah at hx
  have := h.wf.side
  omega
 have hf : ∀ i, foot b { d with mn := d.mn + 1, ins := fun x => if x = (ah e : Int) then some p else d.ins x } i -> foot b d i ∨ w.heap.size <= i := by
  intro i hi
  rcases hi with hi | hi | hi | hi | hi | hi | hi | ⟨k, hi⟩
  . exact .inl (.inl hi)
  . exact .inl (.inr (.inl hi))
  . exact .inl (.inr (.inr (.inl hi)))
  . exact .inl (.inr (.inr (.inr (.inl hi))))
  . exact .inl (.inr (.inr (.inr (.inr (.inl hi)))))
  . exact .inl (.inr (.inr (.inr (.inr (.inr (.inl hi))))))
  . exact .inl (.inr (.inr (.inr (.inr (.inr (.inr (.inl hi)))))))
  . simp only at hi
    split at hi
    . simp at hi; subst hi; exact .inr hp
    . exact .inl (.inr (.inr (.inr (.inr (.inr (.inr (.inr ⟨k, hi⟩)))))))
 have hno : ∀ x, (x = b ∨ x = d.mb) -> x ≠ b -> x ≠ d.mb -> False := fun x hx h1 h2 => by
  rcases hx with hx | hx
  . exact h1 hx
  . exact h2 hx
 have hrw : Rw w' b (fH { e with oth := e.oth ++ [⟨ah e, e.win, 0, true, false⟩] } { d with mn := d.mn + 1, ins := fun x => if x = (ah e : Int) then some p else d.ins x }) d.fs := by
  have : ({ fH e d with su := (ah e : Int) + 2 } : EC) = fH { e with oth := e.oth ++ [⟨ah e, e.win, 0, true, false⟩] } { d with mn := d.mn + 1, ins := fun x => if x = (ah e : Int) then some p else d.ins x } := by
   have := h.wf.side
   simp [fH, ah, Lk.En.nextId]
   omega
  rw [<- this]
  exact hR
 refine ⟨⟨hrw, h.o9, h.good, ?_, ?_, ?_, ?_, h.psn, h.ps4, hM, by show d.mn + 1 <= (e.oth ++ [_]).length; have := h.mn; simp; omega, ?_, ?_, ?_, hW, fun i hi => ?_⟩, hf, hO.mono (fun i hi => ?_)⟩
 . exact ag h.out hO (fun i hi hx => hno i hx (fun e => (hs i (.inl e)).1 hi) (fun e => hmb _ _ _ _ _ h.out (e ▸ hi)))
 . exact ag h.inn hO (fun i hi hx => hno i hx (fun e => (hs i (.inl e)).2.1 hi) (fun e => hmb _ _ _ _ _ h.inn (e ▸ hi)))
 . exact ag h.sl hO (fun i hi hx => hno i hx (fun e => (hs i (.inl e)).2.2.1 hi) (fun e => hmb _ _ _ _ _ h.sl (e ▸ hi)))
 . refine h.outs.only hO (fun q hq hx => hno q hx (fun e => (hs q (.inl e)).2.2.2.1 hq) (fun e => ?_))
   obtain ⟨_, hy⟩ := h.outs.mem hq
   exact h.map.ne hy e.symm
 . intro i o ho
   by_cases hi : i < e.oth.length
   . have ho' : e.oth[i]? = some o := by rw [<- ho]; exact (List.getElem?_append_left hi).symm
     have hne := Ut i o ho'
     have hx : ji w (fun x => if x = (ah e : Int) then some p else d.ins x) o := by
      have := h.yZ i o ho'
      unfold ji at this ⊢
      simp only
      rw [if_neg (by omega)]
      exact this
     refine hx.only hO (fun q hq hy => ?_)
     rw [if_neg (by omega)] at hq
     refine hno q hy (fun e => (hs q (.inl e)).2.2.2.2.2 _ hq) (fun e => ?_)
     obtain ⟨_, _, _, _, _, _, hz, _⟩ := h.KX hq
     exact h.map.ne hz e.symm
   . have hi2 : i = e.oth.length := by
      have := (List.getElem?_eq_some_iff.1 ho).1
      simp at this
      omega
     subst hi2
     have ho' : (⟨ah e, e.win, 0, true, false⟩ : Lk.Ot) = o := by
      have := (List.getElem?_append_right (l₁ := e.oth) (l₂ := [⟨ah e, e.win, 0, true, false⟩]) (i := e.oth.length) (Nat.le_refl _)).symm.trans ho
      simpa using this
     subst ho'
     unfold ji
     simp only [if_true]
     exact ⟨by simp, (e.win : Int), false, by simpa using hI, fun _ => ⟨rfl, rfl⟩⟩
 . intro k hk
   have hk0 : (ah e : Int) ≠ k := hk e.oth.length ⟨ah e, e.win, 0, true, false⟩ (by simp)
   show (if k = (ah e : Int) then some p else d.ins k) = Option.none
   rw [if_neg (fun e => hk0 e.symm)]
   refine h.none k (fun i o ho => hk i o ?_)
   have := (List.getElem?_eq_some_iff.1 ho).1
   rw [List.getElem?_append_left this]
   exact ho
 . intro k k' q hk hk'
   simp only at hk hk'
   split at hk <;> split at hk'
   . omega
   . simp at hk; subst hk; have := hold k' _ hk'; omega
   . simp at hk'; subst hk'; have := hold k _ hk; omega
   . exact h.inj k k' q hk hk'
 . rcases hf i hi with h' | h'
   . exact h.pos i h'
   . have := h.pos b (.inl rfl)
     have := h.rw.lt
     omega
 . rcases hi with hi | hi
   . exact .inl hi
   . exact .inr (.inr (.inr (.inr (.inr (.inr (.inl hi))))))
theorem uY (b g B : Nat) (e : Lk.En) (d : PD) (v : Value) (evs : List EvH) (f : Lk.Fr) (w : World) (h : FS w b e d g B v evs) (hst : f.st ≠ ah e) :
 Calls Tryz.prog 90 #[.pointer (some ⟨b, 0, none⟩), frA f, dO g] w fun r w' => r = .returned (.int .i64 4) ∧ az w b d g B v evs e [] w' := by
 have hb0 := eY w f
 have h0 := h.below hb0
 have hbl := h.live.rw.lt
 have c15 : w.cell? ⟨b, 15, none⟩ = some (.int .i64 (ah e : Int)) := h.live.rw.blk.cell 15
 have hne : ((f.st : Int) != (ah e : Int)) = true := by rw [bne_iff_ne]; omega
 have HH := hide h0
 have HB := hide hb0
 clear h h0 hb0 hst
 unfold dO
 go_enter Tryz.func90, Tryz.ntmps90
 go_wp2_with fail
 go_quiet (fail)
 go_wp2_with fail
 go_ret
 exact ⟨rfl, az.before (uh HB) (az.dm (uh HH) (Below.drewN (Below.refl _ _) _))⟩
theorem yP (b g B ec q : Nat) (e : Lk.En) (d : PD) (v : Value) (evs : List EvH) (f : Lk.Fr) (w : World) (h : FS w b e d g B v evs) (hst : f.st = ah e) (Nv : f.d.length <= 64) (hX : Lk.exR 100 f.d 6 e.inn 0 = .err ec q) :
 Calls Tryz.prog 90 #[.pointer (some ⟨b, 0, none⟩), frA f, dO g] w fun r w' => r = .returned (.int .i64 9) ∧ az w b d g B v evs e [] w' := by
 have hb0 := eY w f
 have h0 := h.below hb0
 have hbl := h.live.rw.lt
 have c15 : w.cell? ⟨b, 15, none⟩ = some (.int .i64 (ah e : Int)) := h.live.rw.blk.cell 15
 have hne : ((f.st : Int) != (ah e : Int)) = false := by rw [bne_eq_false_iff_eq]; omega
 have hec : ((ec : Int) != 0) = true := by
  rw [bne_iff_ne]
  rcases Lk.yG _ _ _ _ _ _ _ hX with rfl | rfl <;> decide
 have hl : (bs f.d).data.toList = f.d := by simp [bs]
 have HE := hide (fun n => uu b 11 100 101 (fH e d).cells e.inn d.iv (bs f.d) ((w.alloc (.cells #[.int .i64 (f.k : Int), .int .i64 (f.st : Int), .string (bs f.d)] 79)).drewN n) (by rw [ax]; omega) (h0.drewN n).live.rw.blk (nbq rfl) rfl rfl rfl (h0.drewN n).live.inn h0.live.wf.inn (by omega) (h0.drewN n).fx (.err ec q) (by rw [hl]; exact hX))
 have HH := hide h0
 have HB := hide hb0
 clear h h0 hb0 hst hX hl
 unfold dO
 go_enter Tryz.func90, Tryz.ntmps90
 go_wp2_with fail
 go_quiet (fail)
 go_wp2_with fail
 go_region_with (first | (go_at_call 62; refine (uh HE (nq + 1)).mono ?_; rintro r w1 ⟨rfl, hb1⟩))
 all_goals
  go_wp2_with fail
  go_ret
  refine ⟨rfl, az.before (uh HB) ?_⟩
  have hx := az.dm ((uh HH).drewN (nq + 1)) hb1
  exact az.before (Below.drewN (Below.refl _ _) (nq + 1)) hx
theorem Nw {e : Lk.En} (h : Lk.Wf e) {L : List Lk.Hd} (hle : Lk.weights L <= 100) (h28 : ah e <= 268435455) : Lk.Wf { e with inn := L, oth := e.oth ++ [⟨ah e, e.win, 0, true, false⟩] } := by
 refine ⟨h.side, h.BJ, h.kN, h.out, hle, fun i o ho => by obtain ⟨a, b, c, d⟩ := h.own i o ho; exact ⟨a, b, c, d⟩, fun i o ho => ?_, h.all, ?_, h.row, h.rest⟩
 . by_cases hi : i < e.oth.length
   . have ho' : e.oth[i]? = some o := by rw [<- ho]; exact (List.getElem?_append_left hi).symm
     obtain ⟨a, b, c, d, f⟩ := h.oth i o ho'
     exact ⟨a, b, c, d, f⟩
   . have hi2 : i = e.oth.length := by
      have := (List.getElem?_eq_some_iff.1 ho).1
      simp at this
      omega
     subst hi2
     have ho' : (⟨ah e, e.win, 0, true, false⟩ : Lk.Ot) = o := by
      have := (List.getElem?_append_right (l₁ := e.oth) (l₂ := [⟨ah e, e.win, 0, true, false⟩]) (i := e.oth.length) (Nat.le_refl _)).symm.trans ho
      simpa using this
     subst ho'
     exact ⟨rfl, h28, Nat.le_refl _, fun _ => rfl, fun hx => by cases hx⟩
 . show e.room + Lk.fG (e.oth ++ [_]) = 2 * e.win
   rw [Lk.mr]
   have := h.room
   simp [Lk.fG] at this ⊢
   omega
theorem DD {w w1 : World} {b g B : Nat} {e : Lk.En} {d : PD} {v lv v' : Value} {evs : List EvH} {hs L : List Lk.Hd} (h : FS w b e d g B v evs) (ho : w1.ownsRow w.heap.size 112 2 lv hs.length (aQ hs)) (hI : Is w1 b 101 ((((fH e d).cells.set 11 aU).set 12 (.int .i64 (((100 : Nat) : Int) - Lk.weights L))).set 13 v')) (hv : w1.ownsRow 0 112 2 v' L.length (aQ L)) (hN : fZ w.heap.size d.iv v') (hle : Lk.weights L <= 100) (hdis : lv.ownBlock = none ∨ lv.ownBlock ≠ v'.ownBlock) (hT : Turns b w w1) :
 FS w1 b { e with inn := L } { d with iv := v' } g B v evs ∧ w1.ownsRow B 112 2 lv hs.length (aQ hs) ∧ (∀ i, lv.ownBlock = some i -> w.heap.size <= i ∧ ¬ foot b { d with iv := v' } i ∧ ¬ aN g v evs i) ∧ (∀ i, foot b { d with iv := v' } i -> foot b d i ∨ w.heap.size <= i) ∧ Only (foot b d) w w1 := by
 obtain ⟨hL1, hf1, hO1⟩ := h.live.Us hI hT hv hN hle
 have hnew : ∀ i, lv.ownBlock = some i -> w.heap.size <= i := fun i hi => (ho.lt i hi).1
 refine ⟨⟨hL1, h.told.only hO1 h.sep, fun i hi hf => ?_, h.fx.only hO1 (fun h0 => by have := h.live.pos 0 h0; omega), Nat.le_trans h.hB hO1.size, h.B0, h.gB⟩, own_base h.hB ho, fun i hi => ⟨hnew i hi, fun hf => ?_, fun ht => ?_⟩, hf1, hO1⟩
 . rcases hf1 i hf with h' | h'
   . exact h.sep i hi h'
   . have := h.told.lt i hi; omega
 . have hge := hnew i hi
   have hold : ∀ x, foot b d x -> x < w.heap.size := h.live.lt
   rcases hf with hf | hf | hf | hf | hf | hf | hf | ⟨k, hf⟩
   . have := hold i (.inl hf); omega
   . have := hold i (.inr (.inl hf)); omega
   . rcases hdis with h' | h'
     . rw [h'] at hi; cases hi
     . exact h' (hi.trans (show v'.ownBlock = some i from hf).symm)
   . have := hold i (.inr (.inr (.inr (.inl hf)))); omega
   . have := hold i (.inr (.inr (.inr (.inr (.inl hf))))); omega
   . have := hold i (.inr (.inr (.inr (.inr (.inr (.inl hf)))))); omega
   . have := hold i (.inr (.inr (.inr (.inr (.inr (.inr (.inl hf))))))); omega
   . have := hold i (.inr (.inr (.inr (.inr (.inr (.inr (.inr ⟨k, hf⟩))))))); omega
 . have := h.told.lt i ht
   have := hnew i hi
   omega
theorem Ny {w w1 : World} {b g B : Nat} {e e1 : Lk.En} {d d1 : PD} {v : Value} {evs : List EvH} (h : FS w b e d g B v evs) (h1 : Live w1 b e1 d1) (h2 : ∀ i, foot b d1 i -> foot b d i ∨ w.heap.size <= i) (h3 : Only (foot b d) w w1) : FS w1 b e1 d1 g B v evs := by
 refine ⟨h1, h.told.only h3 h.sep, fun i hi hf => ?_, h.fx.only h3 (fun h0 => by have := h.live.pos 0 h0; omega), Nat.le_trans h.hB h3.size, h.B0, h.gB⟩
 rcases h2 i hf with h' | h'
 . exact h.sep i hi h'
 . have := h.told.lt i hi; omega
theorem RJ (b i p : Nat) (e : Lk.En) (d : PD) (o : Lk.Ot) (st : Nat) (hst : o.id = st) (w : World) (hL : Live w b e d) (ho : e.oth[i]? = some o) (hop : o.opn = true) (hp : d.ins o.id = some p) (hW : Lk.Wf (e.JA i o 0)) :
 Calls Tryz.prog 119 #[.pointer (some ⟨b, 0, none⟩), .int .i64 (st : Int), .pointer (some ⟨p, 0, none⟩), .int .i64 0] w fun r w' => r = .returned (.tuple #[]) ∧ bf w b d (e.JA i o 0) w' := by
 subst hst
 exact EO b i p 0 e d o w hL ho hop hp (by omega) hW
theorem wW (b g B : Nat) (e : Lk.En) (d : PD) (v : Value) (evs : List EvH) (f : Lk.Fr) (hs L : List Lk.Hd) (w : World) (h : FS w b e d g B v evs) (hl : evs.length <= 2 ^ 40) (hst : f.st = ah e) (hst2 : f.st <= 268435455) (Nv : f.d.length <= 64) (hX : Lk.exR 100 f.d 6 e.inn 0 = .ok hs L) (EV : List Lk.Ev) (EE : Lk.En)
 (hEE : (if e.iH then ([], ({ e with inn := L, oth := e.oth ++ [⟨ah e, e.win, 0, true, false⟩] } : Lk.En).JA e.oth.length ⟨ah e, e.win, 0, true, false⟩ 0) else ([⟨1, f.st, 0, hs, []⟩], { e with inn := L, oth := e.oth ++ [⟨ah e, e.win, 0, true, false⟩] })) = (EV, EE)) (hWE : Lk.Wf EE) :
 Calls Tryz.prog 90 #[.pointer (some ⟨b, 0, none⟩), frA f, dO g] w fun r w' => r = .returned (.int .i64 0) ∧ az w b d g B v evs EE EV w' := by
 have hb0 := eY w f
 have h0 := h.below hb0
 have hbl := h.live.rw.lt
 have hnew := h.new
 have c15 : w.cell? ⟨b, 15, none⟩ = some (.int .i64 (ah e : Int)) := h.live.rw.blk.cell 15
 have hne : ((f.st : Int) != (ah e : Int)) = false := by rw [bne_eq_false_iff_eq]; omega
 have hl2 : (bs f.d).data.toList = f.d := by simp [bs]
 have HFR := hide (Is.new w 79 [.int .i64 (f.k : Int), .int .i64 (f.st : Int), .string (bs f.d)])
 have HE := hide (fun n => uu b 11 100 101 (fH e d).cells e.inn d.iv (bs f.d) ((w.alloc (.cells #[.int .i64 (f.k : Int), .int .i64 (f.st : Int), .string (bs f.d)] 79)).drewN n) (by rw [ax]; omega) (h0.drewN n).live.rw.blk (nbq rfl) rfl rfl rfl (h0.drewN n).live.inn h0.live.wf.inn (by omega) (h0.drewN n).fx (.ok hs L) (by rw [hl2]; exact hX))
 have HH := hide h0
 have HB := hide hb0
 have HEE := hide hEE
 have HWE := hide hWE
 have HST := hide hst
 have hno := lY h.live.wf
 have hsd := h.live.wf.side
 clear h h0 hb0 hX hl2 hEE hWE hst
 unfold dO
 go_enter Tryz.func90, Tryz.ntmps90
 go_wp2_with fail
 go_quiet (fail)
 go_wp2_with fail
 go_cut [7, 8] (fun u7 u8 wc => u8 = .int .i64 0 ∧ ∃ d1, FS wc b { e with inn := L } d1 g B v evs ∧ wc.ownsRow B 112 2 u7 hs.length (aQ hs) ∧ (∀ i, u7.ownBlock = some i -> w.heap.size <= i ∧ ¬ foot b d1 i ∧ ¬ aN g v evs i) ∧ (∀ i, foot b d1 i -> foot b d i ∨ w.heap.size <= i) ∧ Only (fun j => foot b d j ∨ aN g v evs j) w wc ∧ ¬ foot b d1 w.heap.size ∧ Is wc w.heap.size 79 [.int .i64 (f.k : Int), .int .i64 (f.st : Int), .string (bs f.d)] ∧ Lk.weights L <= 100)
 case first =>
  go_region_with (first | (go_at_call 62; refine (uh HE (nq + 1)).mono ?_; rintro r w1 ⟨⟨lv, v', rfl, ho1, hI1, hv1, hN1, hle1, Uu, Yf⟩, hT1⟩))
  all_goals
   go_wp2_with fail
   go_meet
   obtain ⟨a1, a2, a3, a4, a5⟩ := DD ((uh HH).drewN (nq + 1)) ho1 hI1 hv1 hN1 hle1 Uu hT1
   have hsz := (uh HB).size
   have hff : ¬ foot b { d with iv := v' } w.heap.size := fun hx => by
    rcases a4 _ hx with h' | h'
    . exact hnew (.inl h')
    . have h'' : w.heap.size + 1 <= w.heap.size := by simpa using h'
      omega
   refine ⟨rfl, _, a1, a2, fun i hi => ⟨Nat.le_trans hsz (a3 i hi).1, (a3 i hi).2⟩, fun i hi => (a4 i hi).imp id (Nat.le_trans hsz), ((Only.of_below (uh HB) _).drewN (nq + 1)).trans a5 (fun j hj _ => .inl hj), hff, ((uh HFR).drewN (nq + 1)).only a5 (fun hx => hnew (.inl hx)), hle1⟩
 case rest =>
  obtain ⟨rfl, d1, hF1, hou, hud, hf1, hO1, OL, nI, hle⟩ := hcut
  obtain ⟨sa, sm, sc, rfl, hsm⟩ := bV hou
  have BB := hF1.live.rw.lt
  have hmn : d1.mn <= 268435457 := by have h1 : d1.mn <= e.oth.length := hF1.live.mn; unfold ah at hno; omega
  have HBI := hide (CV b d1.mb d1.mn (ah e) d1.ins (fH { e with inn := L } d1) d1.fs wc hF1.live.rw rfl rfl (by omega) hF1.live.map hmn)
  have Um := nI.lt
  have HF1 := hide (⟨hF1, hou, hud, hf1, hO1, OL, nI, hle⟩ : _ ∧ _ ∧ _ ∧ _ ∧ _ ∧ _ ∧ _ ∧ _)
  clear hF1 hou hud hf1 hO1 OL nI hle hsm hmn
  go_wp2_with fail
  refine (uh HBI).mono ?_
  rintro r w2 ⟨rfl, hI2, hR2, hM2, hO2⟩
  obtain ⟨hF1, hou, hud, hf1, hO1, OL, nI, hle⟩ := uh HF1
  have h28 : ah e <= 268435455 := by rw [<- uh HST]; exact hst2
  have hWb : Lk.Wf { e with inn := L, oth := e.oth ++ [⟨ah e, e.win, 0, true, false⟩] } := Nw (uh HH).live.wf hle h28
  obtain ⟨hL2, hf2, Iy⟩ := hF1.live.RI (p := wc.heap.size) (Nat.le_refl _) hI2 hR2 hM2 hO2 hWb
  have hF2 : FS w2 b { e with inn := L, oth := e.oth ++ [⟨ah e, e.win, 0, true, false⟩] } { d1 with mn := d1.mn + 1, ins := fun x => if x = (ah e : Int) then some wc.heap.size else d1.ins x } g B v evs := Ny hF1 hL2 hf2 Iy
  have hf2 : ∀ i, foot b { d1 with mn := d1.mn + 1, ins := fun x => if x = (ah e : Int) then some wc.heap.size else d1.ins x } i -> foot b d1 i ∨ wc.heap.size <= i := hf2
  have BC := nI.only Iy OL
  have WO := BC.lt
  have Oy := hF2.live.rw.lt
  have k1 := BC.cell 1
  simp only [List.getElem?_cons_zero, List.getElem?_cons_succ] at k1
  have hE := uh HEE
  by_cases hby : e.iH = true
  . have c20 : w2.cell? ⟨b, 20, none⟩ = some (.bool true) := by have := hF2.live.rw.blk.cell 20; rw [<- hby]; exact this
    rw [if_pos hby] at hE
    obtain ⟨hE1, hE2⟩ := Prod.mk.inj hE
    have HE1 := hide hE1
    have HE2 := hide hE2
    have HC := hide (RJ b e.oth.length wc.heap.size _ _ ⟨ah e, e.win, 0, true, false⟩ f.st (by rw [uh HST]) w2 hF2.live (by simp) rfl (by simp) (by rw [hE2]; exact uh HWE))
    have HF2 := hide (⟨hF2, hf2, Iy⟩ : _ ∧ _ ∧ _)
    clear hF1 hou hud hf1 hO1 OL nI hle hF2 hf2 Iy BC hE hE1 hE2 hI2 hR2 hM2 hO2 hL2 hWb hby
    go_wp2_with fail
    refine (uh HC).mono ?_
    rintro r w3 ⟨rfl, hLP⟩
    go_wp2_with fail
    go_ret
    obtain ⟨hF1, hou, hud, hf1, hO1, OL, nI, hle⟩ := uh HF1
    obtain ⟨hF2, hf2, Iy⟩ := uh HF2
    refine ⟨rfl, ?_⟩
    rw [<- uh HE1, <- uh HE2]
    exact az.of hF1 hf1 hO1 (az.of hF2 hf2 (Iy.mono (fun i hi => .inl hi)) (hF2.ofL hLP))
  . have RQ : e.iH = false := by simpa using hby
    have c20 : w2.cell? ⟨b, 20, none⟩ = some (.bool false) := by have := hF2.live.rw.blk.cell 20; rw [<- RQ]; exact this
    rw [if_neg hby] at hE
    obtain ⟨hE1, hE2⟩ := Prod.mk.inj hE
    have HE1 := hide hE1
    have HE2 := hide hE2
    have Vp := ag hou Iy (fun i hi hx => (hud i hi).2.1 hx)
    have HT := hide (Du b g B _ _ v evs ⟨1, f.st, 0, hs, []⟩ (.slice sa sm sc) w2 hF2 hl Vp (fun i hi => ⟨fun hx => by
     rcases hf2 i hx with h' | h'
     . exact (hud i hi).2.1 h'
     . have := (hou.lt i hi).2; omega, (hud i hi).2.2⟩) w.heap.size (Nat.le_trans hO1.size Iy.size) (fun i hi => (hud i hi).1))
    unfold evA at HT
    have e0 : bs [] = ⟨#[]⟩ := rfl
    have e1 : ((1 : Nat) : Int) = 1 := rfl
    have e2 : ((0 : Nat) : Int) = 0 := rfl
    simp only [e0, e1, e2] at HT
    have HF2 := hide (⟨hF2, hf2, Iy⟩ : _ ∧ _ ∧ _)
    clear hF1 hou hud hf1 hO1 OL nI hle hF2 hf2 Iy BC hE hE1 hE2 hI2 hR2 hM2 hO2 hL2 hWb hby RQ Vp e0 e1 e2
    go_wp2_with fail
    refine (uh HT).mono ?_
    rintro r w3 ⟨rfl, v3, hF3, ht3, hO3⟩
    go_wp2_with fail
    go_ret
    obtain ⟨hF1, hou, hud, hf1, hO1, OL, nI, hle⟩ := uh HF1
    obtain ⟨hF2, hf2, Iy⟩ := uh HF2
    refine ⟨rfl, ?_⟩
    rw [<- uh HE1, <- uh HE2]
    have hfw : ∀ i, foot b { d1 with mn := d1.mn + 1, ins := fun x => if x = (ah e : Int) then some wc.heap.size else d1.ins x } i -> foot b d i ∨ w.heap.size <= i := fun i hi => by
     rcases hf2 i hi with h' | h'
     . exact hf1 i h'
     . exact .inr (Nat.le_trans hO1.size h')
    have hOw : Only (fun j => foot b d j ∨ aN g v evs j) w w2 := hO1.trans Iy (fun i hi hlt => (hf1 i hi).elim .inl (fun h' => absurd hlt (by omega)))
    exact ⟨_, v3, [(⟨1, f.st, 0, hs, []⟩, .slice sa sm sc)], rfl, hF3, hfw, ht3, hOw.trans hO3 (fun i hi hlt => by
     rcases hi with hi | hi
     . exact (hfw i hi).elim .inl (fun h' => absurd hlt (by omega))
     . exact .inr hi)⟩
end Go.Proofs.YtbkpdapagfjmmaaGreatDoor
