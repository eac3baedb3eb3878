import Derived.Test.YtbkpdapagfjmmaaGreatDoorA37
import Derived.Test.YtbkpdapagfjmmaaGreatDoorA29
set_option linter.unusedVariables false
set_option maxRecDepth 100000
set_option maxHeartbeats 16000000
namespace Go.Proofs.YtbkpdapagfjmmaaGreatDoor
open Go.RowKit
theorem Live.Us {w w' : World} {b : Nat} {e : Lk.En} {d : PD} {L : List Lk.Hd} {v' : Value} (h : Live w b e d) (hI : Is w' b 101 ((((fH e d).cells.set 11 aU).set 12 (.int .i64 (((100 : Nat) : Int) - Lk.weights L))).set 13 v')) (hO : Turns b w w') (hv : w'.ownsRow 0 112 2 v' L.length (aQ L)) (hN : fZ w.heap.size d.iv v') (hle : Lk.weights L <= 100) :
 Live w' b { e with inn := L } { d with iv := v' } ∧ (∀ i, foot b { d with iv := v' } i -> foot b d i ∨ w.heap.size <= i) ∧ Only (foot b d) w w' := by
 have hOn := Only.dP hO
 have hs := h.fQ
 have hw := h.wf
 have hf : ∀ i, foot b { d with iv := v' } i -> foot b d i ∨ w.heap.size <= i := by
  intro i hi
  rcases hi with hi | hi | hi | hi | hi | hi | hi | hi
  . exact .inl (.inl hi)
  . exact .inl (.inr (.inl hi))
  . rcases hN with h' | h'
    . exact .inl (.inr (.inr (.inl (by rw [<- h']; exact hi))))
    . exact .inr (h' i hi)
  . exact .inl (.inr (.inr (.inr (.inl hi))))
  . exact .inl (.inr (.inr (.inr (.inr (.inl hi)))))
  . exact .inl (.inr (.inr (.inr (.inr (.inr (.inl hi))))))
  . exact .inl (.inr (.inr (.inr (.inr (.inr (.inr (.inl hi)))))))
  . exact .inl (.inr (.inr (.inr (.inr (.inr (.inr (.inr hi)))))))
 refine ⟨⟨h.rw.cell (c' := fH { e with inn := L } { d with iv := v' }) hI hOn rfl, h.o9, h.good, ?_, hv, ?_, ?_, h.psn, h.ps4, ?_, h.mn, ?_, h.none, h.inj, ⟨hw.side, hw.BJ, hw.kN, hw.out, hle, fun i o ho => by obtain ⟨a, b, c, d⟩ := hw.own i o ho; exact ⟨a, b, c, d⟩, fun i o ho => by obtain ⟨a, b, c, d, f⟩ := hw.oth i o ho; exact ⟨a, b, c, d, f⟩, hw.all, hw.room, hw.row, hw.rest⟩, fun i hi => ?_⟩, hf, hOn.mono (fun i hi => .inl hi)⟩
 . exact ag h.out hOn (fun i hi hx => (hs i (.inl hx)).1 hi)
 . exact ag h.sl hOn (fun i hi hx => (hs i (.inl hx)).2.2.1 hi)
 . exact h.outs.only hOn (fun p hp hx => (hs p (.inl hx)).2.2.2.1 hp)
 . exact h.map.only hOn (fun hx => (hs _ (.inl hx)).2.2.2.2.1 rfl)
 . exact fun i o ho => (h.yZ i o ho).only hOn (fun p hp hx => (hs p (.inl hx)).2.2.2.2.2 _ hp)
 . rcases hf i hi with h' | h'
   . exact h.pos i h'
   . have := h.pos b (.inl rfl)
     have := h.rw.lt
     omega
theorem Live.RI {w w' : World} {b p : Nat} {e : Lk.En} {d : PD} (h : Live w b e d) (hp : w.heap.size <= p) (hI : Is w' p 227 (inV (e.win : Int) 0 false false)) (hR : Rw w' b { fH e d with su := (ah e : Int) + 2 } d.fs) (hM : bW Tryz.prog 3 w' d.mb (d.mn + 1) (fun x => if x = (ah e : Int) then some p else d.ins x)) (hO : Only (fun i => i = b ∨ i = d.mb) w w')
 (hW : Lk.Wf { e with oth := e.oth ++ [⟨ah e, e.win, 0, true, false⟩] }) :
 Live w' b { e with oth := e.oth ++ [⟨ah e, e.win, 0, true, false⟩] } { d with mn := d.mn + 1, ins := fun x => if x = (ah e : Int) then some p else d.ins x } ∧ (∀ i, foot b { d with mn := d.mn + 1, ins := fun x => if x = (ah e : Int) then some p else d.ins x } i -> foot b d i ∨ w.heap.size <= i) ∧ Only (foot b d) w w' := by
 have hs := h.fQ
 have hmb : ∀ (v : Value) (n : Nat) (T : TypeId) (k : Nat) (xs : List Value), w.ownsRow 0 T k v n xs -> v.ownBlock ≠ some d.mb := fun v n T k xs ho => h.map.Eg ho
 have hold : ∀ k q, d.ins k = some q -> q < w.heap.size := fun k q hq => h.lt q (.inr (.inr (.inr (.inr (.inr (.inr (.inr ⟨k, hq⟩)))))))
 have Ut : ∀ (i : Nat) (o : Lk.Ot), e.oth[i]? = some o -> o.id ≠ ah e := fun i o ho hx => by
  have h1 := (h.wf.oth i o ho).id
  have h2 := (List.getElem?_eq_some_iff.1 ho).1
  unfold ah at hx
  have := h.wf.side
  omega
 have hf : ∀ i, foot b { d with mn := d.mn + 1, ins := fun x => if x = (ah e : Int) then some p else d.ins x } i -> foot b d i ∨ w.heap.size <= i := by
  intro i hi
  rcases hi with hi | hi | hi | hi | hi | hi | hi | ⟨k, hi⟩
  . exact .inl (.inl hi)
  . exact .inl (.inr (.inl hi))
  . exact .inl (.inr (.inr (.inl hi)))
  . exact .inl (.inr (.inr (.inr (.inl hi))))
  . exact .inl (.inr (.inr (.inr (.inr (.inl hi)))))
  . exact .inl (.inr (.inr (.inr (.inr (.inr (.inl hi))))))
  . exact .inl (.inr (.inr (.inr (.inr (.inr (.inr (.inl hi)))))))
  . simp only at hi
    split at hi
    . simp at hi; subst hi; exact .inr hp
    . exact .inl (.inr (.inr (.inr (.inr (.inr (.inr (.inr ⟨k, hi⟩)))))))
 have hno : ∀ x, (x = b ∨ x = d.mb) -> x ≠ b -> x ≠ d.mb -> False := fun x hx h1 h2 => by
  rcases hx with hx | hx
  . exact h1 hx
  . exact h2 hx
 have hrw : Rw w' b (fH { e with oth := e.oth ++ [⟨ah e, e.win, 0, true, false⟩] } { d with mn := d.mn + 1, ins := fun x => if x = (ah e : Int) then some p else d.ins x }) d.fs := by
  have : ({ fH e d with su := (ah e : Int) + 2 } : EC) = fH { e with oth := e.oth ++ [⟨ah e, e.win, 0, true, false⟩] } { d with mn := d.mn + 1, ins := fun x => if x = (ah e : Int) then some p else d.ins x } := by
   have := h.wf.side
   simp [fH, ah, Lk.En.nextId]
   omega
  rw [<- this]
  exact hR
 refine ⟨⟨hrw, h.o9, h.good, ?_, ?_, ?_, ?_, h.psn, h.ps4, hM, by show d.mn + 1 <= (e.oth ++ [_]).length; have := h.mn; simp; omega, ?_, ?_, ?_, hW, fun i hi => ?_⟩, hf, hO.mono (fun i hi => ?_)⟩
 . exact ag h.out hO (fun i hi hx => hno i hx (fun e => (hs i (.inl e)).1 hi) (fun e => hmb _ _ _ _ _ h.out (e ▸ hi)))
 . exact ag h.inn hO (fun i hi hx => hno i hx (fun e => (hs i (.inl e)).2.1 hi) (fun e => hmb _ _ _ _ _ h.inn (e ▸ hi)))
 . exact ag h.sl hO (fun i hi hx => hno i hx (fun e => (hs i (.inl e)).2.2.1 hi) (fun e => hmb _ _ _ _ _ h.sl (e ▸ hi)))
 . refine h.outs.only hO (fun q hq hx => hno q hx (fun e => (hs q (.inl e)).2.2.2.1 hq) (fun e => ?_))
   obtain ⟨_, hy⟩ := h.outs.mem hq
   exact h.map.ne hy e.symm
 . intro i o ho
   by_cases hi : i < e.oth.length
   . have ho' : e.oth[i]? = some o := by rw [<- ho]; exact (List.getElem?_append_left hi).symm
     have hne := Ut i o ho'
     have hx : ji w (fun x => if x = (ah e : Int) then some p else d.ins x) o := by
      have := h.yZ i o ho'
      unfold ji at this ⊢
      simp only
      rw [if_neg (by omega)]
      exact this
     refine hx.only hO (fun q hq hy => ?_)
     rw [if_neg (by omega)] at hq
     refine hno q hy (fun e => (hs q (.inl e)).2.2.2.2.2 _ hq) (fun e => ?_)
     obtain ⟨_, _, _, _, _, _, hz, _⟩ := h.KX hq
     exact h.map.ne hz e.symm
   . have hi2 : i = e.oth.length := by
      have := (List.getElem?_eq_some_iff.1 ho).1
      simp at this
      omega
     subst hi2
     have ho' : (⟨ah e, e.win, 0, true, false⟩ : Lk.Ot) = o := by
      have := (List.getElem?_append_right (l₁ := e.oth) (l₂ := [⟨ah e, e.win, 0, true, false⟩]) (i := e.oth.length) (Nat.le_refl _)).symm.trans ho
      simpa using this
     subst ho'
     unfold ji
     simp only [if_true]
     exact ⟨by simp, (e.win : Int), false, by simpa using hI, fun _ => ⟨rfl, rfl⟩⟩
 . intro k hk
   have hk0 : (ah e : Int) ≠ k := hk e.oth.length ⟨ah e, e.win, 0, true, false⟩ (by simp)
   show (if k = (ah e : Int) then some p else d.ins k) = Option.none
   rw [if_neg (fun e => hk0 e.symm)]
   refine h.none k (fun i o ho => hk i o ?_)
   have := (List.getElem?_eq_some_iff.1 ho).1
   rw [List.getElem?_append_left this]
   exact ho
 . intro k k' q hk hk'
   simp only at hk hk'
   split at hk <;> split at hk'
   . omega
   . simp at hk; subst hk; have := hold k' _ hk'; omega
   . simp at hk'; subst hk'; have := hold k _ hk; omega
   . exact h.inj k k' q hk hk'
 . rcases hf i hi with h' | h'
   . exact h.pos i h'
   . have := h.pos b (.inl rfl)
     have := h.rw.lt
     omega
 . rcases hi with hi | hi
   . exact .inl hi
   . exact .inr (.inr (.inr (.inr (.inr (.inr (.inl hi))))))
theorem uY (b g B : Nat) (e : Lk.En) (d : PD) (v : Value) (evs : List EvH) (f : Lk.Fr) (w : World) (h : FS w b e d g B v evs) (hst : f.st ≠ ah e) :
 Calls Tryz.prog 90 #[.pointer (some ⟨b, 0, none⟩), frA f, dO g] w fun r w' => r = .returned (.int .i64 4) ∧ az w b d g B v evs e [] w' := by
 have hb0 := eY w f
 have h0 := h.below hb0
 have hbl := h.live.rw.lt
 have c15 : w.cell? ⟨b, 15, none⟩ = some (.int .i64 (ah e : Int)) := h.live.rw.blk.cell 15
 have hne : ((f.st : Int) != (ah e : Int)) = true := by rw [bne_iff_ne]; omega
 have HH := hide h0
 have HB := hide hb0
 clear h h0 hb0 hst
 unfold dO
 go_enter Tryz.func90, Tryz.ntmps90
 go_wp2_with fail
 go_quiet (fail)
 go_wp2_with fail
 go_ret
 exact ⟨rfl, az.before (uh HB) (az.dm (uh HH) (Below.drewN (Below.refl _ _) _))⟩
theorem yP (b g B ec q : Nat) (e : Lk.En) (d : PD) (v : Value) (evs : List EvH) (f : Lk.Fr) (w : World) (h : FS w b e d g B v evs) (hst : f.st = ah e) (Nv : f.d.length <= 64) (hX : Lk.exR 100 f.d 6 e.inn 0 = .err ec q) :
 Calls Tryz.prog 90 #[.pointer (some ⟨b, 0, none⟩), frA f, dO g] w fun r w' => r = .returned (.int .i64 9) ∧ az w b d g B v evs e [] w' := by
 have hb0 := eY w f
 have h0 := h.below hb0
 have hbl := h.live.rw.lt
 have c15 : w.cell? ⟨b, 15, none⟩ = some (.int .i64 (ah e : Int)) := h.live.rw.blk.cell 15
 have hne : ((f.st : Int) != (ah e : Int)) = false := by rw [bne_eq_false_iff_eq]; omega
 have hec : ((ec : Int) != 0) = true := by
  rw [bne_iff_ne]
  rcases Lk.yG _ _ _ _ _ _ _ hX with rfl | rfl <;> decide
 have hl : (bs f.d).data.toList = f.d := by simp [bs]
 have HE := hide (fun n => uu b 11 100 101 (fH e d).cells e.inn d.iv (bs f.d) ((w.alloc (.cells #[.int .i64 (f.k : Int), .int .i64 (f.st : Int), .string (bs f.d)] 79)).drewN n) (by rw [ax]; omega) (h0.drewN n).live.rw.blk (nbq rfl) rfl rfl rfl (h0.drewN n).live.inn h0.live.wf.inn (by omega) (h0.drewN n).fx (.err ec q) (by rw [hl]; exact hX))
 have HH := hide h0
 have HB := hide hb0
 clear h h0 hb0 hst hX hl
 unfold dO
 go_enter Tryz.func90, Tryz.ntmps90
 go_wp2_with fail
 go_quiet (fail)
 go_wp2_with fail
 go_region_with (first | (go_at_call 62; refine (uh HE (nq + 1)).mono ?_; rintro r w1 ⟨rfl, hb1⟩))
 all_goals
  go_wp2_with fail
  go_ret
  refine ⟨rfl, az.before (uh HB) ?_⟩
  have hx := az.dm ((uh HH).drewN (nq + 1)) hb1
  exact az.before (Below.drewN (Below.refl _ _) (nq + 1)) hx
theorem Nw {e : Lk.En} (h : Lk.Wf e) {L : List Lk.Hd} (hle : Lk.weights L <= 100) (h28 : ah e <= 268435455) : Lk.Wf { e with inn := L, oth := e.oth ++ [⟨ah e, e.win, 0, true, false⟩] } := by
 refine ⟨h.side, h.BJ, h.kN, h.out, hle, fun i o ho => by obtain ⟨a, b, c, d⟩ := h.own i o ho; exact ⟨a, b, c, d⟩, fun i o ho => ?_, h.all, ?_, h.row, h.rest⟩
 . by_cases hi : i < e.oth.length
   . have ho' : e.oth[i]? = some o := by rw [<- ho]; exact (List.getElem?_append_left hi).symm
     obtain ⟨a, b, c, d, f⟩ := h.oth i o ho'
     exact ⟨a, b, c, d, f⟩
   . have hi2 : i = e.oth.length := by
      have := (List.getElem?_eq_some_iff.1 ho).1
      simp at this
      omega
     subst hi2
     have ho' : (⟨ah e, e.win, 0, true, false⟩ : Lk.Ot) = o := by
      have := (List.getElem?_append_right (l₁ := e.oth) (l₂ := [⟨ah e, e.win, 0, true, false⟩]) (i := e.oth.length) (Nat.le_refl _)).symm.trans ho
      simpa using this
     subst ho'
     exact ⟨rfl, h28, Nat.le_refl _, fun _ => rfl, fun hx => by cases hx⟩
 . show e.room + Lk.fG (e.oth ++ [_]) = 2 * e.win
   rw [Lk.mr]
   have := h.room
   simp [Lk.fG] at this ⊢
   omega
theorem DD {w w1 : World} {b g B : Nat} {e : Lk.En} {d : PD} {v lv v' : Value} {evs : List EvH} {hs L : List Lk.Hd} (h : FS w b e d g B v evs) (ho : w1.ownsRow w.heap.size 112 2 lv hs.length (aQ hs)) (hI : Is w1 b 101 ((((fH e d).cells.set 11 aU).set 12 (.int .i64 (((100 : Nat) : Int) - Lk.weights L))).set 13 v')) (hv : w1.ownsRow 0 112 2 v' L.length (aQ L)) (hN : fZ w.heap.size d.iv v') (hle : Lk.weights L <= 100) (hdis : lv.ownBlock = none ∨ lv.ownBlock ≠ v'.ownBlock) (hT : Turns b w w1) :
 FS w1 b { e with inn := L } { d with iv := v' } g B v evs ∧ w1.ownsRow B 112 2 lv hs.length (aQ hs) ∧ (∀ i, lv.ownBlock = some i -> w.heap.size <= i ∧ ¬ foot b { d with iv := v' } i ∧ ¬ aN g v evs i) ∧ (∀ i, foot b { d with iv := v' } i -> foot b d i ∨ w.heap.size <= i) ∧ Only (foot b d) w w1 := by
 obtain ⟨hL1, hf1, hO1⟩ := h.live.Us hI hT hv hN hle
 have hnew : ∀ i, lv.ownBlock = some i -> w.heap.size <= i := fun i hi => (ho.lt i hi).1
 refine ⟨⟨hL1, h.told.only hO1 h.sep, fun i hi hf => ?_, h.fx.only hO1 (fun h0 => by have := h.live.pos 0 h0; omega), Nat.le_trans h.hB hO1.size, h.B0, h.gB⟩, own_base h.hB ho, fun i hi => ⟨hnew i hi, fun hf => ?_, fun ht => ?_⟩, hf1, hO1⟩
 . rcases hf1 i hf with h' | h'
   . exact h.sep i hi h'
   . have := h.told.lt i hi; omega
 . have hge := hnew i hi
   have hold : ∀ x, foot b d x -> x < w.heap.size := h.live.lt
   rcases hf with hf | hf | hf | hf | hf | hf | hf | ⟨k, hf⟩
   . have := hold i (.inl hf); omega
   . have := hold i (.inr (.inl hf)); omega
   . rcases hdis with h' | h'
     . rw [h'] at hi; cases hi
     . exact h' (hi.trans (show v'.ownBlock = some i from hf).symm)
   . have := hold i (.inr (.inr (.inr (.inl hf)))); omega
   . have := hold i (.inr (.inr (.inr (.inr (.inl hf))))); omega
   . have := hold i (.inr (.inr (.inr (.inr (.inr (.inl hf)))))); omega
   . have := hold i (.inr (.inr (.inr (.inr (.inr (.inr (.inl hf))))))); omega
   . have := hold i (.inr (.inr (.inr (.inr (.inr (.inr (.inr ⟨k, hf⟩))))))); omega
 . have := h.told.lt i ht
   have := hnew i hi
   omega
theorem Ny {w w1 : World} {b g B : Nat} {e e1 : Lk.En} {d d1 : PD} {v : Value} {evs : List EvH} (h : FS w b e d g B v evs) (h1 : Live w1 b e1 d1) (h2 : ∀ i, foot b d1 i -> foot b d i ∨ w.heap.size <= i) (h3 : Only (foot b d) w w1) : FS w1 b e1 d1 g B v evs := by
 refine ⟨h1, h.told.only h3 h.sep, fun i hi hf => ?_, h.fx.only h3 (fun h0 => by have := h.live.pos 0 h0; omega), Nat.le_trans h.hB h3.size, h.B0, h.gB⟩
 rcases h2 i hf with h' | h'
 . exact h.sep i hi h'
 . have := h.told.lt i hi; omega
theorem RJ (b i p : Nat) (e : Lk.En) (d : PD) (o : Lk.Ot) (st : Nat) (hst : o.id = st) (w : World) (hL : Live w b e d) (ho : e.oth[i]? = some o) (hop : o.opn = true) (hp : d.ins o.id = some p) (hW : Lk.Wf (e.JA i o 0)) :
 Calls Tryz.prog 119 #[.pointer (some ⟨b, 0, none⟩), .int .i64 (st : Int), .pointer (some ⟨p, 0, none⟩), .int .i64 0] w fun r w' => r = .returned (.tuple #[]) ∧ bf w b d (e.JA i o 0) w' := by
 subst hst
 exact EO b i p 0 e d o w hL ho hop hp (by omega) hW
theorem wW (b g B : Nat) (e : Lk.En) (d : PD) (v : Value) (evs : List EvH) (f : Lk.Fr) (hs L : List Lk.Hd) (w : World) (h : FS w b e d g B v evs) (hl : evs.length <= 2 ^ 40) (hst : f.st = ah e) (hst2 : f.st <= 268435455) (Nv : f.d.length <= 64) (hX : Lk.exR 100 f.d 6 e.inn 0 = .ok hs L) (EV : List Lk.Ev) (EE : Lk.En)
 (hEE : (if e.iH then ([], ({ e with inn := L, oth := e.oth ++ [⟨ah e, e.win, 0, true, false⟩] } : Lk.En).JA e.oth.length ⟨ah e, e.win, 0, true, false⟩ 0) else ([⟨1, f.st, 0, hs, []⟩], { e with inn := L, oth := e.oth ++ [⟨ah e, e.win, 0, true, false⟩] })) = (EV, EE)) (hWE : Lk.Wf EE) :
 Calls Tryz.prog 90 #[.pointer (some ⟨b, 0, none⟩), frA f, dO g] w fun r w' => r = .returned (.int .i64 0) ∧ az w b d g B v evs EE EV w' := by
 have hb0 := eY w f
 have h0 := h.below hb0
 have hbl := h.live.rw.lt
 have hnew := h.new
 have c15 : w.cell? ⟨b, 15, none⟩ = some (.int .i64 (ah e : Int)) := h.live.rw.blk.cell 15
 have hne : ((f.st : Int) != (ah e : Int)) = false := by rw [bne_eq_false_iff_eq]; omega
 have hl2 : (bs f.d).data.toList = f.d := by simp [bs]
 have HFR := hide (Is.new w 79 [.int .i64 (f.k : Int), .int .i64 (f.st : Int), .string (bs f.d)])
 have HE := hide (fun n => uu b 11 100 101 (fH e d).cells e.inn d.iv (bs f.d) ((w.alloc (.cells #[.int .i64 (f.k : Int), .int .i64 (f.st : Int), .string (bs f.d)] 79)).drewN n) (by rw [ax]; omega) (h0.drewN n).live.rw.blk (nbq rfl) rfl rfl rfl (h0.drewN n).live.inn h0.live.wf.inn (by omega) (h0.drewN n).fx (.ok hs L) (by rw [hl2]; exact hX))
 have HH := hide h0
 have HB := hide hb0
 have HEE := hide hEE
 have HWE := hide hWE
 have HST := hide hst
 have hno := lY h.live.wf
 have hsd := h.live.wf.side
 clear h h0 hb0 hX hl2 hEE hWE hst
 unfold dO
 go_enter Tryz.func90, Tryz.ntmps90
 go_wp2_with fail
 go_quiet (fail)
 go_wp2_with fail
 go_cut [7, 8] (fun u7 u8 wc => u8 = .int .i64 0 ∧ ∃ d1, FS wc b { e with inn := L } d1 g B v evs ∧ wc.ownsRow B 112 2 u7 hs.length (aQ hs) ∧ (∀ i, u7.ownBlock = some i -> w.heap.size <= i ∧ ¬ foot b d1 i ∧ ¬ aN g v evs i) ∧ (∀ i, foot b d1 i -> foot b d i ∨ w.heap.size <= i) ∧ Only (fun j => foot b d j ∨ aN g v evs j) w wc ∧ ¬ foot b d1 w.heap.size ∧ Is wc w.heap.size 79 [.int .i64 (f.k : Int), .int .i64 (f.st : Int), .string (bs f.d)] ∧ Lk.weights L <= 100)
 case first =>
  go_region_with (first | (go_at_call 62; refine (uh HE (nq + 1)).mono ?_; rintro r w1 ⟨⟨lv, v', rfl, ho1, hI1, hv1, hN1, hle1, Uu, Yf⟩, hT1⟩))
  all_goals
   go_wp2_with fail
   go_meet
   obtain ⟨a1, a2, a3, a4, a5⟩ := DD ((uh HH).drewN (nq + 1)) ho1 hI1 hv1 hN1 hle1 Uu hT1
   have hsz := (uh HB).size
   have hff : ¬ foot b { d with iv := v' } w.heap.size := fun hx => by
    rcases a4 _ hx with h' | h'
    . exact hnew (.inl h')
    . have h'' : w.heap.size + 1 <= w.heap.size := by simpa using h'
      omega
   refine ⟨rfl, _, a1, a2, fun i hi => ⟨Nat.le_trans hsz (a3 i hi).1, (a3 i hi).2⟩, fun i hi => (a4 i hi).imp id (Nat.le_trans hsz), ((Only.of_below (uh HB) _).drewN (nq + 1)).trans a5 (fun j hj _ => .inl hj), hff, ((uh HFR).drewN (nq + 1)).only a5 (fun hx => hnew (.inl hx)), hle1⟩
 case rest =>
  obtain ⟨rfl, d1, hF1, hou, hud, hf1, hO1, OL, nI, hle⟩ := hcut
  obtain ⟨sa, sm, sc, rfl, hsm⟩ := bV hou
  have BB := hF1.live.rw.lt
  have hmn : d1.mn <= 268435457 := by have h1 : d1.mn <= e.oth.length := hF1.live.mn; unfold ah at hno; omega
  have HBI := hide (CV b d1.mb d1.mn (ah e) d1.ins (fH { e with inn := L } d1) d1.fs wc hF1.live.rw rfl rfl (by omega) hF1.live.map hmn)
  have Um := nI.lt
  have HF1 := hide (⟨hF1, hou, hud, hf1, hO1, OL, nI, hle⟩ : _ ∧ _ ∧ _ ∧ _ ∧ _ ∧ _ ∧ _ ∧ _)
  clear hF1 hou hud hf1 hO1 OL nI hle hsm hmn
  go_wp2_with fail
  refine (uh HBI).mono ?_
  rintro r w2 ⟨rfl, hI2, hR2, hM2, hO2⟩
  obtain ⟨hF1, hou, hud, hf1, hO1, OL, nI, hle⟩ := uh HF1
  have h28 : ah e <= 268435455 := by rw [<- uh HST]; exact hst2
  have hWb : Lk.Wf { e with inn := L, oth := e.oth ++ [⟨ah e, e.win, 0, true, false⟩] } := Nw (uh HH).live.wf hle h28
  obtain ⟨hL2, hf2, Iy⟩ := hF1.live.RI (p := wc.heap.size) (Nat.le_refl _) hI2 hR2 hM2 hO2 hWb
  have hF2 : FS w2 b { e with inn := L, oth := e.oth ++ [⟨ah e, e.win, 0, true, false⟩] } { d1 with mn := d1.mn + 1, ins := fun x => if x = (ah e : Int) then some wc.heap.size else d1.ins x } g B v evs := Ny hF1 hL2 hf2 Iy
  have hf2 : ∀ i, foot b { d1 with mn := d1.mn + 1, ins := fun x => if x = (ah e : Int) then some wc.heap.size else d1.ins x } i -> foot b d1 i ∨ wc.heap.size <= i := hf2
  have BC := nI.only Iy OL
  have WO := BC.lt
  have Oy := hF2.live.rw.lt
  have k1 := BC.cell 1
  simp only [List.getElem?_cons_zero, List.getElem?_cons_succ] at k1
  have hE := uh HEE
  by_cases hby : e.iH = true
  . have c20 : w2.cell? ⟨b, 20, none⟩ = some (.bool true) := by have := hF2.live.rw.blk.cell 20; rw [<- hby]; exact this
    rw [if_pos hby] at hE
    obtain ⟨hE1, hE2⟩ := Prod.mk.inj hE
    have HE1 := hide hE1
    have HE2 := hide hE2
    have HC := hide (RJ b e.oth.length wc.heap.size _ _ ⟨ah e, e.win, 0, true, false⟩ f.st (by rw [uh HST]) w2 hF2.live (by simp) rfl (by simp) (by rw [hE2]; exact uh HWE))
    have HF2 := hide (⟨hF2, hf2, Iy⟩ : _ ∧ _ ∧ _)
    clear hF1 hou hud hf1 hO1 OL nI hle hF2 hf2 Iy BC hE hE1 hE2 hI2 hR2 hM2 hO2 hL2 hWb hby
    go_wp2_with fail
    refine (uh HC).mono ?_
    rintro r w3 ⟨rfl, hLP⟩
    go_wp2_with fail
    go_ret
    obtain ⟨hF1, hou, hud, hf1, hO1, OL, nI, hle⟩ := uh HF1
    obtain ⟨hF2, hf2, Iy⟩ := uh HF2
    refine ⟨rfl, ?_⟩
    rw [<- uh HE1, <- uh HE2]
    exact az.of hF1 hf1 hO1 (az.of hF2 hf2 (Iy.mono (fun i hi => .inl hi)) (hF2.ofL hLP))
  . have RQ : e.iH = false := by simpa using hby
    have c20 : w2.cell? ⟨b, 20, none⟩ = some (.bool false) := by have := hF2.live.rw.blk.cell 20; rw [<- RQ]; exact this
    rw [if_neg hby] at hE
    obtain ⟨hE1, hE2⟩ := Prod.mk.inj hE
    have HE1 := hide hE1
    have HE2 := hide hE2
    have Vp := ag hou Iy (fun i hi hx => (hud i hi).2.1 hx)
    have HT := hide (Du b g B _ _ v evs ⟨1, f.st, 0, hs, []⟩ (.slice sa sm sc) w2 hF2 hl Vp (fun i hi => ⟨fun hx => by
     rcases hf2 i hx with h' | h'
     . exact (hud i hi).2.1 h'
     . have := (hou.lt i hi).2; omega, (hud i hi).2.2⟩) w.heap.size (Nat.le_trans hO1.size Iy.size) (fun i hi => (hud i hi).1))
    unfold evA at HT
    have e0 : bs [] = ⟨#[]⟩ := rfl
    have e1 : ((1 : Nat) : Int) = 1 := rfl
    have e2 : ((0 : Nat) : Int) = 0 := rfl
    simp only [e0, e1, e2] at HT
    have HF2 := hide (⟨hF2, hf2, Iy⟩ : _ ∧ _ ∧ _)
    clear hF1 hou hud hf1 hO1 OL nI hle hF2 hf2 Iy BC hE hE1 hE2 hI2 hR2 hM2 hO2 hL2 hWb hby RQ Vp e0 e1 e2
    go_wp2_with fail
    refine (uh HT).mono ?_
    rintro r w3 ⟨rfl, v3, hF3, ht3, hO3⟩
    go_wp2_with fail
    go_ret
    obtain ⟨hF1, hou, hud, hf1, hO1, OL, nI, hle⟩ := uh HF1
    obtain ⟨hF2, hf2, Iy⟩ := uh HF2
    refine ⟨rfl, ?_⟩
    rw [<- uh HE1, <- uh HE2]
    have hfw : ∀ i, foot b { d1 with mn := d1.mn + 1, ins := fun x => if x = (ah e : Int) then some wc.heap.size else d1.ins x } i -> foot b d i ∨ w.heap.size <= i := fun i hi => by
     rcases hf2 i hi with h' | h'
     . exact hf1 i h'
     . exact .inr (Nat.le_trans hO1.size h')
    have hOw : Only (fun j => foot b d j ∨ aN g v evs j) w w2 := hO1.trans Iy (fun i hi hlt => (hf1 i hi).elim .inl (fun h' => absurd hlt (by omega)))
    exact ⟨_, v3, [(⟨1, f.st, 0, hs, []⟩, .slice sa sm sc)], rfl, hF3, hfw, ht3, hOw.trans hO3 (fun i hi hlt => by
     rcases hi with hi | hi
     . exact (hfw i hi).elim .inl (fun h' => absurd hlt (by omega))
     . exact .inr hi)⟩
variable {κ : Prop}
theorem aT.Sm {w w2 : World} {b u : Nat} {e : Lk.En} {p : RP} {L : List Lk.Hd} {v : Value} (h : aT κ w b e p) (hb : Below w.heap.size w w2) (hT : RTab w2 u 100 L v) (hu : w.heap.size <= u) (hv : ∀ k, v.ownBlock = some k -> w.heap.size <= k) : aj κ w b p { e with out := L } (w2.setCell ⟨b, 2, none⟩ (ptr u)) := by
 have h2 := h.below hb
 have hO : Only (· = b) w2 (w2.setCell ⟨b, 2, none⟩ (ptr u)) := (Only.refl _ w2).set b 2 _ (fun _ => rfl)
 have hbl := h.blk.lt
 obtain ⟨c1, c2, c3, c4, c5, c6, c7, c8⟩ := h2.apart
 obtain ⟨s, f, r1, r2⟩ := h2.rd
 have hib := h.lt (i := p.ib) (.inr (.inr (.inl rfl)))
 refine ⟨{ p with ob := u, vo := v }, ⟨h2.blk.set 2 (ptr u), hT.only hO (fun hx => by omega) (fun i hi hx => by have := hv i hi; omega), h2.inn.only hO (Ne.symm c2) c5, ⟨s, f, r1.only hO (Ne.symm c3), r2⟩, h2.row.only hO c6, ag h2.own hO c7, ag h2.oth hO c8, (by show u ≠ p.ib; omega), ?_⟩, fun i hi => ?_, ((Only.of_below hb _).trans (hO.mono (fun i hi => (.inl hi : aI b p i))) (fun _ x _ => x))⟩
 . cases hx : v.ownBlock with
   | none => exact .inl rfl
   | some k =>
     refine .inr (fun e2 => ?_)
     have q1 := hv k hx
     have q2 := h.lt (i := k) (.inr (.inr (.inr (.inr (.inr (.inl e2.symm))))))
     omega
 . rcases hi with hi | hi | hi | hi | hi | hi | hi | hi | hi
   . exact .inl (.inl hi)
   . exact .inr (by have : i = u := hi; omega)
   . exact .inl (.inr (.inr (.inl hi)))
   . exact .inl (.inr (.inr (.inr (.inl hi))))
   . exact .inr (hv i hi)
   . exact .inl (.inr (.inr (.inr (.inr (.inr (.inl hi))))))
   . exact .inl (.inr (.inr (.inr (.inr (.inr (.inr (.inl hi)))))))
   . exact .inl (.inr (.inr (.inr (.inr (.inr (.inr (.inr (.inl hi))))))))
   . exact .inl (.inr (.inr (.inr (.inr (.inr (.inr (.inr (.inr hi))))))))
theorem NU : (Tryz.prog.info? 258).map (fun i => (i.zero, i.size, i.bytes)) = some (some (.agg #[.int .i64 0, .string ⟨#[]⟩, .int .i64 0, .bool false]), 4, 40) := by kernel_rfl
theorem Bi (w : World) (c : Obj) : Below w.heap.size w (w.alloc c).drew := by
 have h := (Below.refl w.heap.size w).alloc (Nat.le_refl _) c
 exact ⟨h.os, h.tape, h.output, h.size, h.block⟩
theorem NV (w : World) (y : Lk.Ow) : ∀ j u, (rwV y)[j]? = some u -> (w.alloc (.cells #[.int .i64 (y.id : Int), .string (bs y.left), .int .i64 (y.cr : Int), .bool y.done] 258)).drew.cell? ((⟨w.heap.size, 0, none⟩ : Addr).add j) = some u := by
 intro j u hj
 have e : (⟨w.heap.size, 0, none⟩ : Addr).add j = ⟨w.heap.size, j, none⟩ := by unfold Addr.add; split <;> simp_all
 rw [e]
 exact ((Is.new w 258 (rwV y)).cell j).trans hj
def vz (l : List Lk.Ow) (i : Nat) : Nat := ((l.take i).filter fun o => !o.done).length
theorem Ic {l : List Lk.Ow} {i : Nat} {o : Lk.Ow} (h : l[i]? = some o) : vz l (i + 1) = vz l i + (if o.done then 0 else 1) := by
 unfold vz
 rw [List.take_add_one, h, List.filter_append, List.length_append]
 cases hd : o.done <;> simp [hd]
theorem KG (e : Lk.En) : vz e.own e.own.length = e.busy := by
 unfold vz Lk.En.busy
 rw [List.take_length]
theorem Fj (l : List Lk.Ow) (i : Nat) : vz l i <= i := by
 unfold vz
 have := List.length_filter_le (fun o : Lk.Ow => !o.done) (l.take i)
 have h2 := List.length_take_le i l
 omega
theorem D5 (b B1 : Nat) (e : Lk.En) (p : RP) (l : List Lk.Hd) (lv : Value) (body : Lk.Bs) (w : World) (h : aT κ w b e p) (hw : Lk.Wf e) (own : w.ownsRow B1 206 2 lv l.length (aQ l)) (hl : e.row.length <= 2 ^ 41) :
 Calls Tryz.prog 110 #[.pointer (some ⟨b, 0, none⟩), lv, .string (bs body)] w fun r w' => r = .returned (.tuple #[.int .i64 ((e.aW l body).1.1 : Int), .int .i64 ((e.aW l body).1.2.1 : Int), .int .i64 ((e.aW l body).1.2.2 : Int)]) ∧ aj κ w b p (e.aW l body).2 w' := by
 have c13 : w.cell? ⟨b, 13, none⟩ = some (.int .i64 (e.down : Int)) := h.blk.cell 13
 have c11 : w.cell? ⟨b, 11, none⟩ = some (.bool e.iH) := h.blk.cell 11
 have c12 : w.cell? ⟨b, 12, none⟩ = some (.bool e.oK) := h.blk.cell 12
 have hbl := h.blk.lt
 obtain ⟨la, lc, rfl⟩ := aJ own
 have HSM := hide (aj.same h)
 have HH := hide (⟨h, hw, hl⟩ : _ ∧ _ ∧ _)
 have HWR := hide (lL B1 _ l w own)
 have HOWN := hide own
 generalize hX : e.aW l body = X
 unfold Lk.En.aW at hX
 clear h own
 by_cases hdn : e.down ≠ 0
 . rw [if_pos hdn] at hX
   subst hX
   have hd' : ¬ (e.down : Int) = 0 := by omega
   generalize (e.down : Int) = DN at *
   go_enter Tryz.func110, Tryz.ntmps110
   go_wp2_with fail
   go_ret3
   exact ⟨rfl, uh HSM⟩
 rw [if_neg hdn] at hX
 have hdn : e.down = 0 := by omega
 rw [hdn] at c13
 by_cases hby : (e.iH || e.oK) = true
 . rw [if_pos hby] at hX
   subst hX
   cases hbs : e.iH with
   | true =>
     rw [hbs] at c11
     clear hbs hby
     go_enter Tryz.func110, Tryz.ntmps110
     go_wp2_with fail
     go_ret3
     exact ⟨rfl, uh HSM⟩
   | false =>
     have hbc : e.oK = true := by rw [hbs] at hby; simpa using hby
     rw [hbs] at c11
     rw [hbc] at c12
     clear hbs hby hbc
     go_enter Tryz.func110, Tryz.ntmps110
     go_wp2_with fail
     go_ret3
     exact ⟨rfl, uh HSM⟩
 rw [if_neg hby] at hX
 obtain ⟨hbs, hbc⟩ : e.iH = false ∧ e.oK = false := by simpa using hby
 rw [hbs] at c11
 rw [hbc] at c12
 clear hby hbs hbc hdn
 by_cases hwr : (Lk.wrong l).1 ≠ 0
 . rw [if_pos hwr] at hX
   subst hX
   have Yj : ¬ ((Lk.wrong l).1 : Int) = 0 := by omega
   simp only
   generalize ((Lk.wrong l).1 : Int) = W1 at *
   clear hwr
   go_enter Tryz.func110, Tryz.ntmps110
   go_wp2_with fail
   refine (uh HWR).mono ?_
   rintro r w1 ⟨rfl, hb1⟩
   have HF := hide ((uh HSM).after hb1)
   clear hb1
   go_wp2_with fail
   go_ret3
   exact ⟨rfl, uh HF⟩
 rw [if_neg hwr] at hX
 have hwr : (Lk.wrong l).1 = 0 := by omega
 have hwr2 : (Lk.wrong l).1 = 0 := hwr
 rw [hwr] at HWR
 obtain ⟨h, hw, hl⟩ := uh HH
 have hside := hw.side
 have Gl := hw.wF
 have hwin := hw.kN
 have HCP : Hid (∀ w1, Below w.heap.size w w1 -> (w1.cell? ⟨b, 2, none⟩ = some (.pointer (some ⟨p.ob, 0, none⟩)) ∧ b < w1.heap.size) ∧ Calls Tryz.prog 104 #[.pointer (some ⟨p.ob, 0, none⟩)] w1 fun e' w' => ∃ u, e' = .returned (.pointer (some ⟨u, 0, none⟩)) ∧ (w.heap.size <= u ∧ (∃ v', RTab w' u 100 e.out v' ∧ ∀ k, v'.ownBlock = some k -> w.heap.size <= k) ∧ Below w.heap.size w w')) := by
  intro w1 hb1
  have h1 := h.below hb1
  refine ⟨⟨h1.blk.cell 2, h1.blk.lt⟩, (sD p.ob 100 e.out p.vo w1 h1.out).mono ?_⟩
  rintro r w2 ⟨u, rfl, hu, ⟨v2, hT2, hv2⟩, hb2⟩
  have := hb1.size
  exact ⟨u, rfl, by omega, ⟨v2, hT2, fun k hk => by have := hv2 k hk; omega⟩, hb1.trans (hb2.mono hb1.size)⟩
 have HSQ : Hid (∀ w2 u, (w.heap.size <= u ∧ (∃ v', RTab w2 u 100 e.out v' ∧ ∀ k, v'.ownBlock = some k -> w.heap.size <= k) ∧ Below w.heap.size w w2) -> Calls Tryz.prog 60 #[.pointer (some ⟨u, 0, none⟩), .slice la l.length lc] w2 fun e' w3 => e' = .returned (.tuple #[.string (bs (Lk.squeeze 100 e.out l).1), .int .i64 0, .int .i64 0]) ∧ (aT κ w3 b e p ∧ aj κ w b p e w3 ∧ aj κ w b p { e with out := (Lk.squeeze 100 e.out l).2 } (w3.setCell ⟨b, 2, none⟩ (ptr u)))) := by
  rintro w2 u ⟨hu, ⟨v2, hT2, hv2⟩, hb2⟩
  refine (ug u 100 B1 e.out l v2 _ w2 hT2 hwr2 (own_below (uh HOWN) hb2)).mono ?_
  rintro r w3 ⟨rfl, ⟨v3, hT3, hv3⟩, Tz⟩
  have hb3 : Below w.heap.size w w3 := hb2.trans ((Only.dP Tz).toBelow (fun i hi _ => by have : i = u := hi; omega) hb2.size)
  exact ⟨rfl, h.below hb3, (aj.same h).after hb3, h.Sm hb3 hT3 hu (fun k hk => by
   rcases hv3 with rfl | hv3
   . exact hv2 k hk
   . have := hv3 k hk
     have := hb2.size
     omega)⟩
 have Xo : ((bs (Lk.squeeze 100 e.out l).1).size : Int) = (Lk.squeeze 100 e.out l).1.length := by rw [ax]
 have Xp : ((bs body).size : Int) = body.length := by rw [ax]
 generalize hSQ : Lk.squeeze 100 e.out l = SQ at *
 have HX := hide hX
 have HLL := hide hl
 clear hX hwr hwr2 HOWN h hw hl HH hSQ
 go_enter Tryz.func110, Tryz.ntmps110
 go_wp2_with fail
 refine (uh HWR).mono ?_
 rintro r w1 ⟨rfl, hb1⟩
 obtain ⟨⟨d2, dl⟩, hcp⟩ := uh HCP w1 hb1
 have VA := hide hcp
 clear hb1 hcp c13 c11 c12 hbl HWR
 go_wp2_with fail
 refine (uh VA).mono ?_
 rintro r w2 ⟨u, rfl, hu⟩
 have HS2 := hide (uh HSQ w2 u hu)
 clear hu HSQ d2 dl VA
 go_wp2_with fail
 refine (uh HS2).mono ?_
 rintro r w3 ⟨rfl, h3, VB, Sr⟩
 have H3 := hide (⟨h3, VB, Sr⟩ : _ ∧ _ ∧ _)
 have d0 : w3.cell? ⟨b, 0, none⟩ = some (.int .i64 (e.side : Int)) := h3.blk.cell 0
 have d1 : w3.cell? ⟨b, 1, none⟩ = some (.int .i64 (e.win : Int)) := h3.blk.cell 1
 have d2 : w3.cell? ⟨b, 2, none⟩ = some (ptr p.ob) := h3.blk.cell 2
 have g2 := h3.blk.free 2
 have d6 : w3.cell? ⟨b, 6, none⟩ = some p.wv := h3.blk.cell 6
 have dl := h3.blk.lt
 obtain ⟨wa, wc, hwv⟩ := aJ h3.own
 rw [hwv] at d6
 unfold ptr at d2
 have HWV := hide hwv
 clear h3 VB Sr hwv HS2
 by_cases hlg : 64 < SQ.1.length ∨ 300 < body.length
 . have HF : Hid ((X.1.1 = 0 ∧ X.1.2.1 = 5 ∧ X.1.2.2 = 0) ∧ aj κ w b p X.2 w3) := by
    have := uh HX
    rw [if_pos hlg] at this
    rw [<- this]
    exact ⟨⟨rfl, rfl, rfl⟩, (uh H3).2.1⟩
   by_cases h64 : 64 < SQ.1.length
   . have Q8 : (64 : Int) < ((bs SQ.1).size : Int) := by omega
     clear hlg h64 HX
     go_wp2_with fail
     go_ret3
     obtain ⟨⟨e1, e2, e3⟩, hP⟩ := uh HF
     rw [e1, e2, e3]
     exact ⟨rfl, hP⟩
   . have Q8 : ¬ (64 : Int) < ((bs SQ.1).size : Int) := by omega
     have Yk : (300 : Int) < ((bs body).size : Int) := by omega
     clear hlg h64 HX
     go_wp2_with fail
     go_ret3
     obtain ⟨⟨e1, e2, e3⟩, hP⟩ := uh HF
     rw [e1, e2, e3]
     exact ⟨rfl, hP⟩
 have Q8 : ¬ (64 : Int) < ((bs SQ.1).size : Int) := by omega
 have Xq : ¬ (300 : Int) < ((bs body).size : Int) := by omega
 have HX2 : Hid _ := hide ((if_neg hlg).symm.trans (uh HX))
 clear Xo Xp hlg HX
 have VC := KG e
 have VD := hide VC
 clear VC
 go_wp2_with fail
 go_loopw [15, 16] (fun v15 v16 wx => wx = w3 ∧ ∃ i : Nat, i <= e.own.length ∧ v16 = .int .i64 i ∧ v15 = .int .i64 (vz e.own i : Int)) (fun _ v16 _ => e.own.length - (intOf v16).toNat)
 case atStart => exact ⟨rfl, 0, Nat.zero_le _, rfl, rfl⟩
 case round =>
  obtain ⟨rfl, i, hi, rfl, rfl⟩ := hrel
  by_cases hlt : i < e.own.length
  . have hlt' : (i : Int) < e.own.length := by omega
    have hi0 : (0 : Int) <= i := by omega
    obtain ⟨o, ho⟩ : ∃ o, e.own[i]? = some o := ⟨_, List.getElem?_eq_getElem hlt⟩
    obtain ⟨g, cap, TA, hgl, hcap, _, _, _, x3, _⟩ := (uh H3).1.Rh ho
    obtain ⟨rfl, rfl⟩ : wa = some ⟨g, 0, none⟩ ∧ wc = cap := by
     rw [uh HWV] at TA
     injection TA with k1 k2 k3
     exact ⟨k1, k3⟩
    have hbs := Ic ho
    have hbl := Fj e.own i
    have hb0 : (vz e.own i : Int) <= 134217729 := by omega
    have hb1 : (0 : Int) <= (vz e.own i : Int) := by omega
    cases hdn : o.done with
    | true =>
      rw [hdn] at x3 hbs
      have HBS := hide hbs
      clear hdn hbs TA ho hbl
      go_wp2_with fail
      go_roundw
      case rel => exact ⟨by trivial, i + 1, by omega, by go_num, by rw [uh HBS]; simp⟩
      case measure => simp [intOf]; omega
    | false =>
      rw [hdn] at x3 hbs
      have HBS := hide hbs
      clear hdn hbs TA ho hbl
      go_wp2_with fail
      go_roundw
      case rel => exact ⟨by trivial, i + 1, by omega, by go_num, by rw [uh HBS]; simp⟩
      case measure => simp [intOf]; omega
  . have hlt' : ¬ (i : Int) < e.own.length := by omega
    obtain rfl : i = e.own.length := by omega
    rw [uh VD]
    have hbz : (e.busy : Int) <= 134217729 := by have := Fj e.own e.own.length; rw [uh VD] at this; omega
    have Yl : (0 : Int) <= (e.busy : Int) := by omega
    have hid : 2 * (e.own.length : Int) + 1 + (e.side : Int) = (e.nextId : Int) := by unfold Lk.En.nextId; omega
    have hol : (e.own.length : Int) <= 134217729 := by omega
    have hes : (e.side : Int) <= 1 := by omega
    have hes0 : (0 : Int) <= e.side := by omega
    by_cases hfl : 4 <= e.busy ∨ 268435455 < e.nextId
    . have HF : Hid ((X.1.1 = 0 ∧ X.1.2.1 = 11 ∧ X.1.2.2 = 0) ∧ ∀ W', Below wr.heap.size wr W' -> aj κ w b p X.2 W') := by
       have := uh HX2
       rw [if_pos hfl] at this
       rw [<- this]
       exact ⟨⟨rfl, rfl, rfl⟩, fun W' hb' => (uh H3).2.1.after hb'⟩
      by_cases h4 : 4 <= e.busy
      . have h4' : (4 : Int) <= (e.busy : Int) := by omega
        clear hfl h4 HX2 H3
        go_wp2_with fail
        go_quiet (fail)
        go_wp2_with fail
        go_ret3
        obtain ⟨⟨e1, e2, e3⟩, hP⟩ := uh HF
        rw [e1, e2, e3]
        exact ⟨rfl, hP _ ⟨rfl, rfl, rfl, Nat.le_refl _, fun _ _ => rfl⟩⟩
      . have h4' : ¬ (4 : Int) <= (e.busy : Int) := by omega
        have hn' : (268435455 : Int) < (e.nextId : Int) := by omega
        clear hfl h4 HX2 H3
        go_wp2_with fail
        go_quiet (fail)
        go_wp2_with fail
        go_ret3
        obtain ⟨⟨e1, e2, e3⟩, hP⟩ := uh HF
        rw [e1, e2, e3]
        exact ⟨rfl, hP _ ⟨rfl, rfl, rfl, Nat.le_refl _, fun _ _ => rfl⟩⟩
    . have h4' : ¬ (4 : Int) <= (e.busy : Int) := by omega
      have hn' : ¬ (268435455 : Int) < (e.nextId : Int) := by omega
      have HX3 : Hid _ := hide ((if_neg hfl).symm.trans (uh HX2))
      have QG : 0 < e.nextId := by unfold Lk.En.nextId; omega
      have MK : e.nextId <= 268435455 := by omega
      have HGO : Hid (0 < e.nextId ∧ e.nextId <= 268435455 ∧ SQ.1.length <= 64 ∧ e.row.length <= 2 ^ 41) := ⟨QG, MK, by rw [ax] at Q8; omega, uh HLL⟩
      obtain ⟨inf, hi9, hz0, hz1, hz2⟩ := info_parts NU
      clear hfl HX2 QG MK
      go_wp2_with fail
      go_quiet (fail)
      go_upto_region 22 with fail
      obtain ⟨wA, hwA⟩ : ∃ wA, wA = (wr.drewN nq).setCell ⟨b, 2, none⟩ (.pointer (some ⟨u, 0, none⟩)) := ⟨_, rfl⟩
      rw [<- hwA]
      obtain ⟨pA, hA, hfA, hOA⟩ : aj κ w b p { e with out := SQ.2 } wA := by
       rw [hwA]
       exact (uh H3).2.2.after ⟨rfl, rfl, rfl, Nat.le_refl _, fun _ _ => rfl⟩
      obtain ⟨sa, sc, hsv⟩ := aJ hA.own
      have HSV := hide hsv
      have q1 : wA.cell? ⟨b, 1, none⟩ = some (.int .i64 (e.win : Int)) := hA.blk.cell 1
      have q6 : wA.cell? ⟨b, 6, none⟩ = some pA.wv := hA.blk.cell 6
      rw [hsv] at q6
      have ql := hA.blk.lt
      have HQ : Hid (∀ Wx w1 g1 cap1, Below wA.heap.size wA Wx -> Wx.grownBy w1 (Value.slice sa e.own.length sc).ownBlock -> w1.ownsRow 0 258 4 (.slice (some ⟨g1, 0, none⟩) (e.own.length + 1) cap1) (e.own.length + 1) (L6 e.own ++ rwV ⟨e.nextId, body, e.win, false⟩) -> ((Value.slice sa e.own.length sc).ownBlock = some g1 ∨ Wx.heap.size <= g1) -> (w1.cell? ⟨b, 6, none⟩ = some (.slice sa e.own.length sc) ∧ w1.frozen? ⟨b, 6, none⟩ = false ∧ b < w1.heap.size) ∧ ∀ w7, w7 = w1.setCell ⟨b, 6, none⟩ (.slice (some ⟨g1, 0, none⟩) (e.own.length + 1) cap1) -> Hid (aj κ w b p { e with out := SQ.2, own := e.own ++ [⟨e.nextId, body, e.win, false⟩] } w7)) := by
       intro Wx w1 g1 cap1 k1 k2 k3 k4
       have hRx := hA.below k1
       rw [<- show pA.wv = .slice sa e.own.length sc from uh HSV] at k2 k4
       have e1 : L6 e.own ++ rwV ⟨e.nextId, body, e.win, false⟩ = L6 (e.own ++ [⟨e.nextId, body, e.win, false⟩]) := by simp [L6]
       have e2 : e.own.length + 1 = (e.own ++ [(⟨e.nextId, body, e.win, false⟩ : Lk.Ow)]).length := by simp
       have hO : Only (fun i => pA.wv.ownBlock = some i) Wx w1 := (Only.gV k2).mono (fun i hi => hi.symm)
       have hb' := hRx.blk.only hO (fun hx => (hRx.apart.2.2.2.2.2.2.1 b hx) rfl)
       have hc6 : w1.cell? ⟨b, 6, none⟩ = some pA.wv := hb'.cell 6
       rw [show pA.wv = .slice sa e.own.length sc from uh HSV] at hc6
       refine ⟨⟨hc6, hb'.free 6, hb'.lt⟩, ?_⟩
       rw [e1, e2] at k3
       intro w7 hw7
       rw [e2] at hw7
       have hq := hRx.RG (v' := .slice (some ⟨g1, 0, none⟩) (e.own ++ [(⟨e.nextId, body, e.win, false⟩ : Lk.Ow)]).length cap1) k3 (k4.imp (fun x => x.symm) (fun x k hk => by have hk : some g1 = some k := hk; injection hk with hk; omega)) hO
       rw [<- hw7] at hq
       exact aj.trans hfA hOA (aj.before k1 hq)
      have HOT : Hid (∀ Wx, Below wA.heap.size wA Wx -> Wx.ownsRow 0 258 4 (.slice sa e.own.length sc) e.own.length (L6 e.own)) := by
       intro Wx k1
       have := (hA.below k1).own
       rw [<- show pA.wv = .slice sa e.own.length sc from uh HSV]
       exact this
      clear hA hfA hOA hwA hsv H3 d0 d1 d2 g2 d6 dl HSM HWV
      go_cut [] (fun w7 => Hid (aj κ w b p { e with out := SQ.2, own := e.own ++ [⟨e.nextId, body, e.win, false⟩] } w7))
      case first =>
       go_region_law (first
        | (refine step_append_lies _ rfl _ _ 197 rfl 0 258 inf _ 4 40 Tryz.underlying197 hi9 hz0 hz1 hz2 rfl (Nat.succ_pos 3) (.slice sa e.own.length sc) e.own.length (L6 e.own) rfl (uh HOT _ ?_) ⟨wA.heap.size, 0, none⟩ 1 1 (rwV ⟨e.nextId, body, e.win, false⟩) rfl rfl ?_ ?_ ?_ ?_ ?_ ?_ (wA.heap.size + 1) ?_ ?_
           exact Bi wA _
           exact NV wA _
           (intro u hu; simp [rwV] at hu; rcases hu with rfl | rfl | rfl | rfl <;> rfl)
           exact Nat.one_pos
           (unfold maxLen; omega)
           omega
           exact Nat.zero_le _
           simp
           intro g1 cap1 w1 ho1 hg1 OJ hlt1
           obtain ⟨⟨z7, zf, zl⟩, hP7⟩ := uh HQ _ w1 g1 cap1 (Bi wA _) hg1 ho1 (by rcases OJ with h | h; exact .inl h; exact .inr (by rw [h]; simp))
           have HP7 := hide hP7
           clear ho1 hg1 OJ hP7))
       all_goals
        go_wp2_with fail
        go_meet
        exact uh HP7 _ rfl
      case rest =>
       obtain ⟨p7, h7, hf7, hO7⟩ := uh hcut
       obtain ⟨g1, g2, g3, g4⟩ := uh HGO
       have HSN := hide (fV b { e with out := SQ.2, own := e.own ++ [⟨e.nextId, body, e.win, false⟩] } p7 0 e.nextId SQ.1 wc h7 (Lk.rE e.nextId SQ.1 g1 g2 g3) (by show e.row.length <= _; omega))
       have HF : Hid (∀ W', aj κ wc b p7 (({ e with out := SQ.2, own := e.own ++ [⟨e.nextId, body, e.win, false⟩] } : Lk.En).send 0 e.nextId SQ.1) W' -> (X.1.1 = e.nextId ∧ X.1.2.1 = 0 ∧ X.1.2.2 = 0) ∧ aj κ w b p X.2 W') := by
        intro W' hP
        rw [<- uh HX3]
        exact ⟨⟨rfl, rfl, rfl⟩, aj.trans hf7 hO7 hP⟩
       clear h7 hf7 hO7 hcut HX3 HQ HOT g1 g2 g3 g4
       go_wp2_with fail
       refine (uh HSN).mono ?_
       rintro r w9 ⟨rfl, hP⟩
       have HF9 := hide (uh HF w9 hP)
       clear hP
       go_wp2_with fail
       go_ret3
       obtain ⟨⟨e1, e2, e3⟩, hP⟩ := uh HF9
       rw [e1, e2, e3]
       exact ⟨rfl, hP⟩
end Go.Proofs.YtbkpdapagfjmmaaGreatDoor
