import Derived.Test.YtbkpdapagfjmmaaGreatDoorA24
import Derived.Test.YtbkpdapagfjmmaaGreatDoorA26
import Derived.Deep.AppendLies
set_option linter.unusedVariables false
set_option maxRecDepth 100000
set_option maxHeartbeats 16000000
namespace Go.Proofs.YtbkpdapagfjmmaaGreatDoor
open Go.RowKit
theorem CY (e : Lk.En) (o : Lk.Ow) : e.most o = gY e.all o := by
 unfold Lk.En.most gY
 cases h : o.left with
 | nil => simp
 | cons a t => simp
theorem OC (e : Lk.En) (o : Lk.Ow) : e.may o = (!o.done && yY e.all o) := by
 unfold Lk.En.may yY gY
 congr 1
 cases h : o.left with
 | nil => simp
 | cons a t =>
   simp only [List.isEmpty_cons, Bool.false_or, List.length_cons]
   rw [Bool.eq_iff_iff]
   simp only [Bool.and_eq_true, decide_eq_true_eq]
   omega
theorem PO (e : Lk.En) : BP e.all e.turn (gJ e) = e.next.map (mi e.own) := by
 unfold BP Lk.En.next
 have h1 := yg (jg e.all e.turn) e.own
 have h2 := yg (yY e.all) e.own
 have e1 : (fun o => !o.done && jg e.all e.turn o) = fun o => e.may o && decide (e.turn < o.id) := by
  funext o
  rw [OC, jg, Bool.and_assoc]
 have e2 : (fun o => !o.done && yY e.all o) = e.may := by
  funext o
  rw [OC]
 rw [e1] at h1
 rw [e2] at h2
 show (match (upL e.own).findIdx? (jg e.all e.turn) with | some i => some i | none => (upL e.own).findIdx? (yY e.all)) = _
 rw [h1, h2]
 cases (e.own.findIdx? fun o => e.may o && decide (e.turn < o.id)) <;> rfl
theorem pI {α : Type} (l : List α) (i : Nat) (x : α) : (l.set i x).eraseIdx i = l.eraseIdx i := by
 apply List.ext_getElem?
 intro j
 rw [List.getElem?_eraseIdx, List.getElem?_eraseIdx]
 split
 . rw [List.getElem?_set_ne (by omega)]
 . rw [List.getElem?_set_ne (by omega)]
theorem PQ {e : Lk.En} {i : Nat} {o : Lk.Ow} (ho : e.own[i]? = some o) (hd : o.done = false) : gJ (e.cu i o).2 = iR (rW e.all o (mi e.own i)) ((gJ e).set (mi e.own i) (Eo e.all o)) := by
 show upL (e.own.set i ⟨o.id, o.left.drop (e.most o), o.cr - e.most o, o.done || decide (e.most o = o.left.length)⟩) = _
 rw [CY]
 unfold rW
 by_cases h : gY e.all o = o.left.length
 . rw [if_pos h]
   have hx : (o.done || decide (gY e.all o = o.left.length)) = true := by simp [h]
   rw [hx, nD e.own i o _ ho hd rfl]
   simp only [iR]
   rw [pI]
   rfl
 . rw [if_neg h]
   have hx : (o.done || decide (gY e.all o = o.left.length)) = false := by simp [h, hd]
   rw [hx, tu e.own i o _ ho hd rfl]
   simp only [iR, Eo, hd]
   rfl
def Rq (w : World) (b g B : Nat) (d : PD) (e' : Lk.En) (xs : Lk.Bs) (w' : World) : Prop := ∃ d', Live w' b e' d' ∧ (∀ i, foot b d' i -> foot b d i) ∧ rU w' g B xs ∧ Only (fun i => foot b d i ∨ B <= i) w w'
theorem Nb (b g B : Nat) (e : Lk.En) (d : PD) (s : Lk.Bs) (r : List Lk.Bs) (xs : Lk.Bs) (w : World) (hL : Live w b e d) (hrow : e.row = s :: r) (hG : rU w g B xs) (hg : B <= g) (hB : ∀ i, foot b d i -> i < B) (hl : xs.length <= 2 ^ 44) (hW : Lk.Wf { e with row := r }) :
 Calls Tryz.prog 37 #[.pointer (some ⟨b, 18, none⟩), kP g] w fun q w' => q = .returned (.bool true) ∧ Rq w b g B d { e with row := r } (xs ++ s) w' := by
 have hrw := hL.rw
 have hre := hL.o9
 rw [hrow] at hre
 rcases hrw.row.empty with ⟨h, _⟩ | ⟨f, fs', r0, rs', hf, hr, _, _, _⟩
 . have h' : d.fs = [] := h
   rw [h'] at hre
   simp at hre
 have hf' : d.fs = f :: fs' := hf
 have hr' : d.rs = r0 :: rs' := hr
 rw [hf'] at hre
 simp only [List.map_cons, List.cons.injEq] at hre
 have hgf := hL.good f (by rw [hf']; simp)
 have hC := hrw.row
 rw [hf] at hC
 have hC' : Chain w (dW (r0 :: rs')) (fO (r0 :: rs')) (f :: fs') (r0 :: rs') := by
  have := hC
  rw [show (fH e d).rs = d.rs from rfl, hr'] at this
  exact this
 have Ub : ∀ x ∈ r0 :: rs', x < B := fun x hx => hB x (.inr (.inr (.inr (.inr (.inr (.inl (by rw [hr']; exact hx)))))))
 refine (qi b 18 g r0 B 101 (fH e d).cells f fs' rs' xs w hrw.blk (nbq rfl) (by rw [<- hr']; rfl) (by rw [<- hr']; rfl) hC' hG hg (hB b (.inl rfl)) Ub hl hgf.k7 hgf.Fv hgf.len).mono ?_
 rintro q w' ⟨rfl, hI, hCh, hG', hO⟩
 have hR' : Rw w' b { fH e d with rs := rs' } fs' := ⟨hI, hCh⟩
 have hsub : ∀ i, foot b { d with rs := rs', fs := fs' } i -> foot b d i := by
  intro i hi
  rcases hi with hi | hi | hi | hi | hi | hi | hi | hi
  . exact .inl hi
  . exact .inr (.inl hi)
  . exact .inr (.inr (.inl hi))
  . exact .inr (.inr (.inr (.inl hi)))
  . exact .inr (.inr (.inr (.inr (.inl hi))))
  . exact .inr (.inr (.inr (.inr (.inr (.inl (by rw [hr']; exact List.mem_cons_of_mem _ hi))))))
  . exact .inr (.inr (.inr (.inr (.inr (.inr (.inl hi))))))
  . exact .inr (.inr (.inr (.inr (.inr (.inr (.inr hi))))))
 have hs := hL.fQ
 have hno : ∀ i, foot b d i -> i ≠ b -> ¬ (i = b ∨ B <= i) := fun i hi hne hx => by
  rcases hx with hx | hx
  . exact hne hx
  . have := hB i hi; omega
 refine ⟨rfl, { d with rs := rs', fs := fs' }, ⟨hR', hre.2, fun f' Uc => hL.good f' (by rw [hf']; exact List.mem_cons_of_mem _ Uc), ?_, ?_, ?_, ?_, hL.psn, hL.ps4, ?_, hL.mn, ?_, hL.none, hL.inj, hW, fun i hi => hL.pos i (hsub i hi)⟩, hsub, by rw [hre.1]; exact hG', hO.mono (fun i hi => ?_)⟩
 . exact ag hL.out hO (fun i hi => hno i (.inr (.inl hi)) (fun e => (hs i (.inl e)).1 hi))
 . exact ag hL.inn hO (fun i hi => hno i (.inr (.inr (.inl hi))) (fun e => (hs i (.inl e)).2.1 hi))
 . exact ag hL.sl hO (fun i hi => hno i (.inr (.inr (.inr (.inl hi)))) (fun e => (hs i (.inl e)).2.2.1 hi))
 . exact hL.outs.only hO (fun p hp => hno p (.inr (.inr (.inr (.inr (.inl hp))))) (fun e => (hs p (.inl e)).2.2.2.1 hp))
 . exact hL.map.only hO (hno d.mb (.inr (.inr (.inr (.inr (.inr (.inr (.inl rfl))))))) (fun e => (hs _ (.inl e)).2.2.2.2.1 rfl))
 . exact fun i o ho => (hL.yZ i o ho).only hO (fun p hp => hno p (.inr (.inr (.inr (.inr (.inr (.inr (.inr ⟨_, hp⟩))))))) (fun e => (hs p (.inl e)).2.2.2.2.2 _ hp))
 . rcases hi with hi | hi
   . exact .inl (.inl hi)
   . exact .inr hi
theorem ET (b : Nat) (e : Lk.En) (d : PD) (w : World) (hL : Live w b e d) :
 Calls Tryz.prog 73 #[.pointer (some ⟨b, 3, none⟩)] w fun q w' => q = .returned (.tuple #[bu ((e.next.map (mi e.own)).bind fun i => d.ps[i]?), .bool e.next.isSome]) ∧ ∃ n, w' = w.drewN n := by
 have hb := hL.rw.lt
 have c10 : w.cell? ⟨b, 10, none⟩ = some d.sv := hL.rw.blk.cell 10
 have c9 : w.cell? ⟨b, 9, none⟩ = some (.int .i64 (e.all : Int)) := hL.rw.blk.cell 9
 have c8 : w.cell? ⟨b, 8, none⟩ = some (.int .i64 (e.turn : Int)) := hL.rw.blk.cell 8
 have hne := PO e
 have h4 := hL.ps4
 rcases hL.sl.2 with ⟨h0, hl0⟩ | ⟨g, cap, cur, h0, _⟩
 . have hps : d.ps = [] := List.eq_nil_of_length_eq_zero hl0
   have hup : gJ e = [] := List.eq_nil_of_length_eq_zero (by rw [hL.outs.len, hps]; rfl)
   rw [hup] at hne
   have hnx : e.next = none := by
    cases hx : e.next with
    | none => rfl
    | some i => rw [hx] at hne; simp [BP] at hne
   rw [hnx]
   rw [h0] at c10
   refine (mG b w hb c10).mono ?_
   rintro q w' ⟨rfl, rfl⟩
   exact ⟨rfl, 0, rfl⟩
 . have hsl := hL.sl
   rw [h0] at c10 hsl
   have := rO b 0 g d.ps.length cap e.all e.turn (gJ e) d.ps _ w hb c10 c9 c8 hL.outs hsl (hide rfl) (by omega) (hide hne)
   rw [Option.isSome_map] at this
   exact this
theorem yj (b g : Nat) (e : Lk.En) (d : PD) (w : World) (hL : Live w b e d) (hn : e.next = none) :
 Calls Tryz.prog 38 #[.pointer (some ⟨b, 3, none⟩), kP g] w fun q w' => q = .returned (.bool false) ∧ ∃ n, w' = w.drewN n := by
 have := ET b e d w hL
 rw [hn] at this
 exact qj b g w this
theorem Nc (b g B i : Nat) (e : Lk.En) (d : PD) (o : Lk.Ow) (xs : Lk.Bs) (w : World) (hL : Live w b e d) (hn : e.next = some i) (ho : e.own[i]? = some o) (hG : rU w g B xs) (hg : B <= g) (hB : ∀ i, foot b d i -> i < B) (hl : xs.length <= 2 ^ 44) (hW : Lk.Wf (e.cu i o).2) :
 Calls Tryz.prog 38 #[.pointer (some ⟨b, 3, none⟩), kP g] w fun q w' => q = .returned (.bool true) ∧ Rq w b g B d (e.cu i o).2 (xs ++ (e.cu i o).1) w' := by
 obtain ⟨o', ho', hmay⟩ := Lk.lU hn
 rw [ho] at ho'
 cases ho'
 have hd : o.done = false := by
  unfold Lk.En.may at hmay
  cases hx : o.done with
  | false => rfl
  | true => rw [hx] at hmay; simp at hmay
 have hOk := hL.wf.own i o ho
 have hpos := EL e.own i o ho hd
 have hpl : mi e.own i < d.ps.length := by
  rw [<- hL.outs.len]
  exact (List.getElem?_eq_some_iff.1 hpos).1
 obtain ⟨p, hp⟩ : ∃ p, d.ps[mi e.own i]? = some p := ⟨_, List.getElem?_eq_getElem hpl⟩
 have hN := ET b e d w hL
 rw [hn] at hN
 simp only [Option.map_some, Option.bind_some, hp, bu, ptr, Option.isSome] at hN
 have h4 := hL.ps4
 refine (zI b B 0 g (mi e.own i) p e.all e.turn 101 (fH e d).cells d.sv o (gJ e) d.ps xs w hL.rw.blk (nbq rfl) (nbq rfl) rfl rfl rfl hL.outs hL.psn (EM hL.wf) hL.sl (by omega) hpos hp hN hG hg (hB b (.inl rfl)) (fun x hx => hB x (.inr (.inr (.inr (.inr (.inl hx)))))) (fun x hx => hB x (.inr (.inr (.inr (.inl hx))))) hl hOk.oL (by have := hL.wf.all; omega) (by have := hOk.cr; omega) (by have := hOk.left; omega)).mono ?_
 rintro q w' ⟨rfl, v', hI, hsl, hv, hO, hG', hOn⟩
 have hub := PQ ho hd
 have hs := hL.fQ
 have hsub : ∀ x, foot b { d with ps := iR (rW e.all o (mi e.own i)) d.ps, sv := v' } x -> foot b d x := by
  intro x hx
  rcases hx with hx | hx | hx | hx | hx | hx | hx | hx
  . exact .inl hx
  . exact .inr (.inl hx)
  . exact .inr (.inr (.inl hx))
  . exact .inr (.inr (.inr (.inl (hv ▸ hx))))
  . exact .inr (.inr (.inr (.inr (.inl (EN hx)))))
  . exact .inr (.inr (.inr (.inr (.inr (.inl hx)))))
  . exact .inr (.inr (.inr (.inr (.inr (.inr (.inl hx))))))
  . exact .inr (.inr (.inr (.inr (.inr (.inr (.inr hx))))))
 have hI2 : ∀ x, (d.sv.ownBlock = some x ∨ x ∈ d.ps) -> (∃ c, Is w x 169 c) ∨ (∃ c, Is w x 173 c) := by
  intro x hx
  rcases hx with hx | hx
  . left
    rcases hL.sl.2 with ⟨h0, _⟩ | ⟨g, cap, cur, h0, _, hg, _⟩
    . rw [h0] at hx; simp [Value.ownBlock] at hx
    . rw [h0] at hx
      simp [Value.ownBlock] at hx
      subst hx
      exact ⟨cur.toList, by unfold Is; simpa using hg⟩
  . obtain ⟨o, hy⟩ := hL.outs.mem hx; exact .inr ⟨_, hy⟩
 have hno : ∀ x, foot b d x -> x ≠ b -> (d.sv.ownBlock = some x ∨ x ∈ d.ps -> False) -> ¬ (x = b ∨ some x = d.sv.ownBlock ∨ x ∈ d.ps ∨ B <= x) := fun x hx hne hsp hy => by
  rcases hy with hy | hy | hy | hy
  . exact hne hy
  . exact hsp (.inl hy.symm)
  . exact hsp (.inr hy)
  . have := hB x hx; omega
 have PS : ∀ x ∈ d.rs, (d.sv.ownBlock = some x ∨ x ∈ d.ps -> False) := fun x hx hy => by
  rcases hy with hy | hy
  . exact (hs x (.inr hx)).2.2.1 hy
  . exact (hs x (.inr hx)).2.2.2.1 hy
 have hec : ({ fH e d with sent := (o.id : Int), ocr := ((e.all - gY e.all o : Nat) : Int), sv := v' } : EC) = fH (e.cu i o).2 { d with ps := iR (rW e.all o (mi e.own i)) d.ps, sv := v' } := by
  simp [fH, Lk.En.cu, CY, Lk.En.nextId, ah]
 have hR' : Rw w' b (fH (e.cu i o).2 { d with ps := iR (rW e.all o (mi e.own i)) d.ps, sv := v' }) d.fs := by
  rw [<- hec]
  exact ⟨hI, hL.rw.row.only hOn (fun r hr => hno r (.inr (.inr (.inr (.inr (.inr (.inl hr)))))) (fun e => hL.rw.I4 (e ▸ hr)) (PS r hr))⟩
 have hpk : (e.cu i o).1 = (LG e.all o).pack := by
  simp only [Lk.En.cu, LG, Lk.Fr.pack, CY]
 refine ⟨rfl, { d with ps := iR (rW e.all o (mi e.own i)) d.ps, sv := v' }, ⟨hR', hL.o9, hL.good, ?_, ?_, hsl, by rw [hub]; exact hO, wJ hL.psn, Nat.le_trans len_drop hL.ps4, ?_, hL.mn, ?_, hL.none, hL.inj, hW, fun x hx => hL.pos x (hsub x hx)⟩, hsub, by rw [hpk]; exact hG', hOn.mono (fun x hx => ?_)⟩
 . refine ag hL.out hOn (fun x hx => hno x (.inr (.inl hx)) (fun e => (hs x (.inl e)).1 hx) (fun hy => ?_))
   rcases hI2 x hy with ⟨c, hI⟩ | ⟨c, hI⟩ <;> exact own_ne hL.out hI (nbq rfl) hx.symm
 . refine ag hL.inn hOn (fun x hx => hno x (.inr (.inr (.inl hx))) (fun e => (hs x (.inl e)).2.1 hx) (fun hy => ?_))
   rcases hI2 x hy with ⟨c, hI⟩ | ⟨c, hI⟩ <;> exact own_ne hL.inn hI (nbq rfl) hx.symm
 . refine hL.map.only hOn (hno d.mb (.inr (.inr (.inr (.inr (.inr (.inr (.inl rfl))))))) (fun e => (hs _ (.inl e)).2.2.2.2.1 rfl) (fun hy => ?_))
   rcases hI2 _ hy with ⟨c, hI⟩ | ⟨c, hI⟩ <;> exact hL.map.ne hI rfl
 . refine fun j x hx => (hL.yZ j x hx).only hOn (fun q hq => hno q (.inr (.inr (.inr (.inr (.inr (.inr (.inr ⟨_, hq⟩))))))) (fun e => (hs q (.inl e)).2.2.2.2.2 _ hq) (fun hy => ?_))
   obtain ⟨_, _, _, _, _, _, hz, _⟩ := hL.KX hq
   rcases hI2 q hy with ⟨c, hI⟩ | ⟨c, hI⟩ <;> exact hI.ne hz (nbq rfl) rfl
 . rcases hx with hx | hx | hx | hx
   . exact .inl (.inl hx)
   . exact .inl (.inr (.inr (.inr (.inl hx.symm))))
   . exact .inl (.inr (.inr (.inr (.inr (.inl hx)))))
   . exact .inr hx
def Ae (e : Lk.En) (d : PD) : EC := ⟨⟨#[]⟩, (e.down : Int), .nilFunc, 0, gQ, 0, 0, 0, 0, gQ, .nilFunc, 0, gQ, 0, 0, 0, .map none, d.rs, false, false⟩
structure wL (w : World) (b : Nat) (e : Lk.En) (d : PD) : Prop where
 rw : Rw w b (Ae e d) d.fs
 o9 : e.row = d.fs.map Lk.Fr.pack
 good : ∀ f ∈ d.fs, Lk.Good f.k f.st f.d
 dn : e.down ≠ 0
 none : d.ov = gQ ∧ d.iv = gQ ∧ d.sv = gQ ∧ d.ps = [] ∧ d.mb = b ∧ ∀ k, d.ins k = Option.none
 wf : Lk.Wf e
 pos : ∀ i, foot b d i -> 0 < i
theorem wL.foot {w : World} {b : Nat} {e : Lk.En} {d : PD} (h : wL w b e d) {i : Nat} (hi : foot b d i) : i = b ∨ i ∈ d.rs := by
 obtain ⟨h1, h2, h3, h4, h5, h6⟩ := h.none
 rcases hi with hi | hi | hi | hi | hi | hi | hi | ⟨k, hi⟩
 . exact .inl hi
 . rw [h1] at hi; cases hi
 . rw [h2] at hi; cases hi
 . rw [h3] at hi; cases hi
 . rw [h4] at hi; cases hi
 . exact .inr hi
 . exact .inl (hi.trans h5)
 . rw [h6] at hi; cases hi
def kM (w : World) (b : Nat) (e : Lk.En) (d : PD) : Prop := (Live w b e d ∧ e.down = 0) ∨ wL w b e d
theorem kM.wf {w : World} {b : Nat} {e : Lk.En} {d : PD} (h : kM w b e d) : Lk.Wf e := by
 rcases h with ⟨h, _⟩ | h
 . exact h.wf
 . exact h.wf
theorem kM.pos {w : World} {b : Nat} {e : Lk.En} {d : PD} (h : kM w b e d) : ∀ i, foot b d i -> 0 < i := by
 rcases h with ⟨h, _⟩ | h
 . exact h.pos
 . exact h.pos
theorem kM.lt {w : World} {b : Nat} {e : Lk.En} {d : PD} (h : kM w b e d) : ∀ i, foot b d i -> i < w.heap.size := by
 rcases h with ⟨h, _⟩ | h
 . exact h.lt
 . intro i hi
   rcases h.foot hi with rfl | hi
   . exact h.rw.lt
   . exact h.rw.row.lt i hi
theorem kM.only {S : Nat -> Prop} {w w' : World} {b : Nat} {e : Lk.En} {d : PD} (h : kM w b e d) (k : Only S w w') (hn : ∀ i, foot b d i -> ¬ S i) : kM w' b e d := by
 rcases h with ⟨h, hdn⟩ | h
 . exact .inl ⟨h.only k hn, hdn⟩
 . exact .inr ⟨h.rw.only k (hn b (.inl rfl)) (fun r hr => hn r (.inr (.inr (.inr (.inr (.inr (.inl hr))))))), h.o9, h.good, h.dn, h.none, h.wf, h.pos⟩
def iO (w : World) (b : Nat) (d : PD) (e' : Lk.En) (w' : World) : Prop := ∃ d', kM w' b e' d' ∧ (∀ i, foot b d' i -> foot b d i ∨ w.heap.size <= i) ∧ Only (foot b d) w w'
theorem bf.toP {w w' : World} {b : Nat} {d : PD} {e' : Lk.En} (h : bf w b d e' w') (hdn : e'.down = 0) : iO w b d e' w' := by
 obtain ⟨d', h1, h2, h3⟩ := h
 exact ⟨d', .inl ⟨h1, hdn⟩, h2, h3⟩
theorem iO.same {w : World} {b : Nat} {e : Lk.En} {d : PD} (h : kM w b e d) : iO w b d e w := ⟨d, h, fun _ hi => .inl hi, Only.refl _ _⟩
def PT (w : World) (b g B : Nat) (d : PD) (e' : Lk.En) (xs : Lk.Bs) (w' : World) : Prop := ∃ d', kM w' b e' d' ∧ (∀ i, foot b d' i -> foot b d i) ∧ rU w' g B xs ∧ Only (fun i => foot b d i ∨ B <= i) w w'
theorem Gx (b g B : Nat) (e : Lk.En) (d : PD) (s : Lk.Bs) (r : List Lk.Bs) (xs : Lk.Bs) (w : World) (hL : wL w b e d) (hrow : e.row = s :: r) (hG : rU w g B xs) (hg : B <= g) (hB : ∀ i, foot b d i -> i < B) (hl : xs.length <= 2 ^ 44) (hW : Lk.Wf { e with row := r }) :
 Calls Tryz.prog 37 #[.pointer (some ⟨b, 18, none⟩), kP g] w fun q w' => q = .returned (.bool true) ∧ PT w b g B d { e with row := r } (xs ++ s) w' := by
 have hrw := hL.rw
 have hre := hL.o9
 rw [hrow] at hre
 rcases hrw.row.empty with ⟨h, _⟩ | ⟨f, fs', r0, rs', hf, hr, _, _, _⟩
 . have h' : d.fs = [] := h
   rw [h'] at hre
   simp at hre
 have hf' : d.fs = f :: fs' := hf
 have hr' : d.rs = r0 :: rs' := hr
 rw [hf'] at hre
 simp only [List.map_cons, List.cons.injEq] at hre
 have hgf := hL.good f (by rw [hf']; simp)
 have hC := hrw.row
 rw [hf] at hC
 have hC' : Chain w (dW (r0 :: rs')) (fO (r0 :: rs')) (f :: fs') (r0 :: rs') := by
  have := hC
  rw [show (Ae e d).rs = d.rs from rfl, hr'] at this
  exact this
 have Ub : ∀ x ∈ r0 :: rs', x < B := fun x hx => hB x (.inr (.inr (.inr (.inr (.inr (.inl (by rw [hr']; exact hx)))))))
 refine (qi b 18 g r0 B 101 (Ae e d).cells f fs' rs' xs w hrw.blk (nbq rfl) (by rw [<- hr']; rfl) (by rw [<- hr']; rfl) hC' hG hg (hB b (.inl rfl)) Ub hl hgf.k7 hgf.Fv hgf.len).mono ?_
 rintro q w' ⟨rfl, hI, hCh, hG', hO⟩
 have hR' : Rw w' b { Ae e d with rs := rs' } fs' := ⟨hI, hCh⟩
 have hsub : ∀ i, foot b { d with rs := rs', fs := fs' } i -> foot b d i := by
  intro i hi
  rcases hi with hi | hi | hi | hi | hi | hi | hi | hi
  . exact .inl hi
  . exact .inr (.inl hi)
  . exact .inr (.inr (.inl hi))
  . exact .inr (.inr (.inr (.inl hi)))
  . exact .inr (.inr (.inr (.inr (.inl hi))))
  . exact .inr (.inr (.inr (.inr (.inr (.inl (by rw [hr']; exact List.mem_cons_of_mem _ hi))))))
  . exact .inr (.inr (.inr (.inr (.inr (.inr (.inl hi))))))
  . exact .inr (.inr (.inr (.inr (.inr (.inr (.inr hi))))))
 refine ⟨rfl, { d with rs := rs', fs := fs' }, .inr ⟨hR', hre.2, fun f' Uc => hL.good f' (by rw [hf']; exact List.mem_cons_of_mem _ Uc), hL.dn, hL.none, hW, fun i hi => hL.pos i (hsub i hi)⟩, hsub, by rw [hre.1]; exact hG', hO.mono (fun i hi => ?_)⟩
 rcases hi with hi | hi
 . exact .inl (.inl hi)
 . exact .inr hi
theorem OD {w : World} {b g : Nat} {c : EC} {fs : List Lk.Fr} (hR : Rw w b c fs) {row : List Lk.Bs} (he : row = fs.map Lk.Fr.pack) (h0 : row = []) : Calls Tryz.prog 37 #[.pointer (some ⟨b, 18, none⟩), kP g] w fun q w' => q = .returned (.bool false) ∧ w' = w := by
 rw [h0] at he
 have hfs : fs = [] := by
  cases fs with
  | nil => rfl
  | cons a t => simp at he
 rcases hR.row.empty with ⟨_, hr, _⟩ | ⟨f, fs', r0, rs', hf, _⟩
 . exact zH b 18 g 101 c.cells w hR.blk (by rw [show c.cells[18]? = some (dW c.rs) from rfl, hr]; rfl)
 . rw [hfs] at hf; cases hf
theorem Gy (b g B : Nat) (e : Lk.En) (d : PD) (xs : Lk.Bs) (w : World) (hL : kM w b e d) (hG : rU w g B xs) (hg : B <= g) (hB : ∀ i, foot b d i -> i < B) (hl : xs.length <= 2 ^ 44) :
 Calls Tryz.prog 37 #[.pointer (some ⟨b, 18, none⟩), kP g] w fun q w' => match e.row with
  | s :: r => q = .returned (.bool true) ∧ PT w b g B d { e with row := r } (xs ++ s) w'
  | [] => q = .returned (.bool false) ∧ w' = w := by
 cases hrow : e.row with
 | nil =>
   rcases hL with ⟨hL, hdn⟩ | hL
   . exact OD hL.rw hL.o9 hrow
   . exact OD hL.rw hL.o9 hrow
 | cons s r =>
   have hW : Lk.Wf { e with row := r } := (hL.wf.bG (by unfold Lk.En.bG; rw [hrow])).1
   rcases hL with ⟨hL, hdn⟩ | hL
   . refine (Nb b g B e d s r xs w hL hrow hG hg hB hl hW).mono ?_
     rintro q w' ⟨rfl, d', h1, h2, h3, h4⟩
     exact ⟨rfl, d', .inl ⟨h1, hdn⟩, h2, h3, h4⟩
   . exact Gx b g B e d s r xs w hL hrow hG hg hB hl hW
theorem Gz (b g B : Nat) (e : Lk.En) (d : PD) (xs : Lk.Bs) (w : World) (hL : kM w b e d) (hrow : e.row = []) (hG : rU w g B xs) (hg : B <= g) (hB : ∀ i, foot b d i -> i < B) (hl : xs.length <= 2 ^ 44) :
 Calls Tryz.prog 38 #[.pointer (some ⟨b, 3, none⟩), kP g] w fun q w' => match e.bG with
  | some (s, e') => q = .returned (.bool true) ∧ PT w b g B d e' (xs ++ s) w'
  | none => q = .returned (.bool false) ∧ ∃ n, w' = w.drewN n := by
 unfold Lk.En.bG
 rw [hrow]
 simp only
 rcases hL with ⟨hL, hdn⟩ | hL
 . rw [if_neg (by rw [hdn]; simp)]
   cases hn : e.next with
   | none => exact yj b g e d w hL hn
   | some i =>
     obtain ⟨o, ho, _⟩ := Lk.lU hn
     simp only [ho]
     have hW : Lk.Wf (e.cu i o).2 := (hL.wf.bG (s := (e.cu i o).1) (by unfold Lk.En.bG; rw [hrow]; simp only; rw [if_neg (by rw [hdn]; simp), hn]; simp only [ho])).1
     refine (Nc b g B i e d o xs w hL hn ho hG hg hB hl hW).mono ?_
     rintro q w' ⟨rfl, d', h1, h2, h3, h4⟩
     exact ⟨rfl, d', .inl ⟨h1, hdn⟩, h2, h3, h4⟩
 . rw [if_pos hL.dn]
   have c10 : w.cell? ⟨b, 10, none⟩ = some (.slice none 0 0) := hL.rw.blk.cell 10
   exact qj b g w ((mG b w hL.rw.lt c10).mono fun q w' h => ⟨h.1, 0, h.2⟩)
theorem CZ {w : World} {B : Nat} {v : Value} {l : Lk.Bs} (h : w.ownsRow B 5 1 v l.length (bytesV l)) : (convert 78 9 v).run Tryz.prog w = .ok (.string (bs l)) w := by
 rcases Nat.eq_zero_or_pos l.length with h0 | h0
 . have hl : l = [] := List.eq_nil_of_length_eq_zero h0
   subst hl
   rcases h.2 with ⟨rfl, _⟩ | ⟨g, cap, cur, rfl, _, hg, _, _, _, _⟩
   . exact EY w
   . have hI : Is w g 5 cur.toList := by unfold Is; simpa using hg
     have := Is.string (xs := []) hI (by simp) cap
     simpa [bs, strOfNums] using this
 . exact jE h h0
theorem wP {N c : Nat} {e e1 e2 : Lk.En} {xs s : Lk.Bs} (h : Lk.En.drain N e = (xs ++ (Lk.En.drain (N - c) e1).1, (Lk.En.drain (N - c) e1).2)) (hc : c < N) (hd : e1.bG = some (s, e2)) : Lk.En.drain N e = ((xs ++ s) ++ (Lk.En.drain (N - (c + 1)) e2).1, (Lk.En.drain (N - (c + 1)) e2).2) := by
 have e0 : N - c = (N - (c + 1)) + 1 := by omega
 rw [h, e0]
 simp only [Lk.En.drain, hd]
 rw [List.append_assoc]
theorem GI {N c : Nat} {e e1 : Lk.En} {xs : Lk.Bs} (h : Lk.En.drain N e = (xs ++ (Lk.En.drain (N - c) e1).1, (Lk.En.drain (N - c) e1).2)) (hd : e1.bG = none ∨ ¬ c < N) : Lk.En.drain N e = (xs, e1) := by
 rw [h]
 rcases hd with hd | hd
 . cases hx : N - c with
   | zero => simp [Lk.En.drain]
   | succ m => simp [Lk.En.drain, hd]
 . have : N - c = 0 := by omega
   rw [this]
   simp [Lk.En.drain]
theorem JK (b : Nat) (e : Lk.En) (d : PD) (most : Int) (w : World) (hL : kM w b e d) (U7 : most <= 9223372036854775807) (TV : (Lk.En.drain most.toNat e).1.length <= 2 ^ 44) :
 Calls Tryz.prog 14 #[.pointer (some ⟨b, 0, none⟩), .int .i64 most] w fun r w' => r = .returned (.string (bs (Lk.En.drain most.toNat e).1)) ∧ iO w b d (Lk.En.drain most.toNat e).2 w' := by
 have hlt := hL.lt
 have hI0 := Is.new w 78 [.slice none 0 0]
 have hO0 : Only (fun i => foot b d i ∨ w.heap.size <= i) w (w.alloc (.cells #[.slice none 0 0] 78)) := (Only.refl _ w).alloc _
 have hL0 := hL.only ((Only.refl (fun _ => False) w).alloc (.cells #[.slice none 0 0] 78)) (fun _ _ h => h)
 have hG0 : rU (w.alloc (.cells #[.slice none 0 0] 78)) w.heap.size w.heap.size [] := ⟨_, hI0, World.ownsRow_nil _ _ _ _⟩
 have hbl : b < w.heap.size := hlt b (.inl rfl)
 generalize hNN : most.toNat = N at *
 have hmN : ∀ c : Nat, (c : Int) < most ↔ c < N := fun c => by omega
 generalize Vd : (Lk.En.drain N e) = Res
 have Oo := hide Vd
 have HF0 := hide (⟨hL0, hG0, hO0, hlt⟩ : _ ∧ _ ∧ _ ∧ _)
 have HMN := hide hmN
 have WG := hide TV
 clear hL hI0 hO0 hL0 hG0 hlt hNN Vd hmN TV
 go_enter Tryz.func14, Tryz.ntmps14
 go_wp2_with fail
 go_loopw [9] (fun u wr => ∃ (c : Nat) (e1 : Lk.En) (d1 : PD) (xs : Lk.Bs), u = .int .i64 c ∧ c <= N ∧ Hid (kM wr b e1 d1 ∧ (∀ i, foot b d1 i -> foot b d i) ∧ rU wr w.heap.size w.heap.size xs ∧ Only (fun i => foot b d i ∨ w.heap.size <= i) w wr ∧ Lk.En.drain N e = (xs ++ (Lk.En.drain (N - c) e1).1, (Lk.En.drain (N - c) e1).2))) (fun u _ => N - (intOf u).toNat)
 case atStart =>
  obtain ⟨h1, h2, h3, h4⟩ := uh HF0
  exact ⟨0, e, d, [], rfl, Nat.zero_le _, h1, fun _ h => h, h2, h3, by simp⟩
 case round =>
  obtain ⟨c, e1, d1, xs, rfl, hcN, HR⟩ := hrel
  have hfin : ∀ (W : World), kM W b e1 d1 -> rU W w.heap.size w.heap.size xs -> Only (fun i => foot b d i ∨ w.heap.size <= i) w W -> (e1.bG = none ∨ ¬ c < N) -> ∃ v, W.cell? ⟨w.heap.size, 0, none⟩ = some v ∧ (∃ a n cap, v = .slice a n cap) ∧ w.heap.size < W.heap.size ∧ (convert 78 9 v).run Tryz.prog W = .ok (.string (bs Res.1)) W ∧ iO w b d Res.2 W := by
   intro W h1 h3 h4 hs
   obtain ⟨_, h2, _, _, h5⟩ := uh HR
   have hst := GI h5 hs
   have hrr := uh Oo
   rw [hst] at hrr
   obtain ⟨v, hI, ho⟩ := h3
   obtain ⟨a, n, cap, hv, _⟩ := bV ho
   refine ⟨v, hI.cell 0, ⟨a, n, cap, hv⟩, hI.lt, ?_, d1, ?_, fun i hi => .inl (h2 i hi), ?_⟩
   . rw [<- hrr]
     exact CZ ho
   . rw [<- hrr]
     exact h1
   . refine ⟨h4.os, h4.tape, h4.output, h4.size, fun i hi hn => h4.block i hi (fun hx => ?_)⟩
     rcases hx with hx | hx
     . exact hn hx
     . omega
  have jD := hide hfin
  clear hfin
  by_cases hlt : c < N
  . have hlt' : (c : Int) < most := (uh HMN c).2 hlt
    have X0 : (c : Int) + 1 <= 9223372036854775807 := by omega
    obtain ⟨h1, h2, h3, h4, h5⟩ := uh HR
    have hxl : xs.length <= 2 ^ 44 := by
     have := uh WG
     rw [h5] at this
     simp at this
     omega
    have hB : ∀ i, foot b d1 i -> i < w.heap.size := fun i hi => (uh HF0).2.2.2 i (h2 i hi)
    have HT := hide (Gy b w.heap.size w.heap.size e1 d1 xs wr h1 h3 (Nat.le_refl _) hB hxl)
    have X3 : b < wr.heap.size := by have := h4.size; omega
    unfold kP at HT
    cases hrow : e1.row with
    | cons s r =>
      rw [hrow] at HT
      simp only at HT
      have hd1 : e1.bG = some (s, { e1 with row := r }) := by unfold Lk.En.bG; rw [hrow]
      have hst := wP h5 hlt hd1
      have HST := hide (⟨h2, h4, hst⟩ : _ ∧ _ ∧ _)
      clear h1 h2 h3 h4 h5 hd1 hst hxl hB
      go_wp2_with fail
      refine (uh HT).mono ?_
      rintro q w1 ⟨rfl, d2, g1, g2, g3, g4⟩
      obtain ⟨h2, h4, hst⟩ := uh HST
      have FO : Hid (kM w1 b { e1 with row := r } d2 ∧ (∀ i, foot b d2 i -> foot b d i) ∧ rU w1 w.heap.size w.heap.size (xs ++ s) ∧ Only (fun i => foot b d i ∨ w.heap.size <= i) w w1 ∧ Lk.En.drain N e = ((xs ++ s) ++ (Lk.En.drain (N - (c + 1)) { e1 with row := r }).1, (Lk.En.drain (N - (c + 1)) { e1 with row := r }).2)) :=
       ⟨g1, fun i hi => h2 i (g2 i hi), g3, h4.trans g4 (fun i hi _ => hi.imp (h2 i) id), hst⟩
      clear g1 g2 g3 g4 h2 h4 hst
      go_wp2_with fail
      go_roundw
      case rel => exact ⟨c + 1, _, d2, xs ++ s, by simp, by omega, FO⟩
      case measure => simp [intOf]; omega
    | nil =>
      rw [hrow] at HT
      simp only at HT
      have HS := hide (Gz b w.heap.size w.heap.size e1 d1 xs wr h1 hrow h3 (Nat.le_refl _) hB hxl)
      unfold kP at HS
      cases hd1 : e1.bG with
      | some p =>
        obtain ⟨s, e2⟩ := p
        rw [hd1] at HS
        simp only at HS
        have hst := wP h5 hlt hd1
        have HST := hide (⟨h2, h4, hst⟩ : _ ∧ _ ∧ _)
        clear h1 h2 h3 h4 h5 hd1 hst hxl hB
        go_wp2_with fail
        refine (uh HT).mono ?_
        rintro q w1 ⟨rfl, rfl⟩
        go_wp2_with fail
        refine (uh HS).mono ?_
        rintro q w2 ⟨rfl, d2, g1, g2, g3, g4⟩
        obtain ⟨h2, h4, hst⟩ := uh HST
        have FO : Hid (kM w2 b e2 d2 ∧ (∀ i, foot b d2 i -> foot b d i) ∧ rU w2 w.heap.size w.heap.size (xs ++ s) ∧ Only (fun i => foot b d i ∨ w.heap.size <= i) w w2 ∧ Lk.En.drain N e = ((xs ++ s) ++ (Lk.En.drain (N - (c + 1)) e2).1, (Lk.En.drain (N - (c + 1)) e2).2)) :=
         ⟨g1, fun i hi => h2 i (g2 i hi), g3, h4.trans g4 (fun i hi _ => hi.imp (h2 i) id), hst⟩
        clear g1 g2 g3 g4 h2 h4 hst
        go_wp2_with fail
        go_roundw
        case rel => exact ⟨c + 1, e2, d2, xs ++ s, by simp, by omega, FO⟩
        case measure => simp [intOf]; omega
      | none =>
        rw [hd1] at HS
        simp only at HS
        have HX := hide (fun n => uh jD (wr.drewN n) (h1.only ((Only.refl (fun _ => False) wr).drewN n) (fun _ _ h => h)) (let ⟨v, a, b⟩ := h3; ⟨v, a.drewN n, b⟩) (h4.drewN n) (.inl hd1))
        clear h1 h2 h3 h4 h5 hd1 hxl hB
        go_wp2_with fail
        refine (uh HT).mono ?_
        rintro q w1 ⟨rfl, rfl⟩
        go_wp2_with fail
        refine (uh HS).mono ?_
        rintro q w2 ⟨rfl, n, rfl⟩
        obtain ⟨v, k1, ⟨va, vn, vc, rfl⟩, k2, k3, k4⟩ := uh HX n
        have HK := hide k4
        clear k4
        go_wp2_with fail
        go_ret
        exact ⟨rfl, uh HK⟩
  . have hlt' : ¬ (c : Int) < most := fun h => hlt ((uh HMN c).1 h)
    obtain ⟨h1, h2, h3, h4, h5⟩ := uh HR
    obtain ⟨v, k1, ⟨va, vn, vc, rfl⟩, k2, k3, k4⟩ := uh jD wr h1 h3 h4 (.inr hlt)
    have HK := hide k4
    clear k4 h1 h2 h3 h4 h5
    go_wp2_with fail
    go_ret
    exact ⟨rfl, uh HK⟩
theorem mF.snoc {w : World} {os : List Lk.Ow} {ps : List Nat} (h : mF w os ps) {o : Lk.Ow} {p : Nat} (hI : Is w p 173 (owV o)) : mF w (os ++ [o]) (ps ++ [p]) := by
 have hl := h.len
 refine ⟨by simp [hl], fun i x q hx hq => ?_⟩
 by_cases hi : i < os.length
 . rw [List.getElem?_append_left hi] at hx
   rw [List.getElem?_append_left (by omega)] at hq
   exact h.is i x q hx hq
 . have hi2 : i = os.length := by
    have := (List.getElem?_eq_some_iff.1 hx).1
    simp at this
    omega
   subst hi2
   rw [List.getElem?_append_right (by omega)] at hx
   rw [List.getElem?_append_right (by omega), <- hl] at hq
   simp at hx hq
   subst hx hq
   exact hI
theorem JL {e : Lk.En} (h : Lk.Wf e) : e.nextId <= 268435457 := by
 unfold Lk.En.nextId
 have hs := h.side
 rcases Nat.eq_zero_or_pos e.own.length with h0 | h0
 . omega
 . have hl : e.own[e.own.length - 1]? = some (e.own[e.own.length - 1]'(by omega)) := List.getElem?_eq_getElem (by omega)
   have h1 := (h.own _ _ hl).id
   have h2 := (h.own _ _ hl).oL
   omega
theorem tY {w : World} {b : Nat} {e : Lk.En} {d : PD} (hL : Live w b e d) : Tab (w.alloc (.cells #[aU, .int .i64 ((100 : Int) - Lk.weights e.out), d.ov] 90)) w.heap.size 100 e.out d.ov :=
 ⟨Is.new w 90 [aU, .int .i64 ((100 : Int) - Lk.weights e.out), d.ov], hL.out.alloc _, hL.wf.out, by omega⟩
theorem Dc (b B1 : Nat) (e : Lk.En) (d : PD) (l : List Lk.Hd) (lv : Value) (body : ByteArray) (w : World) (hL : Live w b e d) (hfx : Fx w) (hw : (Lk.wrong l).1 = 0) (own : w.ownsRow B1 112 2 lv l.length (aQ l)) (hlg : 64 < (Lk.squeeze 100 e.out l).1.length ∨ 300 < body.size) :
 Calls Tryz.prog 44 #[.pointer (some ⟨b, 3, none⟩), lv, .string body, oN b] w fun r w' => r = .returned (.tuple #[.int .i64 0, .int .i64 5]) ∧ Below w.heap.size w w' := by
 have c3 : w.cell? ⟨b, 3, none⟩ = some aU := hL.rw.blk.cell 3
 have c4 : w.cell? ⟨b, 4, none⟩ = some (.int .i64 ((100 : Int) - Lk.weights e.out)) := hL.rw.blk.cell 4
 have c5 : w.cell? ⟨b, 5, none⟩ = some d.ov := hL.rw.blk.cell 5
 have hbl := hL.rw.lt
 have h0 := hfx.1
 have hb0 := (Below.refl w.heap.size w).alloc (Nat.le_refl _) (.cells #[aU, .int .i64 ((100 : Int) - Lk.weights e.out), d.ov] 90)
 obtain ⟨oa, on, oc, hov, hon⟩ := bV hL.out
 clear hon
 have HC := hide (kG w.heap.size 100 B1 e.out l d.ov lv _ (tY hL) (hfx.below hb0 h0) (by omega) hw (own.alloc _))
 have HB0 := hide hb0
 rw [hov] at c5
 rw [hov] at HC HB0
 generalize hS : (Lk.squeeze 100 e.out l).1 = S at *
 have hss := ax S
 clear hL hfx hw own hb0 hS
 unfold oN
 by_cases h1 : 64 < S.length
 . have h1' : 64 < ((bs S).size : Int) := by omega
   go_enter Tryz.func44, Tryz.ntmps44
   go_wp2_with fail
   refine (uh HC).mono ?_
   rintro r w1 ⟨rfl, _, hT1⟩
   have hbel : Below w.heap.size w w1 := Turns.toBelow (uh HB0) hT1 (Nat.le_refl _) (by simp)
   go_wp2_with fail
   go_ret2
   exact ⟨rfl, hbel⟩
 . have h1' : ¬ 64 < ((bs S).size : Int) := by omega
   have h2' : 300 < (body.size : Int) := by omega
   clear hlg
   go_enter Tryz.func44, Tryz.ntmps44
   go_wp2_with fail
   refine (uh HC).mono ?_
   rintro r w1 ⟨rfl, _, hT1⟩
   have hbel : Below w.heap.size w w1 := Turns.toBelow (uh HB0) hT1 (Nat.le_refl _) (by simp)
   go_wp2_with fail
   go_ret2
   exact ⟨rfl, hbel⟩
theorem GK (b B1 : Nat) (e : Lk.En) (d : PD) (l : List Lk.Hd) (lv : Value) (body : ByteArray) (w : World) (hL : Live w b e d) (hfx : Fx w) (hw : (Lk.wrong l).1 = 0) (own : w.ownsRow B1 112 2 lv l.length (aQ l)) (hsm : ¬ (64 < (Lk.squeeze 100 e.out l).1.length ∨ 300 < body.size)) (hfu : d.ps.length = 4 ∨ 268435455 < e.nextId) :
 Calls Tryz.prog 44 #[.pointer (some ⟨b, 3, none⟩), lv, .string body, oN b] w fun r w' => r = .returned (.tuple #[.int .i64 0, .int .i64 11]) ∧ Below w.heap.size w w' := by
 have c3 : w.cell? ⟨b, 3, none⟩ = some aU := hL.rw.blk.cell 3
 have c4 : w.cell? ⟨b, 4, none⟩ = some (.int .i64 ((100 : Int) - Lk.weights e.out)) := hL.rw.blk.cell 4
 have c5 : w.cell? ⟨b, 5, none⟩ = some d.ov := hL.rw.blk.cell 5
 have hbl := hL.rw.lt
 have h0 := hfx.1
 have hb0 := (Below.refl w.heap.size w).alloc (Nat.le_refl _) (.cells #[aU, .int .i64 ((100 : Int) - Lk.weights e.out), d.ov] 90)
 obtain ⟨oa, on, oc, hov, hon⟩ := bV hL.out
 clear hon
 obtain ⟨sa, sn, sc, hsv, hsn⟩ := bV hL.sl
 have h4 := hL.ps4
 have HC := hide (kG w.heap.size 100 B1 e.out l d.ov lv _ (tY hL) (hfx.below hb0 h0) (by omega) hw (own.alloc _))
 have HB0 := hide hb0
 have Tn := hide hL.rw.blk
 rw [hov] at c5
 rw [hov] at HC HB0
 generalize hS : (Lk.squeeze 100 e.out l).1 = S at *
 have hss := ax S
 have h1' : ¬ 64 < ((bs S).size : Int) := by omega
 have h2' : ¬ 300 < (body.size : Int) := by omega
 have hni := JL hL.wf
 have hcase : (sn = 4) ∨ (¬ sn = 4 ∧ 268435455 < e.nextId) := by omega
 clear hL hfx hw own hb0 hS hsm hfu hsn
 unfold oN
 rcases hcase with h5 | ⟨h5, h6⟩
 . have h5' : ((sn : Int) == 4) = true := by rw [beq_iff_eq]; omega
   clear h5
   go_enter Tryz.func44, Tryz.ntmps44
   go_wp2_with fail
   refine (uh HC).mono ?_
   rintro r w1 ⟨rfl, _, hT1⟩
   have hbel : Below w.heap.size w w1 := Turns.toBelow (uh HB0) hT1 (Nat.le_refl _) (by simp)
   have hI1 := (uh Tn).below hbel hbl
   have c10 : w1.cell? ⟨b, 10, none⟩ = some d.sv := hI1.cell 10
   rw [hsv] at c10
   have BB := hI1.lt
   clear hI1 Tn
   go_wp2_with fail
   go_ret2
   exact ⟨rfl, hbel⟩
 . have h5' : ((sn : Int) == 4) = false := by rw [beq_eq_false_iff_ne]; omega
   have hnum : (decide (0 <= (e.nextId : Int)) && decide ((e.nextId : Int) <= 268435455)) = false := by
    rw [decide_eq_false (by omega : ¬ (e.nextId : Int) <= 268435455), Bool.and_false]
   clear h5 h6
   go_enter Tryz.func44, Tryz.ntmps44
   go_wp2_with fail
   refine (uh HC).mono ?_
   rintro r w1 ⟨rfl, _, hT1⟩
   have hbel : Below w.heap.size w w1 := Turns.toBelow (uh HB0) hT1 (Nat.le_refl _) (by simp)
   have hI1 := (uh Tn).below hbel hbl
   have c10 : w1.cell? ⟨b, 10, none⟩ = some d.sv := hI1.cell 10
   rw [hsv] at c10
   have c7 : w1.cell? ⟨b, 7, none⟩ = some (.int .i64 (e.nextId : Int)) := hI1.cell 7
   have BB := hI1.lt
   clear hI1 Tn
   go_wp2_with fail
   refine (dU _ _).mono ?_
   rw [hnum]
   rintro r w2 ⟨rfl, rfl⟩
   go_wp2_with fail
   go_ret2
   exact ⟨rfl, hbel⟩
end Go.Proofs.YtbkpdapagfjmmaaGreatDoor
