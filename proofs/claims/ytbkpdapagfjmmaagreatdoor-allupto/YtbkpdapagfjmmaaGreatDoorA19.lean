import Derived.Test.YtbkpdapagfjmmaaGreatDoorA18
import Derived.Laws.EntriesVeiled
set_option linter.unusedVariables false
set_option maxRecDepth 100000
set_option maxHeartbeats 16000000
namespace Go.Proofs.YtbkpdapagfjmmaaGreatDoor
open Go.RowKit
theorem CY (e : Lk.En) (o : Lk.Ow) : e.most o = gY e.all o := by
 unfold Lk.En.most gY
 cases h : o.left with
 | nil => simp
 | cons a t => simp
theorem OC (e : Lk.En) (o : Lk.Ow) : e.may o = (!o.done && yY e.all o) := by
 unfold Lk.En.may yY gY
 congr 1
 cases h : o.left with
 | nil => simp
 | cons a t =>
   simp only [List.isEmpty_cons, Bool.false_or, List.length_cons]
   rw [Bool.eq_iff_iff]
   simp only [Bool.and_eq_true, decide_eq_true_eq]
   omega
theorem PO (e : Lk.En) : BP e.all e.turn (gJ e) = e.next.map (mi e.own) := by
 unfold BP Lk.En.next
 have h1 := yg (jg e.all e.turn) e.own
 have h2 := yg (yY e.all) e.own
 have e1 : (fun o => !o.done && jg e.all e.turn o) = fun o => e.may o && decide (e.turn < o.id) := by
  funext o
  rw [OC, jg, Bool.and_assoc]
 have e2 : (fun o => !o.done && yY e.all o) = e.may := by
  funext o
  rw [OC]
 rw [e1] at h1
 rw [e2] at h2
 show (match (upL e.own).findIdx? (jg e.all e.turn) with | some i => some i | none => (upL e.own).findIdx? (yY e.all)) = _
 rw [h1, h2]
 cases (e.own.findIdx? fun o => e.may o && decide (e.turn < o.id)) <;> rfl
theorem pI {α : Type} (l : List α) (i : Nat) (x : α) : (l.set i x).eraseIdx i = l.eraseIdx i := by
 apply List.ext_getElem?
 intro j
 rw [List.getElem?_eraseIdx, List.getElem?_eraseIdx]
 split
 . rw [List.getElem?_set_ne (by omega)]
 . rw [List.getElem?_set_ne (by omega)]
theorem PQ {e : Lk.En} {i : Nat} {o : Lk.Ow} (ho : e.own[i]? = some o) (hd : o.done = false) : gJ (e.cu i o).2 = iR (rW e.all o (mi e.own i)) ((gJ e).set (mi e.own i) (Eo e.all o)) := by
 show upL (e.own.set i ⟨o.id, o.left.drop (e.most o), o.cr - e.most o, o.done || decide (e.most o = o.left.length)⟩) = _
 rw [CY]
 unfold rW
 by_cases h : gY e.all o = o.left.length
 . rw [if_pos h]
   have hx : (o.done || decide (gY e.all o = o.left.length)) = true := by simp [h]
   rw [hx, nD e.own i o _ ho hd rfl]
   simp only [iR]
   rw [pI]
   rfl
 . rw [if_neg h]
   have hx : (o.done || decide (gY e.all o = o.left.length)) = false := by simp [h, hd]
   rw [hx, tu e.own i o _ ho hd rfl]
   simp only [iR, Eo, hd]
   rfl
def Rq (w : World) (b g B : Nat) (d : PD) (e' : Lk.En) (xs : Lk.Bs) (w' : World) : Prop := ∃ d', Live w' b e' d' ∧ (∀ i, foot b d' i -> foot b d i) ∧ rU w' g B xs ∧ Only (fun i => foot b d i ∨ B <= i) w w'
theorem Nb (b g B : Nat) (e : Lk.En) (d : PD) (s : Lk.Bs) (r : List Lk.Bs) (xs : Lk.Bs) (w : World) (hL : Live w b e d) (hrow : e.row = s :: r) (hG : rU w g B xs) (hg : B <= g) (hB : ∀ i, foot b d i -> i < B) (hl : xs.length <= 2 ^ 44) (hW : Lk.Wf { e with row := r }) :
 Calls Tryz.prog 37 #[.pointer (some ⟨b, 18, none⟩), kP g] w fun q w' => q = .returned (.bool true) ∧ Rq w b g B d { e with row := r } (xs ++ s) w' := by
 have hrw := hL.rw
 have hre := hL.o9
 rw [hrow] at hre
 rcases hrw.row.empty with ⟨h, _⟩ | ⟨f, fs', r0, rs', hf, hr, _, _, _⟩
 . have h' : d.fs = [] := h
   rw [h'] at hre
   simp at hre
 have hf' : d.fs = f :: fs' := hf
 have hr' : d.rs = r0 :: rs' := hr
 rw [hf'] at hre
 simp only [List.map_cons, List.cons.injEq] at hre
 have hgf := hL.good f (by rw [hf']; simp)
 have hC := hrw.row
 rw [hf] at hC
 have hC' : Chain w (dW (r0 :: rs')) (fO (r0 :: rs')) (f :: fs') (r0 :: rs') := by
  have := hC
  rw [show (fH e d).rs = d.rs from rfl, hr'] at this
  exact this
 have Ub : ∀ x ∈ r0 :: rs', x < B := fun x hx => hB x (.inr (.inr (.inr (.inr (.inr (.inl (by rw [hr']; exact hx)))))))
 refine (qi b 18 g r0 B 101 (fH e d).cells f fs' rs' xs w hrw.blk (nbq rfl) (by rw [<- hr']; rfl) (by rw [<- hr']; rfl) hC' hG hg (hB b (.inl rfl)) Ub hl hgf.k7 hgf.Fv hgf.len).mono ?_
 rintro q w' ⟨rfl, hI, hCh, hG', hO⟩
 have hR' : Rw w' b { fH e d with rs := rs' } fs' := ⟨hI, hCh⟩
 have hsub : ∀ i, foot b { d with rs := rs', fs := fs' } i -> foot b d i := by
  intro i hi
  rcases hi with hi | hi | hi | hi | hi | hi | hi | hi
  . exact .inl hi
  . exact .inr (.inl hi)
  . exact .inr (.inr (.inl hi))
  . exact .inr (.inr (.inr (.inl hi)))
  . exact .inr (.inr (.inr (.inr (.inl hi))))
  . exact .inr (.inr (.inr (.inr (.inr (.inl (by rw [hr']; exact List.mem_cons_of_mem _ hi))))))
  . exact .inr (.inr (.inr (.inr (.inr (.inr (.inl hi))))))
  . exact .inr (.inr (.inr (.inr (.inr (.inr (.inr hi))))))
 have hs := hL.fQ
 have hno : ∀ i, foot b d i -> i ≠ b -> ¬ (i = b ∨ B <= i) := fun i hi hne hx => by
  rcases hx with hx | hx
  . exact hne hx
  . have := hB i hi; omega
 refine ⟨rfl, { d with rs := rs', fs := fs' }, ⟨hR', hre.2, fun f' Uc => hL.good f' (by rw [hf']; exact List.mem_cons_of_mem _ Uc), ?_, ?_, ?_, ?_, hL.psn, hL.ps4, ?_, hL.mn, ?_, hL.none, hL.inj, hW, fun i hi => hL.pos i (hsub i hi)⟩, hsub, by rw [hre.1]; exact hG', hO.mono (fun i hi => ?_)⟩
 . exact ag hL.out hO (fun i hi => hno i (.inr (.inl hi)) (fun e => (hs i (.inl e)).1 hi))
 . exact ag hL.inn hO (fun i hi => hno i (.inr (.inr (.inl hi))) (fun e => (hs i (.inl e)).2.1 hi))
 . exact ag hL.sl hO (fun i hi => hno i (.inr (.inr (.inr (.inl hi)))) (fun e => (hs i (.inl e)).2.2.1 hi))
 . exact hL.outs.only hO (fun p hp => hno p (.inr (.inr (.inr (.inr (.inl hp))))) (fun e => (hs p (.inl e)).2.2.2.1 hp))
 . exact hL.map.only hO (hno d.mb (.inr (.inr (.inr (.inr (.inr (.inr (.inl rfl))))))) (fun e => (hs _ (.inl e)).2.2.2.2.1 rfl))
 . exact fun i o ho => (hL.yZ i o ho).only hO (fun p hp => hno p (.inr (.inr (.inr (.inr (.inr (.inr (.inr ⟨_, hp⟩))))))) (fun e => (hs p (.inl e)).2.2.2.2.2 _ hp))
 . rcases hi with hi | hi
   . exact .inl (.inl hi)
   . exact .inr hi
theorem ET (b : Nat) (e : Lk.En) (d : PD) (w : World) (hL : Live w b e d) :
 Calls Tryz.prog 73 #[.pointer (some ⟨b, 3, none⟩)] w fun q w' => q = .returned (.tuple #[bu ((e.next.map (mi e.own)).bind fun i => d.ps[i]?), .bool e.next.isSome]) ∧ ∃ n, w' = w.drewN n := by
 have hb := hL.rw.lt
 have c10 : w.cell? ⟨b, 10, none⟩ = some d.sv := hL.rw.blk.cell 10
 have c9 : w.cell? ⟨b, 9, none⟩ = some (.int .i64 (e.all : Int)) := hL.rw.blk.cell 9
 have c8 : w.cell? ⟨b, 8, none⟩ = some (.int .i64 (e.turn : Int)) := hL.rw.blk.cell 8
 have hne := PO e
 have h4 := hL.ps4
 rcases hL.sl.2 with ⟨h0, hl0⟩ | ⟨g, cap, cur, h0, _⟩
 . have hps : d.ps = [] := List.eq_nil_of_length_eq_zero hl0
   have hup : gJ e = [] := List.eq_nil_of_length_eq_zero (by rw [hL.outs.len, hps]; rfl)
   rw [hup] at hne
   have hnx : e.next = none := by
    cases hx : e.next with
    | none => rfl
    | some i => rw [hx] at hne; simp [BP] at hne
   rw [hnx]
   rw [h0] at c10
   refine (mG b w hb c10).mono ?_
   rintro q w' ⟨rfl, rfl⟩
   exact ⟨rfl, 0, rfl⟩
 . have hsl := hL.sl
   rw [h0] at c10 hsl
   have := rO b 0 g d.ps.length cap e.all e.turn (gJ e) d.ps _ w hb c10 c9 c8 hL.outs hsl (hide rfl) (by omega) (hide hne)
   rw [Option.isSome_map] at this
   exact this
theorem yj (b g : Nat) (e : Lk.En) (d : PD) (w : World) (hL : Live w b e d) (hn : e.next = none) :
 Calls Tryz.prog 38 #[.pointer (some ⟨b, 3, none⟩), kP g] w fun q w' => q = .returned (.bool false) ∧ ∃ n, w' = w.drewN n := by
 have := ET b e d w hL
 rw [hn] at this
 exact qj b g w this
theorem Nc (b g B i : Nat) (e : Lk.En) (d : PD) (o : Lk.Ow) (xs : Lk.Bs) (w : World) (hL : Live w b e d) (hn : e.next = some i) (ho : e.own[i]? = some o) (hG : rU w g B xs) (hg : B <= g) (hB : ∀ i, foot b d i -> i < B) (hl : xs.length <= 2 ^ 44) (hW : Lk.Wf (e.cu i o).2) :
 Calls Tryz.prog 38 #[.pointer (some ⟨b, 3, none⟩), kP g] w fun q w' => q = .returned (.bool true) ∧ Rq w b g B d (e.cu i o).2 (xs ++ (e.cu i o).1) w' := by
 obtain ⟨o', ho', hmay⟩ := Lk.lU hn
 rw [ho] at ho'
 cases ho'
 have hd : o.done = false := by
  unfold Lk.En.may at hmay
  cases hx : o.done with
  | false => rfl
  | true => rw [hx] at hmay; simp at hmay
 have hOk := hL.wf.own i o ho
 have hpos := EL e.own i o ho hd
 have hpl : mi e.own i < d.ps.length := by
  rw [<- hL.outs.len]
  exact (List.getElem?_eq_some_iff.1 hpos).1
 obtain ⟨p, hp⟩ : ∃ p, d.ps[mi e.own i]? = some p := ⟨_, List.getElem?_eq_getElem hpl⟩
 have hN := ET b e d w hL
 rw [hn] at hN
 simp only [Option.map_some, Option.bind_some, hp, bu, ptr, Option.isSome] at hN
 have h4 := hL.ps4
 refine (zI b B 0 g (mi e.own i) p e.all e.turn 101 (fH e d).cells d.sv o (gJ e) d.ps xs w hL.rw.blk (nbq rfl) (nbq rfl) rfl rfl rfl hL.outs hL.psn (EM hL.wf) hL.sl (by omega) hpos hp hN hG hg (hB b (.inl rfl)) (fun x hx => hB x (.inr (.inr (.inr (.inr (.inl hx)))))) (fun x hx => hB x (.inr (.inr (.inr (.inl hx))))) hl hOk.oL (by have := hL.wf.all; omega) (by have := hOk.cr; omega) (by have := hOk.left; omega)).mono ?_
 rintro q w' ⟨rfl, v', hI, hsl, hv, hO, hG', hOn⟩
 have hub := PQ ho hd
 have hs := hL.fQ
 have hsub : ∀ x, foot b { d with ps := iR (rW e.all o (mi e.own i)) d.ps, sv := v' } x -> foot b d x := by
  intro x hx
  rcases hx with hx | hx | hx | hx | hx | hx | hx | hx
  . exact .inl hx
  . exact .inr (.inl hx)
  . exact .inr (.inr (.inl hx))
  . exact .inr (.inr (.inr (.inl (hv ▸ hx))))
  . exact .inr (.inr (.inr (.inr (.inl (EN hx)))))
  . exact .inr (.inr (.inr (.inr (.inr (.inl hx)))))
  . exact .inr (.inr (.inr (.inr (.inr (.inr (.inl hx))))))
  . exact .inr (.inr (.inr (.inr (.inr (.inr (.inr hx))))))
 have hI2 : ∀ x, (d.sv.ownBlock = some x ∨ x ∈ d.ps) -> (∃ c, Is w x 169 c) ∨ (∃ c, Is w x 173 c) := by
  intro x hx
  rcases hx with hx | hx
  . left
    rcases hL.sl.2 with ⟨h0, _⟩ | ⟨g, cap, cur, h0, _, hg, _⟩
    . rw [h0] at hx; simp [Value.ownBlock] at hx
    . rw [h0] at hx
      simp [Value.ownBlock] at hx
      subst hx
      exact ⟨cur.toList, by unfold Is; simpa using hg⟩
  . obtain ⟨o, hy⟩ := hL.outs.mem hx; exact .inr ⟨_, hy⟩
 have hno : ∀ x, foot b d x -> x ≠ b -> (d.sv.ownBlock = some x ∨ x ∈ d.ps -> False) -> ¬ (x = b ∨ some x = d.sv.ownBlock ∨ x ∈ d.ps ∨ B <= x) := fun x hx hne hsp hy => by
  rcases hy with hy | hy | hy | hy
  . exact hne hy
  . exact hsp (.inl hy.symm)
  . exact hsp (.inr hy)
  . have := hB x hx; omega
 have PS : ∀ x ∈ d.rs, (d.sv.ownBlock = some x ∨ x ∈ d.ps -> False) := fun x hx hy => by
  rcases hy with hy | hy
  . exact (hs x (.inr hx)).2.2.1 hy
  . exact (hs x (.inr hx)).2.2.2.1 hy
 have hec : ({ fH e d with sent := (o.id : Int), ocr := ((e.all - gY e.all o : Nat) : Int), sv := v' } : EC) = fH (e.cu i o).2 { d with ps := iR (rW e.all o (mi e.own i)) d.ps, sv := v' } := by
  simp [fH, Lk.En.cu, CY, Lk.En.nextId, ah]
 have hR' : Rw w' b (fH (e.cu i o).2 { d with ps := iR (rW e.all o (mi e.own i)) d.ps, sv := v' }) d.fs := by
  rw [<- hec]
  exact ⟨hI, hL.rw.row.only hOn (fun r hr => hno r (.inr (.inr (.inr (.inr (.inr (.inl hr)))))) (fun e => hL.rw.I4 (e ▸ hr)) (PS r hr))⟩
 have hpk : (e.cu i o).1 = (LG e.all o).pack := by
  simp only [Lk.En.cu, LG, Lk.Fr.pack, CY]
 refine ⟨rfl, { d with ps := iR (rW e.all o (mi e.own i)) d.ps, sv := v' }, ⟨hR', hL.o9, hL.good, ?_, ?_, hsl, by rw [hub]; exact hO, wJ hL.psn, Nat.le_trans len_drop hL.ps4, ?_, hL.mn, ?_, hL.none, hL.inj, hW, fun x hx => hL.pos x (hsub x hx)⟩, hsub, by rw [hpk]; exact hG', hOn.mono (fun x hx => ?_)⟩
 . refine ag hL.out hOn (fun x hx => hno x (.inr (.inl hx)) (fun e => (hs x (.inl e)).1 hx) (fun hy => ?_))
   rcases hI2 x hy with ⟨c, hI⟩ | ⟨c, hI⟩ <;> exact own_ne hL.out hI (nbq rfl) hx.symm
 . refine ag hL.inn hOn (fun x hx => hno x (.inr (.inr (.inl hx))) (fun e => (hs x (.inl e)).2.1 hx) (fun hy => ?_))
   rcases hI2 x hy with ⟨c, hI⟩ | ⟨c, hI⟩ <;> exact own_ne hL.inn hI (nbq rfl) hx.symm
 . refine hL.map.only hOn (hno d.mb (.inr (.inr (.inr (.inr (.inr (.inr (.inl rfl))))))) (fun e => (hs _ (.inl e)).2.2.2.2.1 rfl) (fun hy => ?_))
   rcases hI2 _ hy with ⟨c, hI⟩ | ⟨c, hI⟩ <;> exact hL.map.ne hI rfl
 . refine fun j x hx => (hL.yZ j x hx).only hOn (fun q hq => hno q (.inr (.inr (.inr (.inr (.inr (.inr (.inr ⟨_, hq⟩))))))) (fun e => (hs q (.inl e)).2.2.2.2.2 _ hq) (fun hy => ?_))
   obtain ⟨_, _, _, _, _, _, hz, _⟩ := hL.KX hq
   rcases hI2 q hy with ⟨c, hI⟩ | ⟨c, hI⟩ <;> exact hI.ne hz (nbq rfl) rfl
 . rcases hx with hx | hx | hx | hx
   . exact .inl (.inl hx)
   . exact .inl (.inr (.inr (.inr (.inl hx.symm))))
   . exact .inl (.inr (.inr (.inr (.inr (.inl hx)))))
   . exact .inr hx
def Ae (e : Lk.En) (d : PD) : EC := ⟨⟨#[]⟩, (e.down : Int), .nilFunc, 0, gQ, 0, 0, 0, 0, gQ, .nilFunc, 0, gQ, 0, 0, 0, .map none, d.rs, false, false⟩
structure wL (w : World) (b : Nat) (e : Lk.En) (d : PD) : Prop where
 rw : Rw w b (Ae e d) d.fs
 o9 : e.row = d.fs.map Lk.Fr.pack
 good : ∀ f ∈ d.fs, Lk.Good f.k f.st f.d
 dn : e.down ≠ 0
 none : d.ov = gQ ∧ d.iv = gQ ∧ d.sv = gQ ∧ d.ps = [] ∧ d.mb = b ∧ ∀ k, d.ins k = Option.none
 wf : Lk.Wf e
 pos : ∀ i, foot b d i -> 0 < i
theorem wL.foot {w : World} {b : Nat} {e : Lk.En} {d : PD} (h : wL w b e d) {i : Nat} (hi : foot b d i) : i = b ∨ i ∈ d.rs := by
 obtain ⟨h1, h2, h3, h4, h5, h6⟩ := h.none
 rcases hi with hi | hi | hi | hi | hi | hi | hi | ⟨k, hi⟩
 . exact .inl hi
 . rw [h1] at hi; cases hi
 . rw [h2] at hi; cases hi
 . rw [h3] at hi; cases hi
 . rw [h4] at hi; cases hi
 . exact .inr hi
 . exact .inl (hi.trans h5)
 . rw [h6] at hi; cases hi
def kM (w : World) (b : Nat) (e : Lk.En) (d : PD) : Prop := (Live w b e d ∧ e.down = 0) ∨ wL w b e d
theorem kM.wf {w : World} {b : Nat} {e : Lk.En} {d : PD} (h : kM w b e d) : Lk.Wf e := by
 rcases h with ⟨h, _⟩ | h
 . exact h.wf
 . exact h.wf
theorem kM.pos {w : World} {b : Nat} {e : Lk.En} {d : PD} (h : kM w b e d) : ∀ i, foot b d i -> 0 < i := by
 rcases h with ⟨h, _⟩ | h
 . exact h.pos
 . exact h.pos
theorem kM.lt {w : World} {b : Nat} {e : Lk.En} {d : PD} (h : kM w b e d) : ∀ i, foot b d i -> i < w.heap.size := by
 rcases h with ⟨h, _⟩ | h
 . exact h.lt
 . intro i hi
   rcases h.foot hi with rfl | hi
   . exact h.rw.lt
   . exact h.rw.row.lt i hi
theorem kM.only {S : Nat -> Prop} {w w' : World} {b : Nat} {e : Lk.En} {d : PD} (h : kM w b e d) (k : Only S w w') (hn : ∀ i, foot b d i -> ¬ S i) : kM w' b e d := by
 rcases h with ⟨h, hdn⟩ | h
 . exact .inl ⟨h.only k hn, hdn⟩
 . exact .inr ⟨h.rw.only k (hn b (.inl rfl)) (fun r hr => hn r (.inr (.inr (.inr (.inr (.inr (.inl hr))))))), h.o9, h.good, h.dn, h.none, h.wf, h.pos⟩
def iO (w : World) (b : Nat) (d : PD) (e' : Lk.En) (w' : World) : Prop := ∃ d', kM w' b e' d' ∧ (∀ i, foot b d' i -> foot b d i ∨ w.heap.size <= i) ∧ Only (foot b d) w w'
theorem bf.toP {w w' : World} {b : Nat} {d : PD} {e' : Lk.En} (h : bf w b d e' w') (hdn : e'.down = 0) : iO w b d e' w' := by
 obtain ⟨d', h1, h2, h3⟩ := h
 exact ⟨d', .inl ⟨h1, hdn⟩, h2, h3⟩
theorem iO.same {w : World} {b : Nat} {e : Lk.En} {d : PD} (h : kM w b e d) : iO w b d e w := ⟨d, h, fun _ hi => .inl hi, Only.refl _ _⟩
def PT (w : World) (b g B : Nat) (d : PD) (e' : Lk.En) (xs : Lk.Bs) (w' : World) : Prop := ∃ d', kM w' b e' d' ∧ (∀ i, foot b d' i -> foot b d i) ∧ rU w' g B xs ∧ Only (fun i => foot b d i ∨ B <= i) w w'
theorem Gx (b g B : Nat) (e : Lk.En) (d : PD) (s : Lk.Bs) (r : List Lk.Bs) (xs : Lk.Bs) (w : World) (hL : wL w b e d) (hrow : e.row = s :: r) (hG : rU w g B xs) (hg : B <= g) (hB : ∀ i, foot b d i -> i < B) (hl : xs.length <= 2 ^ 44) (hW : Lk.Wf { e with row := r }) :
 Calls Tryz.prog 37 #[.pointer (some ⟨b, 18, none⟩), kP g] w fun q w' => q = .returned (.bool true) ∧ PT w b g B d { e with row := r } (xs ++ s) w' := by
 have hrw := hL.rw
 have hre := hL.o9
 rw [hrow] at hre
 rcases hrw.row.empty with ⟨h, _⟩ | ⟨f, fs', r0, rs', hf, hr, _, _, _⟩
 . have h' : d.fs = [] := h
   rw [h'] at hre
   simp at hre
 have hf' : d.fs = f :: fs' := hf
 have hr' : d.rs = r0 :: rs' := hr
 rw [hf'] at hre
 simp only [List.map_cons, List.cons.injEq] at hre
 have hgf := hL.good f (by rw [hf']; simp)
 have hC := hrw.row
 rw [hf] at hC
 have hC' : Chain w (dW (r0 :: rs')) (fO (r0 :: rs')) (f :: fs') (r0 :: rs') := by
  have := hC
  rw [show (Ae e d).rs = d.rs from rfl, hr'] at this
  exact this
 have Ub : ∀ x ∈ r0 :: rs', x < B := fun x hx => hB x (.inr (.inr (.inr (.inr (.inr (.inl (by rw [hr']; exact hx)))))))
 refine (qi b 18 g r0 B 101 (Ae e d).cells f fs' rs' xs w hrw.blk (nbq rfl) (by rw [<- hr']; rfl) (by rw [<- hr']; rfl) hC' hG hg (hB b (.inl rfl)) Ub hl hgf.k7 hgf.Fv hgf.len).mono ?_
 rintro q w' ⟨rfl, hI, hCh, hG', hO⟩
 have hR' : Rw w' b { Ae e d with rs := rs' } fs' := ⟨hI, hCh⟩
 have hsub : ∀ i, foot b { d with rs := rs', fs := fs' } i -> foot b d i := by
  intro i hi
  rcases hi with hi | hi | hi | hi | hi | hi | hi | hi
  . exact .inl hi
  . exact .inr (.inl hi)
  . exact .inr (.inr (.inl hi))
  . exact .inr (.inr (.inr (.inl hi)))
  . exact .inr (.inr (.inr (.inr (.inl hi))))
  . exact .inr (.inr (.inr (.inr (.inr (.inl (by rw [hr']; exact List.mem_cons_of_mem _ hi))))))
  . exact .inr (.inr (.inr (.inr (.inr (.inr (.inl hi))))))
  . exact .inr (.inr (.inr (.inr (.inr (.inr (.inr hi))))))
 refine ⟨rfl, { d with rs := rs', fs := fs' }, .inr ⟨hR', hre.2, fun f' Uc => hL.good f' (by rw [hf']; exact List.mem_cons_of_mem _ Uc), hL.dn, hL.none, hW, fun i hi => hL.pos i (hsub i hi)⟩, hsub, by rw [hre.1]; exact hG', hO.mono (fun i hi => ?_)⟩
 rcases hi with hi | hi
 . exact .inl (.inl hi)
 . exact .inr hi
theorem OD {w : World} {b g : Nat} {c : EC} {fs : List Lk.Fr} (hR : Rw w b c fs) {row : List Lk.Bs} (he : row = fs.map Lk.Fr.pack) (h0 : row = []) : Calls Tryz.prog 37 #[.pointer (some ⟨b, 18, none⟩), kP g] w fun q w' => q = .returned (.bool false) ∧ w' = w := by
 rw [h0] at he
 have hfs : fs = [] := by
  cases fs with
  | nil => rfl
  | cons a t => simp at he
 rcases hR.row.empty with ⟨_, hr, _⟩ | ⟨f, fs', r0, rs', hf, _⟩
 . exact zH b 18 g 101 c.cells w hR.blk (by rw [show c.cells[18]? = some (dW c.rs) from rfl, hr]; rfl)
 . rw [hfs] at hf; cases hf
theorem Gy (b g B : Nat) (e : Lk.En) (d : PD) (xs : Lk.Bs) (w : World) (hL : kM w b e d) (hG : rU w g B xs) (hg : B <= g) (hB : ∀ i, foot b d i -> i < B) (hl : xs.length <= 2 ^ 44) :
 Calls Tryz.prog 37 #[.pointer (some ⟨b, 18, none⟩), kP g] w fun q w' => match e.row with
  | s :: r => q = .returned (.bool true) ∧ PT w b g B d { e with row := r } (xs ++ s) w'
  | [] => q = .returned (.bool false) ∧ w' = w := by
 cases hrow : e.row with
 | nil =>
   rcases hL with ⟨hL, hdn⟩ | hL
   . exact OD hL.rw hL.o9 hrow
   . exact OD hL.rw hL.o9 hrow
 | cons s r =>
   have hW : Lk.Wf { e with row := r } := (hL.wf.bG (by unfold Lk.En.bG; rw [hrow])).1
   rcases hL with ⟨hL, hdn⟩ | hL
   . refine (Nb b g B e d s r xs w hL hrow hG hg hB hl hW).mono ?_
     rintro q w' ⟨rfl, d', h1, h2, h3, h4⟩
     exact ⟨rfl, d', .inl ⟨h1, hdn⟩, h2, h3, h4⟩
   . exact Gx b g B e d s r xs w hL hrow hG hg hB hl hW
theorem Gz (b g B : Nat) (e : Lk.En) (d : PD) (xs : Lk.Bs) (w : World) (hL : kM w b e d) (hrow : e.row = []) (hG : rU w g B xs) (hg : B <= g) (hB : ∀ i, foot b d i -> i < B) (hl : xs.length <= 2 ^ 44) :
 Calls Tryz.prog 38 #[.pointer (some ⟨b, 3, none⟩), kP g] w fun q w' => match e.bG with
  | some (s, e') => q = .returned (.bool true) ∧ PT w b g B d e' (xs ++ s) w'
  | none => q = .returned (.bool false) ∧ ∃ n, w' = w.drewN n := by
 unfold Lk.En.bG
 rw [hrow]
 simp only
 rcases hL with ⟨hL, hdn⟩ | hL
 . rw [if_neg (by rw [hdn]; simp)]
   cases hn : e.next with
   | none => exact yj b g e d w hL hn
   | some i =>
     obtain ⟨o, ho, _⟩ := Lk.lU hn
     simp only [ho]
     have hW : Lk.Wf (e.cu i o).2 := (hL.wf.bG (s := (e.cu i o).1) (by unfold Lk.En.bG; rw [hrow]; simp only; rw [if_neg (by rw [hdn]; simp), hn]; simp only [ho])).1
     refine (Nc b g B i e d o xs w hL hn ho hG hg hB hl hW).mono ?_
     rintro q w' ⟨rfl, d', h1, h2, h3, h4⟩
     exact ⟨rfl, d', .inl ⟨h1, hdn⟩, h2, h3, h4⟩
 . rw [if_pos hL.dn]
   have c10 : w.cell? ⟨b, 10, none⟩ = some (.slice none 0 0) := hL.rw.blk.cell 10
   exact qj b g w ((mG b w hL.rw.lt c10).mono fun q w' h => ⟨h.1, 0, h.2⟩)
theorem qx (c : UInt8) : Lk.aG c = ((decide ((97 : Int) <= c.toNat) && decide ((c.toNat : Int) <= 122)) || decide ((c.toNat : Int) = 45)) := by
 rw [Bool.eq_iff_iff]
 simp only [Lk.aG, Bool.or_eq_true, Bool.and_eq_true, decide_eq_true_eq, UInt8.le_iff_toNat_le]
 have e : c = 45 ↔ (c.toNat : Int) = 45 := by
  constructor
  . rintro rfl; rfl
  . intro h; exact UInt8.toNat_inj.1 (by simp; omega)
 rw [e]
 simp
 omega
theorem oq (c : UInt8) : Lk.aB c = (decide ((32 : Int) <= c.toNat) && decide ((c.toNat : Int) <= 126)) := by
 rw [Bool.eq_iff_iff]
 simp only [Lk.aB, Bool.and_eq_true, decide_eq_true_eq, UInt8.le_iff_toNat_le]
 simp
 omega
def WC (name : Bool) : Nat := if name then 127 else 129
theorem wM (c : UInt8) (w : World) : Calls Tryz.prog 127 #[.int .u8 c.toNat] w fun e w' => e = .returned (.bool (Lk.aG c)) ∧ w' = w := by
 rw [qx]
 go_enter Tryz.func127, Tryz.ntmps127
 go_wp2
 all_goals go_ret
 all_goals refine ⟨aH ?_, rfl⟩
 all_goals first | rfl | (rw [Bool.eq_iff_iff]; simp <;> omega)
theorem tH (c : UInt8) (w : World) : Calls Tryz.prog 129 #[.int .u8 c.toNat] w fun e w' => e = .returned (.bool (Lk.aB c)) ∧ w' = w := by
 rw [oq]
 go_enter Tryz.func129, Tryz.ntmps129
 go_wp2
 all_goals go_ret
 all_goals refine ⟨aH ?_, rfl⟩
 all_goals first | rfl | (rw [Bool.eq_iff_iff]; simp <;> omega)
abbrev JE (lo hi : Int) (f : Nat) : Value := .agg #[.int .i64 lo, .int .i64 hi, .func (.func f) #[] #[]]
abbrev jY : Value := JE 1 16 127
abbrev valueR : Value := JE 0 32 129
theorem jG (w : World) : Calls Tryz.prog 79 #[] w fun e w' => e = .returned jY ∧ Below w.heap.size w w' := by
 go_enter Tryz.func79, Tryz.ntmps79
 go_wp2_with fail
 exact bodyPost_ret (v := jY) (by simp [results, Tryz.results79, go_sem]) rfl ⟨rfl, by ((repeat' (first | exact Below.refl _ _ | assumption | apply Below.drew | apply Below.alloc | apply Below.setCell)) <;> (simp <;> omega))⟩
theorem kE (w : World) : Calls Tryz.prog 81 #[] w fun e w' => e = .returned valueR ∧ Below w.heap.size w w' := by
 go_enter Tryz.func81, Tryz.ntmps81
 go_wp2_with fail
 exact bodyPost_ret (v := valueR) (by simp [results, Tryz.results81, go_sem]) rfl ⟨rfl, by ((repeat' (first | exact Below.refl _ _ | assumption | apply Below.drew | apply Below.alloc | apply Below.setCell)) <;> (simp <;> omega))⟩
theorem EU (s : ByteArray) (q : UInt8 -> Bool) (h : ∀ j (hj : j < s.size), q s[j] = true) : s.data.toList.all q = true := by
 rw [List.all_eq_true]
 intro x hx
 obtain ⟨j, hj, rfl⟩ := List.getElem_of_mem hx
 exact h j (by rw [af]; exact hj)
theorem yt (s : ByteArray) (q : UInt8 -> Bool) (j : Nat) (hj : j < s.size) (h : q s[j] = false) : s.data.toList.all q = false := by
 rw [List.all_eq_false]
 refine ⟨s[j], ?_, by simp [h]⟩
 have : s[j] = s.data.toList[j]'(by rw [<- af]; exact hj) := rfl
 rw [this]
 exact List.getElem_mem _
theorem Af (lo hi : Int) (f : Nat) (s : ByteArray) (w : World) (hl : ¬ (lo <= s.size ∧ (s.size : Int) <= hi)) :
 Calls Tryz.prog 80 #[JE lo hi f, .string s] w fun e w' => e = .returned (.bool false) ∧ Below w.heap.size w w' := by
 go_enter Tryz.func80, Tryz.ntmps80
 go_wp2_with fail
 refine (gZ lo hi _ _).mono ?_
 rintro e w1 ⟨rfl, hb⟩
 have hd : decide (lo <= (s.size : Int) ∧ (s.size : Int) <= hi) = false := by simpa using hl
 go_wp2_with fail
 go_ret
 exact ⟨rfl, (((Below.refl w.heap.size w).alloc (Nat.le_refl _) _)).trans (hb.mono (by simp))⟩
theorem JF (s : ByteArray) (w : World) (hl : 1 <= (s.size : Int) ∧ (s.size : Int) <= 16) :
 Calls Tryz.prog 80 #[JE 1 16 127, .string s] w fun e w' => e = .returned (.bool (s.data.toList.all Lk.aG)) ∧ Below w.heap.size w w' := by
 have hsz : s.size <= 100 := by omega
 generalize hA : s.data.toList.all Lk.aG = A
 have HA := hide hA
 clear hA
 go_enter Tryz.func80, Tryz.ntmps80
 go_wp2_with fail
 refine (gZ 1 16 _ _).mono ?_
 rintro e w1 ⟨rfl, hb⟩
 have hd : decide (1 <= (s.size : Int) ∧ (s.size : Int) <= 16) = true := by simpa using hl
 have hbel := (((Below.refl w.heap.size w).alloc (Nat.le_refl _) (.cells #[.int .i64 1, .int .i64 16, .func (.func 127) #[] #[]] 182))).trans (hb.mono (by simp))
 have c2 : w1.cell? ⟨w.heap.size, 2, none⟩ = some (.func (.func 127) #[] #[]) := aK hb (by simp) (by simp)
 have hlt := kW hb (b := w.heap.size) (by simp)
 clear hb hl
 go_wp2_with fail
 go_loopw [14] (fun u wr => ∃ k : Nat, u = .int .i64 k ∧ k <= s.size ∧ Hid (∀ j (hj : j < s.size), j < k -> Lk.aG s[j] = true) ∧ ∃ n, wr = w1.drewN n) (fun u _ => s.size - (intOf u).toNat)
 case atStart => exact ⟨0, rfl, by omega, fun j hj h => by omega, 0, rfl⟩
 case round =>
  obtain ⟨k, rfl, hk, HK, nd, rfl⟩ := hrel
  by_cases hlt : k < s.size
  . have hlt' : (k : Int) < s.size := by omega
    have c2' : (w1.drewN nd).cell? ⟨w.heap.size, 2, none⟩ = some (.func (.func 127) #[] #[]) := c2
    go_wp2_with fail
    generalize hq : Lk.aG s[k] = Q
    have HQ := hide hq
    have hcall : ∀ w, Calls Tryz.prog 127 #[.int .u8 s[k].toNat] w fun e w' => e = .returned (.bool Q) ∧ w' = w := fun w => by rw [<- hq]; exact wM s[k] w
    clear hq
    have HC := hide hcall
    clear hcall
    go_cut [23] (fun u wc => u = .bool (!Q) ∧ ∃ n, wc = w1.drewN n)
    case first =>
     go_region_with (go_at_call 127; refine (uh HC _).mono ?_; rintro e w' ⟨rfl, rfl⟩)
     all_goals
      go_wp2_with fail
      go_meet
      exact ⟨rfl, nd + 1, rfl⟩
    obtain ⟨rfl, nd2, rfl⟩ := hcut
    cases Q
    . go_wp2_with fail
      go_ret
      refine ⟨aH ?_, Below.drewN hbel _⟩
      rw [<- uh HA]
      exact (yt s Lk.aG k hlt (uh HQ)).symm
    . go_wp2_with fail
      go_roundw
      case rel => exact ⟨k + 1, by simp, by omega, fun j hj h => (Nat.lt_succ_iff_lt_or_eq.1 h).elim (fun h => uh HK j hj h) (fun h => by subst h; exact uh HQ), _, rfl⟩
      case measure => simp [intOf]; omega
  . have hlt' : ¬ (k : Int) < s.size := by omega
    go_wp2_with fail
    go_ret
    refine ⟨aH ?_, Below.drewN hbel _⟩
    rw [<- uh HA]
    exact (EU s Lk.aG (fun j hj => (uh HK) j hj (by omega))).symm
theorem GG (s : ByteArray) (w : World) (hl : 0 <= (s.size : Int) ∧ (s.size : Int) <= 32) :
 Calls Tryz.prog 80 #[JE 0 32 129, .string s] w fun e w' => e = .returned (.bool (s.data.toList.all Lk.aB)) ∧ Below w.heap.size w w' := by
 have hsz : s.size <= 100 := by omega
 generalize hA : s.data.toList.all Lk.aB = A
 have HA := hide hA
 clear hA
 go_enter Tryz.func80, Tryz.ntmps80
 go_wp2_with fail
 refine (gZ 0 32 _ _).mono ?_
 rintro e w1 ⟨rfl, hb⟩
 have hd : decide (0 <= (s.size : Int) ∧ (s.size : Int) <= 32) = true := by simpa using hl
 have hbel := (((Below.refl w.heap.size w).alloc (Nat.le_refl _) (.cells #[.int .i64 0, .int .i64 32, .func (.func 129) #[] #[]] 182))).trans (hb.mono (by simp))
 have c2 : w1.cell? ⟨w.heap.size, 2, none⟩ = some (.func (.func 129) #[] #[]) := aK hb (by simp) (by simp)
 have hlt := kW hb (b := w.heap.size) (by simp)
 have hl2 : (s.size : Int) <= 32 := hl.2
 clear hb hl
 go_wp2_with fail
 go_loopw [14] (fun u wr => ∃ k : Nat, u = .int .i64 k ∧ k <= s.size ∧ Hid (∀ j (hj : j < s.size), j < k -> Lk.aB s[j] = true) ∧ ∃ n, wr = w1.drewN n) (fun u _ => s.size - (intOf u).toNat)
 case atStart => exact ⟨0, rfl, by omega, fun j hj h => by omega, 0, rfl⟩
 case round =>
  obtain ⟨k, rfl, hk, HK, nd, rfl⟩ := hrel
  by_cases hlt : k < s.size
  . have hlt' : (k : Int) < s.size := by omega
    have c2' : (w1.drewN nd).cell? ⟨w.heap.size, 2, none⟩ = some (.func (.func 129) #[] #[]) := c2
    go_wp2_with fail
    generalize hq : Lk.aB s[k] = Q
    have HQ := hide hq
    have hcall : ∀ w, Calls Tryz.prog 129 #[.int .u8 s[k].toNat] w fun e w' => e = .returned (.bool Q) ∧ w' = w := fun w => by rw [<- hq]; exact tH s[k] w
    clear hq
    have HC := hide hcall
    clear hcall
    go_cut [23] (fun u wc => u = .bool (!Q) ∧ ∃ n, wc = w1.drewN n)
    case first =>
     go_region_with (go_at_call 129; refine (uh HC _).mono ?_; rintro e w' ⟨rfl, rfl⟩)
     all_goals
      go_wp2_with fail
      go_meet
      exact ⟨rfl, nd + 1, rfl⟩
    obtain ⟨rfl, nd2, rfl⟩ := hcut
    cases Q
    . go_wp2_with fail
      go_ret
      refine ⟨aH ?_, Below.drewN hbel _⟩
      rw [<- uh HA]
      exact (yt s Lk.aB k hlt (uh HQ)).symm
    . go_wp2_with fail
      go_roundw
      case rel => exact ⟨k + 1, by simp, by omega, fun j hj h => (Nat.lt_succ_iff_lt_or_eq.1 h).elim (fun h => uh HK j hj h) (fun h => by subst h; exact uh HQ), _, rfl⟩
      case measure => simp [intOf]; omega
  . have hlt' : ¬ (k : Int) < s.size := by omega
    go_wp2_with fail
    go_ret
    refine ⟨aH ?_, Below.drewN hbel _⟩
    rw [<- uh HA]
    exact (EU s Lk.aB (fun j hj => (uh HK) j hj (by omega))).symm
theorem Ag (s : ByteArray) (w : World) :
 Calls Tryz.prog 80 #[jY, .string s] w fun e w' => e = .returned (.bool (Lk.fits true s.data.toList)) ∧ Below w.heap.size w w' := by
 have e := af s
 by_cases hl : 1 <= (s.size : Int) ∧ (s.size : Int) <= 16
 . refine (JF s w hl).mono ?_
   rintro e' w' ⟨rfl, hb⟩
   refine ⟨aH ?_, hb⟩
   have : Lk.jM true s.data.toList.length = true := by simp only [Lk.jM, if_true, decide_eq_true_eq]; omega
   rw [Lk.fits, this, Bool.true_and]
   rfl
 . refine (Af 1 16 _ s w hl).mono ?_
   rintro e' w' ⟨rfl, hb⟩
   refine ⟨aH ?_, hb⟩
   have : Lk.jM true s.data.toList.length = false := by simp only [Lk.jM, if_true, decide_eq_false_iff_not]; omega
   rw [Lk.fits, this, Bool.false_and]
theorem yu (s : ByteArray) (w : World) :
 Calls Tryz.prog 80 #[valueR, .string s] w fun e w' => e = .returned (.bool (Lk.fits false s.data.toList)) ∧ Below w.heap.size w w' := by
 have e := af s
 by_cases hl : 0 <= (s.size : Int) ∧ (s.size : Int) <= 32
 . refine (GG s w hl).mono ?_
   rintro e' w' ⟨rfl, hb⟩
   refine ⟨aH ?_, hb⟩
   have : Lk.jM false s.data.toList.length = true := by simp [Lk.jM]; omega
   rw [Lk.fits, this, Bool.true_and]
   rfl
 . refine (Af 0 32 _ s w hl).mono ?_
   rintro e' w' ⟨rfl, hb⟩
   refine ⟨aH ?_, hb⟩
   have : Lk.jM false s.data.toList.length = false := by simp [Lk.jM]; omega
   rw [Lk.fits, this, Bool.false_and]
end Go.Proofs.YtbkpdapagfjmmaaGreatDoor
