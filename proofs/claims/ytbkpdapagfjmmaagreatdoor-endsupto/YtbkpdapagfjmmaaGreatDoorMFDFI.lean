import Derived.Test.YtbkpdapagfjmmaaGreatDoorMF9FC
import Derived.Test.YtbkpdapagfjmmaaGreatDoorML9LB
set_option linter.unusedVariables false
set_option maxRecDepth 100000
set_option maxHeartbeats 16000000
namespace Go.Proofs.YtbkpdapagfjmmaaGreatDoor
open Go.RowKit
theorem giveBack_live (b i p : Nat) (e : Lk.En) (d : PD) (o : Lk.Ot) (w : World) (hL : Live w b e d) (ho : e.oth[i]? = some o) (hod : (o.opn || o.drp) = true) (hp : d.ins o.id = some p) (hW : Lk.Wf (({ e with oth := e.oth.set i { o with held := 0 } } : Lk.En).back o.held)) :
    Calls Tryz.prog 141 #[.pointer (some ⟨b, 11, none⟩), .pointer (some ⟨p, 0, none⟩), putV b] w fun r w' => r = .returned (.tuple #[]) ∧ LPost w b d (({ e with oth := e.oth.set i { o with held := 0 } } : Lk.En).back o.held) w' := by
  obtain ⟨_, cr, cut, hI, hcc⟩ := (hL.oths i o ho).some hp
  obtain ⟨rfl, rfl⟩ := hcc hod
  rw [hod] at hI
  have hheld := hL.wf.held ho
  have hroom : e.room ≤ 400 := by have := hL.wf.room; have := hL.wf.win2; omega
  refine (giveBack_any b p e.room o.held o.cr o.drp false (ecOf e d) d.fs w hL.rw rfl hI (by omega) (by omega)).mono ?_
  rintro r w' ⟨rfl, rs', hrs, hI', hR', hO'⟩
  refine ⟨rfl, hL.inOp (o' := { o with held := 0 }) ho rfl hR' (hO'.mono (fun x hx => ?_)) (rs' := rs') (mn' := d.mn) (ins' := d.ins) ?_ (back_rest _ _).1 (back_rest _ _).2.1 (back_rest _ _).2.2.1 (back_rest _ _).2.2.2.1 ?_ ?_ hW hrs ?_ hL.mn ?_ (fun k _ => rfl) (fun q hq => hq)⟩
  · rcases hx with hx | hx | hx
    · exact .inl hx
    · exact .inr (.inr (.inr (hx ▸ hp)))
    · exact .inr (.inl hx)
  · rw [ecOf_back]
    simp [ecOf, nextOth, Lk.En.nextId]
  · rw [back_row]
    simp [hL.rowe]
  · refine good_append hL.good (fun f hf => ?_)
    unfold backF at hf
    split at hf
    · simp at hf
      subst hf
      exact Lk.good_credit 0 o.held (by omega) (by omega)
    · simp at hf
  · refine hL.map.only hO' (fun hx => ?_)
    rcases hx with hx | hx | hx
    · exact (hL.sepRow _ (.inl hx)).2.2.2.2.1 rfl
    · exact hL.map.ne hI hx
    · exact (hL.sepRow _ (.inr hx)).2.2.2.2.1 rfl
  · unfold OthIs
    show match d.ins (o.id : Int) with | some p => _ | none => _
    rw [hp]
    refine ⟨by simp only [hod, Bool.true_or], (o.cr : Int), o.drp, ?_, fun _ => ⟨rfl, rfl⟩⟩
    simpa [hod] using hI'
def ToldAt (w : World) (f : Lk.Fr) (N : Nat) (u : Value) (wc : World) : Prop := ∃ t, u = .pointer (some ⟨t, 0, none⟩) ∧ w.heap.size < t ∧ Is wc t 116 [.int .i64 4, .int .i64 (f.st : Int), .int .i64 (N : Int), .slice none 0 0, .string ⟨#[]⟩] ∧ Is wc w.heap.size 79 [.int .i64 (f.k : Int), .int .i64 (f.st : Int), .string (bs f.d)] ∧ Below w.heap.size w wc
theorem told_after {w w1 : World} {f : Lk.Fr} {N : Nat} (hFr : Is w1 w.heap.size 79 [.int .i64 (f.k : Int), .int .i64 (f.st : Int), .string (bs f.d)]) (hb : Below w.heap.size w w1) : ToldAt w f N (.pointer (some ⟨w1.heap.size, 0, none⟩)) (w1.alloc (.cells #[.int .i64 4, .int .i64 (f.st : Int), .int .i64 (N : Int), .slice none 0 0, .string ⟨#[]⟩] 116)) :=
  ⟨w1.heap.size, rfl, hFr.lt, Is.new w1 116 [.int .i64 4, .int .i64 (f.st : Int), .int .i64 (N : Int), .slice none 0 0, .string ⟨#[]⟩], hFr.alloc _, hb.alloc hb.size _⟩
theorem told_ahead {w w1 : World} {f : Lk.Fr} {N : Nat} (hFr : Is w1 w.heap.size 79 [.int .i64 (f.k : Int), .int .i64 (f.st : Int), .string (bs f.d)]) (hX : Is w1 (w.heap.size + 1) 116 [.int .i64 0, .int .i64 0, .int .i64 0, .slice none 0 0, .string ⟨#[]⟩]) (hb : Below w.heap.size w w1) :
    ToldAt w f N (.pointer (some ⟨w.heap.size + 1, 0, none⟩)) (((((w1.setCell ⟨w.heap.size + 1, 0, none⟩ (.int .i64 4)).setCell ⟨w.heap.size + 1, 1, none⟩ (.int .i64 (f.st : Int))).setCell ⟨w.heap.size + 1, 2, none⟩ (.int .i64 (N : Int))).setCell ⟨w.heap.size + 1, 3, none⟩ (.slice none 0 0)).setCell ⟨w.heap.size + 1, 4, none⟩ (.string ⟨#[]⟩)) :=
  ⟨w.heap.size + 1, rfl, by omega, ((((hX.set 0 _).set 1 _).set 2 _).set 3 _).set 4 _, ((((hFr.other _ _ (by simp)).other _ _ (by simp)).other _ _ (by simp)).other _ _ (by simp)).other _ _ (by simp), ((((hb.setCell (by simp) _).setCell (by simp) _).setCell (by simp) _).setCell (by simp) _).setCell (by simp) _⟩
end Go.Proofs.YtbkpdapagfjmmaaGreatDoor

namespace Go.Proofs.YtbkpdapagfjmmaaGreatDoor
open Go.RowKit
def YPost (w : World) (t o : Nat) (T : TypeId) (cs : List Value) (B : Nat) (v : Value) (X : Lk.XR) (e : Ending) (w' : World) : Prop :=
  match X with
  | .ok hs L2 => (∃ lv v', e = .returned (.tuple #[lv, .int .i64 0, .int .i64 0]) ∧ w'.ownsRow w.heap.size 112 2 lv hs.length (hdsV hs) ∧ Is w' t T (((cs.set o weighV).set (o + 1) (.int .i64 ((B : Int) - Lk.weights L2))).set (o + 2) v') ∧ w'.ownsRow 0 112 2 v' L2.length (hdsV L2) ∧ NewOr w.heap.size v v' ∧ Lk.weights L2 ≤ B ∧ (lv.ownBlock = none ∨ lv.ownBlock ≠ v'.ownBlock) ∧ hs.length ≤ 6) ∧ Turns t w w'
  | .err ec q => e = .returned (.tuple #[.slice none 0 0, .int .i64 (ec : Int), .int .i64 (q : Int)]) ∧ Below w.heap.size w w'
theorem expand_at (t o B : Nat) (T : TypeId) (cs : List Value) (L : List Lk.Hd) (v : Value) (s : ByteArray) (w : World) (hs : s.size ≤ 2 ^ 48) (hI : Is w t T cs) (hT : T ≠ 112) (k0 : cs[o]? = some weighV) (k1 : cs[o + 1]? = some (.int .i64 ((B : Int) - Lk.weights L))) (k2 : cs[o + 2]? = some v) (own : w.ownsRow 0 112 2 v L.length (hdsV L)) (hle : Lk.weights L ≤ B) (hB : B ≤ 200) (hfx : Fx w) (X : Lk.XR) (HX : Hid (Lk.exR B s.data.toList 6 L 0 = X)) :
    Calls Tryz.prog 62 #[.pointer (some ⟨t, o, none⟩), .string s] w (YPost w t o T cs B v X) := by
  obtain ⟨va, vcap, hv⟩ := own_form own
  generalize hvn : L.length = vn at hv
  subst hv
  have h0 := hfx.1
  have HVN := hide hvn
  clear hvn
  have hI0 := Is.new w 208 [.string s, .int .i64 0, weighV, .int .i64 ((B : Int) - Lk.weights L), .slice va vn vcap]
  have hb0 := (Below.refl w.heap.size w).alloc (Nat.le_refl _) (.cells #[.string s, .int .i64 0, weighV, .int .i64 ((B : Int) - Lk.weights L), .slice va vn vcap] 208)
  have hK0 : Blk (w.alloc (.cells #[.string s, .int .i64 0, weighV, .int .i64 ((B : Int) - Lk.weights L), .slice va vn vcap] 208)) w.heap.size s 0 B L (.slice va vn vcap) :=
    ⟨hI0, own.alloc _, hle, hB, hfx.below hb0 h0, by omega⟩
  have HC := hide (bheaders_any w.heap.size s 0 B L (.slice va vn vcap) _ hs (Nat.zero_le _) hK0 X HX)
  have c0 : w.cell? ⟨t, o, none⟩ = some weighV := by rw [hI.cell]; exact k0
  have c1 : w.cell? ⟨t, o + 1, none⟩ = some (.int .i64 ((B : Int) - Lk.weights L)) := by rw [hI.cell]; exact k1
  have c2 : w.cell? ⟨t, o + 2, none⟩ = some (.slice va vn vcap) := by rw [hI.cell]; exact k2
  have htl := hI.lt
  have HI := hide hI
  have HB0 := hide hb0
  have HKK := hide (⟨k0, k1, k2⟩ : _ ∧ _ ∧ _)
  clear hI0 hK0 hI hb0 own k0 k1 k2
  go_enter Tryz.func62, Tryz.ntmps62
  go_wp2_with fail
  refine (uh HC).mono ?_
  rintro e w1 ⟨hm, hT1⟩
  have hbel : Below w.heap.size w w1 := Turns.toBelow (uh HB0) hT1 (Nat.le_refl _) (by simp)
  cases X with
  | err ec q =>
    obtain ⟨rfl, L', v', hK1⟩ := hm
    have hec : ((ec : Int) != 0) = true := by
      rw [bne_iff_ne]
      rcases Lk.exR_err _ _ _ _ _ _ _ (uh HX) with rfl | rfl <;> decide
    have d1 := hK1.blk.cell 1
    simp only [List.getElem?_cons_zero, List.getElem?_cons_succ] at d1
    clear hK1
    go_wp2_with fail
    go_quiet (fail)
    go_wp2_with fail
    go_ret3
    exact ⟨rfl, Below.drewN hbel _⟩
  | ok hl L2 =>
    obtain ⟨lv, q, v', rfl, ho1, ⟨hK1, hN1⟩, hdis, hl6⟩ := hm
    obtain ⟨wa, wcap, hv'⟩ := own_form hK1.own
    generalize hwn : L2.length = wn at hv'
    subst hv'
    clear hwn
    have hI1 := (uh HI).below hbel htl
    have hne : t ≠ w.heap.size := by omega
    have d2 := hK1.blk.cell 2
    have d3 := hK1.blk.cell 3
    have d4 := hK1.blk.cell 4
    obtain ⟨k0, k1, k2⟩ := uh HKK
    have e0 : w1.cell? ⟨t, o, none⟩ = some weighV := by rw [hI1.cell]; exact k0
    have e1 : w1.cell? ⟨t, o + 1, none⟩ = some (.int .i64 ((B : Int) - Lk.weights L)) := by rw [hI1.cell]; exact k1
    have e2 : w1.cell? ⟨t, o + 2, none⟩ = some (.slice va vn vcap) := by rw [hI1.cell]; exact k2
    have f0 := hI1.free o
    have f1 := hI1.free (o + 1)
    have f2 := hI1.free (o + 2)
    have htl1 := hI1.lt
    simp only [List.getElem?_cons_zero, List.getElem?_cons_succ] at d2 d3 d4
    have HK1 := hide hK1
    have HI1 := hide hI1
    have HO1 := hide ho1
    clear hK1 hI1 ho1 k0 k1 k2
    go_wp2_with fail
    go_ret3
    have hTT := (((Below.turns hbel t).set o weighV).set (o + 1) (.int .i64 ((B : Int) - Lk.weights L2))).set (o + 2) (.slice wa wn wcap)
    have hg : w1.grownBy _ (some t) := (((Turns.refl t w1).set o weighV).set (o + 1) (.int .i64 ((B : Int) - Lk.weights L2))).set (o + 2) (.slice wa wn wcap)
    have hob := own_base (B := w.heap.size) (by simp) (uh HO1)
    refine ⟨⟨lv, _, rfl, own_turns hob (uh HI1) hT hg, ?_, own_turns (uh HK1).own (uh HI1) hT hg, hN1.mono (by simp), (uh HK1).le, hdis, hl6⟩, hTT⟩
    exact (((uh HI1).set o weighV).set (o + 1) (.int .i64 ((B : Int) - Lk.weights L2))).set (o + 2) (.slice wa wn wcap)
end Go.Proofs.YtbkpdapagfjmmaaGreatDoor

namespace Go.Proofs.YtbkpdapagfjmmaaGreatDoor
open Go.RowKit
theorem Live.tabOp {w w' : World} {b : Nat} {e : Lk.En} {d : PD} {L : List Lk.Hd} {v' : Value} (h : Live w b e d) (hI : Is w' b 101 ((((ecOf e d).cells.set 11 weighV).set 12 (.int .i64 (((100 : Nat) : Int) - Lk.weights L))).set 13 v')) (hO : Turns b w w') (hv : w'.ownsRow 0 112 2 v' L.length (hdsV L)) (hN : NewOr w.heap.size d.iv v') (hle : Lk.weights L ≤ 100) :
    Live w' b { e with inn := L } { d with iv := v' } ∧ (∀ i, foot b { d with iv := v' } i → foot b d i ∨ w.heap.size ≤ i) ∧ Only (foot b d) w w' := by
  have hOn := Only.of_turns hO
  have hs := h.sepRow
  have hw := h.wf
  have hf : ∀ i, foot b { d with iv := v' } i → foot b d i ∨ w.heap.size ≤ i := by
    intro i hi
    rcases hi with hi | hi | hi | hi | hi | hi | hi | hi
    · exact .inl (.inl hi)
    · exact .inl (.inr (.inl hi))
    · rcases hN with h' | h'
      · exact .inl (.inr (.inr (.inl (by rw [← h']; exact hi))))
      · exact .inr (h' i hi)
    · exact .inl (.inr (.inr (.inr (.inl hi))))
    · exact .inl (.inr (.inr (.inr (.inr (.inl hi)))))
    · exact .inl (.inr (.inr (.inr (.inr (.inr (.inl hi))))))
    · exact .inl (.inr (.inr (.inr (.inr (.inr (.inr (.inl hi)))))))
    · exact .inl (.inr (.inr (.inr (.inr (.inr (.inr (.inr hi)))))))
  refine ⟨⟨h.rw.cell (c' := ecOf { e with inn := L } { d with iv := v' }) hI hOn rfl, h.rowe, h.good, ?_, hv, ?_, ?_, h.psn, h.ps4, ?_, h.mn, ?_, h.none, h.inj, ⟨hw.side, hw.win1, hw.win2, hw.out, hle, fun i o ho => by obtain ⟨a, b, c, d⟩ := hw.own i o ho; exact ⟨a, b, c, d⟩, fun i o ho => by obtain ⟨a, b, c, d, f⟩ := hw.oth i o ho; exact ⟨a, b, c, d, f⟩, hw.all, hw.room, hw.row, hw.rest⟩, fun i hi => ?_⟩, hf, hOn.mono (fun i hi => .inl hi)⟩
  · exact own_only h.out hOn (fun i hi hx => (hs i (.inl hx)).1 hi)
  · exact own_only h.sl hOn (fun i hi hx => (hs i (.inl hx)).2.2.1 hi)
  · exact h.outs.only hOn (fun p hp hx => (hs p (.inl hx)).2.2.2.1 hp)
  · exact h.map.only hOn (fun hx => (hs _ (.inl hx)).2.2.2.2.1 rfl)
  · exact fun i o ho => (h.oths i o ho).only hOn (fun p hp hx => (hs p (.inl hx)).2.2.2.2.2 _ hp)
  · rcases hf i hi with h' | h'
    · exact h.pos i h'
    · have := h.pos b (.inl rfl)
      have := h.rw.lt
      omega
theorem Live.headOp {w w' : World} {b p : Nat} {e : Lk.En} {d : PD} (h : Live w b e d) (hp : w.heap.size ≤ p) (hI : Is w' p 227 (inV (e.win : Int) 0 false false)) (hR : Rw w' b { ecOf e d with inext := (nextOth e : Int) + 2 } d.fs) (hM : MapIs Tryz.prog 3 w' d.mb (d.mn + 1) (fun x => if x = (nextOth e : Int) then some p else d.ins x)) (hO : Only (fun i => i = b ∨ i = d.mb) w w')
    (hW : Lk.Wf { e with oth := e.oth ++ [⟨nextOth e, e.win, 0, true, false⟩] }) :
    Live w' b { e with oth := e.oth ++ [⟨nextOth e, e.win, 0, true, false⟩] } { d with mn := d.mn + 1, ins := fun x => if x = (nextOth e : Int) then some p else d.ins x } ∧ (∀ i, foot b { d with mn := d.mn + 1, ins := fun x => if x = (nextOth e : Int) then some p else d.ins x } i → foot b d i ∨ w.heap.size ≤ i) ∧ Only (foot b d) w w' := by
  have hs := h.sepRow
  have hmb : ∀ (v : Value) (n : Nat) (T : TypeId) (k : Nat) (xs : List Value), w.ownsRow 0 T k v n xs → v.ownBlock ≠ some d.mb := fun v n T k xs ho => h.map.ne_own ho
  have hold : ∀ k q, d.ins k = some q → q < w.heap.size := fun k q hq => h.lt q (.inr (.inr (.inr (.inr (.inr (.inr (.inr ⟨k, hq⟩)))))))
  have hidne : ∀ (i : Nat) (o : Lk.Ot), e.oth[i]? = some o → o.id ≠ nextOth e := fun i o ho hx => by
    have h1 := (h.wf.oth i o ho).id
    have h2 := (List.getElem?_eq_some_iff.1 ho).1
    unfold nextOth at hx
    have := h.wf.side
    omega
  have hf : ∀ i, foot b { d with mn := d.mn + 1, ins := fun x => if x = (nextOth e : Int) then some p else d.ins x } i → foot b d i ∨ w.heap.size ≤ i := by
    intro i hi
    rcases hi with hi | hi | hi | hi | hi | hi | hi | ⟨k, hi⟩
    · exact .inl (.inl hi)
    · exact .inl (.inr (.inl hi))
    · exact .inl (.inr (.inr (.inl hi)))
    · exact .inl (.inr (.inr (.inr (.inl hi))))
    · exact .inl (.inr (.inr (.inr (.inr (.inl hi)))))
    · exact .inl (.inr (.inr (.inr (.inr (.inr (.inl hi))))))
    · exact .inl (.inr (.inr (.inr (.inr (.inr (.inr (.inl hi)))))))
    · simp only at hi
      split at hi
      · simp at hi; subst hi; exact .inr hp
      · exact .inl (.inr (.inr (.inr (.inr (.inr (.inr (.inr ⟨k, hi⟩)))))))
  have hno : ∀ x, (x = b ∨ x = d.mb) → x ≠ b → x ≠ d.mb → False := fun x hx h1 h2 => by
    rcases hx with hx | hx
    · exact h1 hx
    · exact h2 hx
  have hrw : Rw w' b (ecOf { e with oth := e.oth ++ [⟨nextOth e, e.win, 0, true, false⟩] } { d with mn := d.mn + 1, ins := fun x => if x = (nextOth e : Int) then some p else d.ins x }) d.fs := by
    have : ({ ecOf e d with inext := (nextOth e : Int) + 2 } : EC) = ecOf { e with oth := e.oth ++ [⟨nextOth e, e.win, 0, true, false⟩] } { d with mn := d.mn + 1, ins := fun x => if x = (nextOth e : Int) then some p else d.ins x } := by
      have := h.wf.side
      simp [ecOf, nextOth, Lk.En.nextId]
      omega
    rw [← this]
    exact hR
  refine ⟨⟨hrw, h.rowe, h.good, ?_, ?_, ?_, ?_, h.psn, h.ps4, hM, by show d.mn + 1 ≤ (e.oth ++ [_]).length; have := h.mn; simp; omega, ?_, ?_, ?_, hW, fun i hi => ?_⟩, hf, hO.mono (fun i hi => ?_)⟩
  · exact own_only h.out hO (fun i hi hx => hno i hx (fun e => (hs i (.inl e)).1 hi) (fun e => hmb _ _ _ _ _ h.out (e ▸ hi)))
  · exact own_only h.inn hO (fun i hi hx => hno i hx (fun e => (hs i (.inl e)).2.1 hi) (fun e => hmb _ _ _ _ _ h.inn (e ▸ hi)))
  · exact own_only h.sl hO (fun i hi hx => hno i hx (fun e => (hs i (.inl e)).2.2.1 hi) (fun e => hmb _ _ _ _ _ h.sl (e ▸ hi)))
  · refine h.outs.only hO (fun q hq hx => hno q hx (fun e => (hs q (.inl e)).2.2.2.1 hq) (fun e => ?_))
    obtain ⟨_, hy⟩ := h.outs.mem hq
    exact h.map.ne hy e.symm
  · intro i o ho
    by_cases hi : i < e.oth.length
    · have ho' : e.oth[i]? = some o := by rw [← ho]; exact (List.getElem?_append_left hi).symm
      have hne := hidne i o ho'
      have hx : OthIs w (fun x => if x = (nextOth e : Int) then some p else d.ins x) o := by
        have := h.oths i o ho'
        unfold OthIs at this ⊢
        simp only
        rw [if_neg (by omega)]
        exact this
      refine hx.only hO (fun q hq hy => ?_)
      rw [if_neg (by omega)] at hq
      refine hno q hy (fun e => (hs q (.inl e)).2.2.2.2.2 _ hq) (fun e => ?_)
      obtain ⟨_, _, _, _, _, _, hz, _⟩ := h.inAt hq
      exact h.map.ne hz e.symm
    · have hi2 : i = e.oth.length := by
        have := (List.getElem?_eq_some_iff.1 ho).1
        simp at this
        omega
      subst hi2
      have ho' : (⟨nextOth e, e.win, 0, true, false⟩ : Lk.Ot) = o := by
        have := (List.getElem?_append_right (l₁ := e.oth) (l₂ := [⟨nextOth e, e.win, 0, true, false⟩]) (i := e.oth.length) (Nat.le_refl _)).symm.trans ho
        simpa using this
      subst ho'
      unfold OthIs
      simp only [if_true]
      exact ⟨by simp, (e.win : Int), false, by simpa using hI, fun _ => ⟨rfl, rfl⟩⟩
  · intro k hk
    have hk0 : (nextOth e : Int) ≠ k := hk e.oth.length ⟨nextOth e, e.win, 0, true, false⟩ (by simp)
    show (if k = (nextOth e : Int) then some p else d.ins k) = Option.none
    rw [if_neg (fun e => hk0 e.symm)]
    refine h.none k (fun i o ho => hk i o ?_)
    have := (List.getElem?_eq_some_iff.1 ho).1
    rw [List.getElem?_append_left this]
    exact ho
  · intro k k' q hk hk'
    simp only at hk hk'
    split at hk <;> split at hk'
    · omega
    · simp at hk; subst hk; have := hold k' _ hk'; omega
    · simp at hk'; subst hk'; have := hold k _ hk; omega
    · exact h.inj k k' q hk hk'
  · rcases hf i hi with h' | h'
    · exact h.pos i h'
    · have := h.pos b (.inl rfl)
      have := h.rw.lt
      omega
  · rcases hi with hi | hi
    · exact .inl hi
    · exact .inr (.inr (.inr (.inr (.inr (.inr (.inl hi))))))
end Go.Proofs.YtbkpdapagfjmmaaGreatDoor

namespace Go.Proofs.YtbkpdapagfjmmaaGreatDoor
open Go.RowKit
theorem gotHead_stream (b g B : Nat) (e : Lk.En) (d : PD) (v : Value) (evs : List EvH) (f : Lk.Fr) (w : World) (h : FS w b e d g B v evs) (hst : f.st ≠ nextOth e) :
    Calls Tryz.prog 90 #[.pointer (some ⟨b, 0, none⟩), frA f, tellV g] w fun r w' => r = .returned (.int .i64 4) ∧ GPost w b d g B v evs e [] w' := by
  have hb0 := frame_new w f
  have h0 := h.below hb0
  have hbl := h.live.rw.lt
  have c15 : w.cell? ⟨b, 15, none⟩ = some (.int .i64 (nextOth e : Int)) := h.live.rw.blk.cell 15
  have hne : ((f.st : Int) != (nextOth e : Int)) = true := by rw [bne_iff_ne]; omega
  have HH := hide h0
  have HB := hide hb0
  clear h h0 hb0 hst
  unfold tellV
  go_enter Tryz.func90, Tryz.ntmps90
  go_wp2_with fail
  go_quiet (fail)
  go_wp2_with fail
  go_ret
  exact ⟨rfl, GPost.before (uh HB) (GPost.same_below (uh HH) (Below.drewN (Below.refl _ _) _))⟩
theorem gotHead_block (b g B ec q : Nat) (e : Lk.En) (d : PD) (v : Value) (evs : List EvH) (f : Lk.Fr) (w : World) (h : FS w b e d g B v evs) (hst : f.st = nextOth e) (hd64 : f.d.length ≤ 64) (hX : Lk.exR 100 f.d 6 e.inn 0 = .err ec q) :
    Calls Tryz.prog 90 #[.pointer (some ⟨b, 0, none⟩), frA f, tellV g] w fun r w' => r = .returned (.int .i64 9) ∧ GPost w b d g B v evs e [] w' := by
  have hb0 := frame_new w f
  have h0 := h.below hb0
  have hbl := h.live.rw.lt
  have c15 : w.cell? ⟨b, 15, none⟩ = some (.int .i64 (nextOth e : Int)) := h.live.rw.blk.cell 15
  have hne : ((f.st : Int) != (nextOth e : Int)) = false := by rw [bne_eq_false_iff_eq]; omega
  have hec : ((ec : Int) != 0) = true := by
    rw [bne_iff_ne]
    rcases Lk.exR_err _ _ _ _ _ _ _ hX with rfl | rfl <;> decide
  have hl : (bs f.d).data.toList = f.d := by simp [bs]
  have HE := hide (fun n => expand_at b 11 100 101 (ecOf e d).cells e.inn d.iv (bs f.d) ((w.alloc (.cells #[.int .i64 (f.k : Int), .int .i64 (f.st : Int), .string (bs f.d)] 79)).drewN n) (by rw [bs_size]; omega) (h0.drewN n).live.rw.blk (nbq rfl) rfl rfl rfl (h0.drewN n).live.inn h0.live.wf.inn (by omega) (h0.drewN n).fx (.err ec q) (by rw [hl]; exact hX))
  have HH := hide h0
  have HB := hide hb0
  clear h h0 hb0 hst hX hl
  unfold tellV
  go_enter Tryz.func90, Tryz.ntmps90
  go_wp2_with fail
  go_quiet (fail)
  go_wp2_with fail
  go_region_with (first | (go_at_call 62; refine (uh HE (nq + 1)).mono ?_; rintro r w1 ⟨rfl, hb1⟩))
  all_goals
    go_wp2_with fail
    go_ret
    refine ⟨rfl, GPost.before (uh HB) ?_⟩
    have hx := GPost.same_below ((uh HH).drewN (nq + 1)) hb1
    exact GPost.before (Below.drewN (Below.refl _ _) (nq + 1)) hx
end Go.Proofs.YtbkpdapagfjmmaaGreatDoor

namespace Go.Proofs.YtbkpdapagfjmmaaGreatDoor
open Go.RowKit
theorem Wf_began {e : Lk.En} (h : Lk.Wf e) {L : List Lk.Hd} (hle : Lk.weights L ≤ 100) (h28 : nextOth e ≤ 268435455) : Lk.Wf { e with inn := L, oth := e.oth ++ [⟨nextOth e, e.win, 0, true, false⟩] } := by
  refine ⟨h.side, h.win1, h.win2, h.out, hle, fun i o ho => by obtain ⟨a, b, c, d⟩ := h.own i o ho; exact ⟨a, b, c, d⟩, fun i o ho => ?_, h.all, ?_, h.row, h.rest⟩
  · by_cases hi : i < e.oth.length
    · have ho' : e.oth[i]? = some o := by rw [← ho]; exact (List.getElem?_append_left hi).symm
      obtain ⟨a, b, c, d, f⟩ := h.oth i o ho'
      exact ⟨a, b, c, d, f⟩
    · have hi2 : i = e.oth.length := by
        have := (List.getElem?_eq_some_iff.1 ho).1
        simp at this
        omega
      subst hi2
      have ho' : (⟨nextOth e, e.win, 0, true, false⟩ : Lk.Ot) = o := by
        have := (List.getElem?_append_right (l₁ := e.oth) (l₂ := [⟨nextOth e, e.win, 0, true, false⟩]) (i := e.oth.length) (Nat.le_refl _)).symm.trans ho
        simpa using this
      subst ho'
      exact ⟨rfl, h28, Nat.le_refl _, fun _ => rfl, fun hx => by cases hx⟩
  · show e.room + Lk.heldSum (e.oth ++ [_]) = 2 * e.win
    rw [Lk.heldSum_append]
    have := h.room
    simp [Lk.heldSum] at this ⊢
    omega
theorem expanded_fs {w w1 : World} {b g B : Nat} {e : Lk.En} {d : PD} {v lv v' : Value} {evs : List EvH} {hs L : List Lk.Hd} (h : FS w b e d g B v evs) (ho : w1.ownsRow w.heap.size 112 2 lv hs.length (hdsV hs)) (hI : Is w1 b 101 ((((ecOf e d).cells.set 11 weighV).set 12 (.int .i64 (((100 : Nat) : Int) - Lk.weights L))).set 13 v')) (hv : w1.ownsRow 0 112 2 v' L.length (hdsV L)) (hN : NewOr w.heap.size d.iv v') (hle : Lk.weights L ≤ 100) (hdis : lv.ownBlock = none ∨ lv.ownBlock ≠ v'.ownBlock) (hT : Turns b w w1) :
    FS w1 b { e with inn := L } { d with iv := v' } g B v evs ∧ w1.ownsRow B 112 2 lv hs.length (hdsV hs) ∧ (∀ i, lv.ownBlock = some i → w.heap.size ≤ i ∧ ¬ foot b { d with iv := v' } i ∧ ¬ toldFoot g v evs i) ∧ (∀ i, foot b { d with iv := v' } i → foot b d i ∨ w.heap.size ≤ i) ∧ Only (foot b d) w w1 := by
  obtain ⟨hL1, hf1, hO1⟩ := h.live.tabOp hI hT hv hN hle
  have hnew : ∀ i, lv.ownBlock = some i → w.heap.size ≤ i := fun i hi => (ho.lt i hi).1
  refine ⟨⟨hL1, h.told.only hO1 h.sep, fun i hi hf => ?_, h.fx.only hO1 (fun h0 => by have := h.live.pos 0 h0; omega), Nat.le_trans h.hB hO1.size, h.B0, h.gB⟩, own_base h.hB ho, fun i hi => ⟨hnew i hi, fun hf => ?_, fun ht => ?_⟩, hf1, hO1⟩
  · rcases hf1 i hf with h' | h'
    · exact h.sep i hi h'
    · have := h.told.lt i hi; omega
  · have hge := hnew i hi
    have hold : ∀ x, foot b d x → x < w.heap.size := h.live.lt
    rcases hf with hf | hf | hf | hf | hf | hf | hf | ⟨k, hf⟩
    · have := hold i (.inl hf); omega
    · have := hold i (.inr (.inl hf)); omega
    · rcases hdis with h' | h'
      · rw [h'] at hi; cases hi
      · exact h' (hi.trans (show v'.ownBlock = some i from hf).symm)
    · have := hold i (.inr (.inr (.inr (.inl hf)))); omega
    · have := hold i (.inr (.inr (.inr (.inr (.inl hf))))); omega
    · have := hold i (.inr (.inr (.inr (.inr (.inr (.inl hf)))))); omega
    · have := hold i (.inr (.inr (.inr (.inr (.inr (.inr (.inl hf))))))); omega
    · have := hold i (.inr (.inr (.inr (.inr (.inr (.inr (.inr ⟨k, hf⟩))))))); omega
  · have := h.told.lt i ht
    have := hnew i hi
    omega
theorem began_fs {w w1 : World} {b g B : Nat} {e e1 : Lk.En} {d d1 : PD} {v : Value} {evs : List EvH} (h : FS w b e d g B v evs) (h1 : Live w1 b e1 d1) (h2 : ∀ i, foot b d1 i → foot b d i ∨ w.heap.size ≤ i) (h3 : Only (foot b d) w w1) : FS w1 b e1 d1 g B v evs := by
  refine ⟨h1, h.told.only h3 h.sep, fun i hi hf => ?_, h.fx.only h3 (fun h0 => by have := h.live.pos 0 h0; omega), Nat.le_trans h.hB h3.size, h.B0, h.gB⟩
  rcases h2 i hf with h' | h'
  · exact h.sep i hi h'
  · have := h.told.lt i hi; omega
theorem cut_at (b i p : Nat) (e : Lk.En) (d : PD) (o : Lk.Ot) (st : Nat) (hst : o.id = st) (w : World) (hL : Live w b e d) (ho : e.oth[i]? = some o) (hop : o.opn = true) (hp : d.ins o.id = some p) (hW : Lk.Wf (e.cutE i o 0)) :
    Calls Tryz.prog 119 #[.pointer (some ⟨b, 0, none⟩), .int .i64 (st : Int), .pointer (some ⟨p, 0, none⟩), .int .i64 0] w fun r w' => r = .returned (.tuple #[]) ∧ LPost w b d (e.cutE i o 0) w' := by
  subst hst
  exact cut_live b i p 0 e d o w hL ho hop hp (by omega) hW
theorem gotHead_ok (b g B : Nat) (e : Lk.En) (d : PD) (v : Value) (evs : List EvH) (f : Lk.Fr) (hs L : List Lk.Hd) (w : World) (h : FS w b e d g B v evs) (hl : evs.length ≤ 2 ^ 40) (hst : f.st = nextOth e) (hst2 : f.st ≤ 268435455) (hd64 : f.d.length ≤ 64) (hX : Lk.exR 100 f.d 6 e.inn 0 = .ok hs L) (EV : List Lk.Ev) (EE : Lk.En)
    (hEE : (if e.byeS then ([], ({ e with inn := L, oth := e.oth ++ [⟨nextOth e, e.win, 0, true, false⟩] } : Lk.En).cutE e.oth.length ⟨nextOth e, e.win, 0, true, false⟩ 0) else ([⟨1, f.st, 0, hs, []⟩], { e with inn := L, oth := e.oth ++ [⟨nextOth e, e.win, 0, true, false⟩] })) = (EV, EE)) (hWE : Lk.Wf EE) :
    Calls Tryz.prog 90 #[.pointer (some ⟨b, 0, none⟩), frA f, tellV g] w fun r w' => r = .returned (.int .i64 0) ∧ GPost w b d g B v evs EE EV w' := by
  have hb0 := frame_new w f
  have h0 := h.below hb0
  have hbl := h.live.rw.lt
  have hnew := h.new
  have c15 : w.cell? ⟨b, 15, none⟩ = some (.int .i64 (nextOth e : Int)) := h.live.rw.blk.cell 15
  have hne : ((f.st : Int) != (nextOth e : Int)) = false := by rw [bne_eq_false_iff_eq]; omega
  have hl2 : (bs f.d).data.toList = f.d := by simp [bs]
  have HFR := hide (Is.new w 79 [.int .i64 (f.k : Int), .int .i64 (f.st : Int), .string (bs f.d)])
  have HE := hide (fun n => expand_at b 11 100 101 (ecOf e d).cells e.inn d.iv (bs f.d) ((w.alloc (.cells #[.int .i64 (f.k : Int), .int .i64 (f.st : Int), .string (bs f.d)] 79)).drewN n) (by rw [bs_size]; omega) (h0.drewN n).live.rw.blk (nbq rfl) rfl rfl rfl (h0.drewN n).live.inn h0.live.wf.inn (by omega) (h0.drewN n).fx (.ok hs L) (by rw [hl2]; exact hX))
  have HH := hide h0
  have HB := hide hb0
  have HEE := hide hEE
  have HWE := hide hWE
  have HST := hide hst
  have hno := nextOth_le h.live.wf
  have hsd := h.live.wf.side
  clear h h0 hb0 hX hl2 hEE hWE hst
  unfold tellV
  go_enter Tryz.func90, Tryz.ntmps90
  go_wp2_with fail
  go_quiet (fail)
  go_wp2_with fail
  go_cut [7, 8] (fun u7 u8 wc => u8 = .int .i64 0 ∧ ∃ d1, FS wc b { e with inn := L } d1 g B v evs ∧ wc.ownsRow B 112 2 u7 hs.length (hdsV hs) ∧ (∀ i, u7.ownBlock = some i → w.heap.size ≤ i ∧ ¬ foot b d1 i ∧ ¬ toldFoot g v evs i) ∧ (∀ i, foot b d1 i → foot b d i ∨ w.heap.size ≤ i) ∧ Only (fun j => foot b d j ∨ toldFoot g v evs j) w wc ∧ ¬ foot b d1 w.heap.size ∧ Is wc w.heap.size 79 [.int .i64 (f.k : Int), .int .i64 (f.st : Int), .string (bs f.d)] ∧ Lk.weights L ≤ 100)
  case first =>
    go_region_with (first | (go_at_call 62; refine (uh HE (nq + 1)).mono ?_; rintro r w1 ⟨⟨lv, v', rfl, ho1, hI1, hv1, hN1, hle1, hdis1, hl61⟩, hT1⟩))
    all_goals
      go_wp2_with fail
      go_meet
      obtain ⟨a1, a2, a3, a4, a5⟩ := expanded_fs ((uh HH).drewN (nq + 1)) ho1 hI1 hv1 hN1 hle1 hdis1 hT1
      have hsz := (uh HB).size
      have hff : ¬ foot b { d with iv := v' } w.heap.size := fun hx => by
        rcases a4 _ hx with h' | h'
        · exact hnew (.inl h')
        · have h'' : w.heap.size + 1 ≤ w.heap.size := by simpa using h'
          omega
      refine ⟨rfl, _, a1, a2, fun i hi => ⟨Nat.le_trans hsz (a3 i hi).1, (a3 i hi).2⟩, fun i hi => (a4 i hi).imp id (Nat.le_trans hsz), ((Only.of_below (uh HB) _).drewN (nq + 1)).trans a5 (fun j hj _ => .inl hj), hff, ((uh HFR).drewN (nq + 1)).only a5 (fun hx => hnew (.inl hx)), hle1⟩
  case rest =>
    obtain ⟨rfl, d1, hF1, hou, hud, hf1, hO1, hff1, hFr1, hle⟩ := hcut
    obtain ⟨sa, sm, sc, rfl, hsm⟩ := own_slice hou
    have hbl1 := hF1.live.rw.lt
    have hmn : d1.mn ≤ 268435457 := by have h1 : d1.mn ≤ e.oth.length := hF1.live.mn; unfold nextOth at hno; omega
    have HBI := hide (beginIn_raw b d1.mb d1.mn (nextOth e) d1.ins (ecOf { e with inn := L } d1) d1.fs wc hF1.live.rw rfl rfl (by omega) hF1.live.map hmn)
    have hfl1 := hFr1.lt
    have HF1 := hide (⟨hF1, hou, hud, hf1, hO1, hff1, hFr1, hle⟩ : _ ∧ _ ∧ _ ∧ _ ∧ _ ∧ _ ∧ _ ∧ _)
    clear hF1 hou hud hf1 hO1 hff1 hFr1 hle hsm hmn
    go_wp2_with fail
    refine (uh HBI).mono ?_
    rintro r w2 ⟨rfl, hI2, hR2, hM2, hO2⟩
    obtain ⟨hF1, hou, hud, hf1, hO1, hff1, hFr1, hle⟩ := uh HF1
    have h28 : nextOth e ≤ 268435455 := by rw [← uh HST]; exact hst2
    have hWb : Lk.Wf { e with inn := L, oth := e.oth ++ [⟨nextOth e, e.win, 0, true, false⟩] } := Wf_began (uh HH).live.wf hle h28
    obtain ⟨hL2, hf2, hO2'⟩ := hF1.live.headOp (p := wc.heap.size) (Nat.le_refl _) hI2 hR2 hM2 hO2 hWb
    have hF2 : FS w2 b { e with inn := L, oth := e.oth ++ [⟨nextOth e, e.win, 0, true, false⟩] } { d1 with mn := d1.mn + 1, ins := fun x => if x = (nextOth e : Int) then some wc.heap.size else d1.ins x } g B v evs := began_fs hF1 hL2 hf2 hO2'
    have hf2 : ∀ i, foot b { d1 with mn := d1.mn + 1, ins := fun x => if x = (nextOth e : Int) then some wc.heap.size else d1.ins x } i → foot b d1 i ∨ wc.heap.size ≤ i := hf2
    have hFr2 := hFr1.only hO2' hff1
    have hfl2 := hFr2.lt
    have hbl2 := hF2.live.rw.lt
    have k1 := hFr2.cell 1
    simp only [List.getElem?_cons_zero, List.getElem?_cons_succ] at k1
    have hE := uh HEE
    by_cases hby : e.byeS = true
    · have c20 : w2.cell? ⟨b, 20, none⟩ = some (.bool true) := by have := hF2.live.rw.blk.cell 20; rw [← hby]; exact this
      rw [if_pos hby] at hE
      obtain ⟨hE1, hE2⟩ := Prod.mk.inj hE
      have HE1 := hide hE1
      have HE2 := hide hE2
      have HC := hide (cut_at b e.oth.length wc.heap.size _ _ ⟨nextOth e, e.win, 0, true, false⟩ f.st (by rw [uh HST]) w2 hF2.live (by simp) rfl (by simp) (by rw [hE2]; exact uh HWE))
      have HF2 := hide (⟨hF2, hf2, hO2'⟩ : _ ∧ _ ∧ _)
      clear hF1 hou hud hf1 hO1 hff1 hFr1 hle hF2 hf2 hO2' hFr2 hE hE1 hE2 hI2 hR2 hM2 hO2 hL2 hWb hby
      go_wp2_with fail
      refine (uh HC).mono ?_
      rintro r w3 ⟨rfl, hLP⟩
      go_wp2_with fail
      go_ret
      obtain ⟨hF1, hou, hud, hf1, hO1, hff1, hFr1, hle⟩ := uh HF1
      obtain ⟨hF2, hf2, hO2'⟩ := uh HF2
      refine ⟨rfl, ?_⟩
      rw [← uh HE1, ← uh HE2]
      exact GPost.of hF1 hf1 hO1 (GPost.of hF2 hf2 (hO2'.mono (fun i hi => .inl hi)) (hF2.ofL hLP))
    · have hby' : e.byeS = false := by simpa using hby
      have c20 : w2.cell? ⟨b, 20, none⟩ = some (.bool false) := by have := hF2.live.rw.blk.cell 20; rw [← hby']; exact this
      rw [if_neg hby] at hE
      obtain ⟨hE1, hE2⟩ := Prod.mk.inj hE
      have HE1 := hide hE1
      have HE2 := hide hE2
      have hou2 := own_only hou hO2' (fun i hi hx => (hud i hi).2.1 hx)
      have HT := hide (tell_fs b g B _ _ v evs ⟨1, f.st, 0, hs, []⟩ (.slice sa sm sc) w2 hF2 hl hou2 (fun i hi => ⟨fun hx => by
        rcases hf2 i hx with h' | h'
        · exact (hud i hi).2.1 h'
        · have := (hou.lt i hi).2; omega, (hud i hi).2.2⟩) w.heap.size (Nat.le_trans hO1.size hO2'.size) (fun i hi => (hud i hi).1))
      unfold evA at HT
      have e0 : bs [] = ⟨#[]⟩ := rfl
      have e1 : ((1 : Nat) : Int) = 1 := rfl
      have e2 : ((0 : Nat) : Int) = 0 := rfl
      simp only [e0, e1, e2] at HT
      have HF2 := hide (⟨hF2, hf2, hO2'⟩ : _ ∧ _ ∧ _)
      clear hF1 hou hud hf1 hO1 hff1 hFr1 hle hF2 hf2 hO2' hFr2 hE hE1 hE2 hI2 hR2 hM2 hO2 hL2 hWb hby hby' hou2 e0 e1 e2
      go_wp2_with fail
      refine (uh HT).mono ?_
      rintro r w3 ⟨rfl, v3, hF3, ht3, hO3⟩
      go_wp2_with fail
      go_ret
      obtain ⟨hF1, hou, hud, hf1, hO1, hff1, hFr1, hle⟩ := uh HF1
      obtain ⟨hF2, hf2, hO2'⟩ := uh HF2
      refine ⟨rfl, ?_⟩
      rw [← uh HE1, ← uh HE2]
      have hfw : ∀ i, foot b { d1 with mn := d1.mn + 1, ins := fun x => if x = (nextOth e : Int) then some wc.heap.size else d1.ins x } i → foot b d i ∨ w.heap.size ≤ i := fun i hi => by
        rcases hf2 i hi with h' | h'
        · exact hf1 i h'
        · exact .inr (Nat.le_trans hO1.size h')
      have hOw : Only (fun j => foot b d j ∨ toldFoot g v evs j) w w2 := hO1.trans hO2' (fun i hi hlt => (hf1 i hi).elim .inl (fun h' => absurd hlt (by omega)))
      exact ⟨_, v3, [(⟨1, f.st, 0, hs, []⟩, .slice sa sm sc)], rfl, hF3, hfw, ht3, hOw.trans hO3 (fun i hi hlt => by
        rcases hi with hi | hi
        · exact (hfw i hi).elim .inl (fun h' => absurd hlt (by omega))
        · exact .inr hi)⟩
end Go.Proofs.YtbkpdapagfjmmaaGreatDoor
