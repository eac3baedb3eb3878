import Derived.Test.YtbkpdapagfjmmaaGreatDoorMV4V5
import Derived.Test.YtbkpdapagfjmmaaGreatDoorMFAO1
/-
  Walks: Expand.
-/
namespace Go.Proofs.YtbkpdapagfjmmaaGreatDoor
open Go.RowKit

def XPost (w : World) (t B : Nat) (X : Lk.XR) (e : Ending) (w' : World) : Prop :=
  match X with
  | .ok hs L2 => (∃ lv v', e = .returned (.tuple #[lv, .int .i64 0, .int .i64 0]) ∧ w'.ownsRow w.heap.size 112 2 lv hs.length (hdsV hs) ∧ Tab w' t B L2 v' ∧ (lv.ownBlock = none ∨ lv.ownBlock ≠ v'.ownBlock) ∧ hs.length ≤ 6) ∧ Turns t w w'
  | .err ec q => e = .returned (.tuple #[.slice none 0 0, .int .i64 (ec : Int), .int .i64 (q : Int)]) ∧ Below w.heap.size w w'

namespace Lk
theorem exR_err (B : Nat) (s : Bs) : ∀ (n : Nat) (L : List Hd) (p e q : Nat), exR B s n L p = .err e q → e = 8 ∨ e = 9
  | 0, L, p, e, q, h => by
    rw [exR] at h
    split at h
    · cases h
    · cases h; exact .inl rfl
  | n + 1, L, p, e, q, h => by
    rw [exR] at h
    split at h
    · cases h
    · cases hp : partR B L s p with
      | bad q' => rw [hp] at h; cases h; exact .inr rfl
      | ok hl q' =>
        rw [hp] at h
        simp only at h
        cases hx : exR B s n hl.2 q' with
        | ok a b => rw [hx] at h; cases h
        | err e' q2 =>
          rw [hx] at h
          cases h
          exact exR_err B s n hl.2 q' _ _ hx
end Lk

set_option maxHeartbeats 1000000 in
set_option maxRecDepth 100000 in
theorem expand_any (t B : Nat) (L : List Lk.Hd) (v : Value) (s : ByteArray) (w : World) (hs : s.size ≤ 2 ^ 48) (hT : Tab w t B L v) (hfx : Fx w) (X : Lk.XR) (HX : Hid (Lk.exR B s.data.toList 6 L 0 = X)) :
    Calls Tryz.prog 62 #[.pointer (some ⟨t, 0, none⟩), .string s] w (XPost w t B X) := by
  obtain ⟨va, vcap, hv⟩ := own_form hT.own
  generalize hvn : L.length = vn at hv
  subst hv
  have h0 := hfx.1
  have HVN := hide hvn
  clear hvn
  have hI0 := Is.new w 208 [.string s, .int .i64 0, weighV, .int .i64 ((B : Int) - Lk.weights L), .slice va vn vcap]
  have hb0 := (Below.refl w.heap.size w).alloc (Nat.le_refl _) (.cells #[.string s, .int .i64 0, weighV, .int .i64 ((B : Int) - Lk.weights L), .slice va vn vcap] 208)
  have hK0 : Blk (w.alloc (.cells #[.string s, .int .i64 0, weighV, .int .i64 ((B : Int) - Lk.weights L), .slice va vn vcap] 208)) w.heap.size s 0 B L (.slice va vn vcap) :=
    ⟨hI0, hT.own.alloc _, hT.le, hT.hB, hfx.below hb0 h0, by omega⟩
  have HC := hide (bheaders_any w.heap.size s 0 B L (.slice va vn vcap) _ hs (Nat.zero_le _) hK0 X HX)
  have c0 := hT.blk.cell 0
  have c1 := hT.blk.cell 1
  have c2 := hT.blk.cell 2
  simp only [List.getElem?_cons_zero, List.getElem?_cons_succ] at c0 c1 c2
  have htl := hT.blk.lt
  have HT := hide hT
  have HB0 := hide hb0
  clear hI0 hK0 hT hb0
  go_enter Tryz.func62, Tryz.ntmps62
  go_wp2_with fail
  refine (unhide HC).mono ?_
  rintro e w1 ⟨hm, hT1⟩
  have hbel : Below w.heap.size w w1 := Turns.toBelow (unhide HB0) hT1 (Nat.le_refl _) (by simp)
  cases X with
  | err ec q =>
    obtain ⟨rfl, L', v', hK1⟩ := hm
    have hec : ((ec : Int) != 0) = true := by
      rw [bne_iff_ne]
      rcases Lk.exR_err _ _ _ _ _ _ _ (unhide HX) with rfl | rfl <;> decide
    have d1 := hK1.blk.cell 1
    simp only [List.getElem?_cons_zero, List.getElem?_cons_succ] at d1
    clear hK1
    go_wp2_with fail
    go_quiet (fail)
    go_wp2_with fail
    go_ret3
    exact ⟨rfl, Below.drewN hbel _⟩
  | ok hl L2 =>
    obtain ⟨lv, q, v', rfl, ho1, ⟨hK1, _⟩, hdis, hl6⟩ := hm
    obtain ⟨wa, wcap, hv'⟩ := own_form hK1.own
    generalize hwn : L2.length = wn at hv'
    subst hv'
    clear hwn
    have hTab1 := (unhide HT).below hbel
    have hne : t ≠ w.heap.size := by omega
    have d2 := hK1.blk.cell 2
    have d3 := hK1.blk.cell 3
    have d4 := hK1.blk.cell 4
    have e0 := hTab1.blk.cell 0
    have e1 := hTab1.blk.cell 1
    have e2 := hTab1.blk.cell 2
    have f0 := hTab1.blk.free 0
    have f1 := hTab1.blk.free 1
    have f2 := hTab1.blk.free 2
    simp only [List.getElem?_cons_zero, List.getElem?_cons_succ] at d2 d3 d4 e0 e1 e2
    have HK1 := hide hK1
    have HTab1 := hide hTab1
    have HO1 := hide ho1
    clear hK1 hTab1 ho1
    go_wp2_with fail
    go_ret3
    have hTT := (((Below.turns hbel t).set 0 weighV).set 1 (.int .i64 ((B : Int) - Lk.weights L2))).set 2 (.slice wa wn wcap)
    have hg : w1.grownBy _ (some t) := (((Turns.refl t w1).set 0 weighV).set 1 (.int .i64 ((B : Int) - Lk.weights L2))).set 2 (.slice wa wn wcap)
    have hob := own_base (B := w.heap.size) (by simp) (unhide HO1)
    refine ⟨⟨lv, _, rfl, own_turns hob (unhide HTab1).blk (Nat.ne_of_beq_eq_false rfl) hg, ⟨?_, own_turns (unhide HK1).own (unhide HTab1).blk (Nat.ne_of_beq_eq_false rfl) hg, (unhide HK1).le, (unhide HK1).hB⟩, hdis, hl6⟩, hTT⟩
    exact (((unhide HTab1).blk.set 0 weighV).set 1 (.int .i64 ((B : Int) - Lk.weights L2))).set 2 (.slice wa wn wcap)
end Go.Proofs.YtbkpdapagfjmmaaGreatDoor

/-
  Walks: Expand, of a table that lies within something.
-/
namespace Go.Proofs.YtbkpdapagfjmmaaGreatDoor
open Go.RowKit

def YPost (w : World) (t o : Nat) (T : TypeId) (cs : List Value) (B : Nat) (v : Value) (X : Lk.XR) (e : Ending) (w' : World) : Prop :=
  match X with
  | .ok hs L2 => (∃ lv v', e = .returned (.tuple #[lv, .int .i64 0, .int .i64 0]) ∧ w'.ownsRow w.heap.size 112 2 lv hs.length (hdsV hs) ∧ Is w' t T (((cs.set o weighV).set (o + 1) (.int .i64 ((B : Int) - Lk.weights L2))).set (o + 2) v') ∧ w'.ownsRow 0 112 2 v' L2.length (hdsV L2) ∧ NewOr w.heap.size v v' ∧ Lk.weights L2 ≤ B ∧ (lv.ownBlock = none ∨ lv.ownBlock ≠ v'.ownBlock) ∧ hs.length ≤ 6) ∧ Turns t w w'
  | .err ec q => e = .returned (.tuple #[.slice none 0 0, .int .i64 (ec : Int), .int .i64 (q : Int)]) ∧ Below w.heap.size w w'

set_option maxHeartbeats 1000000 in
set_option maxRecDepth 100000 in
theorem expand_at (t o B : Nat) (T : TypeId) (cs : List Value) (L : List Lk.Hd) (v : Value) (s : ByteArray) (w : World) (hs : s.size ≤ 2 ^ 48) (hI : Is w t T cs) (hT : T ≠ 112) (k0 : cs[o]? = some weighV) (k1 : cs[o + 1]? = some (.int .i64 ((B : Int) - Lk.weights L))) (k2 : cs[o + 2]? = some v) (own : w.ownsRow 0 112 2 v L.length (hdsV L)) (hle : Lk.weights L ≤ B) (hB : B ≤ 200) (hfx : Fx w) (X : Lk.XR) (HX : Hid (Lk.exR B s.data.toList 6 L 0 = X)) :
    Calls Tryz.prog 62 #[.pointer (some ⟨t, o, none⟩), .string s] w (YPost w t o T cs B v X) := by
  obtain ⟨va, vcap, hv⟩ := own_form own
  generalize hvn : L.length = vn at hv
  subst hv
  have h0 := hfx.1
  have HVN := hide hvn
  clear hvn
  have hI0 := Is.new w 208 [.string s, .int .i64 0, weighV, .int .i64 ((B : Int) - Lk.weights L), .slice va vn vcap]
  have hb0 := (Below.refl w.heap.size w).alloc (Nat.le_refl _) (.cells #[.string s, .int .i64 0, weighV, .int .i64 ((B : Int) - Lk.weights L), .slice va vn vcap] 208)
  have hK0 : Blk (w.alloc (.cells #[.string s, .int .i64 0, weighV, .int .i64 ((B : Int) - Lk.weights L), .slice va vn vcap] 208)) w.heap.size s 0 B L (.slice va vn vcap) :=
    ⟨hI0, own.alloc _, hle, hB, hfx.below hb0 h0, by omega⟩
  have HC := hide (bheaders_any w.heap.size s 0 B L (.slice va vn vcap) _ hs (Nat.zero_le _) hK0 X HX)
  have c0 : w.cell? ⟨t, o, none⟩ = some weighV := by rw [hI.cell]; exact k0
  have c1 : w.cell? ⟨t, o + 1, none⟩ = some (.int .i64 ((B : Int) - Lk.weights L)) := by rw [hI.cell]; exact k1
  have c2 : w.cell? ⟨t, o + 2, none⟩ = some (.slice va vn vcap) := by rw [hI.cell]; exact k2
  have htl := hI.lt
  have HI := hide hI
  have HB0 := hide hb0
  have HKK := hide (⟨k0, k1, k2⟩ : _ ∧ _ ∧ _)
  clear hI0 hK0 hI hb0 own k0 k1 k2
  go_enter Tryz.func62, Tryz.ntmps62
  go_wp2_with fail
  refine (unhide HC).mono ?_
  rintro e w1 ⟨hm, hT1⟩
  have hbel : Below w.heap.size w w1 := Turns.toBelow (unhide HB0) hT1 (Nat.le_refl _) (by simp)
  cases X with
  | err ec q =>
    obtain ⟨rfl, L', v', hK1⟩ := hm
    have hec : ((ec : Int) != 0) = true := by
      rw [bne_iff_ne]
      rcases Lk.exR_err _ _ _ _ _ _ _ (unhide HX) with rfl | rfl <;> decide
    have d1 := hK1.blk.cell 1
    simp only [List.getElem?_cons_zero, List.getElem?_cons_succ] at d1
    clear hK1
    go_wp2_with fail
    go_quiet (fail)
    go_wp2_with fail
    go_ret3
    exact ⟨rfl, Below.drewN hbel _⟩
  | ok hl L2 =>
    obtain ⟨lv, q, v', rfl, ho1, ⟨hK1, hN1⟩, hdis, hl6⟩ := hm
    obtain ⟨wa, wcap, hv'⟩ := own_form hK1.own
    generalize hwn : L2.length = wn at hv'
    subst hv'
    clear hwn
    have hI1 := (unhide HI).below hbel htl
    have hne : t ≠ w.heap.size := by omega
    have d2 := hK1.blk.cell 2
    have d3 := hK1.blk.cell 3
    have d4 := hK1.blk.cell 4
    obtain ⟨k0, k1, k2⟩ := unhide HKK
    have e0 : w1.cell? ⟨t, o, none⟩ = some weighV := by rw [hI1.cell]; exact k0
    have e1 : w1.cell? ⟨t, o + 1, none⟩ = some (.int .i64 ((B : Int) - Lk.weights L)) := by rw [hI1.cell]; exact k1
    have e2 : w1.cell? ⟨t, o + 2, none⟩ = some (.slice va vn vcap) := by rw [hI1.cell]; exact k2
    have f0 := hI1.free o
    have f1 := hI1.free (o + 1)
    have f2 := hI1.free (o + 2)
    have htl1 := hI1.lt
    simp only [List.getElem?_cons_zero, List.getElem?_cons_succ] at d2 d3 d4
    have HK1 := hide hK1
    have HI1 := hide hI1
    have HO1 := hide ho1
    clear hK1 hI1 ho1 k0 k1 k2
    go_wp2_with fail
    go_ret3
    have hTT := (((Below.turns hbel t).set o weighV).set (o + 1) (.int .i64 ((B : Int) - Lk.weights L2))).set (o + 2) (.slice wa wn wcap)
    have hg : w1.grownBy _ (some t) := (((Turns.refl t w1).set o weighV).set (o + 1) (.int .i64 ((B : Int) - Lk.weights L2))).set (o + 2) (.slice wa wn wcap)
    have hob := own_base (B := w.heap.size) (by simp) (unhide HO1)
    refine ⟨⟨lv, _, rfl, own_turns hob (unhide HI1) hT hg, ?_, own_turns (unhide HK1).own (unhide HI1) hT hg, hN1.mono (by simp), (unhide HK1).le, hdis, hl6⟩, hTT⟩
    exact (((unhide HI1).set o weighV).set (o + 1) (.int .i64 ((B : Int) - Lk.weights L2))).set (o + 2) (.slice wa wn wcap)
end Go.Proofs.YtbkpdapagfjmmaaGreatDoor

/-
  Walks: what an end does with a head.
-/
namespace Go.Proofs.YtbkpdapagfjmmaaGreatDoor
open Go.RowKit

/-- The table for receiving has turned. -/
theorem Live.tabOp {w w' : World} {b : Nat} {e : Lk.En} {d : PD} {L : List Lk.Hd} {v' : Value} (h : Live w b e d) (hI : Is w' b 101 ((((ecOf e d).cells.set 11 weighV).set 12 (.int .i64 (((100 : Nat) : Int) - Lk.weights L))).set 13 v')) (hO : Turns b w w') (hv : w'.ownsRow 0 112 2 v' L.length (hdsV L)) (hN : NewOr w.heap.size d.iv v') (hle : Lk.weights L ≤ 100) :
    Live w' b { e with inn := L } { d with iv := v' } ∧ (∀ i, foot b { d with iv := v' } i → foot b d i ∨ w.heap.size ≤ i) ∧ Only (foot b d) w w' := by
  have hOn := Only.of_turns hO
  have hs := h.sepRow
  have hw := h.wf
  have hf : ∀ i, foot b { d with iv := v' } i → foot b d i ∨ w.heap.size ≤ i := by
    intro i hi
    rcases hi with hi | hi | hi | hi | hi | hi | hi | hi
    · exact .inl (.inl hi)
    · exact .inl (.inr (.inl hi))
    · rcases hN with h' | h'
      · exact .inl (.inr (.inr (.inl (by rw [← h']; exact hi))))
      · exact .inr (h' i hi)
    · exact .inl (.inr (.inr (.inr (.inl hi))))
    · exact .inl (.inr (.inr (.inr (.inr (.inl hi)))))
    · exact .inl (.inr (.inr (.inr (.inr (.inr (.inl hi))))))
    · exact .inl (.inr (.inr (.inr (.inr (.inr (.inr (.inl hi)))))))
    · exact .inl (.inr (.inr (.inr (.inr (.inr (.inr (.inr hi)))))))
  refine ⟨⟨h.rw.cell (c' := ecOf { e with inn := L } { d with iv := v' }) hI hOn rfl, h.rowe, h.good, ?_, hv, ?_, ?_, h.psn, h.ps4, ?_, h.mn, ?_, h.none, h.inj, ⟨hw.side, hw.win1, hw.win2, hw.out, hle, fun i o ho => by obtain ⟨a, b, c, d⟩ := hw.own i o ho; exact ⟨a, b, c, d⟩, fun i o ho => by obtain ⟨a, b, c, d, f⟩ := hw.oth i o ho; exact ⟨a, b, c, d, f⟩, hw.all, hw.room, hw.row, hw.rest⟩, fun i hi => ?_⟩, hf, hOn.mono (fun i hi => .inl hi)⟩
  · exact own_only h.out hOn (fun i hi hx => (hs i (.inl hx)).1 hi)
  · exact own_only h.sl hOn (fun i hi hx => (hs i (.inl hx)).2.2.1 hi)
  · exact h.outs.only hOn (fun p hp hx => (hs p (.inl hx)).2.2.2.1 hp)
  · exact h.map.only hOn (fun hx => (hs _ (.inl hx)).2.2.2.2.1 rfl)
  · exact fun i o ho => (h.oths i o ho).only hOn (fun p hp hx => (hs p (.inl hx)).2.2.2.2.2 _ hp)
  · rcases hf i hi with h' | h'
    · exact h.pos i h'
    · have := h.pos b (.inl rfl)
      have := h.rw.lt
      omega

/-- The next stream of the other end begins. -/
theorem Live.headOp {w w' : World} {b p : Nat} {e : Lk.En} {d : PD} (h : Live w b e d) (hp : w.heap.size ≤ p) (hI : Is w' p 227 (inV (e.win : Int) 0 false false)) (hR : Rw w' b { ecOf e d with inext := (nextOth e : Int) + 2 } d.fs) (hM : MapIs Tryz.prog 3 w' d.mb (d.mn + 1) (fun x => if x = (nextOth e : Int) then some p else d.ins x)) (hO : Only (fun i => i = b ∨ i = d.mb) w w')
    (hW : Lk.Wf { e with oth := e.oth ++ [⟨nextOth e, e.win, 0, true, false⟩] }) :
    Live w' b { e with oth := e.oth ++ [⟨nextOth e, e.win, 0, true, false⟩] } { d with mn := d.mn + 1, ins := fun x => if x = (nextOth e : Int) then some p else d.ins x } ∧ (∀ i, foot b { d with mn := d.mn + 1, ins := fun x => if x = (nextOth e : Int) then some p else d.ins x } i → foot b d i ∨ w.heap.size ≤ i) ∧ Only (foot b d) w w' := by
  have hs := h.sepRow
  have hmb : ∀ (v : Value) (n : Nat) (T : TypeId) (k : Nat) (xs : List Value), w.ownsRow 0 T k v n xs → v.ownBlock ≠ some d.mb := fun v n T k xs ho => h.map.ne_own ho
  have hold : ∀ k q, d.ins k = some q → q < w.heap.size := fun k q hq => h.lt q (.inr (.inr (.inr (.inr (.inr (.inr (.inr ⟨k, hq⟩)))))))
  have hidne : ∀ (i : Nat) (o : Lk.Ot), e.oth[i]? = some o → o.id ≠ nextOth e := fun i o ho hx => by
    have h1 := (h.wf.oth i o ho).id
    have h2 := (List.getElem?_eq_some_iff.1 ho).1
    unfold nextOth at hx
    have := h.wf.side
    omega
  have hf : ∀ i, foot b { d with mn := d.mn + 1, ins := fun x => if x = (nextOth e : Int) then some p else d.ins x } i → foot b d i ∨ w.heap.size ≤ i := by
    intro i hi
    rcases hi with hi | hi | hi | hi | hi | hi | hi | ⟨k, hi⟩
    · exact .inl (.inl hi)
    · exact .inl (.inr (.inl hi))
    · exact .inl (.inr (.inr (.inl hi)))
    · exact .inl (.inr (.inr (.inr (.inl hi))))
    · exact .inl (.inr (.inr (.inr (.inr (.inl hi)))))
    · exact .inl (.inr (.inr (.inr (.inr (.inr (.inl hi))))))
    · exact .inl (.inr (.inr (.inr (.inr (.inr (.inr (.inl hi)))))))
    · simp only at hi
      split at hi
      · simp at hi; subst hi; exact .inr hp
      · exact .inl (.inr (.inr (.inr (.inr (.inr (.inr (.inr ⟨k, hi⟩)))))))
  have hno : ∀ x, (x = b ∨ x = d.mb) → x ≠ b → x ≠ d.mb → False := fun x hx h1 h2 => by
    rcases hx with hx | hx
    · exact h1 hx
    · exact h2 hx
  have hrw : Rw w' b (ecOf { e with oth := e.oth ++ [⟨nextOth e, e.win, 0, true, false⟩] } { d with mn := d.mn + 1, ins := fun x => if x = (nextOth e : Int) then some p else d.ins x }) d.fs := by
    have : ({ ecOf e d with inext := (nextOth e : Int) + 2 } : EC) = ecOf { e with oth := e.oth ++ [⟨nextOth e, e.win, 0, true, false⟩] } { d with mn := d.mn + 1, ins := fun x => if x = (nextOth e : Int) then some p else d.ins x } := by
      have := h.wf.side
      simp [ecOf, nextOth, Lk.En.nextId]
      omega
    rw [← this]
    exact hR
  refine ⟨⟨hrw, h.rowe, h.good, ?_, ?_, ?_, ?_, h.psn, h.ps4, hM, by show d.mn + 1 ≤ (e.oth ++ [_]).length; have := h.mn; simp; omega, ?_, ?_, ?_, hW, fun i hi => ?_⟩, hf, hO.mono (fun i hi => ?_)⟩
  · exact own_only h.out hO (fun i hi hx => hno i hx (fun e => (hs i (.inl e)).1 hi) (fun e => hmb _ _ _ _ _ h.out (e ▸ hi)))
  · exact own_only h.inn hO (fun i hi hx => hno i hx (fun e => (hs i (.inl e)).2.1 hi) (fun e => hmb _ _ _ _ _ h.inn (e ▸ hi)))
  · exact own_only h.sl hO (fun i hi hx => hno i hx (fun e => (hs i (.inl e)).2.2.1 hi) (fun e => hmb _ _ _ _ _ h.sl (e ▸ hi)))
  · refine h.outs.only hO (fun q hq hx => hno q hx (fun e => (hs q (.inl e)).2.2.2.1 hq) (fun e => ?_))
    obtain ⟨_, hy⟩ := h.outs.mem hq
    exact h.map.ne hy e.symm
  · intro i o ho
    by_cases hi : i < e.oth.length
    · have ho' : e.oth[i]? = some o := by rw [← ho]; exact (List.getElem?_append_left hi).symm
      have hne := hidne i o ho'
      have hx : OthIs w (fun x => if x = (nextOth e : Int) then some p else d.ins x) o := by
        have := h.oths i o ho'
        unfold OthIs at this ⊢
        simp only
        rw [if_neg (by omega)]
        exact this
      refine hx.only hO (fun q hq hy => ?_)
      rw [if_neg (by omega)] at hq
      refine hno q hy (fun e => (hs q (.inl e)).2.2.2.2.2 _ hq) (fun e => ?_)
      obtain ⟨_, _, _, _, _, _, hz, _⟩ := h.inAt hq
      exact h.map.ne hz e.symm
    · have hi2 : i = e.oth.length := by
        have := (List.getElem?_eq_some_iff.1 ho).1
        simp at this
        omega
      subst hi2
      have ho' : (⟨nextOth e, e.win, 0, true, false⟩ : Lk.Ot) = o := by
        have := (List.getElem?_append_right (l₁ := e.oth) (l₂ := [⟨nextOth e, e.win, 0, true, false⟩]) (i := e.oth.length) (Nat.le_refl _)).symm.trans ho
        simpa using this
      subst ho'
      unfold OthIs
      simp only [if_true]
      exact ⟨by simp, (e.win : Int), false, by simpa using hI, fun _ => ⟨rfl, rfl⟩⟩
  · intro k hk
    have hk0 : (nextOth e : Int) ≠ k := hk e.oth.length ⟨nextOth e, e.win, 0, true, false⟩ (by simp)
    show (if k = (nextOth e : Int) then some p else d.ins k) = Option.none
    rw [if_neg (fun e => hk0 e.symm)]
    refine h.none k (fun i o ho => hk i o ?_)
    have := (List.getElem?_eq_some_iff.1 ho).1
    rw [List.getElem?_append_left this]
    exact ho
  · intro k k' q hk hk'
    simp only at hk hk'
    split at hk <;> split at hk'
    · omega
    · simp at hk; subst hk; have := hold k' _ hk'; omega
    · simp at hk'; subst hk'; have := hold k _ hk; omega
    · exact h.inj k k' q hk hk'
  · rcases hf i hi with h' | h'
    · exact h.pos i h'
    · have := h.pos b (.inl rfl)
      have := h.rw.lt
      omega
  · rcases hi with hi | hi
    · exact .inl hi
    · exact .inr (.inr (.inr (.inr (.inr (.inr (.inl hi))))))
end Go.Proofs.YtbkpdapagfjmmaaGreatDoor

/-
  Walks: what an end does with a head.
-/
namespace Go.Proofs.YtbkpdapagfjmmaaGreatDoor
open Go.RowKit

theorem gotHead_stream (b g B : Nat) (e : Lk.En) (d : PD) (v : Value) (evs : List EvH) (f : Lk.Fr) (w : World) (h : FS w b e d g B v evs) (hst : f.st ≠ nextOth e) :
    Calls Tryz.prog 90 #[.pointer (some ⟨b, 0, none⟩), frA f, tellV g] w fun r w' => r = .returned (.int .i64 4) ∧ GPost w b d g B v evs e [] w' := by
  have hb0 := frame_new w f
  have h0 := h.below hb0
  have hbl := h.live.rw.lt
  have c15 : w.cell? ⟨b, 15, none⟩ = some (.int .i64 (nextOth e : Int)) := h.live.rw.blk.cell 15
  have hne : ((f.st : Int) != (nextOth e : Int)) = true := by rw [bne_iff_ne]; omega
  have HH := hide h0
  have HB := hide hb0
  clear h h0 hb0 hst
  unfold tellV
  go_enter Tryz.func90, Tryz.ntmps90
  go_wp2_with fail
  go_quiet (fail)
  go_wp2_with fail
  go_ret
  exact ⟨rfl, GPost.before (unhide HB) (GPost.same_below (unhide HH) (Below.drewN (Below.refl _ _) _))⟩

set_option maxHeartbeats 2000000 in
set_option maxRecDepth 100000 in
theorem gotHead_block (b g B ec q : Nat) (e : Lk.En) (d : PD) (v : Value) (evs : List EvH) (f : Lk.Fr) (w : World) (h : FS w b e d g B v evs) (hst : f.st = nextOth e) (hd64 : f.d.length ≤ 64) (hX : Lk.exR 100 f.d 6 e.inn 0 = .err ec q) :
    Calls Tryz.prog 90 #[.pointer (some ⟨b, 0, none⟩), frA f, tellV g] w fun r w' => r = .returned (.int .i64 9) ∧ GPost w b d g B v evs e [] w' := by
  have hb0 := frame_new w f
  have h0 := h.below hb0
  have hbl := h.live.rw.lt
  have c15 : w.cell? ⟨b, 15, none⟩ = some (.int .i64 (nextOth e : Int)) := h.live.rw.blk.cell 15
  have hne : ((f.st : Int) != (nextOth e : Int)) = false := by rw [bne_eq_false_iff_eq]; omega
  have hec : ((ec : Int) != 0) = true := by
    rw [bne_iff_ne]
    rcases Lk.exR_err _ _ _ _ _ _ _ hX with rfl | rfl <;> decide
  have hl : (bs f.d).data.toList = f.d := by simp [bs]
  have HE := hide (fun n => expand_at b 11 100 101 (ecOf e d).cells e.inn d.iv (bs f.d) ((w.alloc (.cells #[.int .i64 (f.k : Int), .int .i64 (f.st : Int), .string (bs f.d)] 79)).drewN n) (by rw [bs_size]; omega) (h0.drewN n).live.rw.blk (Nat.ne_of_beq_eq_false rfl) rfl rfl rfl (h0.drewN n).live.inn h0.live.wf.inn (by omega) (h0.drewN n).fx (.err ec q) (by rw [hl]; exact hX))
  have HH := hide h0
  have HB := hide hb0
  clear h h0 hb0 hst hX hl
  unfold tellV
  go_enter Tryz.func90, Tryz.ntmps90
  go_wp2_with fail
  go_quiet (fail)
  go_wp2_with fail
  go_region_with (first | (go_at_call 62; refine (unhide HE (nq + 1)).mono ?_; rintro r w1 ⟨rfl, hb1⟩))
  all_goals
    go_wp2_with fail
    go_ret
    refine ⟨rfl, GPost.before (unhide HB) ?_⟩
    have hx := GPost.same_below ((unhide HH).drewN (nq + 1)) hb1
    exact GPost.before (Below.drewN (Below.refl _ _) (nq + 1)) hx
end Go.Proofs.YtbkpdapagfjmmaaGreatDoor
