import Derived.Test.YtbkpdapagfjmmaaGreatDoorMV5FG
import Derived.Test.YtbkpdapagfjmmaaGreatDoorMFAO1
/-
  Walks: what an end does with a head.
-/
namespace Go.Proofs.YtbkpdapagfjmmaaGreatDoor
open Go.RowKit

theorem gotHead_stream (b g B : Nat) (e : Lk.En) (d : PD) (v : Value) (evs : List EvH) (f : Lk.Fr) (w : World) (h : FS w b e d g B v evs) (hst : f.st ≠ nextOth e) :
    Calls Tryz.prog 90 #[.pointer (some ⟨b, 0, none⟩), frA f, tellV g] w fun r w' => r = .returned (.int .i64 4) ∧ GPost w b d g B v evs e [] w' := by
  have hb0 := frame_new w f
  have h0 := h.below hb0
  have hbl := h.live.rw.lt
  have c15 : w.cell? ⟨b, 15, none⟩ = some (.int .i64 (nextOth e : Int)) := h.live.rw.blk.cell 15
  have hne : ((f.st : Int) != (nextOth e : Int)) = true := by rw [bne_iff_ne]; omega
  have HH := hide h0
  have HB := hide hb0
  clear h h0 hb0 hst
  unfold tellV
  go_enter Tryz.func90, Tryz.ntmps90
  go_wp2_with fail
  go_quiet (fail)
  go_wp2_with fail
  go_ret
  exact ⟨rfl, GPost.before (unhide HB) (GPost.same_below (unhide HH) (Below.drewN (Below.refl _ _) _))⟩

set_option maxHeartbeats 2000000 in
set_option maxRecDepth 100000 in
theorem gotHead_block (b g B ec q : Nat) (e : Lk.En) (d : PD) (v : Value) (evs : List EvH) (f : Lk.Fr) (w : World) (h : FS w b e d g B v evs) (hst : f.st = nextOth e) (hd64 : f.d.length ≤ 64) (hX : Lk.exR 100 f.d 6 e.inn 0 = .err ec q) :
    Calls Tryz.prog 90 #[.pointer (some ⟨b, 0, none⟩), frA f, tellV g] w fun r w' => r = .returned (.int .i64 9) ∧ GPost w b d g B v evs e [] w' := by
  have hb0 := frame_new w f
  have h0 := h.below hb0
  have hbl := h.live.rw.lt
  have c15 : w.cell? ⟨b, 15, none⟩ = some (.int .i64 (nextOth e : Int)) := h.live.rw.blk.cell 15
  have hne : ((f.st : Int) != (nextOth e : Int)) = false := by rw [bne_eq_false_iff_eq]; omega
  have hec : ((ec : Int) != 0) = true := by
    rw [bne_iff_ne]
    rcases Lk.exR_err _ _ _ _ _ _ _ hX with rfl | rfl <;> decide
  have hl : (bs f.d).data.toList = f.d := by simp [bs]
  have HE := hide (fun n => expand_at b 11 100 101 (ecOf e d).cells e.inn d.iv (bs f.d) ((w.alloc (.cells #[.int .i64 (f.k : Int), .int .i64 (f.st : Int), .string (bs f.d)] 79)).drewN n) (by rw [bs_size]; omega) (h0.drewN n).live.rw.blk (Nat.ne_of_beq_eq_false rfl) rfl rfl rfl (h0.drewN n).live.inn h0.live.wf.inn (by omega) (h0.drewN n).fx (.err ec q) (by rw [hl]; exact hX))
  have HH := hide h0
  have HB := hide hb0
  clear h h0 hb0 hst hX hl
  unfold tellV
  go_enter Tryz.func90, Tryz.ntmps90
  go_wp2_with fail
  go_quiet (fail)
  go_wp2_with fail
  go_region_with (first | (go_at_call 62; refine (unhide HE (nq + 1)).mono ?_; rintro r w1 ⟨rfl, hb1⟩))
  all_goals
    go_wp2_with fail
    go_ret
    refine ⟨rfl, GPost.before (unhide HB) ?_⟩
    have hx := GPost.same_below ((unhide HH).drewN (nq + 1)) hb1
    exact GPost.before (Below.drewN (Below.refl _ _) (nq + 1)) hx
end Go.Proofs.YtbkpdapagfjmmaaGreatDoor

/-
  Walks: what an end does with a head: a stream begins.
-/
namespace Go.Proofs.YtbkpdapagfjmmaaGreatDoor
open Go.RowKit

theorem Wf_began {e : Lk.En} (h : Lk.Wf e) {L : List Lk.Hd} (hle : Lk.weights L ≤ 100) (h28 : nextOth e ≤ 268435455) : Lk.Wf { e with inn := L, oth := e.oth ++ [⟨nextOth e, e.win, 0, true, false⟩] } := by
  refine ⟨h.side, h.win1, h.win2, h.out, hle, fun i o ho => by obtain ⟨a, b, c, d⟩ := h.own i o ho; exact ⟨a, b, c, d⟩, fun i o ho => ?_, h.all, ?_, h.row, h.rest⟩
  · by_cases hi : i < e.oth.length
    · have ho' : e.oth[i]? = some o := by rw [← ho]; exact (List.getElem?_append_left hi).symm
      obtain ⟨a, b, c, d, f⟩ := h.oth i o ho'
      exact ⟨a, b, c, d, f⟩
    · have hi2 : i = e.oth.length := by
        have := (List.getElem?_eq_some_iff.1 ho).1
        simp at this
        omega
      subst hi2
      have ho' : (⟨nextOth e, e.win, 0, true, false⟩ : Lk.Ot) = o := by
        have := (List.getElem?_append_right (l₁ := e.oth) (l₂ := [⟨nextOth e, e.win, 0, true, false⟩]) (i := e.oth.length) (Nat.le_refl _)).symm.trans ho
        simpa using this
      subst ho'
      exact ⟨rfl, h28, Nat.le_refl _, fun _ => rfl, fun hx => by cases hx⟩
  · show e.room + Lk.heldSum (e.oth ++ [_]) = 2 * e.win
    rw [Lk.heldSum_append]
    have := h.room
    simp [Lk.heldSum] at this ⊢
    omega

/-- A block was right: the table for receiving is the new one. -/
theorem expanded_fs {w w1 : World} {b g B : Nat} {e : Lk.En} {d : PD} {v lv v' : Value} {evs : List EvH} {hs L : List Lk.Hd} (h : FS w b e d g B v evs) (ho : w1.ownsRow w.heap.size 112 2 lv hs.length (hdsV hs)) (hI : Is w1 b 101 ((((ecOf e d).cells.set 11 weighV).set 12 (.int .i64 (((100 : Nat) : Int) - Lk.weights L))).set 13 v')) (hv : w1.ownsRow 0 112 2 v' L.length (hdsV L)) (hN : NewOr w.heap.size d.iv v') (hle : Lk.weights L ≤ 100) (hdis : lv.ownBlock = none ∨ lv.ownBlock ≠ v'.ownBlock) (hT : Turns b w w1) :
    FS w1 b { e with inn := L } { d with iv := v' } g B v evs ∧ w1.ownsRow B 112 2 lv hs.length (hdsV hs) ∧ (∀ i, lv.ownBlock = some i → w.heap.size ≤ i ∧ ¬ foot b { d with iv := v' } i ∧ ¬ toldFoot g v evs i) ∧ (∀ i, foot b { d with iv := v' } i → foot b d i ∨ w.heap.size ≤ i) ∧ Only (foot b d) w w1 := by
  obtain ⟨hL1, hf1, hO1⟩ := h.live.tabOp hI hT hv hN hle
  have hnew : ∀ i, lv.ownBlock = some i → w.heap.size ≤ i := fun i hi => (ho.lt i hi).1
  refine ⟨⟨hL1, h.told.only hO1 h.sep, fun i hi hf => ?_, h.fx.only hO1 (fun h0 => by have := h.live.pos 0 h0; omega), Nat.le_trans h.hB hO1.size, h.B0, h.gB⟩, own_base h.hB ho, fun i hi => ⟨hnew i hi, fun hf => ?_, fun ht => ?_⟩, hf1, hO1⟩
  · rcases hf1 i hf with h' | h'
    · exact h.sep i hi h'
    · have := h.told.lt i hi; omega
  · have hge := hnew i hi
    have hold : ∀ x, foot b d x → x < w.heap.size := h.live.lt
    rcases hf with hf | hf | hf | hf | hf | hf | hf | ⟨k, hf⟩
    · have := hold i (.inl hf); omega
    · have := hold i (.inr (.inl hf)); omega
    · rcases hdis with h' | h'
      · rw [h'] at hi; cases hi
      · exact h' (hi.trans (show v'.ownBlock = some i from hf).symm)
    · have := hold i (.inr (.inr (.inr (.inl hf)))); omega
    · have := hold i (.inr (.inr (.inr (.inr (.inl hf))))); omega
    · have := hold i (.inr (.inr (.inr (.inr (.inr (.inl hf)))))); omega
    · have := hold i (.inr (.inr (.inr (.inr (.inr (.inr (.inl hf))))))); omega
    · have := hold i (.inr (.inr (.inr (.inr (.inr (.inr (.inr ⟨k, hf⟩))))))); omega
  · have := h.told.lt i ht
    have := hnew i hi
    omega

theorem began_fs {w w1 : World} {b g B : Nat} {e e1 : Lk.En} {d d1 : PD} {v : Value} {evs : List EvH} (h : FS w b e d g B v evs) (h1 : Live w1 b e1 d1) (h2 : ∀ i, foot b d1 i → foot b d i ∨ w.heap.size ≤ i) (h3 : Only (foot b d) w w1) : FS w1 b e1 d1 g B v evs := by
  refine ⟨h1, h.told.only h3 h.sep, fun i hi hf => ?_, h.fx.only h3 (fun h0 => by have := h.live.pos 0 h0; omega), Nat.le_trans h.hB h3.size, h.B0, h.gB⟩
  rcases h2 i hf with h' | h'
  · exact h.sep i hi h'
  · have := h.told.lt i hi; omega

theorem cut_at (b i p : Nat) (e : Lk.En) (d : PD) (o : Lk.Ot) (st : Nat) (hst : o.id = st) (w : World) (hL : Live w b e d) (ho : e.oth[i]? = some o) (hop : o.opn = true) (hp : d.ins o.id = some p) (hW : Lk.Wf (e.cutE i o 0)) :
    Calls Tryz.prog 119 #[.pointer (some ⟨b, 0, none⟩), .int .i64 (st : Int), .pointer (some ⟨p, 0, none⟩), .int .i64 0] w fun r w' => r = .returned (.tuple #[]) ∧ LPost w b d (e.cutE i o 0) w' := by
  subst hst
  exact cut_live b i p 0 e d o w hL ho hop hp (by omega) hW

set_option maxHeartbeats 4000000 in
set_option maxRecDepth 100000 in
theorem gotHead_ok (b g B : Nat) (e : Lk.En) (d : PD) (v : Value) (evs : List EvH) (f : Lk.Fr) (hs L : List Lk.Hd) (w : World) (h : FS w b e d g B v evs) (hl : evs.length ≤ 2 ^ 40) (hst : f.st = nextOth e) (hst2 : f.st ≤ 268435455) (hd64 : f.d.length ≤ 64) (hX : Lk.exR 100 f.d 6 e.inn 0 = .ok hs L) (EV : List Lk.Ev) (EE : Lk.En)
    (hEE : (if e.byeS then ([], ({ e with inn := L, oth := e.oth ++ [⟨nextOth e, e.win, 0, true, false⟩] } : Lk.En).cutE e.oth.length ⟨nextOth e, e.win, 0, true, false⟩ 0) else ([⟨1, f.st, 0, hs, []⟩], { e with inn := L, oth := e.oth ++ [⟨nextOth e, e.win, 0, true, false⟩] })) = (EV, EE)) (hWE : Lk.Wf EE) :
    Calls Tryz.prog 90 #[.pointer (some ⟨b, 0, none⟩), frA f, tellV g] w fun r w' => r = .returned (.int .i64 0) ∧ GPost w b d g B v evs EE EV w' := by
  have hb0 := frame_new w f
  have h0 := h.below hb0
  have hbl := h.live.rw.lt
  have hnew := h.new
  have c15 : w.cell? ⟨b, 15, none⟩ = some (.int .i64 (nextOth e : Int)) := h.live.rw.blk.cell 15
  have hne : ((f.st : Int) != (nextOth e : Int)) = false := by rw [bne_eq_false_iff_eq]; omega
  have hl2 : (bs f.d).data.toList = f.d := by simp [bs]
  have HFR := hide (Is.new w 79 [.int .i64 (f.k : Int), .int .i64 (f.st : Int), .string (bs f.d)])
  have HE := hide (fun n => expand_at b 11 100 101 (ecOf e d).cells e.inn d.iv (bs f.d) ((w.alloc (.cells #[.int .i64 (f.k : Int), .int .i64 (f.st : Int), .string (bs f.d)] 79)).drewN n) (by rw [bs_size]; omega) (h0.drewN n).live.rw.blk (Nat.ne_of_beq_eq_false rfl) rfl rfl rfl (h0.drewN n).live.inn h0.live.wf.inn (by omega) (h0.drewN n).fx (.ok hs L) (by rw [hl2]; exact hX))
  have HH := hide h0
  have HB := hide hb0
  have HEE := hide hEE
  have HWE := hide hWE
  have HST := hide hst
  have hno := nextOth_le h.live.wf
  have hsd := h.live.wf.side
  clear h h0 hb0 hX hl2 hEE hWE hst
  unfold tellV
  go_enter Tryz.func90, Tryz.ntmps90
  go_wp2_with fail
  go_quiet (fail)
  go_wp2_with fail
  go_cut [7, 8] (fun u7 u8 wc => u8 = .int .i64 0 ∧ ∃ d1, FS wc b { e with inn := L } d1 g B v evs ∧ wc.ownsRow B 112 2 u7 hs.length (hdsV hs) ∧ (∀ i, u7.ownBlock = some i → w.heap.size ≤ i ∧ ¬ foot b d1 i ∧ ¬ toldFoot g v evs i) ∧ (∀ i, foot b d1 i → foot b d i ∨ w.heap.size ≤ i) ∧ Only (fun j => foot b d j ∨ toldFoot g v evs j) w wc ∧ ¬ foot b d1 w.heap.size ∧ Is wc w.heap.size 79 [.int .i64 (f.k : Int), .int .i64 (f.st : Int), .string (bs f.d)] ∧ Lk.weights L ≤ 100)
  case first =>
    go_region_with (first | (go_at_call 62; refine (unhide HE (nq + 1)).mono ?_; rintro r w1 ⟨⟨lv, v', rfl, ho1, hI1, hv1, hN1, hle1, hdis1, hl61⟩, hT1⟩))
    all_goals
      go_wp2_with fail
      go_meet
      obtain ⟨a1, a2, a3, a4, a5⟩ := expanded_fs ((unhide HH).drewN (nq + 1)) ho1 hI1 hv1 hN1 hle1 hdis1 hT1
      have hsz := (unhide HB).size
      have hff : ¬ foot b { d with iv := v' } w.heap.size := fun hx => by
        rcases a4 _ hx with h' | h'
        · exact hnew (.inl h')
        · have h'' : w.heap.size + 1 ≤ w.heap.size := by simpa using h'
          omega
      refine ⟨rfl, _, a1, a2, fun i hi => ⟨Nat.le_trans hsz (a3 i hi).1, (a3 i hi).2⟩, fun i hi => (a4 i hi).imp id (Nat.le_trans hsz), ((Only.of_below (unhide HB) _).drewN (nq + 1)).trans a5 (fun j hj _ => .inl hj), hff, ((unhide HFR).drewN (nq + 1)).only a5 (fun hx => hnew (.inl hx)), hle1⟩
  case rest =>
    obtain ⟨rfl, d1, hF1, hou, hud, hf1, hO1, hff1, hFr1, hle⟩ := hcut
    obtain ⟨sa, sm, sc, rfl, hsm⟩ := own_slice hou
    have hbl1 := hF1.live.rw.lt
    have hmn : d1.mn ≤ 268435457 := by have h1 : d1.mn ≤ e.oth.length := hF1.live.mn; unfold nextOth at hno; omega
    have HBI := hide (beginIn_raw b d1.mb d1.mn (nextOth e) d1.ins (ecOf { e with inn := L } d1) d1.fs wc hF1.live.rw rfl rfl (by omega) hF1.live.map hmn)
    have hfl1 := hFr1.lt
    have HF1 := hide (⟨hF1, hou, hud, hf1, hO1, hff1, hFr1, hle⟩ : _ ∧ _ ∧ _ ∧ _ ∧ _ ∧ _ ∧ _ ∧ _)
    clear hF1 hou hud hf1 hO1 hff1 hFr1 hle hsm hmn
    go_wp2_with fail
    refine (unhide HBI).mono ?_
    rintro r w2 ⟨rfl, hI2, hR2, hM2, hO2⟩
    obtain ⟨hF1, hou, hud, hf1, hO1, hff1, hFr1, hle⟩ := unhide HF1
    have h28 : nextOth e ≤ 268435455 := by rw [← unhide HST]; exact hst2
    have hWb : Lk.Wf { e with inn := L, oth := e.oth ++ [⟨nextOth e, e.win, 0, true, false⟩] } := Wf_began (unhide HH).live.wf hle h28
    obtain ⟨hL2, hf2, hO2'⟩ := hF1.live.headOp (p := wc.heap.size) (Nat.le_refl _) hI2 hR2 hM2 hO2 hWb
    have hF2 : FS w2 b { e with inn := L, oth := e.oth ++ [⟨nextOth e, e.win, 0, true, false⟩] } { d1 with mn := d1.mn + 1, ins := fun x => if x = (nextOth e : Int) then some wc.heap.size else d1.ins x } g B v evs := began_fs hF1 hL2 hf2 hO2'
    have hf2 : ∀ i, foot b { d1 with mn := d1.mn + 1, ins := fun x => if x = (nextOth e : Int) then some wc.heap.size else d1.ins x } i → foot b d1 i ∨ wc.heap.size ≤ i := hf2
    have hFr2 := hFr1.only hO2' hff1
    have hfl2 := hFr2.lt
    have hbl2 := hF2.live.rw.lt
    have k1 := hFr2.cell 1
    simp only [List.getElem?_cons_zero, List.getElem?_cons_succ] at k1
    have hE := unhide HEE
    by_cases hby : e.byeS = true
    · have c20 : w2.cell? ⟨b, 20, none⟩ = some (.bool true) := by have := hF2.live.rw.blk.cell 20; rw [← hby]; exact this
      rw [if_pos hby] at hE
      obtain ⟨hE1, hE2⟩ := Prod.mk.inj hE
      have HE1 := hide hE1
      have HE2 := hide hE2
      have HC := hide (cut_at b e.oth.length wc.heap.size _ _ ⟨nextOth e, e.win, 0, true, false⟩ f.st (by rw [unhide HST]) w2 hF2.live (by simp) rfl (by simp) (by rw [hE2]; exact unhide HWE))
      have HF2 := hide (⟨hF2, hf2, hO2'⟩ : _ ∧ _ ∧ _)
      clear hF1 hou hud hf1 hO1 hff1 hFr1 hle hF2 hf2 hO2' hFr2 hE hE1 hE2 hI2 hR2 hM2 hO2 hL2 hWb hby
      go_wp2_with fail
      refine (unhide HC).mono ?_
      rintro r w3 ⟨rfl, hLP⟩
      go_wp2_with fail
      go_ret
      obtain ⟨hF1, hou, hud, hf1, hO1, hff1, hFr1, hle⟩ := unhide HF1
      obtain ⟨hF2, hf2, hO2'⟩ := unhide HF2
      refine ⟨rfl, ?_⟩
      rw [← unhide HE1, ← unhide HE2]
      exact GPost.of hF1 hf1 hO1 (GPost.of hF2 hf2 (hO2'.mono (fun i hi => .inl hi)) (hF2.ofL hLP))
    · have hby' : e.byeS = false := by simpa using hby
      have c20 : w2.cell? ⟨b, 20, none⟩ = some (.bool false) := by have := hF2.live.rw.blk.cell 20; rw [← hby']; exact this
      rw [if_neg hby] at hE
      obtain ⟨hE1, hE2⟩ := Prod.mk.inj hE
      have HE1 := hide hE1
      have HE2 := hide hE2
      have hou2 := own_only hou hO2' (fun i hi hx => (hud i hi).2.1 hx)
      have HT := hide (tell_fs b g B _ _ v evs ⟨1, f.st, 0, hs, []⟩ (.slice sa sm sc) w2 hF2 hl hou2 (fun i hi => ⟨fun hx => by
        rcases hf2 i hx with h' | h'
        · exact (hud i hi).2.1 h'
        · have := (hou.lt i hi).2; omega, (hud i hi).2.2⟩) w.heap.size (Nat.le_trans hO1.size hO2'.size) (fun i hi => (hud i hi).1))
      unfold evA at HT
      have e0 : bs [] = ⟨#[]⟩ := rfl
      have e1 : ((1 : Nat) : Int) = 1 := rfl
      have e2 : ((0 : Nat) : Int) = 0 := rfl
      simp only [e0, e1, e2] at HT
      have HF2 := hide (⟨hF2, hf2, hO2'⟩ : _ ∧ _ ∧ _)
      clear hF1 hou hud hf1 hO1 hff1 hFr1 hle hF2 hf2 hO2' hFr2 hE hE1 hE2 hI2 hR2 hM2 hO2 hL2 hWb hby hby' hou2 e0 e1 e2
      go_wp2_with fail
      refine (unhide HT).mono ?_
      rintro r w3 ⟨rfl, v3, hF3, ht3, hO3⟩
      go_wp2_with fail
      go_ret
      obtain ⟨hF1, hou, hud, hf1, hO1, hff1, hFr1, hle⟩ := unhide HF1
      obtain ⟨hF2, hf2, hO2'⟩ := unhide HF2
      refine ⟨rfl, ?_⟩
      rw [← unhide HE1, ← unhide HE2]
      have hfw : ∀ i, foot b { d1 with mn := d1.mn + 1, ins := fun x => if x = (nextOth e : Int) then some wc.heap.size else d1.ins x } i → foot b d i ∨ w.heap.size ≤ i := fun i hi => by
        rcases hf2 i hi with h' | h'
        · exact hf1 i h'
        · exact .inr (Nat.le_trans hO1.size h')
      have hOw : Only (fun j => foot b d j ∨ toldFoot g v evs j) w w2 := hO1.trans hO2' (fun i hi hlt => (hf1 i hi).elim .inl (fun h' => absurd hlt (by omega)))
      exact ⟨_, v3, [(⟨1, f.st, 0, hs, []⟩, .slice sa sm sc)], rfl, hF3, hfw, ht3, hOw.trans hO3 (fun i hi hlt => by
        rcases hi with hi | hi
        · exact (hfw i hi).elim .inl (fun h' => absurd hlt (by omega))
        · exact .inr hi)⟩
end Go.Proofs.YtbkpdapagfjmmaaGreatDoor

/-
  What a reset does, by what is found.
-/
namespace Go.Proofs.YtbkpdapagfjmmaaGreatDoor
open Go.RowKit

theorem resetF_up {e : Lk.En} {f : Lk.Fr} {i : Nat} {o : Lk.Ow} (h : e.upAt (f.st : Int) = some (i, o)) : e.resetF f = ([⟨4, f.st, Lk.numOf f.d, [], []⟩], 0, { e with own := e.own.set i { o with done := true } }) := by
  unfold Lk.En.resetF
  unfold Lk.En.upAt at h
  cases hx : Lk.ownIx e.own (f.st : Int) with
  | none => rw [hx] at h; cases h
  | some j =>
    rw [hx] at h
    obtain ⟨x, hxo, _⟩ := Lk.ownIx_some hx
    simp only [Option.bind_some, hxo, Option.map_some] at h ⊢
    by_cases hd : x.done = true
    · rw [if_pos hd] at h; cases h
    · rw [if_neg hd] at h
      simp at h
      obtain ⟨rfl, rfl⟩ := h
      rw [if_neg hd]
theorem own_oth {e : Lk.En} (hw : Lk.Wf e) {k : Int} {i j : Nat} (h1 : Lk.ownIx e.own k = some i) (h2 : Lk.othIx e.oth k = some j) : False := by
  obtain ⟨o, ho, e1⟩ := Lk.ownIx_some h1
  obtain ⟨x, hx, e2⟩ := Lk.othIx_some h2
  have a := (hw.own i o ho).id
  have c := (hw.oth j x hx).id
  have := hw.side
  omega
/-- The stream with nothing held. -/
def Lk.En.emptied (e : Lk.En) (i : Nat) (o : Lk.Ot) : Lk.En := ({ e with oth := e.oth.set i { o with held := 0 } } : Lk.En).back o.held
theorem resetF_on {e : Lk.En} (hw : Lk.Wf e) {f : Lk.Fr} {i : Nat} {o : Lk.Ot} (hg : e.goesOn (f.st : Int) = some (i, o)) : e.resetF f = (if o.opn then [⟨4, f.st, Lk.numOf f.d, [], []⟩] else [], 0, { e.emptied i o with oth := (e.emptied i o).oth.set i { { o with held := 0 } with opn := false, drp := false } }) := by
  obtain ⟨ho, hod, hid⟩ := goesOn_some hg
  have hOk := hw.oth i o ho
  have hix : Lk.othIx e.oth (f.st : Int) = some i := by
    unfold Lk.En.goesOn at hg
    cases hx : Lk.othIx e.oth (f.st : Int) with
    | none => rw [hx] at hg; cases hg
    | some j =>
      obtain ⟨x, hxo, hxid⟩ := Lk.othIx_some hx
      have := set_id hw ho hxo (by omega)
      rw [this]
  have hown : Lk.ownIx e.own (f.st : Int) = none := by
    cases hx : Lk.ownIx e.own (f.st : Int) with
    | none => rfl
    | some j => exact (own_oth hw hx hix).elim
  unfold Lk.En.resetF
  rw [hown, hix]
  simp only [Option.bind_none, Option.bind_some, ho, Option.map_some]
  have e2 : (e.emptied i o).oth.set i { { o with held := 0 } with opn := false, drp := false } = e.oth.set i { o with opn := false, drp := false, held := 0 } := by
    unfold Lk.En.emptied
    rw [(back_rest _ _).2.1]
    exact set_twice _ _ _ _
  by_cases hop : o.opn = true
  · have hdr := hOk.two hop
    rw [if_pos hop, if_pos hop, e2]
    unfold Lk.En.emptied
    have e3 : ({ o with opn := false, held := 0 } : Lk.Ot) = { o with opn := false, drp := false, held := 0 } := by rw [← hdr]
    rw [e3]
    unfold Lk.En.back
    split <;> rfl
  · have hop' : o.opn = false := by simpa using hop
    have hdr : o.drp = true := by rw [hop'] at hod; simpa using hod
    have hh := hOk.drp hdr
    rw [if_neg hop, if_neg hop, e2]
    unfold Lk.En.emptied
    have e3 : ({ o with drp := false } : Lk.Ot) = { o with opn := false, drp := false, held := 0 } := by rw [← hop', ← hh]
    rw [e3]
    unfold Lk.En.back
    rw [if_neg (by omega)]
theorem resetF_off {e : Lk.En} (hw : Lk.Wf e) {f : Lk.Fr} (h0 : 0 < f.st) (hup : e.upAt (f.st : Int) = none) (hg : e.goesOn (f.st : Int) = none) : e.resetF f = ([], if (decide (f.st % 2 = e.nextId % 2 ∧ f.st < e.nextId) || decide (f.st % 2 = nextOth e % 2 ∧ f.st < nextOth e)) then 0 else 4, e) := by
  rw [← ownIx_begun hw h0, ← othIx_begun hw h0]
  unfold Lk.En.resetF
  cases hx : Lk.ownIx e.own (f.st : Int) with
  | some i =>
    obtain ⟨o, ho, hd⟩ := upAt_none_some hup hx
    simp only [Option.bind_some, ho, Option.map_some]
    rw [if_pos hd]
    rfl
  | none =>
    simp only [Option.bind_none]
    cases hy : Lk.othIx e.oth (f.st : Int) with
    | none => rfl
    | some i =>
      obtain ⟨o, ho, _⟩ := Lk.othIx_some hy
      unfold Lk.En.goesOn at hg
      rw [hy] at hg
      simp only [Option.bind_some, ho, Option.map_some] at hg ⊢
      by_cases hod : (o.opn || o.drp) = true
      · rw [if_pos hod] at hg; cases hg
      · have hop : o.opn = false := by
          cases h : o.opn with
          | false => rfl
          | true => rw [h] at hod; simp at hod
        have hdr : o.drp = false := by
          cases h : o.drp with
          | false => rfl
          | true => rw [h] at hod; simp at hod
        rw [if_neg (by rw [hop]; simp)]
        have : e.oth.set i { o with drp := false } = e.oth := by
          apply set_self
          rw [ho]
          rw [← hdr]
        rw [this]
        rfl
theorem Wf_emptied {e : Lk.En} (h : Lk.Wf e) {i : Nat} {o : Lk.Ot} (ho : e.oth[i]? = some o) : Lk.Wf (e.emptied i o) := by
  have hOk := h.oth i o ho
  have hheld := h.held ho
  unfold Lk.En.emptied
  refine Lk.Wf.back ?_ (by omega)
  exact h.setOth (x := { o with held := 0 }) (r := e.room + o.held) ho rfl (by have := hOk.cr; show o.cr + 0 ≤ _; omega) hOk.two (fun _ => rfl) (by show e.room + o.held + 0 = _; omega)
theorem emptied_on {e : Lk.En} (h : Lk.Wf e) {i : Nat} {o : Lk.Ot} (ho : e.oth[i]? = some o) (hod : (o.opn || o.drp) = true) : (e.emptied i o).goesOn (o.id : Int) = some (i, { o with held := 0 }) := by
  have hil := (List.getElem?_eq_some_iff.1 ho).1
  have := goesOn_of (i := i) (o := { o with held := 0 }) (Wf_emptied h ho) (by unfold Lk.En.emptied; rw [(back_rest _ _).2.1]; show (e.oth.set i _)[i]? = _; rw [List.getElem?_set_self hil]) hod
  exact this

theorem findIn_off (b : Nat) (e : Lk.En) (d : PD) (st : Int) (w : World) (hL : Live w b e d) (hk : I64 st) (hg : e.goesOn st = none) : ∃ q, ∀ n, Calls Tryz.prog 117 #[.pointer (some ⟨b, 11, none⟩), .int .i64 st] (w.drewN n) fun r w' => r = .returned (.tuple #[q, .bool false]) ∧ ∃ m, w' = (w.drewN n).drewN m := by
  have c17 : w.cell? ⟨b, 17, none⟩ = some (.map (some d.mb)) := hL.rw.blk.cell 17
  have hLn := fun n => hL.only ((Only.refl (fun _ => False) w).drewN n) (fun _ _ h => h)
  cases hp : d.ins st with
  | none => exact ⟨.pointer none, fun n => findIn_none b d.mb d.mn d.ins st (w.drewN n) hL.rw.lt c17 (hLn n).map hk hp⟩
  | some p =>
    obtain ⟨i, o, cr, cut, ho, hid, hI, _, _⟩ := hL.inAt hp
    have hd : (o.opn || o.drp) = false := by
      cases hx : (o.opn || o.drp) with
      | false => rfl
      | true =>
        have := goesOn_of hL.wf ho hx
        rw [hid, hg] at this
        cases this
    rw [hd] at hI
    exact ⟨_, fun n => findIn_some b d.mb d.mn p d.ins st cr o.held cut true (w.drewN n) hL.rw.lt c17 (hLn n).map hk hp (hI.drewN n)⟩
end Go.Proofs.YtbkpdapagfjmmaaGreatDoor
