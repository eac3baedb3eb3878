/-
  Walks: a step of a table: what one squeezes the other one expands.
-/
import Derived.Test.YtbkpdapagfjmmaaGreatDoorQ5
import Derived.Deep.RegionHeld
import Derived.Deep.RegionHeld3
namespace Go.Proofs.YtbkpdapagfjmmaaGreatDoor
open Go.RowKit

set_option maxHeartbeats 4000000 in
set_option maxRecDepth 100000 in
theorem tables_carry (b0 M gT gU cT cU : Nat) (vR vS pv : Value) (t u B : Nat → Nat) (L : Nat → List Lk.Hd) (k : Nat) (a b n : Int) (st tt : ByteArray) (ha : Option Addr) (hl hc : Nat) (w : World) (hb0 : b0 ≤ w.heap.size) (hk : k < 2) (l : List ByteArray) (hl40 : l.length ≤ 2 ^ 43) (hS : Strs w (.slice ha hl hc) l) (hSX : ∀ (x : Addr) (n c : Nat), Value.slice ha hl hc = .slice (some x) n c → n ≠ 0 → x.block < b0) (hR : Rigs b0 M gT gU cT cU vR vS pv t u B L L w) :
    Calls Tryz.prog 29 #[.pointer (some ⟨M, 0, none⟩), .agg #[.int .i64 7, .int .i64 a, .int .i64 b, .string st, .string tt, .int .i64 n, .slice ha hl hc], .int .i64 k] w (TPost b0 M gT gU cT cU vR vS pv w) := by
  have hk' : (k : Int) < 2 := by omega
  have hBx := Is.new w 33 [.int .i64 7, .int .i64 a, .int .i64 b, .string st, .string tt, .int .i64 n, .slice ha hl hc]
  have hbW := (Below.refl w.heap.size w).alloc (Nat.le_refl _) (.cells #[.int .i64 7, .int .i64 a, .int .i64 b, .string st, .string tt, .int .i64 n, .slice ha hl hc] 33)
  have hR0 := hR.below hbW
  have HSX := hide hSX
  clear hSX
  have hS0 := hS.below hbW (Nat.le_refl _)
  have hOl : w.heap.size ≤ w.heap.size := Nat.le_refl _
  generalize hW : w.alloc (.cells #[.int .i64 7, .int .i64 a, .int .i64 b, .string st, .string tt, .int .i64 n, .slice ha hl hc] 33) = W at *
  have m2 := hR0.made.cell 2
  have r2 := pair_at hR0.rowT hk
  have o0 := hBx.cell 0
  have o3 := hBx.cell 3
  have o6 := hBx.cell 6
  simp only [List.getElem?_cons_zero, List.getElem?_cons_succ] at m2 o0 o3 o6
  unfold ptr at r2
  have hcT := hR0.cT2
  have hcU := hR0.cU2
  obtain ⟨v0, hv0⟩ := hR0.tab k hk
  obtain ⟨tl, hgT⟩ := hR0.rowT
  obtain ⟨tl2, hgU⟩ := hR0.rowU
  obtain ⟨x0, hx0⟩ := hR0.rtab k hk
  have d1 := hR0.made.ne hv0.blk (Nat.ne_of_beq_eq_false rfl)
  have d2 := hgT.ne hv0.blk (Nat.ne_of_beq_eq_false rfl)
  have d3 := hBx.ne hv0.blk (Nat.ne_of_beq_eq_false rfl)
  have e1 := hR0.made.ne hx0.blk (Nat.ne_of_beq_eq_false rfl)
  have e2 := hgU.ne hx0.blk (Nat.ne_of_beq_eq_false rfl)
  have e3 := hBx.ne hx0.blk (Nat.ne_of_beq_eq_false rfl)
  have ht0 : t k ≠ 0 := by have := hR0.ht k hk; have := hR0.h0; omega
  have hsz := sqS_size (B k) (L k) (pairs l) hv0.hB hv0.le
  have HBX := hide hBx
  have HD := hide (⟨⟨d1, d2, d3⟩, e1, e2, e3⟩ : (M ≠ t k ∧ gT ≠ t k ∧ w.heap.size ≠ t k) ∧ M ≠ u k ∧ gU ≠ u k ∧ w.heap.size ≠ u k)
  have HR0 := hide hR0
  have HV0 := hide hv0
  have HS0 := hide hS0
  have HBW := hide hbW
  generalize hSS : sqS (B k) (L k) (pairs l) = S at *
  generalize hEE : (Lk.wrong (pairs l)).1 = E at *
  generalize hPP : (Lk.wrong (pairs l)).2 = P at *
  have HSQ := hide (⟨hSS, hEE, hPP⟩ : sqS (B k) (L k) (pairs l) = S ∧ (Lk.wrong (pairs l)).1 = E ∧ (Lk.wrong (pairs l)).2 = P)
  have HCT := hide (fun (w : World) (v lv : Value) (B1 : Nat) (hT : Tab w (t k) (B k) (L k) v) (hfx : Fx w) (own : w.ownsRow B1 112 2 lv (pairs l).length (hdsV (pairs l))) => squeezeT_any (t k) (B k) B1 (L k) (pairs l) v lv w hT hfx ht0 own)
  have HCU := hide (fun (w : World) (v lv : Value) (B1 : Nat) (hT : RTab w (u k) (B k) (L k) v) (own : w.ownsRow B1 206 2 lv (pairs l).length (hdsV (pairs l))) => squeezeU_any (u k) (B k) B1 (L k) (pairs l) v lv w hT own)
  rw [hSS, hEE, hPP] at HCT HCU
  clear hR hR0 hS hS0 hv0 hgT hgU hx0 hBx hSS hEE hPP hbW d1 d2 d3 e1 e2 e3
  go_enter Tryz.func29, Tryz.ntmps29
  go_wp2_with fail
  go_cut [12, 13, 14] (fun s12 s13 s14 w1 => s12 = .string S ∧ s13 = .int .i64 E ∧ s14 = .int .i64 P ∧ (∃ v', Tab w1 (t k) (B k) (sqL (B k) (L k) (pairs l)) v') ∧ ∃ wm, Below W.heap.size W wm ∧ Turns (t k) wm w1)
  case first =>
    go_region_held (fun w' => w'.cell? ⟨M, 2, none⟩ = some (.slice (some ⟨gT, 0, none⟩) 2 cT) ∧ w'.cell? ⟨gT, k, none⟩ = some (.pointer (some ⟨t k, 0, none⟩)) ∧ w'.cell? ⟨w.heap.size, 6, none⟩ = some (.slice ha hl hc))
      (first | exact ⟨m2, r2, o6⟩ | exact ⟨keptD m2 hb1, keptD r2 hb1, keptD o6 hb1⟩ | exact ⟨turned4 (keptD m2 hb1) hT2 (unhide HD).1.1, turned4 (keptD r2 hb1) hT2 (unhide HD).1.2.1, turned4 (keptD o6 hb1) hT2 (unhide HD).1.2.2⟩ | assumption)
      (first
        | (go_at_call 20; refine (heads_any _ l W.drew hl40 (unhide HS0)).mono ?_; rintro e w1 ⟨v1, rfl, ho1, hb1⟩)
        | (go_at_call 59; refine (unhide HCT _ v0 _ _ ((unhide HV0).below (undrewB hb1)) ((unhide HR0).fx.below (undrewB hb1) (unhide HR0).fx.1) ho1).mono ?_; rintro e w2 ⟨rfl, hTab2, hT2⟩))
    all_goals (go_wp2_with fail; go_meet; exact ⟨rfl, rfl, rfl, hTab2, _, undrewB hb1, hT2⟩)
  case rest =>
    obtain ⟨rfl, rfl, rfl, hTab1, wm, hbm, hTm⟩ := hcut
    have hR1 := ((unhide HR0).below hbm).setT hk hTm hTab1
    have hB1 := ((unhide HBX).below hbm (unhide HBX).lt).grown hTm (by have := (unhide HD).1.2.2; simpa using this)
    have hS1 := ((unhide HS0).below hbm (Nat.le_refl _)).turns hTm (fun a n c e hn => by have h1 := (unhide HSX) a n c e hn; have h2 := (unhide HR0).ht k hk; omega)
    have hbel1 : Below b0 w wc := Turns.toBelow (((unhide HBW).trans (hbm.mono (unhide HBW).size)).mono hb0) hTm ((unhide HR0).ht k hk) (by have := (unhide HBW).size; have := hbm.size; omega)
    have hs1 : b0 ≤ wc.heap.size := Nat.le_trans hb0 hbel1.size
    have m3 := hR1.made.cell 3
    have r3 := pair_at hR1.rowU hk
    have o6' := hB1.cell 6
    simp only [List.getElem?_cons_zero, List.getElem?_cons_succ] at m3 o6'
    unfold ptr at r3
    obtain ⟨x1, hx1⟩ := hR1.rtab k hk
    have HX1 := hide hx1
    have HR1 := hide hR1
    have HB1 := hide hB1
    have HS1 := hide hS1
    clear hR1 hB1 hS1 hx1 m2 r2 o6 hTab1 hbm hTm o0 o3
    obtain ⟨W1, hW1⟩ : ∃ W1, W1 = wc := ⟨_, rfl⟩
    subst hW1
    go_wp2_with fail
    go_cut [15, 16, 17] (fun s15 s16 s17 w1 => s15 = .string S ∧ s16 = .int .i64 E ∧ s17 = .int .i64 P ∧ (∃ v', RTab w1 (u k) (B k) (sqL (B k) (L k) (pairs l)) v') ∧ ∃ wm, Below W1.heap.size W1 wm ∧ Turns (u k) wm w1)
    case first =>
      go_region_held (fun w' => w'.cell? ⟨M, 3, none⟩ = some (.slice (some ⟨gU, 0, none⟩) 2 cU) ∧ w'.cell? ⟨gU, k, none⟩ = some (.pointer (some ⟨u k, 0, none⟩)) ∧ w'.cell? ⟨w.heap.size, 6, none⟩ = some (.slice ha hl hc))
        (first | exact ⟨m3, r3, o6'⟩ | exact ⟨keptD m3 hb1, keptD r3 hb1, keptD o6' hb1⟩ | exact ⟨turned4 (keptD m3 hb1) hT2 (unhide HD).2.1, turned4 (keptD r3 hb1) hT2 (unhide HD).2.2.1, turned4 (keptD o6' hb1) hT2 (unhide HD).2.2.2⟩ | assumption)
        (first
          | (go_at_call 61; refine (theirs_any _ l W1.drew hl40 (unhide HS1)).mono ?_; rintro e w1 ⟨v1, rfl, ho1, hb1⟩)
          | (go_at_call 60; refine (unhide HCU _ x1 _ _ ((unhide HX1).below (undrewB hb1)) ho1).mono ?_; rintro e w2 ⟨rfl, hTab2, hT2⟩))
      all_goals (go_wp2_with fail; go_meet; exact ⟨rfl, rfl, rfl, hTab2, _, undrewB hb1, hT2⟩)
    case rest =>
      obtain ⟨rfl, rfl, rfl, hTab2, wm, hbm, hTm⟩ := hcut
      have hR2 := ((unhide HR1).below hbm).setU hk hTm hTab2
      have hB2 := ((unhide HB1).below hbm (unhide HB1).lt).grown hTm (by have := (unhide HD).2.2.2; simpa using this)
      have hbel2 : Below b0 w wc := Turns.toBelow (hbel1.trans (hbm.mono hs1)) hTm ((unhide HR0).hu k hk) (by have := hbm.size; omega)
      have hs2 : b0 ≤ wc.heap.size := Nat.le_trans hb0 hbel2.size
      have HR2 := hide hR2
      have HB2 := hide hB2
      clear hR2 hB2 m3 r3 o6' hTab2 hbm hTm hbel1 hs1
      go_wp2_with fail
      refine (entriesM_any b0 M gT gU cT cU vR vS pv t u B _ _ k _ hk rfl (unhide HR2)).mono ?_
      rintro e w3 ⟨rfl, hb3⟩
      have hB3 := (unhide HB2).below hb3 (unhide HB2).lt
      have o0 := hB3.cell 0
      simp only [List.getElem?_cons_zero] at o0
      have HR3 := hide ((unhide HR2).below hb3)
      have hbel3 := hbel2.trans (hb3.mono hs2)
      have hs3 : b0 ≤ w3.heap.size := Nat.le_trans hb0 hbel3.size
      clear hB3 hb3 hbel2 hs2
      go_wp2_with fail
      refine (num4 _ _).mono ?_
      rintro e w4 ⟨rfl, rfl⟩
      by_cases hE0 : E = 0
      · have hE1 : ((E : Int) != 0) = false := by rw [hE0]; rfl
        obtain ⟨j, hj2, hjk⟩ : ∃ j : Nat, j < 2 ∧ (1 : Int) - (k : Int) = (j : Int) := ⟨1 - k, by omega, by omega⟩
        have hj' : (j : Int) < 2 := by omega
        have hs48 : S.size ≤ 2 ^ 48 := by omega
        have HRa := HR3
        have hbela := hbel3
        have hsa := hs3
        generalize hLa : upd L k (sqL (B k) (L k) (pairs l)) = La at *
        obtain ⟨wa, hwa⟩ : ∃ wa, wa = w4 := ⟨_, rfl⟩
        subst hwa
        clear HR3 hbel3 hs3
        have ma2 := (unhide HRa).made.cell 2
        have ra2 := pair_at (unhide HRa).rowT hj2
        simp only [List.getElem?_cons_zero, List.getElem?_cons_succ] at ma2
        unfold ptr at ra2
        have hcTa := (unhide HRa).cT2
        have hcUa := (unhide HRa).cU2
        obtain ⟨va, hva⟩ := (unhide HRa).tab j hj2
        generalize hXX : Lk.exR (B j) S.data.toList 6 (La j) 0 = X
        have HXX := hide hXX
        have HCa := hide (expandT_any (t j) (B j) (La j) va S wa hs48 hva (unhide HRa).fx X HXX)
        clear hXX hva
        go_wp2_with fail
        refine (unhide HCa).mono ?_
        rintro e wb ⟨lb, rfl, hob, hTb, hTub, h6⟩
        have HRb := hide ((unhide HRa).setT hj2 hTub hTb)
        have hbelb := Turns.toBelow hbela hTub ((unhide HRa).ht j hj2) hsa
        have hsb : b0 ≤ wb.heap.size := Nat.le_trans hb0 hbelb.size
        have mb3 := (unhide HRb).made.cell 3
        have rb3 := pair_at (unhide HRb).rowU hj2
        simp only [List.getElem?_cons_zero, List.getElem?_cons_succ] at mb3
        unfold ptr at rb3
        obtain ⟨vb, hvb⟩ := (unhide HRb).rtab j hj2
        have HVB := hide hvb
        have HOB := hide hob
        have HCb := hide (expandU_any (u j) (B j) (La j) vb S wb hs48 hvb X HXX)
        clear hvb hob hTb hTub ma2 ra2 hbela
        go_wp2_with fail
        refine (unhide HCb).mono ?_
        rintro e wc' ⟨lc, rfl, hoc, hTc, hTuc⟩
        have HRc := hide ((unhide HRb).setU hj2 hTuc hTc)
        have hbelc := Turns.toBelow hbelb hTuc ((unhide HRb).hu j hj2) hsb
        have hsc : b0 ≤ wc'.heap.size := Nat.le_trans hb0 hbelc.size
        have HOBC := hide (own_turns (unhide HOB) (unhide HVB).blk (Nat.ne_of_beq_eq_false rfl) hTuc)
        have HOC := hide hoc
        clear hoc hTc hTuc mb3 rb3 hbelb hsb
        go_wp2_with fail
        refine (sameHeaders_any _ _ _ _ X.hs _ (by omega) (unhide HOBC) (unhide HOC)).mono ?_
        rintro e wd ⟨rfl, nd, rfl⟩
        have HRd := hide ((unhide HRc).below (Below.drewN (Below.refl _ _) nd))
        go_wp2_with fail
        refine (entriesM_any b0 M gT gU cT cU vR vS pv t u B _ _ j _ hj2 rfl (unhide HRd)).mono ?_
        rintro e we ⟨rfl, hbe⟩
        have HRe := hide ((unhide HRd).below hbe)
        have hbele := (Below.drewN hbelc nd).trans (hbe.mono hsc)
        clear hbe hbelc
        go_wp2_with fail
        refine (num4 _ _).mono ?_
        rintro e wf ⟨rfl, rfl⟩
        go_wp2_with fail
        go_ret
        exact ⟨rfl, ⟨_, _, _, _, unhide HRe⟩, hbele⟩
      · have hE1 : ((E : Int) != 0) = true := by rw [bne_iff_ne]; omega
        go_wp2_with fail
        go_ret
        exact ⟨rfl, ⟨_, _, _, _, unhide HR3⟩, hbel3⟩
end Go.Proofs.YtbkpdapagfjmmaaGreatDoor
