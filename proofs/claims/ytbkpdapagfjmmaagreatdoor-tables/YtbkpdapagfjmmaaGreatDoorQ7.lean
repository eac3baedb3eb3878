/-
  Walks: a step of a table: a block is expanded.
-/
import Derived.Test.YtbkpdapagfjmmaaGreatDoorQ4
import Derived.Deep.RegionHeld
import Derived.Deep.RegionHeld3
namespace Go.Proofs.YtbkpdapagfjmmaaGreatDoor
open Go.RowKit

set_option maxHeartbeats 4000000 in
set_option maxRecDepth 100000 in
theorem tables_expand (b0 M gT gU cT cU : Nat) (vR vS pv : Value) (t u B : Nat → Nat) (L : Nat → List Lk.Hd) (k : Nat) (a b n : Int) (st tt : ByteArray) (ha : Option Addr) (hl hc : Nat) (w : World) (hb0 : b0 ≤ w.heap.size) (hk : k < 2) (hs48 : st.size ≤ 2 ^ 48) (hR : Rigs b0 M gT gU cT cU vR vS pv t u B L L w) :
    Calls Tryz.prog 29 #[.pointer (some ⟨M, 0, none⟩), .agg #[.int .i64 6, .int .i64 a, .int .i64 b, .string st, .string tt, .int .i64 n, .slice ha hl hc], .int .i64 k] w (TPost b0 M gT gU cT cU vR vS pv w) := by
  have hk' : (k : Int) < 2 := by omega
  have hBx := Is.new w 33 [.int .i64 6, .int .i64 a, .int .i64 b, .string st, .string tt, .int .i64 n, .slice ha hl hc]
  have hbW := (Below.refl w.heap.size w).alloc (Nat.le_refl _) (.cells #[.int .i64 6, .int .i64 a, .int .i64 b, .string st, .string tt, .int .i64 n, .slice ha hl hc] 33)
  have hR0 := hR.below hbW
  have o0 := hBx.cell 0
  have o3 := hBx.cell 3
  simp only [List.getElem?_cons_zero, List.getElem?_cons_succ] at o0 o3
  have hbela := hbW.mono hb0
  have hsa : b0 ≤ (w.alloc (.cells #[.int .i64 6, .int .i64 a, .int .i64 b, .string st, .string tt, .int .i64 n, .slice ha hl hc] 33)).heap.size := Nat.le_trans hb0 hbW.size
  have HRa := hide hR0
  obtain ⟨j, hj⟩ : ∃ j, j = k := ⟨_, rfl⟩
  subst hj
  have hj2 : j < 2 := hk
  generalize hLa : L = La at *
  generalize hSS : st = S at *
  generalize hW : w.alloc (.cells #[.int .i64 6, .int .i64 a, .int .i64 b, .string S, .string tt, .int .i64 n, .slice ha hl hc] 33) = wa at *
  clear hR hR0 hbW hBx
  go_enter Tryz.func29, Tryz.ntmps29
  have ma2 := (unhide HRa).made.cell 2
  have ra2 := pair_at (unhide HRa).rowT hj2
  simp only [List.getElem?_cons_zero, List.getElem?_cons_succ] at ma2
  unfold ptr at ra2
  have hcTa := (unhide HRa).cT2
  have hcUa := (unhide HRa).cU2
  obtain ⟨va, hva⟩ := (unhide HRa).tab j hj2
  generalize hXX : Lk.exR (B j) S.data.toList 6 (La j) 0 = X
  have HXX := hide hXX
  have HCa := hide (expandT_any (t j) (B j) (La j) va S wa hs48 hva (unhide HRa).fx X HXX)
  clear hXX hva
  go_wp2_with fail
  refine (unhide HCa).mono ?_
  rintro e wb ⟨lb, rfl, hob, hTb, hTub, h6⟩
  have HRb := hide ((unhide HRa).setT hj2 hTub hTb)
  have hbelb := Turns.toBelow hbela hTub ((unhide HRa).ht j hj2) hsa
  have hsb : b0 ≤ wb.heap.size := Nat.le_trans hb0 hbelb.size
  have mb3 := (unhide HRb).made.cell 3
  have rb3 := pair_at (unhide HRb).rowU hj2
  simp only [List.getElem?_cons_zero, List.getElem?_cons_succ] at mb3
  unfold ptr at rb3
  obtain ⟨vb, hvb⟩ := (unhide HRb).rtab j hj2
  have HVB := hide hvb
  have HOB := hide hob
  have HCb := hide (expandU_any (u j) (B j) (La j) vb S wb hs48 hvb X HXX)
  clear hvb hob hTb hTub ma2 ra2 hbela
  go_wp2_with fail
  refine (unhide HCb).mono ?_
  rintro e wc' ⟨lc, rfl, hoc, hTc, hTuc⟩
  have HRc := hide ((unhide HRb).setU hj2 hTuc hTc)
  have hbelc := Turns.toBelow hbelb hTuc ((unhide HRb).hu j hj2) hsb
  have hsc : b0 ≤ wc'.heap.size := Nat.le_trans hb0 hbelc.size
  have HOBC := hide (own_turns (unhide HOB) (unhide HVB).blk (Nat.ne_of_beq_eq_false rfl) hTuc)
  have HOC := hide hoc
  clear hoc hTc hTuc mb3 rb3 hbelb hsb
  go_wp2_with fail
  refine (sameHeaders_any _ _ _ _ X.hs _ (by omega) (unhide HOBC) (unhide HOC)).mono ?_
  rintro e wd ⟨rfl, nd, rfl⟩
  have HRd := hide ((unhide HRc).below (Below.drewN (Below.refl _ _) nd))
  go_wp2_with fail
  refine (entriesM_any b0 M gT gU cT cU vR vS pv t u B _ _ j _ hj2 rfl (unhide HRd)).mono ?_
  rintro e we ⟨rfl, hbe⟩
  have HRe := hide ((unhide HRd).below hbe)
  have hbele := (Below.drewN hbelc nd).trans (hbe.mono hsc)
  clear hbe hbelc
  go_wp2_with fail
  refine (num4 _ _).mono ?_
  rintro e wf ⟨rfl, rfl⟩
  go_wp2_with fail
  go_ret
  exact ⟨rfl, ⟨_, _, _, _, unhide HRe⟩, hbele⟩
end Go.Proofs.YtbkpdapagfjmmaaGreatDoor
