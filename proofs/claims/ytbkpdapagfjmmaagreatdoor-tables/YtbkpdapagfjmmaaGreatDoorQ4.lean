import Derived.Test.YtbkpdapagfjmmaaGreatDoorQ1
import Derived.Test.YtbkpdapagfjmmaaGreatDoorQ2
import Derived.Test.YtbkpdapagfjmmaaGreatDoorU3
import Derived.Test.YtbkpdapagfjmmaaGreatDoorLB
/-
  Walks: Squeeze and Expand of both sides, whatever they are given; the entries.
-/
namespace Go.Proofs.YtbkpdapagfjmmaaGreatDoor
open Go.RowKit

def sqS (B : Nat) (L l : List Lk.Hd) : ByteArray := if (Lk.wrong l).1 = 0 then bs (Lk.squeeze B L l).1 else ⟨#[]⟩
def sqL (B : Nat) (L l : List Lk.Hd) : List Lk.Hd := if (Lk.wrong l).1 = 0 then (Lk.squeeze B L l).2 else L
theorem sqS_size (B : Nat) (L l : List Lk.Hd) (hB : B ≤ 200) (hL : Lk.weights L ≤ B) : (sqS B L l).size ≤ 2 ^ 39 := by
  unfold sqS
  split
  · rename_i h
    have hok := Lk.wrong_ok h
    have := Lk.squeeze_len B hB l L hL hok.2
    rw [bs_size]
    omega
  · simp [ByteArray.size]

theorem squeezeT_any (t B B1 : Nat) (L l : List Lk.Hd) (v lv : Value) (w : World) (hT : Tab w t B L v) (hfx : Fx w) (ht0 : t ≠ 0) (own : w.ownsRow B1 112 2 lv l.length (hdsV l)) :
    Calls Tryz.prog 59 #[.pointer (some ⟨t, 0, none⟩), lv] w fun e w' =>
      e = .returned (.tuple #[.string (sqS B L l), .int .i64 (Lk.wrong l).1, .int .i64 (Lk.wrong l).2]) ∧ (∃ v', Tab w' t B (sqL B L l) v') ∧ Turns t w w' := by
  unfold sqS sqL
  by_cases h : (Lk.wrong l).1 = 0
  · rw [if_pos h, if_pos h, h, Lk.wrong_place h]
    exact squeezeCall_ok t B B1 L l v lv w hT hfx ht0 h own
  · rw [if_neg h, if_neg h]
    refine (squeezeCall_bad t B1 l lv w h own).mono ?_
    rintro e w' ⟨rfl, hb⟩
    exact ⟨rfl, ⟨v, hT.below hb⟩, Below.turns hb t⟩
theorem squeezeU_any (t B B1 : Nat) (L l : List Lk.Hd) (v lv : Value) (w : World) (hT : RTab w t B L v) (own : w.ownsRow B1 206 2 lv l.length (hdsV l)) :
    Calls Tryz.prog 60 #[.pointer (some ⟨t, 0, none⟩), lv] w fun e w' =>
      e = .returned (.tuple #[.string (sqS B L l), .int .i64 (Lk.wrong l).1, .int .i64 (Lk.wrong l).2]) ∧ (∃ v', RTab w' t B (sqL B L l) v') ∧ Turns t w w' := by
  unfold sqS sqL
  by_cases h : (Lk.wrong l).1 = 0
  · rw [if_pos h, if_pos h, h, Lk.wrong_place h]
    exact rsqueeze_ok t B B1 L l v lv w hT h own
  · rw [if_neg h, if_neg h]
    refine (rsqueeze_bad t B1 l lv w h own).mono ?_
    rintro e w' ⟨rfl, hb⟩
    exact ⟨rfl, ⟨v, hT.below hb⟩, Below.turns hb t⟩

namespace Lk
def XR.hs : XR → List Hd
  | .ok hs _ => hs
  | .err _ _ => []
def XR.ec : XR → Nat
  | .ok _ _ => 0
  | .err e _ => e
def XR.pl : XR → Nat
  | .ok _ _ => 0
  | .err _ p => p
def XR.tab (L : List Hd) : XR → List Hd
  | .ok _ L2 => L2
  | .err _ _ => L
end Lk

theorem expandT_any (t B : Nat) (L : List Lk.Hd) (v : Value) (s : ByteArray) (w : World) (hs : s.size ≤ 2 ^ 48) (hT : Tab w t B L v) (hfx : Fx w) (X : Lk.XR) (HX : Hid (Lk.exR B s.data.toList 6 L 0 = X)) :
    Calls Tryz.prog 62 #[.pointer (some ⟨t, 0, none⟩), .string s] w fun e w' =>
      ∃ lv, e = .returned (.tuple #[lv, .int .i64 X.ec, .int .i64 X.pl]) ∧ w'.ownsRow w.heap.size 112 2 lv X.hs.length (hdsV X.hs) ∧ (∃ v', Tab w' t B (X.tab L) v') ∧ Turns t w w' ∧ X.hs.length ≤ 6 := by
  refine (expand_any t B L v s w hs hT hfx X HX).mono ?_
  intro e w' h
  cases X with
  | ok hs L2 =>
    obtain ⟨⟨lv, v', rfl, ho, hT', _, h6⟩, hTu⟩ := h
    exact ⟨lv, rfl, ho, ⟨v', hT'⟩, hTu, h6⟩
  | err ec q =>
    obtain ⟨rfl, hb⟩ := h
    exact ⟨_, rfl, World.ownsRow_nil _ _ _ _, ⟨v, hT.below hb⟩, Below.turns hb t, by simp [Lk.XR.hs]⟩
theorem expandU_any (t B : Nat) (L : List Lk.Hd) (v : Value) (s : ByteArray) (w : World) (hs : s.size ≤ 2 ^ 48) (hT : RTab w t B L v) (X : Lk.XR) (HX : Hid (Lk.exR B s.data.toList 6 L 0 = X)) :
    Calls Tryz.prog 63 #[.pointer (some ⟨t, 0, none⟩), .string s] w fun e w' =>
      ∃ lv, e = .returned (.tuple #[lv, .int .i64 X.ec, .int .i64 X.pl]) ∧ w'.ownsRow w.heap.size 206 2 lv X.hs.length (hdsV X.hs) ∧ (∃ v', RTab w' t B (X.tab L) v') ∧ Turns t w w' := by
  refine (rexpand_any t B L v s w hs hT X HX).mono ?_
  intro e w' h
  cases X with
  | ok hs L2 =>
    obtain ⟨⟨lv, v', rfl, ho, hT', h6⟩, hTu⟩ := h
    exact ⟨lv, rfl, ho, ⟨v', hT'⟩, hTu⟩
  | err ec q =>
    obtain ⟨rfl, hb⟩ := h
    exact ⟨_, rfl, World.ownsRow_nil _ _ _ _, ⟨v, hT.below hb⟩, Below.turns hb t⟩

set_option maxHeartbeats 1000000 in
set_option maxRecDepth 100000 in
theorem entriesM_any (b0 M gT gU cT cU : Nat) (vR vS pv : Value) (t u B : Nat → Nat) (LT LU : Nat → List Lk.Hd) (k : Nat) (w : World) (hk : k < 2) (hL : LT k = LU k) (hR : Rigs b0 M gT gU cT cU vR vS pv t u B LT LU w) :
    Calls Tryz.prog 58 #[.pointer (some ⟨M, 0, none⟩), .int .i64 k] w fun e w' => e = .returned (.bool true) ∧ Below w.heap.size w w' := by
  obtain ⟨v, hv⟩ := hR.tab k hk
  have hk' : (k : Int) < 2 := by omega
  have m2 := hR.made.cell 2
  have r2 := pair_at hR.rowT hk
  simp only [List.getElem?_cons_zero, List.getElem?_cons_succ] at m2
  unfold ptr at r2
  have hMl := hR.made.lt
  have hgl := World.block_lt_of_cell? _ _ r2
  have hcT := hR.cT2
  have hcU := hR.cU2
  have HC := hide (entries_any (t k) (B k) (LT k) v w hv)
  rw [hL] at HC
  have hlen := (by
    obtain ⟨x, hx⟩ := hR.rtab k hk
    exact hx.len : (LU k).length ≤ 50)
  have HR := hide hR
  clear hR hv
  go_enter Tryz.func58, Tryz.ntmps58
  go_wp2_with fail
  refine (unhide HC).mono ?_
  rintro e w1 ⟨v1, rfl, ho1, hb1⟩
  have hR1 := (unhide HR).below hb1
  obtain ⟨x, hx⟩ := hR1.rtab k hk
  obtain ⟨xa, xc, hxf⟩ := hx.form
  generalize hln : (LU k).length = ln at hxf
  subst hxf
  have m3 := hR1.made.cell 3
  have r3 := pair_at hR1.rowU hk
  have x1 := hx.blk.cell 1
  simp only [List.getElem?_cons_zero, List.getElem?_cons_succ] at m3 x1
  unfold ptr at r3
  have HX := hide hx
  have HO1 := hide ho1
  clear hR1 hx ho1 m2 r2
  go_wp2_with fail
  refine (sameHeaders_any _ _ _ _ (LU k) _ (by omega) (unhide HO1) (unhide HX).own).mono ?_
  rintro e w2 ⟨rfl, nd, rfl⟩
  go_wp2_with fail
  go_ret
  exact ⟨rfl, Below.drewN hb1 nd⟩
end Go.Proofs.YtbkpdapagfjmmaaGreatDoor

/-
  Walks: a step of a table: a new one.
-/
namespace Go.Proofs.YtbkpdapagfjmmaaGreatDoor
open Go.RowKit

section
variable (b0 M gT gU cT cU : Nat) (vR vS pv : Value) (t u B : Nat → Nat) (L : Nat → List Lk.Hd)

/-- What a step of a table leaves. -/
def TPost (w : World) (e : Ending) (w' : World) : Prop :=
  e = .returned (.bool true) ∧ (∃ t' u' B' L', Rigs b0 M gT gU cT cU vR vS pv t' u' B' L' L' w') ∧ Below b0 w w'
end

set_option maxHeartbeats 2000000 in
set_option maxRecDepth 100000 in
theorem tables_newBad (b0 M gT gU cT cU : Nat) (vR vS pv : Value) (t u B : Nat → Nat) (L : Nat → List Lk.Hd) (k : Nat) (a b n : Int) (st tt : ByteArray) (ha : Option Addr) (hl hc : Nat) (w : World) (hb0 : b0 ≤ w.heap.size) (hk : k < 2) (hbad : a < 0 ∨ 200 < a) (hR : Rigs b0 M gT gU cT cU vR vS pv t u B L L w) :
    Calls Tryz.prog 29 #[.pointer (some ⟨M, 0, none⟩), .agg #[.int .i64 4, .int .i64 a, .int .i64 b, .string st, .string tt, .int .i64 n, .slice ha hl hc], .int .i64 k] w (TPost b0 M gT gU cT cU vR vS pv w) := by
  have hBx := Is.new w 33 [.int .i64 4, .int .i64 a, .int .i64 b, .string st, .string tt, .int .i64 n, .slice ha hl hc]
  have hbW := (Below.refl w.heap.size w).alloc (Nat.le_refl _) (.cells #[.int .i64 4, .int .i64 a, .int .i64 b, .string st, .string tt, .int .i64 n, .slice ha hl hc] 33)
  have HR := hide (hR.below hbW)
  have HBX := hide hBx
  have HBW := hide hbW
  clear hR hBx hbW
  go_enter Tryz.func29, Tryz.ntmps29
  go_wp2_with fail
  refine (newTable_bad a hbad _).mono ?_
  rintro e w1 ⟨rfl, hb1⟩
  have hB1 := (unhide HBX).below hb1 (unhide HBX).lt
  have o1 := hB1.cell 1
  simp only [List.getElem?_cons_zero, List.getElem?_cons_succ] at o1
  have HR1 := hide ((unhide HR).below hb1)
  have HBW1 := hide ((unhide HBW).trans (hb1.mono (by simp)))
  clear hB1
  go_wp2_with fail
  refine (rnewTable_bad a hbad _).mono ?_
  rintro e w2 ⟨rfl, hb2⟩
  have HR2 := hide ((unhide HR1).below hb2)
  have HBW2 := hide ((unhide HBW1).trans (hb2.mono (unhide HBW1).size))
  go_wp2_with fail
  refine (num4 1 _).mono ?_
  rintro e w3 ⟨rfl, rfl⟩
  go_wp2_with fail
  refine (entriesM_any b0 M gT gU cT cU vR vS pv t u B L L k _ hk rfl (unhide HR2)).mono ?_
  rintro e w4 ⟨rfl, hb4⟩
  go_wp2_with fail
  go_ret
  exact ⟨rfl, ⟨t, u, B, L, (unhide HR2).below hb4⟩, ((unhide HBW2).trans (hb4.mono (unhide HBW2).size)).mono hb0⟩

set_option maxHeartbeats 2000000 in
set_option maxRecDepth 100000 in
theorem tables_newOk (b0 M gT gU cT cU : Nat) (vR vS pv : Value) (t u B : Nat → Nat) (L : Nat → List Lk.Hd) (k : Nat) (a : Nat) (b n : Int) (st tt : ByteArray) (ha : Option Addr) (hl hc : Nat) (w : World) (hb0 : b0 ≤ w.heap.size) (hk : k < 2) (hok : a ≤ 200) (hR : Rigs b0 M gT gU cT cU vR vS pv t u B L L w) :
    Calls Tryz.prog 29 #[.pointer (some ⟨M, 0, none⟩), .agg #[.int .i64 4, .int .i64 a, .int .i64 b, .string st, .string tt, .int .i64 n, .slice ha hl hc], .int .i64 k] w (TPost b0 M gT gU cT cU vR vS pv w) := by
  have hk' : (k : Int) < 2 := by omega
  have hBx := Is.new w 33 [.int .i64 4, .int .i64 a, .int .i64 b, .string st, .string tt, .int .i64 n, .slice ha hl hc]
  have hbW := (Below.refl w.heap.size w).alloc (Nat.le_refl _) (.cells #[.int .i64 4, .int .i64 a, .int .i64 b, .string st, .string tt, .int .i64 n, .slice ha hl hc] 33)
  have HR := hide (hR.below hbW)
  have HLT := hide (fun j (hj : j < 2) => (by obtain ⟨x, hx⟩ := hR.tab j hj; exact hx.blk.lt : t j < w.heap.size))
  have HLU := hide (fun j (hj : j < 2) => (by obtain ⟨x, hx⟩ := hR.rtab j hj; exact hx.blk.lt : u j < w.heap.size))
  have HBX := hide hBx
  have HBW := hide hbW
  clear hR hBx hbW
  go_enter Tryz.func29, Tryz.ntmps29
  go_wp2_with fail
  refine (newTable_ok a hok _).mono ?_
  rintro e w1 ⟨t', rfl, ht', hT1, hb1⟩
  have hB1 := (unhide HBX).below hb1 (unhide HBX).lt
  have o1 := hB1.cell 1
  simp only [List.getElem?_cons_zero, List.getElem?_cons_succ] at o1
  have HR1 := hide ((unhide HR).below hb1)
  have HT1 := hide hT1
  have HBW1 := hide ((unhide HBW).trans (hb1.mono (by simp)))
  have ht2 : w.heap.size ≤ t' := by simp at ht'; omega
  clear hB1 hT1 ht'
  go_wp2_with fail
  refine (rnewTable_ok a hok _).mono ?_
  rintro e w2 ⟨u', rfl, hu', hU2, hb2⟩
  have hR2 := (unhide HR1).below hb2
  have HT2 := hide ((unhide HT1).below hb2)
  have HU2 := hide hU2
  have HBW2 := hide ((unhide HBW1).trans (hb2.mono (unhide HBW1).size))
  have hu2 : w.heap.size ≤ u' := by have := (unhide HBW1).size; omega
  have m2 := hR2.made.cell 2
  have m3 := hR2.made.cell 3
  have r2 := pair_at hR2.rowT hk
  have r3 := pair_at hR2.rowU hk
  have f2 := pair_free hR2.rowT k
  have f3 := pair_free hR2.rowU k
  have hcT := hR2.cT2
  have hcU := hR2.cU2
  obtain ⟨tl, hgT⟩ := hR2.rowT
  have hMg := hR2.made.ne hgT (Nat.ne_of_beq_eq_false rfl)
  have m3' := (hR2.made.other ⟨gT, k, none⟩ (.pointer (some ⟨t', 0, none⟩)) hMg).cell 3
  obtain ⟨tl2, hgU⟩ := hR2.rowU
  have hUg := hgU.ne hgT (Nat.ne_of_beq_eq_false rfl)
  have hgU' := hgU.other ⟨gT, k, none⟩ (.pointer (some ⟨t', 0, none⟩)) hUg
  have r3' := pair_at ⟨tl2, hgU'⟩ hk
  have f3' := hgU'.free k
  simp only [List.getElem?_cons_zero, List.getElem?_cons_succ] at m2 m3 m3'
  unfold ptr at r2 r3 r3'
  have HR2 := hide hR2
  clear hR2 hU2 hgT hgU hgU'
  go_wp2_with fail
  refine (num4 0 _).mono ?_
  rintro e w3 ⟨rfl, rfl⟩
  go_wp2_with fail
  have hRN := (unhide HR2).put hk (unhide HT2) (unhide HU2) (by omega) (by omega) (fun j hj => by have := unhide HLT j hj; omega) (fun j hj => by have := unhide HLU j hj; omega)
  have hbN : Below b0 w ((w3.setCell ⟨gT, k, none⟩ (ptr t')).setCell ⟨gU, k, none⟩ (ptr u')) := (((unhide HBW2).mono hb0).setCell (unhide HR2).hT _).setCell (unhide HR2).hU _
  have hsN : b0 ≤ ((w3.setCell ⟨gT, k, none⟩ (ptr t')).setCell ⟨gU, k, none⟩ (ptr u')).heap.size := Nat.le_trans hb0 hbN.size
  refine (entriesM_any b0 M gT gU cT cU vR vS pv _ _ _ _ _ k _ hk rfl hRN).mono ?_
  rintro e w4 ⟨rfl, hb4⟩
  go_wp2_with fail
  go_ret
  exact ⟨rfl, ⟨_, _, _, _, hRN.below hb4⟩, hbN.trans (hb4.mono hsN)⟩
end Go.Proofs.YtbkpdapagfjmmaaGreatDoor
