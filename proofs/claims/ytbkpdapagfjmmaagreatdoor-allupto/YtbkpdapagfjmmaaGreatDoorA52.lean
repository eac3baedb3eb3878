import Derived.Test.YtbkpdapagfjmmaaGreatDoorA43
import Derived.Deep.RegionHeld
import Derived.Deep.RegionHeld3
set_option linter.unusedVariables false
set_option maxRecDepth 100000
set_option maxHeartbeats 16000000
namespace Go.Proofs.YtbkpdapagfjmmaaGreatDoor
open Go.RowKit
def sqS (B : Nat) (L l : List Lk.Hd) : ByteArray := if (Lk.wrong l).1 = 0 then bs (Lk.squeeze B L l).1 else ⟨#[]⟩
def sqL (B : Nat) (L l : List Lk.Hd) : List Lk.Hd := if (Lk.wrong l).1 = 0 then (Lk.squeeze B L l).2 else L
theorem Fp (B : Nat) (L l : List Lk.Hd) (hB : B <= 200) (hL : Lk.weights L <= B) : (sqS B L l).size <= 2 ^ 39 := by
 unfold sqS
 split
 . rename_i h
   have hok := Lk.xy h
   have := Lk.kF B hB l L hL hok.2
   rw [ax]
   omega
 . simp [ByteArray.size]
theorem uJ.to {X : Nat -> Prop} {w w' : World} {t B B2 : Nat} {L L2 : List Lk.Hd} {v v' : Value} (h : uJ X w t B L v) (hT : Tab w' t B2 L2 v') (hs : w.heap.size <= w'.heap.size) (hn : fZ w.heap.size v v') : uJ X w' t B2 L2 v' :=
 ⟨hT, fun i hi hx => by
  rcases hn with rfl | hn
  . exact h.sx i hi hx
  . have := hn i hi
    have := h.lx i hx
    omega, fun i hi => Nat.lt_of_lt_of_le (h.lx i hi) hs⟩
theorem jC.to {X : Nat -> Prop} {w w' : World} {t B B2 : Nat} {L L2 : List Lk.Hd} {v v' : Value} (h : jC X w t B L v) (hT : RTab w' t B2 L2 v') (hs : w.heap.size <= w'.heap.size) (hn : fZ w.heap.size v v') : jC X w' t B2 L2 v' :=
 ⟨hT, fun i hi hx => by
  rcases hn with rfl | hn
  . exact h.sx i hi hx
  . have := hn i hi
    have := h.lx i hx
    omega, fun i hi => Nat.lt_of_lt_of_le (h.lx i hi) hs⟩
theorem uG (t B B1 : Nat) (L l : List Lk.Hd) (v lv : Value) (w : World) (hT : Tab w t B L v) (hfx : Fx w) (ht0 : t ≠ 0) (hw : (Lk.wrong l).1 = 0) (own : w.ownsRow B1 112 2 lv l.length (aQ l)) :
 Calls Tryz.prog 59 #[.pointer (some ⟨t, 0, none⟩), lv] w fun e w' =>
  e = .returned (.tuple #[.string (bs (Lk.squeeze B L l).1), .int .i64 0, .int .i64 0]) ∧ (∃ v', Tab w' t B (Lk.squeeze B L l).2 v' ∧ fZ w.heap.size v v') ∧ Turns t w w' := by
 have HO := hide own
 have HT := hide hT
 have HFX := hide hfx
 have h0 := hfx.1
 clear own hT hfx
 generalize hS : bs (Lk.squeeze B L l).1 = S
 have HS := hide hS
 clear hS
 go_enter Tryz.func59, Tryz.ntmps59
 go_wp2_with fail
 refine (iJ B1 lv l _ (uh HO)).mono ?_
 rintro e w1 ⟨he, hb⟩
 rw [hw] at he
 subst he
 have hcall : Calls Tryz.prog 82 #[.pointer (some ⟨t, 0, none⟩), lv] w1 fun e w' => e = .returned (.string S) ∧ (∃ v', Tab w' t B (Lk.squeeze B L l).2 v' ∧ fZ w.heap.size v v') ∧ Turns t w1 w' := by
  refine (kG t B B1 L l v lv w1 ((uh HT).below hb) ((uh HFX).below hb h0) ht0 hw (own_below (uh HO) hb)).mono ?_
  rintro e w2 ⟨rfl, ⟨v', h1, hn⟩, h2⟩
  exact ⟨by rw [uh HS], ⟨v', h1, hn.mono hb.size⟩, h2⟩
 have HC := hide hcall
 clear hcall
 go_wp2_with fail
 refine (uh HC).mono ?_
 rintro e w2 ⟨rfl, hv2, hT2⟩
 go_wp2_with fail
 go_ret3
 exact ⟨rfl, hv2, (Below.turns hb t).trans hT2⟩
theorem qK {X : Nat -> Prop} (t B B1 : Nat) (L l : List Lk.Hd) (v lv : Value) (w : World) (hT : uJ X w t B L v) (hfx : Fx w) (ht0 : t ≠ 0) (own : w.ownsRow B1 112 2 lv l.length (aQ l)) :
 Calls Tryz.prog 59 #[.pointer (some ⟨t, 0, none⟩), lv] w fun e w' =>
  e = .returned (.tuple #[.string (sqS B L l), .int .i64 (Lk.wrong l).1, .int .i64 (Lk.wrong l).2]) ∧ (∃ v', uJ X w' t B (sqL B L l) v') ∧ Turns t w w' := by
 unfold sqS sqL
 by_cases h : (Lk.wrong l).1 = 0
 . rw [if_pos h, if_pos h, h, Lk.wrong_place h]
   refine (uG t B B1 L l v lv w hT.toTab hfx ht0 h own).mono ?_
   rintro e w' ⟨rfl, ⟨v', h1, h2⟩, h3⟩
   exact ⟨rfl, ⟨v', hT.to h1 h3.size h2⟩, h3⟩
 . rw [if_neg h, if_neg h]
   refine (tX t B1 l lv w h own).mono ?_
   rintro e w' ⟨rfl, hb⟩
   exact ⟨rfl, ⟨v, hT.below hb⟩, Below.turns hb t⟩
theorem qL {X : Nat -> Prop} (t B B1 : Nat) (L l : List Lk.Hd) (v lv : Value) (w : World) (hT : jC X w t B L v) (own : w.ownsRow B1 206 2 lv l.length (aQ l)) :
 Calls Tryz.prog 60 #[.pointer (some ⟨t, 0, none⟩), lv] w fun e w' =>
  e = .returned (.tuple #[.string (sqS B L l), .int .i64 (Lk.wrong l).1, .int .i64 (Lk.wrong l).2]) ∧ (∃ v', jC X w' t B (sqL B L l) v') ∧ Turns t w w' := by
 unfold sqS sqL
 by_cases h : (Lk.wrong l).1 = 0
 . rw [if_pos h, if_pos h, h, Lk.wrong_place h]
   refine (ug t B B1 L l v lv w hT.toRTab h own).mono ?_
   rintro e w' ⟨rfl, ⟨v', h1, h2⟩, h3⟩
   exact ⟨rfl, ⟨v', hT.to h1 h3.size h2⟩, h3⟩
 . rw [if_neg h, if_neg h]
   refine (Ar t B1 l lv w h own).mono ?_
   rintro e w' ⟨rfl, hb⟩
   exact ⟨rfl, ⟨v, hT.below hb⟩, Below.turns hb t⟩
namespace Lk
def XR.hs : XR -> List Hd
 | .ok hs _ => hs
 | .err _ _ => []
def XR.ec : XR -> Nat
 | .ok _ _ => 0
 | .err e _ => e
def XR.pl : XR -> Nat
 | .ok _ _ => 0
 | .err _ p => p
def XR.tab (L : List Hd) : XR -> List Hd
 | .ok _ L2 => L2
 | .err _ _ => L
end Lk
theorem uH {Y : Nat -> Prop} (t B : Nat) (L : List Lk.Hd) (v : Value) (s : ByteArray) (w : World) (hs : s.size <= 2 ^ 48) (hT : uJ Y w t B L v) (hfx : Fx w) (X : Lk.XR) (HX : Hid (Lk.exR B s.data.toList 6 L 0 = X)) :
 Calls Tryz.prog 62 #[.pointer (some ⟨t, 0, none⟩), .string s] w fun e w' =>
  ∃ lv, e = .returned (.tuple #[lv, .int .i64 X.ec, .int .i64 X.pl]) ∧ w'.ownsRow w.heap.size 112 2 lv X.hs.length (aQ X.hs) ∧ (∃ v', uJ Y w' t B (X.tab L) v') ∧ Turns t w w' ∧ X.hs.length <= 6 := by
 refine (uu t 0 B 90 _ L v s w hs hT.blk (nbq rfl) rfl rfl rfl hT.own hT.le hT.hB hfx X HX).mono ?_
 intro e w' h
 cases X with
 | ok hs L2 =>
   obtain ⟨⟨lv, v', rfl, ho, hI, how, hn, hle, _, h6⟩, hTu⟩ := h
   exact ⟨lv, rfl, ho, ⟨v', hT.to ⟨hI, how, hle, hT.hB⟩ hTu.size hn⟩, hTu, h6⟩
 | err ec q =>
   obtain ⟨rfl, hb⟩ := h
   exact ⟨_, rfl, World.ownsRow_nil _ _ _ _, ⟨v, hT.below hb⟩, Below.turns hb t, by simp [Lk.XR.hs]⟩
theorem uI {Y : Nat -> Prop} (t B : Nat) (L : List Lk.Hd) (v : Value) (s : ByteArray) (w : World) (hs : s.size <= 2 ^ 48) (hT : jC Y w t B L v) (X : Lk.XR) (HX : Hid (Lk.exR B s.data.toList 6 L 0 = X)) :
 Calls Tryz.prog 63 #[.pointer (some ⟨t, 0, none⟩), .string s] w fun e w' =>
  ∃ lv, e = .returned (.tuple #[lv, .int .i64 X.ec, .int .i64 X.pl]) ∧ w'.ownsRow w.heap.size 206 2 lv X.hs.length (aQ X.hs) ∧ (∃ v', jC Y w' t B (X.tab L) v') ∧ Turns t w w' := by
 refine (uj t B L v s w hs hT.toRTab X HX).mono ?_
 intro e w' h
 cases X with
 | ok hs L2 =>
   obtain ⟨⟨lv, v', rfl, ho, hT', h6, hv3, hdis⟩, hTu⟩ := h
   exact ⟨lv, rfl, ho, ⟨v', hT.to hT' hTu.size (.inr hv3)⟩, hTu⟩
 | err ec q =>
   obtain ⟨rfl, hb⟩ := h
   exact ⟨_, rfl, World.ownsRow_nil _ _ _ _, ⟨v, hT.below hb⟩, Below.turns hb t⟩
theorem gI (X : Nat -> Prop) (b0 M gT gU cT cU : Nat) (vR vS vE vF pv : Value) (t u B : Nat -> Nat) (LT LU : Nat -> List Lk.Hd) (k : Nat) (w : World) (hk : k < 2) (hL : LT k = LU k) (hR : vG X b0 M gT gU cT cU vR vS vE vF pv t u B LT LU w) :
 Calls Tryz.prog 58 #[.pointer (some ⟨M, 0, none⟩), .int .i64 k] w fun e w' => e = .returned (.bool true) ∧ Below w.heap.size w w' := by
 obtain ⟨v, hv⟩ := hR.tab k hk
 have hk' : (k : Int) < 2 := by omega
 have m2 := hR.made.cell 2
 have r2 := fE hR.rowT hk
 simp only [List.getElem?_cons_zero, List.getElem?_cons_succ] at m2
 unfold ptr at r2
 have hMl := hR.made.lt
 have hgl := World.block_lt_of_cell? _ _ r2
 have hcT := hR.cT2
 have hcU := hR.cU2
 have HC := hide (C9 (t k) (B k) (LT k) v w hv.toTab)
 rw [hL] at HC
 have hlen := (by
  obtain ⟨x, hx⟩ := hR.zi k hk
  exact hx.len : (LU k).length <= 50)
 have HR := hide hR
 clear hR hv
 go_enter Tryz.func58, Tryz.ntmps58
 go_wp2_with fail
 refine (uh HC).mono ?_
 rintro e w1 ⟨v1, rfl, ho1, hb1⟩
 have hR1 := (uh HR).below hb1
 obtain ⟨x, hx⟩ := hR1.zi k hk
 obtain ⟨xa, xc, hxf⟩ := hx.form
 generalize hln : (LU k).length = ln at hxf
 subst hxf
 have m3 := hR1.made.cell 3
 have r3 := fE hR1.zh hk
 have x1 := hx.blk.cell 1
 simp only [List.getElem?_cons_zero, List.getElem?_cons_succ] at m3 x1
 unfold ptr at r3
 have HX := hide hx
 have HO1 := hide ho1
 clear hR1 hx ho1 m2 r2
 go_wp2_with fail
 refine (ig _ _ _ _ (LU k) _ (by omega) (uh HO1) (uh HX).own).mono ?_
 rintro e w2 ⟨rfl, nd, rfl⟩
 go_wp2_with fail
 go_ret
 exact ⟨rfl, Below.drewN hb1 nd⟩
open Go.RowKit
section
variable (X : Nat -> Prop) (b0 M gT gU cT cU : Nat) (vR vS vE vF pv : Value) (t u B : Nat -> Nat) (L : Nat -> List Lk.Hd)
def Ik (w : World) (e : Ending) (w' : World) : Prop :=
 e = .returned (.bool true) ∧ (∃ t' u' B' L', vG X b0 M gT gU cT cU vR vS vE vF pv t' u' B' L' L' w' ∧ ∀ i, TF gT gU t' u' i -> TF gT gU t u i ∨ w.heap.size <= i) ∧ FB b0 (TF gT gU t u) w w'
end
theorem yV (X : Nat -> Prop) (b0 M gT gU cT cU : Nat) (vR vS vE vF pv : Value) (t u B : Nat -> Nat) (L : Nat -> List Lk.Hd) (k : Nat) (a b n : Int) (st tt : ByteArray) (ha : Option Addr) (hl hc : Nat) (w : World) (hb0 : b0 <= w.heap.size) (hk : k < 2) (hbad : a < 0 ∨ 200 < a) (hR : vG X b0 M gT gU cT cU vR vS vE vF pv t u B L L w) :
 Calls Tryz.prog 29 #[.pointer (some ⟨M, 0, none⟩), .agg #[.int .i64 4, .int .i64 a, .int .i64 b, .string st, .string tt, .int .i64 n, .slice ha hl hc], .int .i64 k] w (Ik X b0 M gT gU cT cU vR vS vE vF pv t u w) := by
 have hBx := Is.new w 33 [.int .i64 4, .int .i64 a, .int .i64 b, .string st, .string tt, .int .i64 n, .slice ha hl hc]
 have hbW := (Below.refl w.heap.size w).alloc (Nat.le_refl _) (.cells #[.int .i64 4, .int .i64 a, .int .i64 b, .string st, .string tt, .int .i64 n, .slice ha hl hc] 33)
 have HR := hide (hR.below hbW)
 have HBX := hide hBx
 have HBW := hide hbW
 clear hR hBx hbW
 go_enter Tryz.func29, Tryz.ntmps29
 go_wp2_with fail
 refine (Ak a hbad _).mono ?_
 rintro e w1 ⟨rfl, hb1⟩
 have hB1 := (uh HBX).below hb1 (uh HBX).lt
 have o1 := hB1.cell 1
 simp only [List.getElem?_cons_zero, List.getElem?_cons_succ] at o1
 have HR1 := hide ((uh HR).below hb1)
 have QS := hide ((uh HBW).trans (hb1.mono (by simp)))
 clear hB1
 go_wp2_with fail
 refine (yB a hbad _).mono ?_
 rintro e w2 ⟨rfl, hb2⟩
 have HR2 := hide ((uh HR1).below hb2)
 have TD := hide ((uh QS).trans (hb2.mono (uh QS).size))
 go_wp2_with fail
 refine (zg 1 _).mono ?_
 rintro e w3 ⟨rfl, rfl⟩
 go_wp2_with fail
 refine (gI _ b0 M gT gU cT cU vR vS vE vF pv t u B L L k _ hk rfl (uh HR2)).mono ?_
 rintro e w4 ⟨rfl, hb4⟩
 go_wp2_with fail
 go_ret
 exact ⟨rfl, ⟨t, u, B, L, (uh HR2).below hb4, fun i hi => .inl hi⟩, FB.of ((uh TD).trans (hb4.mono (uh TD).size)) hb0⟩
theorem Bv (X : Nat -> Prop) (b0 M gT gU cT cU : Nat) (vR vS vE vF pv : Value) (t u B : Nat -> Nat) (L : Nat -> List Lk.Hd) (k : Nat) (a : Nat) (b n : Int) (st tt : ByteArray) (ha : Option Addr) (hl hc : Nat) (w : World) (hb0 : b0 <= w.heap.size) (hk : k < 2) (hok : a <= 200) (hR : vG X b0 M gT gU cT cU vR vS vE vF pv t u B L L w) :
 Calls Tryz.prog 29 #[.pointer (some ⟨M, 0, none⟩), .agg #[.int .i64 4, .int .i64 a, .int .i64 b, .string st, .string tt, .int .i64 n, .slice ha hl hc], .int .i64 k] w (Ik X b0 M gT gU cT cU vR vS vE vF pv t u w) := by
 have hk' : (k : Int) < 2 := by omega
 have hBx := Is.new w 33 [.int .i64 4, .int .i64 a, .int .i64 b, .string st, .string tt, .int .i64 n, .slice ha hl hc]
 have hbW := (Below.refl w.heap.size w).alloc (Nat.le_refl _) (.cells #[.int .i64 4, .int .i64 a, .int .i64 b, .string st, .string tt, .int .i64 n, .slice ha hl hc] 33)
 have HR := hide (hR.below hbW)
 have HLT := hide (fun j (hj : j < 2) => (by obtain ⟨x, hx⟩ := hR.tab j hj; exact hx.blk.lt : t j < w.heap.size))
 have HLU := hide (fun j (hj : j < 2) => (by obtain ⟨x, hx⟩ := hR.zi j hj; exact hx.blk.lt : u j < w.heap.size))
 have HBX := hide hBx
 have HBW := hide hbW
 clear hR hBx hbW
 go_enter Tryz.func29, Tryz.ntmps29
 go_wp2_with fail
 refine (tV a hok _).mono ?_
 rintro e w1 ⟨t', rfl, ht', hT1, hb1⟩
 have hB1 := (uh HBX).below hb1 (uh HBX).lt
 have o1 := hB1.cell 1
 simp only [List.getElem?_cons_zero, List.getElem?_cons_succ] at o1
 have HR1 := hide ((uh HR).below hb1)
 have HT1 := hide hT1
 have QS := hide ((uh HBW).trans (hb1.mono (by simp)))
 have ht2 : w.heap.size <= t' := by simp at ht'; omega
 clear hB1 hT1 ht'
 go_wp2_with fail
 refine (qC a hok _).mono ?_
 rintro e w2 ⟨u', rfl, hu', hU2, hb2⟩
 have hR2 := (uh HR1).below hb2
 have HT2 := hide ((uh HT1).below hb2)
 have HU2 := hide hU2
 have TD := hide ((uh QS).trans (hb2.mono (uh QS).size))
 have hu2 : w.heap.size <= u' := by have := (uh QS).size; omega
 have m2 := hR2.made.cell 2
 have m3 := hR2.made.cell 3
 have r2 := fE hR2.rowT hk
 have r3 := fE hR2.zh hk
 have f2 := xu hR2.rowT k
 have f3 := xu hR2.zh k
 have hcT := hR2.cT2
 have hcU := hR2.cU2
 obtain ⟨tl, hgT⟩ := hR2.rowT
 have hMg := hR2.made.ne hgT (nbq rfl)
 have m3' := (hR2.made.other ⟨gT, k, none⟩ (.pointer (some ⟨t', 0, none⟩)) hMg).cell 3
 obtain ⟨tl2, hgU⟩ := hR2.zh
 have hUg := hgU.ne hgT (nbq rfl)
 have UE := hgU.other ⟨gT, k, none⟩ (.pointer (some ⟨t', 0, none⟩)) hUg
 have r3' := fE ⟨tl2, UE⟩ hk
 have f3' := UE.free k
 simp only [List.getElem?_cons_zero, List.getElem?_cons_succ] at m2 m3 m3'
 unfold ptr at r2 r3 r3'
 have HR2 := hide hR2
 clear hR2 hU2 hgT hgU UE
 go_wp2_with fail
 refine (zg 0 _).mono ?_
 rintro e w3 ⟨rfl, rfl⟩
 go_wp2_with fail
 have hRN := (uh HR2).put hk (v := gQ) (v' := gQ) (by obtain ⟨y, hy⟩ := (uh HR2).tab k hk; exact ⟨uh HT2, fun i hi => (by cases hi), hy.lx⟩) (by obtain ⟨y, hy⟩ := (uh HR2).tab k hk; exact ⟨uh HU2, fun i hi => (by cases hi), hy.lx⟩) (by omega) (by omega) (fun j hj => by have := uh HLT j hj; omega) (fun j hj => by have := uh HLU j hj; omega)
 have hbN : FB b0 (TF gT gU t u) w ((w3.setCell ⟨gT, k, none⟩ (ptr t')).setCell ⟨gU, k, none⟩ (ptr u')) := ((FB.of (uh TD) hb0).set k _ (uh HR2).hT (.inl rfl)).set k _ (uh HR2).hU (.inr (.inl rfl))
 have hsN : b0 <= ((w3.setCell ⟨gT, k, none⟩ (ptr t')).setCell ⟨gU, k, none⟩ (ptr u')).heap.size := Nat.le_trans hb0 hbN.size
 refine (gI _ b0 M gT gU cT cU vR vS vE vF pv _ _ _ _ _ k _ hk rfl hRN).mono ?_
 rintro e w4 ⟨rfl, hb4⟩
 go_wp2_with fail
 go_ret
 refine ⟨rfl, ⟨_, _, _, _, hRN.below hb4, fun i hi => ?_⟩, hbN.next hb4 hsN⟩
 rcases hi with hi | hi | ⟨j, hj, hi⟩
 . exact .inl (.inl hi)
 . exact .inl (.inr (.inl hi))
 . by_cases hjk : j = k
   . subst hjk
     rw [upd_same, upd_same] at hi
     exact .inr (by omega)
   . rw [bY _ _ hjk, bY _ _ hjk] at hi
     exact .inl (.inr (.inr ⟨j, hj, hi⟩))
theorem iF {w w' : World} {r b i : Nat} {x : Value} (h : w.cell? ⟨b, i, none⟩ = some x) (hT : Turns r w w') (h1 : b ≠ r) : w'.cell? ⟨b, i, none⟩ = some x := hT.cell h (by simpa using h1)
theorem iW {w w' : World} {b i : Nat} {x : Value} (h : w.cell? ⟨b, i, none⟩ = some x) (hb : Below w.heap.size w.drew w') : w'.cell? ⟨b, i, none⟩ = some x := aK (W := w) (bQ hb) (World.block_lt_of_cell? _ _ h) h
theorem Strs.turns {w w' : World} {v : Value} {l : List ByteArray} {r : Nat} (h : Strs w v l) (hT : Turns r w w') (hr : ∀ a n c, v = .slice (some a) n c -> n ≠ 0 -> a.block ≠ r) : Strs w' v l := by
 rcases h with h | ⟨g, o, cap, h1, h2, h3⟩
 . exact .inl h
 . by_cases h0 : l = []
   . subst h0
     exact .inl ⟨rfl, _, _, h1⟩
   . have hne : l.length ≠ 0 := fun e => h0 (List.eq_nil_of_length_eq_zero e)
     exact .inr ⟨g, o, cap, h1, Nat.lt_of_lt_of_le h2 hT.size, fun i x hx => iF (h3 i x hx) hT (hr _ _ _ h1 hne)⟩
theorem Strs.lt {w : World} {v : Value} {l : List ByteArray} (h : Strs w v l) (x : Addr) (n c : Nat) (e : v = .slice (some x) n c) (hn : n ≠ 0) : x.block < w.heap.size := by
 rcases h with ⟨rfl, a, c', rfl⟩ | ⟨g, o, cap, rfl, h2, h3⟩
 . cases e; exact absurd rfl hn
 . cases e; exact h2
theorem vH (X : Nat -> Prop) (b0 M gT gU cT cU : Nat) (vR vS vE vF pv : Value) (t u B : Nat -> Nat) (L : Nat -> List Lk.Hd) (k : Nat) (a b n : Int) (st tt : ByteArray) (ha : Option Addr) (hl hc : Nat) (w : World) (hb0 : b0 <= w.heap.size) (hk : k < 2) (l : List ByteArray) (D7 : l.length <= 2 ^ 43) (hS : Strs w (.slice ha hl hc) l) (hSX : ∀ (x : Addr) (n c : Nat), Value.slice ha hl hc = .slice (some x) n c -> n ≠ 0 -> x.block < b0) (hR : vG X b0 M gT gU cT cU vR vS vE vF pv t u B L L w) :
 Calls Tryz.prog 29 #[.pointer (some ⟨M, 0, none⟩), .agg #[.int .i64 5, .int .i64 a, .int .i64 b, .string st, .string tt, .int .i64 n, .slice ha hl hc], .int .i64 k] w (Ik X b0 M gT gU cT cU vR vS vE vF pv t u w) := by
 have hk' : (k : Int) < 2 := by omega
 have hBx := Is.new w 33 [.int .i64 5, .int .i64 a, .int .i64 b, .string st, .string tt, .int .i64 n, .slice ha hl hc]
 have hbW := (Below.refl w.heap.size w).alloc (Nat.le_refl _) (.cells #[.int .i64 5, .int .i64 a, .int .i64 b, .string st, .string tt, .int .i64 n, .slice ha hl hc] 33)
 have hR0 := hR.below hbW
 have HSX := hide hSX
 clear hSX
 have hS0 := hS.below hbW (Nat.le_refl _)
 have hOl : w.heap.size <= w.heap.size := Nat.le_refl _
 generalize hW : w.alloc (.cells #[.int .i64 5, .int .i64 a, .int .i64 b, .string st, .string tt, .int .i64 n, .slice ha hl hc] 33) = W at *
 have m2 := hR0.made.cell 2
 have r2 := fE hR0.rowT hk
 have o0 := hBx.cell 0
 have o3 := hBx.cell 3
 have o6 := hBx.cell 6
 simp only [List.getElem?_cons_zero, List.getElem?_cons_succ] at m2 o0 o3 o6
 unfold ptr at r2
 have hcT := hR0.cT2
 have hcU := hR0.cU2
 obtain ⟨v0, hv0⟩ := hR0.tab k hk
 obtain ⟨tl, hgT⟩ := hR0.rowT
 obtain ⟨tl2, hgU⟩ := hR0.zh
 obtain ⟨x0, hx0⟩ := hR0.zi k hk
 have d1 := hR0.made.ne hv0.blk (nbq rfl)
 have d2 := hgT.ne hv0.blk (nbq rfl)
 have d3 := hBx.ne hv0.blk (nbq rfl)
 have e1 := hR0.made.ne hx0.blk (nbq rfl)
 have e2 := hgU.ne hx0.blk (nbq rfl)
 have e3 := hBx.ne hx0.blk (nbq rfl)
 have ht0 : t k ≠ 0 := by have := hR0.ht k hk; have := hR0.h0; omega
 have hsz := Fp (B k) (L k) (pairs l) hv0.hB hv0.le
 have HBX := hide hBx
 have HD := hide (⟨⟨d1, d2, d3⟩, e1, e2, e3⟩ : (M ≠ t k ∧ gT ≠ t k ∧ w.heap.size ≠ t k) ∧ M ≠ u k ∧ gU ≠ u k ∧ w.heap.size ≠ u k)
 have HR0 := hide hR0
 have HV0 := hide hv0
 have HS0 := hide hS0
 have HBW := hide hbW
 generalize hSS : sqS (B k) (L k) (pairs l) = S at *
 generalize hEE : (Lk.wrong (pairs l)).1 = E at *
 generalize hPP : (Lk.wrong (pairs l)).2 = P at *
 have HSQ := hide (⟨hSS, hEE, hPP⟩ : sqS (B k) (L k) (pairs l) = S ∧ (Lk.wrong (pairs l)).1 = E ∧ (Lk.wrong (pairs l)).2 = P)
 have HCT := hide (fun (w : World) (v lv : Value) (B1 : Nat) (hT : uJ X w (t k) (B k) (L k) v) (hfx : Fx w) (own : w.ownsRow B1 112 2 lv (pairs l).length (aQ (pairs l))) => qK (t k) (B k) B1 (L k) (pairs l) v lv w hT hfx ht0 own)
 have HCU := hide (fun (w : World) (v lv : Value) (B1 : Nat) (hT : jC X w (u k) (B k) (L k) v) (own : w.ownsRow B1 206 2 lv (pairs l).length (aQ (pairs l))) => qL (u k) (B k) B1 (L k) (pairs l) v lv w hT own)
 rw [hSS, hEE, hPP] at HCT HCU
 clear hR hR0 hS hS0 hv0 hgT hgU hx0 hBx hSS hEE hPP hbW d1 d2 d3 e1 e2 e3
 go_enter Tryz.func29, Tryz.ntmps29
 go_wp2_with fail
 go_cut [12, 13, 14] (fun s12 s13 s14 w1 => s12 = .string S ∧ s13 = .int .i64 E ∧ s14 = .int .i64 P ∧ (∃ v', uJ X w1 (t k) (B k) (sqL (B k) (L k) (pairs l)) v') ∧ ∃ wm, Below W.heap.size W wm ∧ Turns (t k) wm w1)
 case first =>
  go_region_held (fun w' => w'.cell? ⟨M, 2, none⟩ = some (.slice (some ⟨gT, 0, none⟩) 2 cT) ∧ w'.cell? ⟨gT, k, none⟩ = some (.pointer (some ⟨t k, 0, none⟩)) ∧ w'.cell? ⟨w.heap.size, 6, none⟩ = some (.slice ha hl hc))
   (first | exact ⟨m2, r2, o6⟩ | exact ⟨iW m2 hb1, iW r2 hb1, iW o6 hb1⟩ | exact ⟨iF (iW m2 hb1) hT2 (uh HD).1.1, iF (iW r2 hb1) hT2 (uh HD).1.2.1, iF (iW o6 hb1) hT2 (uh HD).1.2.2⟩ | assumption)
   (first
    | (go_at_call 20; refine (uD _ l W.drew D7 (uh HS0)).mono ?_; rintro e w1 ⟨v1, rfl, ho1, hb1⟩)
    | (go_at_call 59; refine (uh HCT _ v0 _ _ ((uh HV0).below (bQ hb1)) ((uh HR0).fx.below (bQ hb1) (uh HR0).fx.1) ho1).mono ?_; rintro e w2 ⟨rfl, pW, hT2⟩))
  all_goals (go_wp2_with fail; go_meet; exact ⟨rfl, rfl, rfl, pW, _, bQ hb1, hT2⟩)
 case rest =>
  obtain ⟨rfl, rfl, rfl, Am, wm, hbm, hTm⟩ := hcut
  have hR1 := ((uh HR0).below hbm).TB hk hTm Am
  have hB1 := ((uh HBX).below hbm (uh HBX).lt).grown hTm (by have := (uh HD).1.2.2; simpa using this)
  have hS1 := ((uh HS0).below hbm (Nat.le_refl _)).turns hTm (fun a n c e hn => by have h1 := (uh HSX) a n c e hn; have h2 := (uh HR0).ht k hk; omega)
  have iL : FB b0 (TF gT gU t u) w wc := FB.turn (FB.of ((uh HBW).trans (hbm.mono (uh HBW).size)) hb0) hTm ((uh HR0).ht k hk) (by have := (uh HBW).size; have := hbm.size; omega) (.inr (.inr ⟨k, hk, .inl rfl⟩))
  have hs1 : b0 <= wc.heap.size := Nat.le_trans hb0 iL.size
  have m3 := hR1.made.cell 3
  have r3 := fE hR1.zh hk
  have o6' := hB1.cell 6
  simp only [List.getElem?_cons_zero, List.getElem?_cons_succ] at m3 o6'
  unfold ptr at r3
  obtain ⟨x1, hx1⟩ := hR1.zi k hk
  have HX1 := hide hx1
  have HR1 := hide hR1
  have HB1 := hide hB1
  have HS1 := hide hS1
  clear hR1 hB1 hS1 hx1 m2 r2 o6 Am hbm hTm o0 o3
  obtain ⟨W1, hW1⟩ : ∃ W1, W1 = wc := ⟨_, rfl⟩
  subst hW1
  go_wp2_with fail
  go_cut [15, 16, 17] (fun s15 s16 s17 w1 => s15 = .string S ∧ s16 = .int .i64 E ∧ s17 = .int .i64 P ∧ (∃ v', jC X w1 (u k) (B k) (sqL (B k) (L k) (pairs l)) v') ∧ ∃ wm, Below W1.heap.size W1 wm ∧ Turns (u k) wm w1)
  case first =>
   go_region_held (fun w' => w'.cell? ⟨M, 3, none⟩ = some (.slice (some ⟨gU, 0, none⟩) 2 cU) ∧ w'.cell? ⟨gU, k, none⟩ = some (.pointer (some ⟨u k, 0, none⟩)) ∧ w'.cell? ⟨w.heap.size, 6, none⟩ = some (.slice ha hl hc))
    (first | exact ⟨m3, r3, o6'⟩ | exact ⟨iW m3 hb1, iW r3 hb1, iW o6' hb1⟩ | exact ⟨iF (iW m3 hb1) hT2 (uh HD).2.1, iF (iW r3 hb1) hT2 (uh HD).2.2.1, iF (iW o6' hb1) hT2 (uh HD).2.2.2⟩ | assumption)
    (first
     | (go_at_call 61; refine (pU _ l W1.drew D7 (uh HS1)).mono ?_; rintro e w1 ⟨v1, rfl, ho1, hb1⟩)
     | (go_at_call 60; refine (uh HCU _ x1 _ _ ((uh HX1).below (bQ hb1)) ho1).mono ?_; rintro e w2 ⟨rfl, pW, hT2⟩))
   all_goals (go_wp2_with fail; go_meet; exact ⟨rfl, rfl, rfl, pW, _, bQ hb1, hT2⟩)
  case rest =>
   obtain ⟨rfl, rfl, rfl, pW, wm, hbm, hTm⟩ := hcut
   have hR2 := ((uh HR1).below hbm).TC hk hTm pW
   have hB2 := ((uh HB1).below hbm (uh HB1).lt).grown hTm (by have := (uh HD).2.2.2; simpa using this)
   have lH : FB b0 (TF gT gU t u) w wc := FB.turn (iL.next hbm hs1) hTm ((uh HR0).hu k hk) (by have := hbm.size; omega) (.inr (.inr ⟨k, hk, .inr rfl⟩))
   have hs2 : b0 <= wc.heap.size := Nat.le_trans hb0 lH.size
   have HR2 := hide hR2
   have HB2 := hide hB2
   clear hR2 hB2 m3 r3 o6' pW hbm hTm iL hs1
   go_wp2_with fail
   refine (gI _ b0 M gT gU cT cU vR vS vE vF pv t u B _ _ k _ hk rfl (uh HR2)).mono ?_
   rintro e w3 ⟨rfl, hb3⟩
   have hB3 := (uh HB2).below hb3 (uh HB2).lt
   have o0 := hB3.cell 0
   simp only [List.getElem?_cons_zero] at o0
   have HR3 := hide ((uh HR2).below hb3)
   have lJ := lH.next hb3 hs2
   have hs3 : b0 <= w3.heap.size := Nat.le_trans hb0 lJ.size
   clear hB3 hb3 lH hs2
   go_wp2_with fail
   refine (zg _ _).mono ?_
   rintro e w4 ⟨rfl, rfl⟩
   go_wp2_with fail
   go_ret
   exact ⟨rfl, ⟨_, _, _, _, uh HR3, fun i hi => .inl hi⟩, lJ⟩
theorem Bz (X : Nat -> Prop) (b0 M gT gU cT cU : Nat) (vR vS vE vF pv : Value) (t u B : Nat -> Nat) (L : Nat -> List Lk.Hd) (k : Nat) (a b n : Int) (st tt : ByteArray) (ha : Option Addr) (hl hc : Nat) (w : World) (hb0 : b0 <= w.heap.size) (hk : k < 2) (l : List ByteArray) (D7 : l.length <= 2 ^ 43) (hS : Strs w (.slice ha hl hc) l) (hSX : ∀ (x : Addr) (n c : Nat), Value.slice ha hl hc = .slice (some x) n c -> n ≠ 0 -> x.block < b0) (hR : vG X b0 M gT gU cT cU vR vS vE vF pv t u B L L w) :
 Calls Tryz.prog 29 #[.pointer (some ⟨M, 0, none⟩), .agg #[.int .i64 7, .int .i64 a, .int .i64 b, .string st, .string tt, .int .i64 n, .slice ha hl hc], .int .i64 k] w (Ik X b0 M gT gU cT cU vR vS vE vF pv t u w) := by
 have hk' : (k : Int) < 2 := by omega
 have hBx := Is.new w 33 [.int .i64 7, .int .i64 a, .int .i64 b, .string st, .string tt, .int .i64 n, .slice ha hl hc]
 have hbW := (Below.refl w.heap.size w).alloc (Nat.le_refl _) (.cells #[.int .i64 7, .int .i64 a, .int .i64 b, .string st, .string tt, .int .i64 n, .slice ha hl hc] 33)
 have hR0 := hR.below hbW
 have HSX := hide hSX
 clear hSX
 have hS0 := hS.below hbW (Nat.le_refl _)
 have hOl : w.heap.size <= w.heap.size := Nat.le_refl _
 generalize hW : w.alloc (.cells #[.int .i64 7, .int .i64 a, .int .i64 b, .string st, .string tt, .int .i64 n, .slice ha hl hc] 33) = W at *
 have m2 := hR0.made.cell 2
 have r2 := fE hR0.rowT hk
 have o0 := hBx.cell 0
 have o3 := hBx.cell 3
 have o6 := hBx.cell 6
 simp only [List.getElem?_cons_zero, List.getElem?_cons_succ] at m2 o0 o3 o6
 unfold ptr at r2
 have hcT := hR0.cT2
 have hcU := hR0.cU2
 obtain ⟨v0, hv0⟩ := hR0.tab k hk
 obtain ⟨tl, hgT⟩ := hR0.rowT
 obtain ⟨tl2, hgU⟩ := hR0.zh
 obtain ⟨x0, hx0⟩ := hR0.zi k hk
 have d1 := hR0.made.ne hv0.blk (nbq rfl)
 have d2 := hgT.ne hv0.blk (nbq rfl)
 have d3 := hBx.ne hv0.blk (nbq rfl)
 have e1 := hR0.made.ne hx0.blk (nbq rfl)
 have e2 := hgU.ne hx0.blk (nbq rfl)
 have e3 := hBx.ne hx0.blk (nbq rfl)
 have ht0 : t k ≠ 0 := by have := hR0.ht k hk; have := hR0.h0; omega
 have hsz := Fp (B k) (L k) (pairs l) hv0.hB hv0.le
 have HBX := hide hBx
 have HD := hide (⟨⟨d1, d2, d3⟩, e1, e2, e3⟩ : (M ≠ t k ∧ gT ≠ t k ∧ w.heap.size ≠ t k) ∧ M ≠ u k ∧ gU ≠ u k ∧ w.heap.size ≠ u k)
 have HR0 := hide hR0
 have HV0 := hide hv0
 have HS0 := hide hS0
 have HBW := hide hbW
 generalize hSS : sqS (B k) (L k) (pairs l) = S at *
 generalize hEE : (Lk.wrong (pairs l)).1 = E at *
 generalize hPP : (Lk.wrong (pairs l)).2 = P at *
 have HSQ := hide (⟨hSS, hEE, hPP⟩ : sqS (B k) (L k) (pairs l) = S ∧ (Lk.wrong (pairs l)).1 = E ∧ (Lk.wrong (pairs l)).2 = P)
 have HCT := hide (fun (w : World) (v lv : Value) (B1 : Nat) (hT : uJ X w (t k) (B k) (L k) v) (hfx : Fx w) (own : w.ownsRow B1 112 2 lv (pairs l).length (aQ (pairs l))) => qK (t k) (B k) B1 (L k) (pairs l) v lv w hT hfx ht0 own)
 have HCU := hide (fun (w : World) (v lv : Value) (B1 : Nat) (hT : jC X w (u k) (B k) (L k) v) (own : w.ownsRow B1 206 2 lv (pairs l).length (aQ (pairs l))) => qL (u k) (B k) B1 (L k) (pairs l) v lv w hT own)
 rw [hSS, hEE, hPP] at HCT HCU
 clear hR hR0 hS hS0 hv0 hgT hgU hx0 hBx hSS hEE hPP hbW d1 d2 d3 e1 e2 e3
 go_enter Tryz.func29, Tryz.ntmps29
 go_wp2_with fail
 go_cut [12, 13, 14] (fun s12 s13 s14 w1 => s12 = .string S ∧ s13 = .int .i64 E ∧ s14 = .int .i64 P ∧ (∃ v', uJ X w1 (t k) (B k) (sqL (B k) (L k) (pairs l)) v') ∧ ∃ wm, Below W.heap.size W wm ∧ Turns (t k) wm w1)
 case first =>
  go_region_held (fun w' => w'.cell? ⟨M, 2, none⟩ = some (.slice (some ⟨gT, 0, none⟩) 2 cT) ∧ w'.cell? ⟨gT, k, none⟩ = some (.pointer (some ⟨t k, 0, none⟩)) ∧ w'.cell? ⟨w.heap.size, 6, none⟩ = some (.slice ha hl hc))
   (first | exact ⟨m2, r2, o6⟩ | exact ⟨iW m2 hb1, iW r2 hb1, iW o6 hb1⟩ | exact ⟨iF (iW m2 hb1) hT2 (uh HD).1.1, iF (iW r2 hb1) hT2 (uh HD).1.2.1, iF (iW o6 hb1) hT2 (uh HD).1.2.2⟩ | assumption)
   (first
    | (go_at_call 20; refine (uD _ l W.drew D7 (uh HS0)).mono ?_; rintro e w1 ⟨v1, rfl, ho1, hb1⟩)
    | (go_at_call 59; refine (uh HCT _ v0 _ _ ((uh HV0).below (bQ hb1)) ((uh HR0).fx.below (bQ hb1) (uh HR0).fx.1) ho1).mono ?_; rintro e w2 ⟨rfl, pW, hT2⟩))
  all_goals (go_wp2_with fail; go_meet; exact ⟨rfl, rfl, rfl, pW, _, bQ hb1, hT2⟩)
 case rest =>
  obtain ⟨rfl, rfl, rfl, Am, wm, hbm, hTm⟩ := hcut
  have hR1 := ((uh HR0).below hbm).TB hk hTm Am
  have hB1 := ((uh HBX).below hbm (uh HBX).lt).grown hTm (by have := (uh HD).1.2.2; simpa using this)
  have hS1 := ((uh HS0).below hbm (Nat.le_refl _)).turns hTm (fun a n c e hn => by have h1 := (uh HSX) a n c e hn; have h2 := (uh HR0).ht k hk; omega)
  have iL : FB b0 (TF gT gU t u) w wc := FB.turn (FB.of ((uh HBW).trans (hbm.mono (uh HBW).size)) hb0) hTm ((uh HR0).ht k hk) (by have := (uh HBW).size; have := hbm.size; omega) (.inr (.inr ⟨k, hk, .inl rfl⟩))
  have hs1 : b0 <= wc.heap.size := Nat.le_trans hb0 iL.size
  have m3 := hR1.made.cell 3
  have r3 := fE hR1.zh hk
  have o6' := hB1.cell 6
  simp only [List.getElem?_cons_zero, List.getElem?_cons_succ] at m3 o6'
  unfold ptr at r3
  obtain ⟨x1, hx1⟩ := hR1.zi k hk
  have HX1 := hide hx1
  have HR1 := hide hR1
  have HB1 := hide hB1
  have HS1 := hide hS1
  clear hR1 hB1 hS1 hx1 m2 r2 o6 Am hbm hTm o0 o3
  obtain ⟨W1, hW1⟩ : ∃ W1, W1 = wc := ⟨_, rfl⟩
  subst hW1
  go_wp2_with fail
  go_cut [15, 16, 17] (fun s15 s16 s17 w1 => s15 = .string S ∧ s16 = .int .i64 E ∧ s17 = .int .i64 P ∧ (∃ v', jC X w1 (u k) (B k) (sqL (B k) (L k) (pairs l)) v') ∧ ∃ wm, Below W1.heap.size W1 wm ∧ Turns (u k) wm w1)
  case first =>
   go_region_held (fun w' => w'.cell? ⟨M, 3, none⟩ = some (.slice (some ⟨gU, 0, none⟩) 2 cU) ∧ w'.cell? ⟨gU, k, none⟩ = some (.pointer (some ⟨u k, 0, none⟩)) ∧ w'.cell? ⟨w.heap.size, 6, none⟩ = some (.slice ha hl hc))
    (first | exact ⟨m3, r3, o6'⟩ | exact ⟨iW m3 hb1, iW r3 hb1, iW o6' hb1⟩ | exact ⟨iF (iW m3 hb1) hT2 (uh HD).2.1, iF (iW r3 hb1) hT2 (uh HD).2.2.1, iF (iW o6' hb1) hT2 (uh HD).2.2.2⟩ | assumption)
    (first
     | (go_at_call 61; refine (pU _ l W1.drew D7 (uh HS1)).mono ?_; rintro e w1 ⟨v1, rfl, ho1, hb1⟩)
     | (go_at_call 60; refine (uh HCU _ x1 _ _ ((uh HX1).below (bQ hb1)) ho1).mono ?_; rintro e w2 ⟨rfl, pW, hT2⟩))
   all_goals (go_wp2_with fail; go_meet; exact ⟨rfl, rfl, rfl, pW, _, bQ hb1, hT2⟩)
  case rest =>
   obtain ⟨rfl, rfl, rfl, pW, wm, hbm, hTm⟩ := hcut
   have hR2 := ((uh HR1).below hbm).TC hk hTm pW
   have hB2 := ((uh HB1).below hbm (uh HB1).lt).grown hTm (by have := (uh HD).2.2.2; simpa using this)
   have lH : FB b0 (TF gT gU t u) w wc := FB.turn (iL.next hbm hs1) hTm ((uh HR0).hu k hk) (by have := hbm.size; omega) (.inr (.inr ⟨k, hk, .inr rfl⟩))
   have hs2 : b0 <= wc.heap.size := Nat.le_trans hb0 lH.size
   have HR2 := hide hR2
   have HB2 := hide hB2
   clear hR2 hB2 m3 r3 o6' pW hbm hTm iL hs1
   go_wp2_with fail
   refine (gI _ b0 M gT gU cT cU vR vS vE vF pv t u B _ _ k _ hk rfl (uh HR2)).mono ?_
   rintro e w3 ⟨rfl, hb3⟩
   have hB3 := (uh HB2).below hb3 (uh HB2).lt
   have o0 := hB3.cell 0
   simp only [List.getElem?_cons_zero] at o0
   have HR3 := hide ((uh HR2).below hb3)
   have lJ := lH.next hb3 hs2
   have hs3 : b0 <= w3.heap.size := Nat.le_trans hb0 lJ.size
   clear hB3 hb3 lH hs2
   go_wp2_with fail
   refine (zg _ _).mono ?_
   rintro e w4 ⟨rfl, rfl⟩
   by_cases hE0 : E = 0
   . have hE1 : ((E : Int) != 0) = false := by rw [hE0]; rfl
     obtain ⟨j, hj2, hjk⟩ : ∃ j : Nat, j < 2 ∧ (1 : Int) - (k : Int) = (j : Int) := ⟨1 - k, by omega, by omega⟩
     have hj' : (j : Int) < 2 := by omega
     have SB : S.size <= 2 ^ 48 := by omega
     have HRa := HR3
     have KT := lJ
     have hsa := hs3
     generalize hLa : upd L k (sqL (B k) (L k) (pairs l)) = La at *
     obtain ⟨wa, hwa⟩ : ∃ wa, wa = w4 := ⟨_, rfl⟩
     subst hwa
     clear HR3 lJ hs3
     have ma2 := (uh HRa).made.cell 2
     have ra2 := fE (uh HRa).rowT hj2
     simp only [List.getElem?_cons_zero, List.getElem?_cons_succ] at ma2
     unfold ptr at ra2
     have Xy := (uh HRa).cT2
     have Xz := (uh HRa).cU2
     obtain ⟨va, hva⟩ := (uh HRa).tab j hj2
     generalize hXX : Lk.exR (B j) S.data.toList 6 (La j) 0 = X
     have HXX := hide hXX
     have HCa := hide (uH (t j) (B j) (La j) va S wa SB hva (uh HRa).fx X HXX)
     clear hXX hva
     go_wp2_with fail
     refine (uh HCa).mono ?_
     rintro e wb ⟨lb, rfl, hob, hTb, Qy, h6⟩
     have HRb := hide ((uh HRa).TB hj2 Qy hTb)
     have Eb := FB.turn KT Qy ((uh HRa).ht j hj2) hsa (.inr (.inr ⟨j, hj2, .inl rfl⟩))
     have hsb : b0 <= wb.heap.size := Nat.le_trans hb0 Eb.size
     have mb3 := (uh HRb).made.cell 3
     have rb3 := fE (uh HRb).zh hj2
     simp only [List.getElem?_cons_zero, List.getElem?_cons_succ] at mb3
     unfold ptr at rb3
     obtain ⟨vb, hvb⟩ := (uh HRb).zi j hj2
     have HVB := hide hvb
     have HOB := hide hob
     have HCb := hide (uI (u j) (B j) (La j) vb S wb SB hvb X HXX)
     clear hvb hob hTb Qy ma2 ra2 KT
     go_wp2_with fail
     refine (uh HCb).mono ?_
     rintro e wc' ⟨lc, rfl, hoc, hTc, Ob⟩
     have HRc := hide ((uh HRb).TC hj2 Ob hTc)
     have Ec := FB.turn Eb Ob ((uh HRb).hu j hj2) hsb (.inr (.inr ⟨j, hj2, .inr rfl⟩))
     have hsc : b0 <= wc'.heap.size := Nat.le_trans hb0 Ec.size
     have UF := hide (iP (uh HOB) (uh HVB).blk (nbq rfl) Ob)
     have HOC := hide hoc
     clear hoc hTc Ob mb3 rb3 Eb hsb
     go_wp2_with fail
     refine (ig _ _ _ _ X.hs _ (by omega) (uh UF) (uh HOC)).mono ?_
     rintro e wd ⟨rfl, nd, rfl⟩
     have HRd := hide ((uh HRc).below (Below.drewN (Below.refl _ _) nd))
     go_wp2_with fail
     refine (gI _ b0 M gT gU cT cU vR vS vE vF pv t u B _ _ j _ hj2 rfl (uh HRd)).mono ?_
     rintro e we ⟨rfl, hbe⟩
     have HRe := hide ((uh HRd).below hbe)
     have Qz := (Ec.next (Below.drewN (Below.refl _ _) nd) hsc).next hbe hsc
     clear hbe Ec
     go_wp2_with fail
     refine (zg _ _).mono ?_
     rintro e wf ⟨rfl, rfl⟩
     go_wp2_with fail
     go_ret
     exact ⟨rfl, ⟨_, _, _, _, uh HRe, fun i hi => .inl hi⟩, Qz⟩
   . have hE1 : ((E : Int) != 0) = true := by rw [bne_iff_ne]; omega
     go_wp2_with fail
     go_ret
     exact ⟨rfl, ⟨_, _, _, _, uh HR3, fun i hi => .inl hi⟩, lJ⟩
theorem yX (X : Nat -> Prop) (b0 M gT gU cT cU : Nat) (vR vS vE vF pv : Value) (t u B : Nat -> Nat) (L : Nat -> List Lk.Hd) (k : Nat) (a b n : Int) (st tt : ByteArray) (ha : Option Addr) (hl hc : Nat) (w : World) (hb0 : b0 <= w.heap.size) (hk : k < 2) (SB : st.size <= 2 ^ 48) (hR : vG X b0 M gT gU cT cU vR vS vE vF pv t u B L L w) :
 Calls Tryz.prog 29 #[.pointer (some ⟨M, 0, none⟩), .agg #[.int .i64 6, .int .i64 a, .int .i64 b, .string st, .string tt, .int .i64 n, .slice ha hl hc], .int .i64 k] w (Ik X b0 M gT gU cT cU vR vS vE vF pv t u w) := by
 have hk' : (k : Int) < 2 := by omega
 have hBx := Is.new w 33 [.int .i64 6, .int .i64 a, .int .i64 b, .string st, .string tt, .int .i64 n, .slice ha hl hc]
 have hbW := (Below.refl w.heap.size w).alloc (Nat.le_refl _) (.cells #[.int .i64 6, .int .i64 a, .int .i64 b, .string st, .string tt, .int .i64 n, .slice ha hl hc] 33)
 have hR0 := hR.below hbW
 have o0 := hBx.cell 0
 have o3 := hBx.cell 3
 simp only [List.getElem?_cons_zero, List.getElem?_cons_succ] at o0 o3
 have KT : FB b0 (TF gT gU t u) w _ := FB.of hbW hb0
 have hsa : b0 <= (w.alloc (.cells #[.int .i64 6, .int .i64 a, .int .i64 b, .string st, .string tt, .int .i64 n, .slice ha hl hc] 33)).heap.size := Nat.le_trans hb0 hbW.size
 have HRa := hide hR0
 obtain ⟨j, hj⟩ : ∃ j, j = k := ⟨_, rfl⟩
 subst hj
 have hj2 : j < 2 := hk
 generalize hLa : L = La at *
 generalize hSS : st = S at *
 generalize hW : w.alloc (.cells #[.int .i64 6, .int .i64 a, .int .i64 b, .string S, .string tt, .int .i64 n, .slice ha hl hc] 33) = wa at *
 clear hR hR0 hbW hBx
 go_enter Tryz.func29, Tryz.ntmps29
 have ma2 := (uh HRa).made.cell 2
 have ra2 := fE (uh HRa).rowT hj2
 simp only [List.getElem?_cons_zero, List.getElem?_cons_succ] at ma2
 unfold ptr at ra2
 have Xy := (uh HRa).cT2
 have Xz := (uh HRa).cU2
 obtain ⟨va, hva⟩ := (uh HRa).tab j hj2
 generalize hXX : Lk.exR (B j) S.data.toList 6 (La j) 0 = X
 have HXX := hide hXX
 have HCa := hide (uH (t j) (B j) (La j) va S wa SB hva (uh HRa).fx X HXX)
 clear hXX hva
 go_wp2_with fail
 refine (uh HCa).mono ?_
 rintro e wb ⟨lb, rfl, hob, hTb, Qy, h6⟩
 have HRb := hide ((uh HRa).TB hj2 Qy hTb)
 have Eb := FB.turn KT Qy ((uh HRa).ht j hj2) hsa (.inr (.inr ⟨j, hj2, .inl rfl⟩))
 have hsb : b0 <= wb.heap.size := Nat.le_trans hb0 Eb.size
 have mb3 := (uh HRb).made.cell 3
 have rb3 := fE (uh HRb).zh hj2
 simp only [List.getElem?_cons_zero, List.getElem?_cons_succ] at mb3
 unfold ptr at rb3
 obtain ⟨vb, hvb⟩ := (uh HRb).zi j hj2
 have HVB := hide hvb
 have HOB := hide hob
 have HCb := hide (uI (u j) (B j) (La j) vb S wb SB hvb X HXX)
 clear hvb hob hTb Qy ma2 ra2 KT
 go_wp2_with fail
 refine (uh HCb).mono ?_
 rintro e wc' ⟨lc, rfl, hoc, hTc, Ob⟩
 have HRc := hide ((uh HRb).TC hj2 Ob hTc)
 have Ec := FB.turn Eb Ob ((uh HRb).hu j hj2) hsb (.inr (.inr ⟨j, hj2, .inr rfl⟩))
 have hsc : b0 <= wc'.heap.size := Nat.le_trans hb0 Ec.size
 have UF := hide (iP (uh HOB) (uh HVB).blk (nbq rfl) Ob)
 have HOC := hide hoc
 clear hoc hTc Ob mb3 rb3 Eb hsb
 go_wp2_with fail
 refine (ig _ _ _ _ X.hs _ (by omega) (uh UF) (uh HOC)).mono ?_
 rintro e wd ⟨rfl, nd, rfl⟩
 have HRd := hide ((uh HRc).below (Below.drewN (Below.refl _ _) nd))
 go_wp2_with fail
 refine (gI _ b0 M gT gU cT cU vR vS vE vF pv t u B _ _ j _ hj2 rfl (uh HRd)).mono ?_
 rintro e we ⟨rfl, hbe⟩
 have HRe := hide ((uh HRd).below hbe)
 have Qz := (Ec.next (Below.drewN (Below.refl _ _) nd) hsc).next hbe hsc
 clear hbe Ec
 go_wp2_with fail
 refine (zg _ _).mono ?_
 rintro e wf ⟨rfl, rfl⟩
 go_wp2_with fail
 go_ret
 exact ⟨rfl, ⟨_, _, _, _, uh HRe, fun i hi => .inl hi⟩, Qz⟩
end Go.Proofs.YtbkpdapagfjmmaaGreatDoor
