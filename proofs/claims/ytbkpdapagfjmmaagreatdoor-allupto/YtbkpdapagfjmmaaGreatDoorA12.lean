import Derived.Test.YtbkpdapagfjmmaaGreatDoorA11
import Derived.Deep.RegionHeld3
import Derived.Deep.DrawnRows
import Derived.BigQuiet
import Derived.BigRegion
set_option linter.unusedVariables false
set_option maxRecDepth 100000
set_option maxHeartbeats 16000000
namespace Go.Proofs.YtbkpdapagfjmmaaGreatDoor
open Go.RowKit
attribute [local go_sem ↓] Go.wp_at_zero Go.wp_at_succ
theorem lq (a b : Lk.Bs) : bs a ++ bs b = bs (a ++ b) := by
 apply ByteArray.ext
 simp [bs]
theorem sS (a : Lk.Bs) : (bs a).toList = a := by rw [ByteArray.toList_eq]; simp [bs]
theorem Jk (a b : Lk.Bs) : ((bs a).toList == (bs b).toList) = decide (a = b) := by
 rw [sS, sS, Bool.eq_iff_iff]
 simp
theorem eu (n : Nat) (z : Int) (w : World) (hz : z = n) (hn : n <= 268435455) : Calls Tryz.prog 99 #[.int .i64 z] w fun e w' => e = .returned (.string (bs (Lk.wire n))) ∧ Below w.heap.size w w' :=
 kD n z w hz hn
theorem Me (R : Nat) (h : R <= 100) : IntKind.i64.wrap (IntKind.i64.wrap (2 * IntKind.i64.wrap ((R : Int) + 1)) + 1) = ((2 * (R + 1) + 1 : Nat) : Int) := by
 rw [kZ ((R : Int) + 1) (by omega) (by omega), kZ (2 * ((R : Int) + 1)) (by omega) (by omega), kZ _ (by omega) (by omega)]
 omega
theorem sU (l : Lk.Bs) (w : World) (hl : l.length <= 300) : Calls Tryz.prog 152 #[.string (bs l)] w fun e w' => e = .returned (.string (bs (Lk.text l))) ∧ Below w.heap.size w w' := by
 have hsz := ax l
 have hw4 := Lk.au l.length (by omega)
 have hs2 := ax (Lk.wire l.length)
 have hadd : (Lk.wire l.length).length + l.length <= 9223372036854775807 := by omega
 generalize hW : bs (Lk.wire l.length) = W at hs2
 have HW := hide hW
 clear hW
 go_enter Tryz.func152, Tryz.ntmps152
 go_wp2_with fail
 refine (eu l.length _ _ (by rfl) (by omega)).mono ?_
 rintro e w1 ⟨he, hb⟩
 rw [uh HW] at he
 subst he
 go_wp2_with fail
 go_ret
 refine ⟨dY ?_, hb⟩
 rw [<- uh HW, lq]
 rfl
def nZ (h : Lk.Hd) (E : List Lk.Hd) (k : Nat) (z : Int) : Prop :=
 (z = -1 ∧ ∀ j, k <= j -> ∀ x, E[j]? = some x -> Lk.aX h x = false) ∨
 ∃ m : Nat, z = m ∧ k <= m ∧ (∃ x, E[m]? = some x ∧ Lk.aX h x = true) ∧ ∀ j, k <= j -> j < m -> ∀ x, E[j]? = some x -> Lk.aX h x = false
theorem nZ.no {h x : Lk.Hd} {E : List Lk.Hd} {k : Nat} {z : Int} (hl : nZ h E (k + 1) z) (hx : E[k]? = some x) (hq : Lk.aX h x = false) : nZ h E k z := by
 rcases hl with ⟨h1, h2⟩ | ⟨m, h1, h2, h3, h4⟩
 . refine .inl ⟨h1, fun j hj y hy => ?_⟩
   rcases Nat.eq_or_lt_of_le hj with rfl | hj
   . rw [hx] at hy; cases hy; exact hq
   . exact h2 j hj y hy
 . refine .inr ⟨m, h1, by omega, h3, fun j hj hm y hy => ?_⟩
   rcases Nat.eq_or_lt_of_le hj with rfl | hj
   . rw [hx] at hy; cases hy; exact hq
   . exact h4 j hj hm y hy
theorem nZ.yes {h x : Lk.Hd} {E : List Lk.Hd} {k : Nat} (hx : E[k]? = some x) (hq : Lk.aX h x = true) : nZ h E k k :=
 .inr ⟨k, rfl, Nat.le_refl _, ⟨x, hx, hq⟩, fun j h1 h2 => by omega⟩
theorem nZ.end {h : Lk.Hd} {E : List Lk.Hd} {z : Int} (hl : nZ h E 0 z) : z = if Lk.low (Lk.aX h) E < E.length then (Lk.low (Lk.aX h) E : Int) else -1 := by
 rcases hl with ⟨h1, h2⟩ | ⟨m, h1, h2, h3, h4⟩
 . have e : Lk.low (Lk.aX h) E = E.length := Lk.nK _ _ _ (fun j hj => ⟨_, List.getElem?_eq_getElem hj, h2 j (by omega) _ (List.getElem?_eq_getElem hj)⟩) (.inl rfl)
   rw [e, if_neg (by omega), h1]
 . obtain ⟨x, hx, hq⟩ := h3
   have hm := (List.getElem?_eq_some_iff.1 hx).1
   have e : Lk.low (Lk.aX h) E = m := Lk.nK _ _ _ (fun j hj => ⟨_, List.getElem?_eq_getElem (by omega), h4 j (by omega) hj _ (List.getElem?_eq_getElem (by omega))⟩) (.inr ⟨x, hx, hq⟩)
   rw [e, if_pos hm, h1]
theorem MB (t B : Nat) (L : List Lk.Hd) (h : Lk.Hd) (v : Value) (w : World) (hT : RTab w t B L v) (hn : h.n.length <= 16) (hv : h.v.length <= 32) (S : Lk.Bs) (L2 : List Lk.Hd) (HS : Hid (Lk.lT B L h = (S, L2))) :
 Calls Tryz.prog 102 #[.pointer (some ⟨t, 0, none⟩), hdA h] w fun e w' => e = .returned (.string (bs S)) ∧ (∃ v', RTab w' t B L2 v' ∧ (v' = v ∨ ∀ k, v'.ownBlock = some k -> w.heap.size <= k)) ∧ Turns t w w' := by
 have hEl := Lk.nM L
 have hLl := hT.len
 generalize hE : Lk.fB L = E at hEl
 have HE := hide hE
 have HEL := hide hEl
 have hN : E.length <= 54 := by omega
 have hN4 : 4 <= E.length := by omega
 have HT0 := hide (hT.alloc (.cells #[.string (bs h.n), .string (bs h.v)] 206))
 have HX0 := hide (Is.new w 206 [.string (bs h.n), .string (bs h.v)])
 have hb0 := (Below.refl w.heap.size w).alloc (Nat.le_refl _) (.cells #[.string (bs h.n), .string (bs h.v)] 206)
 have hlt0 := hT.blk.lt
 clear hE hEl hT
 go_enter Tryz.func102, Tryz.ntmps102
 go_wp2_with fail
 refine (lV t B L v _ (uh HT0)).mono ?_
 rintro e w1 ⟨v1, rfl, ho1, hb1⟩
 rw [uh HE] at ho1
 obtain ⟨g, cap, hv1, hgB, hgl⟩ := ho1.form (by omega)
 subst hv1
 have hT1 := (uh HT0).below hb1
 have hX1 := (uh HX0).below hb1 (by simp)
 have iL := hb0.trans (hb1.mono (by simp))
 have b0 := hX1.cell 0
 have b1 := hX1.cell 1
 simp only [List.getElem?_cons_zero, List.getElem?_cons_succ] at b0 b1
 have hXl := hX1.lt
 have HT1 := hide hT1
 have HX1 := hide hX1
 have HO1 := hide ho1
 clear hT1 hX1 ho1 hb1 hb0 HT0 HX0
 generalize hNN : E.length = N at *
 have HNN := hide hNN
 clear hNN
 go_wp2_with fail
 go_loopw [6, 7] (fun s u wr => ∃ (k n : Nat) (z : Int), u = .int .i64 ((k : Int) - 1) ∧ k <= N ∧ s = .int .i64 z ∧ -1 <= z ∧ z <= 60 ∧ Hid (nZ h E k z) ∧ wr = w1.drewN n) (fun _ u _ => (intOf u + 1).toNat)
 case atStart =>
  refine ⟨N, 0, -1, by simp, by omega, rfl, by omega, by omega, .inl ⟨rfl, fun j hj x hx => ?_⟩, rfl⟩
  have := (List.getElem?_eq_some_iff.1 hx).1
  have h2 := uh HNN
  omega
 case round =>
  obtain ⟨k, nd, z, rfl, hk, rfl, hz1, hz2, HLk, rfl⟩ := hrel
  cases k with
  | succ k =>
    obtain ⟨x, hx⟩ : ∃ x, E[k]? = some x := ⟨_, List.getElem?_eq_getElem (by have := uh HNN; omega)⟩
    obtain ⟨_, x0, x1⟩ := jJ (uh HO1) hx
    have hkI : (0 : Int) <= k := by omega
    have hkN : (k : Int) < N := by omega
    have hkz : (((k + 1 : Nat) : Int) - 1) = k := by omega
    rw [hkz]
    have hqe := Jk x.n h.n
    have HX := hide hx
    clear hx hkz
    cases hq : decide (x.n = h.n) with
    | false =>
      rw [hq] at hqe
      have HQ := hide (show Lk.aX h x = false from hq)
      clear hq
      go_wp2_with fail
      go_quiet (fail)
      go_wp2_with fail
      refine ⟨⟨k, _, z, rfl, by omega, rfl, hz1, hz2, hide ((uh HLk).no (uh HX) (uh HQ)), rfl⟩, ?_⟩
      simp only [intOf]
      omega
    | true =>
      rw [hq] at hqe
      have HQ := hide (show Lk.aX h x = true from hq)
      clear hq
      go_wp2_with fail
      go_quiet (fail)
      go_wp2_with fail
      refine ⟨⟨k, _, k, rfl, by omega, rfl, by omega, by omega, hide (nZ.yes (uh HX) (uh HQ)), rfl⟩, ?_⟩
      simp only [intOf]
      omega
  | zero =>
    have hze := (uh HLk).end
    rw [uh HNN] at hze
    generalize hR2 : Lk.low (Lk.aX h) E = R2 at hze
    have HR2 := hide hR2
    have HZE := hide hze
    clear hR2 hze
    have h00 : ((0 : Nat) : Int) - 1 = -1 := rfl
    rw [h00]
    go_wp2_with fail
    go_loopw [8] (fun u wr => ∃ (k n : Nat), u = .int .i64 k ∧ k <= N ∧ Hid (∀ j, j < k -> ∃ x, E[j]? = some x ∧ Lk.gy h x = false) ∧ wr = w1.drewN n) (fun u _ => N - (intOf u).toNat)
    case atStart => exact ⟨0, nd, rfl, by omega, fun j hj => by omega, rfl⟩
    case round =>
     obtain ⟨k, nk, rfl, hk, HK, rfl⟩ := hrel
     by_cases hlt : k < N
     . have hlt' : (k : Int) < N := by omega
       obtain ⟨x, hx⟩ : ∃ x, E[k]? = some x := ⟨_, List.getElem?_eq_getElem (by have := uh HNN; omega)⟩
       obtain ⟨_, x0, x1⟩ := jJ (uh HO1) hx
       have hqe := Jk x.n h.n
       have hqv := Jk x.v h.v
       have HX := hide hx
       clear hx
       cases hq : decide (x.n = h.n) with
       | false =>
         rw [hq] at hqe
         have HQ := hide (show Lk.gy h x = false by unfold Lk.gy; rw [hq]; rfl)
         clear hq hqv
         go_wp2_with fail
         go_quiet (fail)
         go_wp2_with fail
         go_roundw
         case rel =>
          refine ⟨k + 1, _, by simp, by omega, fun j hj => ?_, rfl⟩
          rcases Nat.lt_succ_iff_lt_or_eq.1 hj with hj | rfl
          . exact uh HK j hj
          . exact ⟨x, uh HX, uh HQ⟩
         case measure => simp [intOf]; omega
       | true =>
         cases hq2 : decide (x.v = h.v) with
         | false =>
           rw [hq] at hqe
           rw [hq2] at hqv
           have HQ := hide (show Lk.gy h x = false by unfold Lk.gy; rw [hq, hq2]; rfl)
           clear hq hq2
           go_wp2_with fail
           go_quiet (fail)
           go_wp2_with fail
           go_roundw
           case rel =>
            refine ⟨k + 1, _, by simp, by omega, fun j hj => ?_, rfl⟩
            rcases Nat.lt_succ_iff_lt_or_eq.1 hj with hj | rfl
            . exact uh HK j hj
            . exact ⟨x, uh HX, uh HQ⟩
           case measure => simp [intOf]; omega
         | true =>
           rw [hq] at hqe
           rw [hq2] at hqv
           have hlow := Lk.nK (Lk.gy h) E k (uh HK) (.inr ⟨x, uh HX, by unfold Lk.gy; rw [hq, hq2]; rfl⟩)
           have hone : (S, L2) = (Lk.wire (2 * k), L) := by
            rw [<- uh HS]
            unfold Lk.lT
            rw [uh HE, hlow, uh HNN, if_pos hlt]
           cases hone
           clear hq hq2 hlow
           go_wp2_with fail
           go_quiet (fail)
           go_wp2_with fail
           refine (eu (2 * k) _ _ (by first | rfl | (simp; done) | omega) (by omega)).mono ?_
           rintro e w2 ⟨rfl, hb2⟩
           go_wp2_with fail
           go_ret
           have hb2' : Below w1.heap.size w1 w2 := ⟨hb2.os, hb2.tape, hb2.output, hb2.size, hb2.block⟩
           exact ⟨rfl, ⟨v, (uh HT1).below hb2', .inl rfl⟩, (Below.turns iL t).below hb2'⟩
     . have hlt' : ¬ (k : Int) < N := by omega
       have hkN : k = N := by omega
       have hlow := Lk.nK (Lk.gy h) E k (uh HK) (.inl (by have := uh HNN; omega))
       have HT2 := hide (show RTab (w1.drewN nk) t B L v from ⟨(uh HT1).blk, (uh HT1).own, (uh HT1).le, (uh HT1).hB⟩)
       go_wp2_with fail
       refine (xR t B L h v _ (uh HT2) (by omega) (by omega)).mono ?_
       rintro e w2 ⟨rfl, ⟨v2, hT2, hv2⟩, Om⟩
       have Pq : Turns t w1 w2 := ⟨Om.os, Om.tape, Om.output, Om.size, Om.block⟩
       have hX2 := (uh HX1).grown Pq (fun e => (uh HX1).ne (uh HT1).blk (nbq rfl) (by simpa using e))
       have b0 := hX2.cell 0
       have b1 := hX2.cell 1
       simp only [List.getElem?_cons_zero, List.getElem?_cons_succ] at b0 b1
       have S9 := hX2.lt
       have hTT := (Below.turns iL t).trans Pq
       have U4 : ∀ q, v2.ownBlock = some q -> w.heap.size <= q := fun q hq => by have := hv2 q hq; have h2 := iL.size; simp at this; omega
       have HT3 := hide hT2
       have HV3 := hide U4
       clear hT2 hv2 Om Pq hX2 U4 HT2
       have hwv := Lk.au h.v.length (by omega)
       have htv : (Lk.text h.v).length <= 40 := by unfold Lk.text; rw [List.length_append]; omega
       have hwn := Lk.au h.n.length (by omega)
       have htn : (Lk.text h.n).length <= 40 := by unfold Lk.text; rw [List.length_append]; omega
       have hze := uh HZE
       by_cases hR : R2 < N
       . rw [if_pos hR] at hze
         have hone : (S, L2) = (Lk.wire (2 * (R2 + 1) + 1) ++ Lk.text h.v, Lk.put B L h) := by
          rw [<- uh HS]
          unfold Lk.lT
          rw [uh HE, hlow, uh HNN, uh HR2, if_neg (by omega), if_pos hR]
         cases hone
         subst hze
         have hw4 := Lk.au (2 * (R2 + 1) + 1) (by omega)
         have HC1 := hide (fun z w hz => eu (2 * (R2 + 1) + 1) z w hz (by omega))
         have HC2 := hide (fun w => sU h.v w (by omega))
         have s1 := ax (Lk.wire (2 * (R2 + 1) + 1))
         have s2 := ax (Lk.text h.v)
         have hres := lq (Lk.wire (2 * (R2 + 1) + 1)) (Lk.text h.v)
         generalize bs (Lk.wire (2 * (R2 + 1) + 1)) = W1 at *
         generalize bs (Lk.text h.v) = W2 at *
         have hadd : W1.size + W2.size <= 9223372036854775807 := by omega
         have Oo := hide hres
         clear s1 s2 hres hw4 hwv htv hwn htn hlow
         go_wp2_with fail
         go_region_with (first
          | (go_at_call 99; refine (uh HC1 _ _ (Me R2 (by omega))).mono ?_; rintro e wx ⟨rfl, hbx⟩; have g1 := aK hbx (b := w.heap.size) (k := 1) (v := .string (bs h.v)) (by simpa using S9) (by simpa using b1))
          | (go_at_call 152; refine (uh HC2 _).mono ?_; rintro e wy ⟨rfl, hby⟩))
         all_goals
          go_wp2_with fail
          go_ret
          first
           | (have hbb : Below w2.heap.size w2 wy := Below.trans ⟨hbx.os, hbx.tape, hbx.output, hbx.size, hbx.block⟩ (hby.mono hbx.size)
              exact ⟨dY (uh Oo), ⟨v2, (uh HT3).below hbb, .inr (uh HV3)⟩, hTT.below hbb⟩)
           | (have hbb : Below w2.heap.size w2 wx := Below.trans ⟨hby.os, hby.tape, hby.output, hby.size, hby.block⟩ (hbx.mono hby.size)
              exact ⟨dY (uh Oo), ⟨v2, (uh HT3).below hbb, .inr (uh HV3)⟩, hTT.below hbb⟩)
       . rw [if_neg hR] at hze
         have hone : (S, L2) = (Lk.wire 1 ++ Lk.text h.n ++ Lk.text h.v, Lk.put B L h) := by
          rw [<- uh HS]
          unfold Lk.lT
          rw [uh HE, hlow, uh HNN, uh HR2, if_neg (by omega), if_neg hR]
         cases hone
         subst hze
         have hw4 := Lk.au 1 (by omega)
         have HC1 := hide (fun w => eu 1 1 w rfl (by omega))
         have HC2 := hide (fun w => sU h.n w (by omega))
         have HC3 := hide (fun w => sU h.v w (by omega))
         have s1 := ax (Lk.wire 1)
         have s2 := ax (Lk.text h.n)
         have s3 := ax (Lk.text h.v)
         have hres := lq (Lk.wire 1 ++ Lk.text h.n) (Lk.text h.v)
         rw [<- lq (Lk.wire 1) (Lk.text h.n)] at hres
         generalize bs (Lk.wire 1) = W1 at *
         generalize bs (Lk.text h.n) = W2 at *
         generalize bs (Lk.text h.v) = W3 at *
         have hadd : W1.size + W2.size <= 9223372036854775807 := by omega
         have Wi : W1.size + W2.size + W3.size <= 9223372036854775807 := by omega
         have Oo := hide hres
         clear s1 s2 s3 hres hw4 hwv htv hwn htn hlow
         go_wp2_with fail
         go_region_with (first
          | (go_at_call 99; refine (uh HC1 _).mono ?_; rintro e wx ⟨rfl, hbx⟩; have g0 := aK hbx (b := w.heap.size) (k := 0) (v := .string (bs h.n)) (by simpa using S9) (by simpa using b0); have g1 := aK hbx (b := w.heap.size) (k := 1) (v := .string (bs h.v)) (by simpa using S9) (by simpa using b1); have gl := kW hbx (b := w.heap.size) (by simpa using S9))
          | (go_at_call_of 152 (Value.string (bs h.n)); refine (uh HC2 _).mono ?_; rintro e wy ⟨rfl, hby⟩; have g2 := aK hby (b := w.heap.size) (k := 1) (v := .string (bs h.v)) gl g1)
          | (go_at_call_of 152 (Value.string (bs h.v)); refine (uh HC3 _).mono ?_; rintro e wz ⟨rfl, hbz⟩))
         all_goals
          go_wp2_with fail
          go_ret
          have hbb : Below w2.heap.size w2 wz := bQ ((hbx.trans (hby.mono hbx.size)).trans (hbz.mono (Nat.le_trans hbx.size hby.size)))
          exact ⟨dY (uh Oo), ⟨v2, (uh HT3).below hbb, .inr (uh HV3)⟩, hTT.below hbb⟩
variable {κ : Prop}
def ixO : Option Nat -> Int
 | some i => (i : Int)
 | none => -1
theorem aT.c {w : World} {b : Nat} {e : Lk.En} {p : RP} (h : aT κ w b e p) (i : Nat) : w.cell? ⟨b, i, none⟩ = (jo e p)[i]? := h.blk.cell i
theorem qY (b : Nat) (e : Lk.En) (p : RP) (k : Int) (w : World) (h : aT κ w b e p) (hl : e.own.length <= 2 ^ 40) :
 Calls Tryz.prog 164 #[.pointer (some ⟨b, 0, none⟩), .int .i64 k] w fun r w' => r = .returned (.int .i64 (ixO (Lk.bK e.own k))) ∧ w' = w := by
 have hbl := h.blk.lt
 have c6 : w.cell? ⟨b, 6, none⟩ = some p.wv := h.blk.cell 6
 obtain ⟨va, vc, hv⟩ := aJ h.own
 rw [hv] at c6
 have HV := hide hv
 have HO := hide h.own
 clear h hv
 go_enter Tryz.func164, Tryz.ntmps164
 go_wp2_with fail
 go_loopw [5] (fun u wr => wr = w ∧ ∃ i : Nat, i <= e.own.length ∧ u = .int .i64 i ∧ Hid (∀ j o, j < i -> e.own[j]? = some o -> (o.id : Int) ≠ k)) (fun u _ => e.own.length - (intOf u).toNat)
 case atStart => exact ⟨rfl, 0, Nat.zero_le _, rfl, fun j o hj => by omega⟩
 case round =>
  obtain ⟨rfl, i, hi, rfl, HN⟩ := hrel
  by_cases hlt : i < e.own.length
  . have hlt' : (i : Int) < e.own.length := by omega
    obtain ⟨g, cap, hg, _, hgl, hcap, hc, _⟩ := ed rwV (fun _ => rfl) (uh HO) (List.getElem?_eq_getElem hlt)
    obtain ⟨rfl, rfl⟩ : va = some ⟨g, 0, none⟩ ∧ vc = cap := by
     rw [uh HV] at hg
     injection hg with k1 k2 k3
     exact ⟨k1, k3⟩
    have x0 : wr.cell? ⟨g, i * 4, none⟩ = some (.int .i64 (e.own[i].id : Int)) := hc 0 (by omega)
    by_cases hk : (e.own[i].id : Int) = k
    . have HF : Hid (Lk.bK e.own k = some i) := by
       unfold Lk.bK
       rw [List.findIdx?_eq_some_iff_getElem]
       refine ⟨hlt, by simpa using hk, fun j hj => ?_⟩
       have := uh HN j e.own[j] hj (List.getElem?_eq_getElem (by omega))
       simpa using this
      have hk' : ((e.own[i].id : Int) == k) = true := by simpa using hk
      generalize (e.own[i].id : Int) = ID at *
      clear hc hg hk
      go_wp2_with fail
      go_ret
      exact ⟨by rw [uh HF]; rfl, rfl⟩
    . have hk' : ((e.own[i].id : Int) == k) = false := by simpa using hk
      have HN2 : Hid (∀ j o, j < i + 1 -> e.own[j]? = some o -> (o.id : Int) ≠ k) := fun j o hj ho => by
       by_cases hji : j = i
       . subst hji
         rw [List.getElem?_eq_getElem hlt] at ho
         cases ho
         exact hk
       . exact uh HN j o (by omega) ho
      generalize (e.own[i].id : Int) = ID at *
      clear hc hg hk HN
      go_wp2_with fail
      go_roundw
      case rel => exact ⟨by trivial, i + 1, by omega, by go_num, uh HN2⟩
      case measure => simp [intOf]; omega
  . have hlt' : ¬ (i : Int) < e.own.length := by omega
    have HF : Hid (Lk.bK e.own k = none) := by
     unfold Lk.bK
     rw [List.findIdx?_eq_none_iff]
     intro o ho
     obtain ⟨j, hj⟩ := List.getElem?_of_mem ho
     have := uh HN j o (by have := (List.getElem?_eq_some_iff.1 hj).1; omega) hj
     simpa using this
    clear HN
    go_wp2_with fail
    go_ret
    exact ⟨by rw [uh HF]; rfl, rfl⟩
theorem lX (b : Nat) (e : Lk.En) (p : RP) (k : Int) (w : World) (h : aT κ w b e p) (hl : e.oth.length <= 2 ^ 40) :
 Calls Tryz.prog 163 #[.pointer (some ⟨b, 0, none⟩), .int .i64 k] w fun r w' => r = .returned (.int .i64 (ixO (Lk.bM e.oth k))) ∧ w' = w := by
 have hbl := h.blk.lt
 have c6 : w.cell? ⟨b, 7, none⟩ = some p.tv := h.blk.cell 7
 obtain ⟨va, vc, hv⟩ := aJ h.oth
 rw [hv] at c6
 have HV := hide hv
 have HO := hide h.oth
 clear h hv
 go_enter Tryz.func163, Tryz.ntmps163
 go_wp2_with fail
 go_loopw [5] (fun u wr => wr = w ∧ ∃ i : Nat, i <= e.oth.length ∧ u = .int .i64 i ∧ Hid (∀ j o, j < i -> e.oth[j]? = some o -> (o.id : Int) ≠ k)) (fun u _ => e.oth.length - (intOf u).toNat)
 case atStart => exact ⟨rfl, 0, Nat.zero_le _, rfl, fun j o hj => by omega⟩
 case round =>
  obtain ⟨rfl, i, hi, rfl, HN⟩ := hrel
  by_cases hlt : i < e.oth.length
  . have hlt' : (i : Int) < e.oth.length := by omega
    obtain ⟨g, cap, hg, _, hgl, hcap, hc, _⟩ := ed rtV (fun _ => rfl) (uh HO) (List.getElem?_eq_getElem hlt)
    obtain ⟨rfl, rfl⟩ : va = some ⟨g, 0, none⟩ ∧ vc = cap := by
     rw [uh HV] at hg
     injection hg with k1 k2 k3
     exact ⟨k1, k3⟩
    have x0 : wr.cell? ⟨g, i * 5, none⟩ = some (.int .i64 (e.oth[i].id : Int)) := hc 0 (by omega)
    by_cases hk : (e.oth[i].id : Int) = k
    . have HF : Hid (Lk.bM e.oth k = some i) := by
       unfold Lk.bM
       rw [List.findIdx?_eq_some_iff_getElem]
       refine ⟨hlt, by simpa using hk, fun j hj => ?_⟩
       have := uh HN j e.oth[j] hj (List.getElem?_eq_getElem (by omega))
       simpa using this
      have hk' : ((e.oth[i].id : Int) == k) = true := by simpa using hk
      generalize (e.oth[i].id : Int) = ID at *
      clear hc hg hk
      go_wp2_with fail
      go_ret
      exact ⟨by rw [uh HF]; rfl, rfl⟩
    . have hk' : ((e.oth[i].id : Int) == k) = false := by simpa using hk
      have HN2 : Hid (∀ j o, j < i + 1 -> e.oth[j]? = some o -> (o.id : Int) ≠ k) := fun j o hj ho => by
       by_cases hji : j = i
       . subst hji
         rw [List.getElem?_eq_getElem hlt] at ho
         cases ho
         exact hk
       . exact uh HN j o (by omega) ho
      generalize (e.oth[i].id : Int) = ID at *
      clear hc hg hk HN
      go_wp2_with fail
      go_roundw
      case rel => exact ⟨by trivial, i + 1, by omega, by go_num, uh HN2⟩
      case measure => simp [intOf]; omega
  . have hlt' : ¬ (i : Int) < e.oth.length := by omega
    have HF : Hid (Lk.bM e.oth k = none) := by
     unfold Lk.bM
     rw [List.findIdx?_eq_none_iff]
     intro o ho
     obtain ⟨j, hj⟩ := List.getElem?_of_mem ho
     have := uh HN j o (by have := (List.getElem?_eq_some_iff.1 hj).1; omega) hj
     simpa using this
    clear HN
    go_wp2_with fail
    go_ret
    exact ⟨by rw [uh HF]; rfl, rfl⟩
theorem vZ (k st : Nat) (d : Lk.Bs) (w : World) (h : Lk.Good k st d) :
 Calls Tryz.prog 56 #[.agg #[.int .i64 (k : Int), .int .i64 (st : Int), .string (bs d)]] w fun r w' => r = .returned (.tuple #[.string (bs (Lk.packed k st d)), .int .i64 0]) ∧ Below w.heap.size w w' := by
 have e : (bs d).data.toList = d := by simp [bs]
 have hl := ax d
 have := sQ k st (bs d) w h.k7 h.Fv (by have := h.len; omega) h.stream (by rw [hl]; exact h.length) (by rw [e]; exact h.payload)
 rw [e] at this
 exact this
theorem iM {w : World} {B : Nat} {e : TypeId} {size n i : Nat} {v : Value} {xs : List Value} (h : w.ownsRow B e size v n xs) (hi : v.ownBlock = some i) : ∃ cs, Is w i e cs := by
 rcases h.2 with ⟨rfl, _⟩ | ⟨g, cap, cur, rfl, _, hg, _⟩
 . cases hi
 . cases hi
   exact ⟨cur.toList, by unfold Is; simpa using hg⟩
theorem nY.is {w : World} {v : Value} {l : List Lk.Bs} {i : Nat} (h : nY w v l) (hi : v.ownBlock = some i) : ∃ cs, Is w i 9 cs := by
 rcases h with ⟨rfl, rfl⟩ | ⟨g, off, cap, cur, rfl, hI, _⟩
 . cases hi
 . cases hi
   exact ⟨cur, hI⟩
theorem aT.apt {w : World} {b : Nat} {e : Lk.En} {p : RP} (h : aT κ w b e p) {i : Nat} {T : TypeId} {cs : List Value} (hI : Is w i T cs) :
 (T ≠ 200 -> b ≠ i) ∧ (T ≠ 196 -> p.ob ≠ i ∧ p.ib ≠ i) ∧ (T ≠ 54 -> p.rb ≠ i) ∧ (T ≠ 206 -> (∀ j, p.vo.ownBlock = some j -> j ≠ i) ∧ ∀ j, p.vi.ownBlock = some j -> j ≠ i) ∧ (T ≠ 9 -> ∀ j, p.rv.ownBlock = some j -> j ≠ i) ∧ (T ≠ 258 -> ∀ j, p.wv.ownBlock = some j -> j ≠ i) ∧ (T ≠ 265 -> ∀ j, p.tv.ownBlock = some j -> j ≠ i) := by
 obtain ⟨s, f, h1, _⟩ := h.rd
 refine ⟨fun hT => h.blk.ne hI (Ne.symm hT), fun hT => ⟨h.out.blk.ne hI (Ne.symm hT), h.inn.blk.ne hI (Ne.symm hT)⟩, fun hT => h1.ne hI (Ne.symm hT), fun hT => ⟨fun j hj => ?_, fun j hj => ?_⟩, fun hT j hj => ?_, fun hT j hj => ?_, fun hT j hj => ?_⟩
 . obtain ⟨c, hc⟩ := iM h.out.own hj; exact hc.ne hI (Ne.symm hT)
 . obtain ⟨c, hc⟩ := iM h.inn.own hj; exact hc.ne hI (Ne.symm hT)
 . obtain ⟨c, hc⟩ := h.row.is hj; exact hc.ne hI (Ne.symm hT)
 . obtain ⟨c, hc⟩ := iM h.own hj; exact hc.ne hI (Ne.symm hT)
 . obtain ⟨c, hc⟩ := iM h.oth hj; exact hc.ne hI (Ne.symm hT)
theorem aT.pushRow {w w' : World} {b : Nat} {e : Lk.En} {p : RP} (h : aT κ w b e p) {v' : Value} {l : List Lk.Bs} (hq : nY w' v' l) (hv : v'.ownBlock = p.rv.ownBlock ∨ ∀ k, v'.ownBlock = some k -> w.heap.size <= k) (hO : Only (fun i => p.rv.ownBlock = some i) w w') : aj κ w b p { e with row := l } (w'.setCell ⟨b, 5, none⟩ v') := by
 have hap : ∀ i, p.rv.ownBlock = some i -> b ≠ i ∧ (p.ob ≠ i ∧ p.ib ≠ i) ∧ p.rb ≠ i ∧ ((∀ j, p.vo.ownBlock = some j -> j ≠ i) ∧ ∀ j, p.vi.ownBlock = some j -> j ≠ i) ∧ (∀ j, p.wv.ownBlock = some j -> j ≠ i) ∧ ∀ j, p.tv.ownBlock = some j -> j ≠ i := fun i hi => by
  obtain ⟨cs, hI⟩ := h.row.is hi
  obtain ⟨a1, a2, a3, a4, _, a6, a7⟩ := h.apt hI
  exact ⟨a1 (nbq rfl), a2 (nbq rfl), a3 (nbq rfl), a4 (nbq rfl), a6 (nbq rfl), a7 (nbq rfl)⟩
 have hO2 : Only (fun i => p.rv.ownBlock = some i ∨ i = b) w (w'.setCell ⟨b, 5, none⟩ v') := (hO.mono (fun i hi => .inl hi)).set b 5 v' (fun _ => .inr rfl)
 obtain ⟨c1, c2, c3, c4, c5, c6, c7, c8⟩ := h.apart
 have hn : ∀ i, (∀ j, p.rv.ownBlock = some j -> i ≠ j) -> i ≠ b -> ¬ (p.rv.ownBlock = some i ∨ i = b) := fun i h1 h2 hx => by
  rcases hx with hx | hx
  . exact h1 i hx rfl
  . exact h2 hx
 have hI := (h.blk.only hO (fun hb => (hap b hb).1 rfl)).set 5 v'
 have hbq : ∀ i, v'.ownBlock = some i -> i ≠ b := fun i hi => by
  rcases hv with hv | hv
  . rw [hv] at hi
    exact c6 i hi
  . have := hv i hi
    have := h.blk.lt
    omega
 obtain ⟨s, f, r1, r2⟩ := h.rd
 refine ⟨{ p with rv := v' }, ⟨hI, h.out.only hO2 (hn _ (fun j hj => (hap j hj).2.1.1) (Ne.symm c1)) (fun i hi => hn i (fun j hj => (hap j hj).2.2.2.1.1 i hi) (c4 i hi)), h.inn.only hO2 (hn _ (fun j hj => (hap j hj).2.1.2) (Ne.symm c2)) (fun i hi => hn i (fun j hj => (hap j hj).2.2.2.1.2 i hi) (c5 i hi)), ⟨s, f, r1.only hO2 (hn _ (fun j hj => (hap j hj).2.2.1) (Ne.symm c3)), r2⟩, hq.only ((Only.refl (· = b) w').set b 5 v' (fun _ => rfl)) hbq, ag h.own hO2 (fun i hi => hn i (fun j hj => (hap j hj).2.2.2.2.1 i hi) (c7 i hi)), ag h.oth hO2 (fun i hi => hn i (fun j hj => (hap j hj).2.2.2.2.2 i hi) (c8 i hi)), h.ne, h.nv⟩, fun i hi => ?_, hO2.mono (fun i hi => ?_)⟩
 . rcases hi with hi | hi | hi | hi | hi | hi | hi | hi | hi
   . exact .inl (.inl hi)
   . exact .inl (.inr (.inl hi))
   . exact .inl (.inr (.inr (.inl hi)))
   . exact .inl (.inr (.inr (.inr (.inl hi))))
   . exact .inl (.inr (.inr (.inr (.inr (.inl hi)))))
   . exact .inl (.inr (.inr (.inr (.inr (.inr (.inl hi))))))
   . rcases hv with hv | hv
     . have hi : v'.ownBlock = some i := hi
       rw [hv] at hi
       exact .inl (.inr (.inr (.inr (.inr (.inr (.inr (.inl hi)))))))
     . exact .inr (hv i hi)
   . exact .inl (.inr (.inr (.inr (.inr (.inr (.inr (.inr (.inl hi))))))))
   . exact .inl (.inr (.inr (.inr (.inr (.inr (.inr (.inr (.inr hi))))))))
 . rcases hi with hi | hi
   . exact .inr (.inr (.inr (.inr (.inr (.inr (.inl hi))))))
   . exact .inl hi
theorem fV (b : Nat) (e : Lk.En) (p : RP) (k st : Nat) (d : Lk.Bs) (w : World) (h : aT κ w b e p) (hg : Lk.Good k st d) (hl : e.row.length <= 2 ^ 42) :
 Calls Tryz.prog 162 #[.pointer (some ⟨b, 0, none⟩), .int .i64 (k : Int), .int .i64 (st : Int), .string (bs d)] w fun r w' => r = .returned (.tuple #[]) ∧ aj κ w b p (e.send k st d) w' := by
 have HP := hide (vZ k st d w hg)
 have HE := hide h
 clear h hg
 go_enter Tryz.func162, Tryz.ntmps162
 go_wp2_with fail
 refine (uh HP).mono ?_
 rintro r w1 ⟨rfl, hb1⟩
 have h1 := (uh HE).below hb1
 have h2 := h1.below ((Below.refl w1.heap.size w1).alloc (Nat.le_refl _) (.cells #[.string (bs (Lk.packed k st d))] 9))
 have c5 : w1.cell? ⟨b, 5, none⟩ = some p.rv := h1.blk.cell 5
 have hbl := h1.blk.lt
 have hI := Is.new w1 9 [.string (bs (Lk.packed k st d))]
 obtain ⟨v', w', hr, hq, hv, hO⟩ := h2.row.push (Lk.packed k st d) ⟨w1.heap.size, 0, none⟩ (hI.cell 0) hl 31
 have HPO : Hid (aj κ w b p (e.send k st d) (w'.setCell ⟨b, 5, none⟩ v')) := aj.before (hb1.alloc hb1.size _) (h2.pushRow hq hv hO)
 have hf : w'.frozen? ⟨b, 5, none⟩ = false ∧ w'.cell? ⟨b, 5, none⟩ = some p.rv ∧ b < w'.heap.size := by
  have := h2.blk.only hO (fun hx => (h2.apart.2.2.2.2.2.1 b hx) rfl)
  exact ⟨this.free 5, this.cell 5, this.lt⟩
 obtain ⟨hf1, hf2, hf3⟩ := hf
 obtain ⟨va, vc, hvf⟩ := hq.form
 rw [List.length_append, List.length_singleton] at hvf
 obtain ⟨ra, rc, hrf⟩ := h1.row.form
 rw [hrf] at c5 hr hf2
 subst hvf
 have HR := hide hr
 clear h1 h2 hI hr hq hv hO hrf HE HP hb1
 go_wp2_with (at_builtin; refine Lib.wpList_append_run _ rfl _ _ _ _ rfl _ _ rfl rfl _ _ (uh HR) ?_)
 go_end0
 exact ⟨rfl, uh HPO⟩
end Go.Proofs.YtbkpdapagfjmmaaGreatDoor

namespace Go.Proofs.YtbkpdapagfjmmaaGreatDoor.Lk
def Pv (f : Fr) : Int := if f.k = 4 ∧ f.st = 0 then (numOf f.d : Int) else 0
def Px (side : Nat) (f : Fr) (m : Nat) : Int := if f.k = 4 ∧ f.st = 2 * m + 1 + side then (numOf f.d : Int) else 0
structure wo (e : En) (A : Int) (t : Nat -> Int) : Prop where
 all : (e.all : Int) <= A
 own : ∀ m o, e.own[m]? = some o -> (o.cr : Int) <= t m
 new : ∀ m, e.own.length <= m -> (e.win : Int) <= t m
theorem wo.same {e e' : En} {A : Int} {t : Nat -> Int} (h : wo e A t) (h1 : e'.all = e.all) (h2 : e'.own = e.own) (h3 : e'.win = e.win) : wo e' A t :=
 ⟨by rw [h1]; exact h.all, by rw [h2]; exact h.own, by rw [h2, h3]; exact h.new⟩
theorem wo.mono {e : En} {A A' : Int} {t t' : Nat -> Int} (h : wo e A t) (hA : A <= A') (ht : ∀ m, t m <= t' m) : wo e A' t' :=
 ⟨by have := h.all; omega, fun m o ho => by have := h.own m o ho; have := ht m; omega, fun m hm => by have := h.new m hm; have := ht m; omega⟩
def Tc (l : List Fr) : Int := (l.map Pv).sum
def Td (side : Nat) (l : List Fr) (m : Nat) : Int := (l.map fun f => Px side f m).sum
def paid (f : Fr) : Int := if f.k = 1 ∨ f.k = 2 then (f.d.length : Int) else 0
def Jl (side : Nat) (f : Fr) (m : Nat) : Int := if (f.k = 1 ∨ f.k = 2) ∧ f.st = 2 * m + 1 + side then (f.d.length : Int) else 0
def Wj (side n : Nat) : Int -> (Nat -> Int) -> List Fr -> Prop
 | _, _, [] => True
 | A, t, f :: l => ((f.k = 1 ∨ f.k = 2) -> (∃ m, m < n ∧ f.st = 2 * m + 1 + side ∧ 0 <= t m - f.d.length) ∧ 0 <= A - f.d.length) ∧ Wj side n (A - paid f) (fun m => t m - Jl side f m) l
def TS (l : List Fr) : Int := (l.map paid).sum
def Tf (side : Nat) (l : List Fr) (m : Nat) : Int := (l.map fun f => Jl side f m).sum
end Go.Proofs.YtbkpdapagfjmmaaGreatDoor.Lk
