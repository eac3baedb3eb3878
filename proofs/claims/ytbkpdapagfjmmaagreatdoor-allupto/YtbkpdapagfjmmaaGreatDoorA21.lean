import Derived.Test.YtbkpdapagfjmmaaGreatDoorA20
set_option linter.unusedVariables false
set_option maxRecDepth 100000
set_option maxHeartbeats 16000000
namespace Go.Proofs.YtbkpdapagfjmmaaGreatDoor
open Go.RowKit
attribute [local go_sem ↓] Go.wp_at_zero Go.wp_at_succ
def fZ (H : Nat) (v v' : Value) : Prop := v' = v ∨ ∀ k, v'.ownBlock = some k -> H <= k
theorem fZ.mono {H H' : Nat} {v v' : Value} (h : fZ H v v') (hH : H' <= H) : fZ H' v v' := h.imp id (fun h k hk => Nat.le_trans hH (h k hk))
theorem fZ.trans {H H' : Nat} {v v' v'' : Value} (h : fZ H v v') (k : fZ H' v' v'') (hH : H <= H') : fZ H v v'' := by
 rcases k with rfl | k
 . exact h
 . exact .inr (fun x hx => Nat.le_trans hH (k x hx))
structure Tab (w : World) (t B : Nat) (L : List Lk.Hd) (v : Value) : Prop where
 blk : Is w t 90 [aU, .int .i64 ((B : Int) - Lk.weights L), v]
 own : w.ownsRow 0 112 2 v L.length (aQ L)
 le : Lk.weights L <= B
 hB : B <= 200
def dV (t B : Nat) (w w' : World) : Prop := w'.os = w.os ∧ w'.tape = w.tape ∧ w'.output = w.output ∧ w.heap.size <= w'.heap.size ∧ ∀ i, i < B -> i ≠ t -> w'.heap[i]? = w.heap[i]?
theorem dV.refl (t B : Nat) (w : World) : dV t B w w := ⟨rfl, rfl, rfl, Nat.le_refl _, fun _ _ _ => rfl⟩
theorem dV.trans {t B : Nat} {a b c : World} (h : dV t B a b) (k : dV t B b c) : dV t B a c :=
 ⟨k.1.trans h.1, k.2.1.trans h.2.1, k.2.2.1.trans h.2.2.1, Nat.le_trans h.2.2.2.1 k.2.2.2.1, fun i hi hn => (k.2.2.2.2 i hi hn).trans (h.2.2.2.2 i hi hn)⟩
theorem dV.below {t B : Nat} {a b c : World} (h : dV t B a b) (k : Below B b c) : dV t B a c :=
 h.trans ⟨k.os, k.tape, k.output, k.size, fun i hi _ => k.block i hi⟩
theorem dV.turns {t B : Nat} {a b c : World} (h : dV t B a b) (k : Turns t b c) (hB : B <= b.heap.size) : dV t B a c :=
 h.trans ⟨k.os, k.tape, k.output, k.size, fun i hi hn => k.block i (by omega) (by simpa using hn)⟩
theorem dV.toTurns {t : Nat} {a b : World} (h : dV t a.heap.size a b) : Turns t a b :=
 ⟨h.1, h.2.1, h.2.2.1, h.2.2.2.1, fun i hi hn => h.2.2.2.2 i hi (by simpa using hn)⟩
theorem Fx.Rt {t B : Nat} {w w' : World} (h : Fx w) (k : dV t B w w') (hB : 0 < B) (ht : 0 ≠ t) : Fx w' :=
 ⟨Nat.lt_of_lt_of_le h.1 k.2.2.2.1, fun i x hx => by
  have e : ∀ j, w'.cell? ⟨0, j, none⟩ = w.cell? ⟨0, j, none⟩ := fun j => by simp only [World.cell?]; rw [k.2.2.2.2 0 hB ht]
  rw [e, e]; exact h.2 i x hx⟩
theorem Tab.below {w w' : World} {t B : Nat} {L : List Lk.Hd} {v : Value} (h : Tab w t B L v) (hb : Below w.heap.size w w') : Tab w' t B L v :=
 ⟨h.blk.below hb h.blk.lt, own_below h.own hb, h.le, h.hB⟩
theorem Tab.alloc {w : World} {t B : Nat} {L : List Lk.Hd} {v : Value} (h : Tab w t B L v) (o : Obj) : Tab (w.alloc o) t B L v :=
 ⟨h.blk.alloc o, h.own.alloc o, h.le, h.hB⟩
theorem Tab.keeps {w w' : World} {t B : Nat} {L : List Lk.Hd} {v : Value} (h : Tab w t B L v) (hk : bZ 5 w w') : Tab w' t B L v :=
 ⟨hk _ _ _ (nbq rfl) h.blk, hk.own (nbq rfl) h.own, h.le, h.hB⟩
theorem Tab.len {w : World} {t B : Nat} {L : List Lk.Hd} {v : Value} (h : Tab w t B L v) : (Lk.fB L).length <= 54 := by
 have := Lk.jc L
 have h1 := h.le
 have h2 := h.hB
 rw [Lk.nM]
 omega
theorem jy (B : Nat) (v : Value) (xs : List UInt8) (n : Nat) (z : Int) (hz : z = n) (h : n <= 268435455) (w : World) (hB : B <= w.heap.size) (ho : w.ownsRow B 5 1 v xs.length (bytesV xs)) (hl : xs.length <= 1000) :
 Calls Tryz.prog 72 #[v, .int .i64 z] w fun e w' => ∃ v', e = .returned v' ∧ w'.ownsRow B 5 1 v' (xs ++ Lk.wire n).length (bytesV (xs ++ Lk.wire n)) ∧ Below B w w' ∧ bZ 5 w w' := by
 subst hz
 exact fP B v xs n h w hB ho (by omega)
theorem Nh {w : World} {B : Nat} {e : TypeId} {size n : Nat} {v : Value} {xs : List Value} (h : w.ownsRow B e size v n xs) : w.drew.ownsRow B e size v n xs := h
theorem JJ (t B : Nat) (L : List Lk.Hd) (h : Lk.Hd) (v : Value) (w : World) (hT : Tab w t B L v) (hn : h.n.length <= 100) (hv : h.v.length <= 100) :
 Calls Tryz.prog 171 #[.pointer (some ⟨t, 0, none⟩), hdA h] w fun e w' => e = .returned (.tuple #[]) ∧ (∃ v', Tab w' t B (Lk.put B L h) v' ∧ fZ w.heap.size v v') ∧ Turns t w w' := by
 refine (put_any t 0 _ _ B 0 L h v _ w hT.blk (nbq rfl) rfl rfl rfl hT.own hT.hB rfl hT.le (by omega) hv).mono ?_
 rintro e w' ⟨rfl, ⟨v', ho, hI⟩, hTu⟩
 exact ⟨rfl, ⟨v', ⟨hI, own_base (Nat.zero_le _) ho, Lk.jd B L h, hT.hB⟩, .inr (fun k hk => (ho.lt k hk).1)⟩, hTu⟩
theorem EW {w w3 wx wy : World} {t B Bs : Nat} {L L' : List Lk.Hd} {v vy bv : Value} {ys : Lk.Bs} {h : Lk.Hd} (hT3 : Tab w3 t B L v) (ho3 : w3.ownsRow Bs 5 1 bv ys.length (bytesV ys)) (hI3 : Is w3 w.heap.size 112 [.string (bs h.n), .string (bs h.v)])
 (hU3 : dV t Bs w w3) (hbx : Below w3.heap.size w3 wx) (hTy : Tab wy t B L' vy) (hty : Turns t wx wy) (hs3 : Bs <= w3.heap.size) (hNy : fZ wx.heap.size v vy) :
 ∃ v', (Tab wy t B L' v' ∧ fZ w.heap.size v v') ∧ wy.ownsRow Bs 5 1 bv ys.length (bytesV ys) ∧ Is wy w.heap.size 112 [.string (bs h.n), .string (bs h.v)] ∧ dV t Bs w wy := by
 have hTx := hT3.below hbx
 have hox := own_below ho3 hbx
 have hIx := hI3.below hbx hI3.lt
 have hsx := hbx.size
 have hwx : w.heap.size <= wx.heap.size := by have := hU3.2.2.2.1; omega
 refine ⟨vy, ⟨hTy, hNy.mono hwx⟩, hox.kept hty (.inr (fun e => own_ne hox hTx.blk (nbq rfl) e.symm)), hIx.grown hty ?_, (hU3.below (hbx.mono hs3)).turns hty (by omega)⟩
 intro e
 exact hIx.ne hTx.blk (nbq rfl) (by simpa using e)
theorem uT (t B Bs : Nat) (L : List Lk.Hd) (h : Lk.Hd) (v bv : Value) (xs : Lk.Bs) (w : World) (hT : Tab w t B L v) (hfx : Fx w) (hBs : Bs <= w.heap.size)
 (ho : w.ownsRow Bs 5 1 bv xs.length (bytesV xs)) (hxs : xs.length <= 600) (hn : h.n.length <= 16) (hv : h.v.length <= 32) :
 Calls Tryz.prog 130 #[.pointer (some ⟨t, 0, none⟩), bv, hdA h] w fun e w' => ∃ v' bv', e = .returned bv' ∧ (Tab w' t B (Lk.lT B L h).2 v' ∧ fZ w.heap.size v v') ∧ w'.ownsRow Bs 5 1 bv' (xs ++ (Lk.lT B L h).1).length (bytesV (xs ++ (Lk.lT B L h).1)) ∧ dV t Bs w w' := by
 have hN := hT.len
 generalize hNe : (Lk.fB L).length = N at hN
 generalize Va : Lk.low (Lk.gy h) (Lk.fB L) = R1
 generalize Vb : Lk.low (Lk.aX h) (Lk.fB L) = R2
 have HT0 := hide (hT.alloc (.cells #[.string (bs h.n), .string (bs h.v)] 112))
 have HI0 := hide (Is.new w 112 [.string (bs h.n), .string (bs h.v)])
 have HO0 := hide (ho.alloc (.cells #[.string (bs h.n), .string (bs h.v)] 112))
 have HB0 := hide ((Below.refl w.heap.size w).alloc (Nat.le_refl _) (.cells #[.string (bs h.n), .string (bs h.v)] 112))
 have HN := hide hNe
 have HR1 := hide Va
 have HR2 := hide Vb
 have HFX := hide hfx
 have htl := hT.blk.lt
 clear hNe Va Vb hT ho hfx
 go_enter Tryz.func130, Tryz.ntmps130
 go_wp2_with fail
 refine (PU t 0 w.heap.size 0 L h v N R1 _ (by simp; omega) (by simp) (hide ((uh HFX).below (uh HB0) (by omega))) ((uh HT0).blk.cell 2) (hide (uh HT0).own) ((uh HI0).cell 0) ((uh HI0).cell 1) HN (by omega) HR1).mono ?_
 rintro e w1 ⟨rfl, hb1⟩
 have HT1 := hide ((uh HT0).below hb1)
 have HI1 := hide ((uh HI0).below hb1 (by simp))
 have HO1 := hide (own_below (uh HO0) hb1)
 have HB1 := hide ((uh HB0).trans (hb1.mono (by simp)))
 have hs1 : w.heap.size < w1.heap.size := (uh HI1).lt
 clear hb1 HT0 HI0 HO0 HB0
 by_cases hR1 : R1 < N
 . have hd : decide (R1 < N) = true := by simpa using hR1
   have hone : Lk.lT B L h = (Lk.wire (2 * R1), L) := by
    unfold Lk.lT; rw [uh HR1, uh HN, if_pos hR1]
   have PW := hide hone
   clear hone
   go_wp2_with fail
   refine (jy Bs bv xs (2 * R1) _ (by first | rfl | (simp; done) | omega) (by omega) w1 (by omega) (uh HO1) (by omega)).mono ?_
   rintro e w2 ⟨v2, rfl, ho2, hb2, hk2⟩
   go_wp2_with fail
   go_ret
   rw [uh PW]
   exact ⟨v, _, rfl, ⟨(uh HT1).keeps hk2, .inl rfl⟩, ho2, ((dV.refl t Bs w).below ((uh HB1).mono hBs)).below hb2⟩
 . have hd : decide (R1 < N) = false := by simpa using hR1
   go_wp2_with fail
   refine (PV t 0 w.heap.size 0 L h v N R2 _ (by omega) (by omega) (hide ((uh HFX).below (uh HB1) (by omega))) ((uh HT1).blk.cell 2) (hide (uh HT1).own) ((uh HI1).cell 0) ((uh HI1).cell 1) HN (by omega) HR2).mono ?_
   rintro e w2 ⟨rfl, hb2⟩
   have HT2 := hide ((uh HT1).below hb2)
   have HI2 := hide ((uh HI1).below hb2 hs1)
   have HO2 := hide (own_below (uh HO1) hb2)
   have HB2 := hide ((uh HB1).trans (hb2.mono (by omega)))
   have hs2 : w.heap.size < w2.heap.size := (uh HI2).lt
   clear hb2 HT1 HI1 HO1 HB1
   by_cases hR2 : R2 < N
   . have hd2 : decide (R2 < N) = true := by simpa using hR2
     have PW := hide (show Lk.lT B L h = (Lk.wire (2 * (R2 + 1) + 1) ++ Lk.text h.v, Lk.put B L h) by
      unfold Lk.lT; rw [uh HR1, uh HR2, uh HN, if_neg hR1, if_pos hR2])
     go_wp2_with fail
     refine (jy Bs bv xs (2 * (R2 + 1) + 1) _ (by first | rfl | (simp; done) | omega) (by omega) w2 (by omega) (uh HO2) (by omega)).mono ?_
     rintro e w3 ⟨v3, rfl, ho3, hb3, hk3⟩
     have hT3 := (uh HT2).keeps hk3
     have hI3 := hk3 _ _ _ (nbq rfl) (uh HI2)
     have hU3 := ((dV.refl t Bs w).below ((uh HB2).mono hBs)).below hb3
     have hw4 := Lk.au (2 * (R2 + 1) + 1) (by omega)
     generalize hys : xs ++ Lk.wire (2 * (R2 + 1) + 1) = ys at ho3
     have hyl : ys.length <= 700 := by rw [<- hys]; simp; omega
     have HE := hide (show xs ++ (Lk.lT B L h).1 = ys ++ Lk.text h.v by rw [uh PW, <- hys]; simp)
     have HE2 := hide (show (Lk.lT B L h).2 = Lk.put B L h by rw [uh PW])
     have c0 := hI3.cell 0
     have c1 := hI3.cell 1
     simp only [List.getElem?_cons_zero, List.getElem?_cons_succ] at c0 c1
     have hs3 : Bs <= w3.heap.size := by have := hU3.2.2.2.1; omega
     clear hys hb3 hk3 HT2 HI2 HO2 HB2
     go_wp2_with fail
     go_cut [] (fun wc => ∃ v', (Tab wc t B (Lk.put B L h) v' ∧ fZ w.heap.size v v') ∧ wc.ownsRow Bs 5 1 v3 ys.length (bytesV ys) ∧ Is wc w.heap.size 112 [.string (bs h.n), .string (bs h.v)] ∧ dV t Bs w wc)
     case first =>
      go_region_with (first
       | (go_at_call 172; refine (wO h _ (by omega) (by omega)).mono ?_; rintro e wx ⟨rfl, hbx⟩)
       | (go_at_call 171; refine (JJ t B L h v _ (hT3.below ⟨hbx.os, hbx.tape, hbx.output, hbx.size, hbx.block⟩) (by omega) (by omega)).mono ?_; rintro e wy ⟨rfl, ⟨vy, hTy, hNy⟩, hty⟩))
      all_goals
       go_wp2_with fail
       go_meet
       exact EW hT3 ho3 hI3 hU3 ⟨hbx.os, hbx.tape, hbx.output, hbx.size, hbx.block⟩ hTy hty hs3 (hNy.mono (by simp))
     case rest =>
      obtain ⟨v', ⟨hT4, hN4⟩, ho4, hI4, hU4⟩ := hcut
      have c1 := hI4.cell 1
      simp only [List.getElem?_cons_zero, List.getElem?_cons_succ] at c1
      have hs4 := hU4.2.2.2.1
      go_wp2_with fail
      refine (jL Bs _ ys h.v _ (by omega) ho4 (by omega) (by omega)).mono ?_
      rintro e w5 ⟨v5, rfl, ho5, hb5, hk5⟩
      go_wp2_with fail
      go_ret
      rw [uh HE, uh HE2]
      exact ⟨v', _, rfl, ⟨hT4.keeps hk5, hN4⟩, ho5, hU4.below hb5⟩
   . have hd2 : decide (R2 < N) = false := by simpa using hR2
     have PW := hide (show Lk.lT B L h = (Lk.wire 1 ++ Lk.text h.n ++ Lk.text h.v, Lk.put B L h) by
      unfold Lk.lT; rw [uh HR1, uh HR2, uh HN, if_neg hR1, if_neg hR2])
     have c0 := (uh HI2).cell 0
     simp only [List.getElem?_cons_zero] at c0
     go_wp2_with fail
     go_cut [1] (fun u wc => ∃ ys : Lk.Bs, ys = xs ++ (Lk.wire 1 ++ Lk.text h.n) ∧ wc.ownsRow Bs 5 1 u ys.length (bytesV ys) ∧ Tab wc t B L v ∧ Is wc w.heap.size 112 [.string (bs h.n), .string (bs h.v)] ∧ dV t Bs w wc)
     case first =>
      have hw1 := Lk.au 1 (by omega)
      have WE : Bs <= w2.heap.size := by omega
      go_region_with (first
       | (go_at_call 72; refine (jy Bs bv xs 1 1 rfl (by omega) _ (show Bs <= w2.drew.heap.size from WE) (Nh (uh HO2)) (by omega)).mono ?_; rintro e wx ⟨vx, rfl, hox, hbx, hkx⟩; have gx : wx.cell? ⟨w.heap.size, 0, none⟩ = some (.string (bs h.n)) := (hkx _ _ _ (nbq rfl) (uh HI2).drew).cell 0)
       | (go_at_call 170; refine (jL Bs vx (xs ++ Lk.wire 1) h.n _ (by have := hbx.size; simp at this; omega) hox (by simp; omega) (by omega)).mono ?_; rintro e wy ⟨vy, rfl, hoy, hby, hky⟩))
      all_goals
       go_wp2_with fail
       go_meet
       have hk2 : bZ 5 w2 wy := bZ.trans (fun i T cs hT hI => hkx i T cs hT hI.drew) hky
       refine ⟨_, rfl, by simpa using hoy, (uh HT2).keeps hk2, hk2 _ _ _ (nbq rfl) (uh HI2), ?_⟩
       exact (((dV.refl t Bs w).below ((uh HB2).mono hBs)).below ⟨hbx.os, hbx.tape, hbx.output, hbx.size, hbx.block⟩).below hby
     case rest =>
     obtain ⟨ys, hys, ho3, hT3, hI3, hU3⟩ := hcut
     have hw4 := Lk.au 1 (by omega)
     have hw5 := Lk.au h.n.length (by omega)
     have hyl : ys.length <= 700 := by rw [hys]; simp [Lk.text]; omega
     have HE := hide (show xs ++ (Lk.lT B L h).1 = ys ++ Lk.text h.v by rw [uh PW, hys]; simp)
     have HE2 := hide (show (Lk.lT B L h).2 = Lk.put B L h by rw [uh PW])
     have c0 := hI3.cell 0
     have c1 := hI3.cell 1
     simp only [List.getElem?_cons_zero, List.getElem?_cons_succ] at c0 c1
     have hs3 : Bs <= wc.heap.size := by have := hU3.2.2.2.1; omega
     clear hys HT2 HI2 HO2 HB2
     go_wp2_with fail
     go_cut [] (fun wc => ∃ v', (Tab wc t B (Lk.put B L h) v' ∧ fZ w.heap.size v v') ∧ wc.ownsRow Bs 5 1 u1 ys.length (bytesV ys) ∧ Is wc w.heap.size 112 [.string (bs h.n), .string (bs h.v)] ∧ dV t Bs w wc)
     case first =>
      go_region_with (first
       | (go_at_call 172; refine (wO h _ (by omega) (by omega)).mono ?_; rintro e wx ⟨rfl, hbx⟩)
       | (go_at_call 171; refine (JJ t B L h v _ (hT3.below ⟨hbx.os, hbx.tape, hbx.output, hbx.size, hbx.block⟩) (by omega) (by omega)).mono ?_; rintro e wy ⟨rfl, ⟨vy, hTy, hNy⟩, hty⟩))
      all_goals
       go_wp2_with fail
       go_meet
       exact EW hT3 ho3 hI3 hU3 ⟨hbx.os, hbx.tape, hbx.output, hbx.size, hbx.block⟩ hTy hty hs3 (hNy.mono (by simp))
     case rest =>
      obtain ⟨v', ⟨hT4, hN4⟩, ho4, hI4, hU4⟩ := hcut
      have c1 := hI4.cell 1
      simp only [List.getElem?_cons_zero, List.getElem?_cons_succ] at c1
      have hs4 := hU4.2.2.2.1
      go_wp2_with fail
      refine (jL Bs _ ys h.v _ (by omega) ho4 (by omega) (by omega)).mono ?_
      rintro e w5 ⟨v5, rfl, ho5, hb5, hk5⟩
      go_wp2_with fail
      go_ret
      rw [uh HE, uh HE2]
      exact ⟨v', _, rfl, ⟨hT4.keeps hk5, hN4⟩, ho5, hU4.below hb5⟩
namespace Lk
theorem yw {h : Hd} (hg : good h = true) : h.n.length <= 16 ∧ h.v.length <= 32 := by
 simp only [good, fits, jM, Bool.and_eq_true, if_true, decide_eq_true_eq] at hg
 obtain ⟨⟨h1, _⟩, h2, _⟩ := hg
 simp at h2
 omega
theorem EX (B : Nat) (L : List Hd) (h : Hd) (hL : (fB L).length <= 54) (hn : h.n.length <= 16) (hv : h.v.length <= 32) : (lT B L h).1.length <= 60 := by
 have h1 := Oi (gy h) (fB L)
 have h2 := Oi (aX h) (fB L)
 have w1 := au (2 * low (gy h) (fB L)) (by omega)
 have w2 := au (2 * (low (aX h) (fB L) + 1) + 1) (by omega)
 have w3 := au 1 (by omega)
 have w4 := au h.n.length (by omega)
 have w5 := au h.v.length (by omega)
 unfold lT text
 split
 . simp only; omega
 . split <;> simp only [List.length_append] <;> omega
theorem kF (B : Nat) (hB : B <= 200) : ∀ (hs L : List Hd), weights L <= B -> (∀ h ∈ hs, good h = true) -> (squeeze B L hs).1.length <= 60 * hs.length
 | [], L, _, _ => by simp [squeeze]
 | x :: hs, L, hL, hg => by
   have hlen := jc L
   have hb := yw (hg x (by simp))
   have h1 := EX B L x (by rw [nM]; omega) hb.1 hb.2
   have h2 := kF B hB hs (lT B L x).2 (pY B L x hL) (fun y hy => hg y (by simp [hy]))
   simp only [squeeze, List.length_append, List.length_cons]
   omega
end Lk
theorem take_snoc {l : List Lk.Hd} {k : Nat} {x : Lk.Hd} (hx : l[k]? = some x) : l.take k ++ [x] = l.take (k + 1) := by
 rw [List.take_add_one, hx]; rfl
theorem EY (w : World) : (convert 78 9 (.slice none 0 0)).run Tryz.prog w = .ok (.string ⟨#[]⟩) w := by
 rw [run_convert_bytes_nil w 78 5 Tryz.underlying78 Tryz.underlying5 0 0 9 Tryz.underlying9]; rfl
theorem iP {w w' : World} {t B n : Nat} {v : Value} {xs cs : List Value} {T : TypeId} (h : w.ownsRow B 112 2 v n xs) (hI : Is w t T cs) (hT : T ≠ 112) (hb : Turns t w w') : w'.ownsRow B 112 2 v n xs :=
 h.kept hb (.inr (fun e => own_ne h hI hT e.symm))
theorem qA (t cap : Nat) (ad : Option Addr) (w : World) :
 Calls Tryz.prog 82 #[.pointer (some ⟨t, 0, none⟩), .slice ad 0 cap] w fun e w' => e = .returned (.string ⟨#[]⟩) ∧ Below w.heap.size w w' := by
 have hcv := EY w
 go_enter Tryz.func82, Tryz.ntmps82
 go_wp2_with fail
 refine wp_loop_rounds 1 ?_
 rw [rounds_succ]
 go_wp2_with fail
 go_ret
 exact ⟨rfl, Below.refl _ _⟩
theorem Ai (t B g cap B1 : Nat) (L l : List Lk.Hd) (v : Value) (w : World) (hT : Tab w t B L v) (hfx : Fx w) (ht0 : t ≠ 0) (hl : l.length <= 6) (hl0 : 0 < l.length) (hgood : ∀ h ∈ l, Lk.good h = true)
 (own : w.ownsRow B1 112 2 (.slice (some ⟨g, 0, none⟩) l.length cap) l.length (aQ l)) :
 Calls Tryz.prog 82 #[.pointer (some ⟨t, 0, none⟩), .slice (some ⟨g, 0, none⟩) l.length cap] w fun e w' =>
  e = .returned (.string (bs (Lk.squeeze B L l).1)) ∧ (∃ v', Tab w' t B (Lk.squeeze B L l).2 v' ∧ fZ w.heap.size v v') ∧ Turns t w w' := by
 have h0 := hfx.1
 have HT := hide hT
 have HFX := hide hfx
 have HG := hide hgood
 have HO := hide own
 clear hT hfx hgood own
 generalize hS : bs (Lk.squeeze B L l).1 = S
 have HS := hide hS
 clear hS
 go_enter Tryz.func82, Tryz.ntmps82
 go_wp2_with fail
 go_loopw [5, 10] (fun u5 u wr => ∃ (k : Nat) (v' : Value), u = .int .i64 k ∧ k <= l.length ∧ (Tab wr t B (Lk.squeeze B L (l.take k)).2 v' ∧ fZ w.heap.size v v') ∧ Hid (wr.ownsRow w.heap.size 5 1 u5 (Lk.squeeze B L (l.take k)).1.length (bytesV (Lk.squeeze B L (l.take k)).1)) ∧ dV t w.heap.size w wr) (fun _ u _ => l.length - (intOf u).toNat)
 case atStart => exact ⟨0, v, rfl, by omega, ⟨uh HT, .inl rfl⟩, World.ownsRow_nil _ _ _ _, dV.refl _ _ _⟩
 case round =>
  obtain ⟨k, v', rfl, hk, ⟨hTk, hNk⟩, HOk, hU⟩ := hrel
  by_cases hlt : k < l.length
  . have hlt' : (k : Int) < l.length := by omega
    obtain ⟨x, hx⟩ : ∃ x, l[k]? = some x := ⟨_, List.getElem?_eq_getElem hlt⟩
    obtain ⟨hg2, x0, x1⟩ := jJ (iP (uh HO) (uh HT).blk (nbq rfl) hU.toTurns) hx
    have hxg := Lk.yw ((uh HG) x (List.mem_of_getElem? hx))
    have hsz := hU.2.2.2.1
    have hsl := Lk.kF B hTk.hB (l.take k) L (uh HT).le (fun y hy => (uh HG) y (List.mem_of_mem_take hy))
    rw [List.length_take] at hsl
    have HX := hide hx
    have HTk := hide hTk
    have HU := hide hU
    clear hx hTk hU
    go_wp2_with fail
    refine (uT t B w.heap.size (Lk.squeeze B L (l.take k)).2 x v' u5 (Lk.squeeze B L (l.take k)).1 _ ((uh HTk).alloc _) (((uh HFX).Rt (uh HU) h0 (Ne.symm ht0)).below ((Below.refl _ _).alloc (Nat.le_refl _) _) (by omega)) (by simp; omega) ((uh HOk).alloc _) (by omega) hxg.1 hxg.2).mono ?_
    rintro e w2 ⟨v2, bv2, rfl, ⟨hT2, hN2⟩, ho2, hU2⟩
    have hN3 := hNk.trans hN2 (by simp; omega)
    clear hN2
    have e := Lk.kV B (l.take k) L x
    rw [take_snoc (uh HX)] at e
    have e1 := congrArg Prod.fst e
    have e2 := congrArg Prod.snd e
    simp only at e1 e2
    rw [<- e2] at hT2
    rw [<- e1] at ho2
    have hU3 := ((uh HU).below ((Below.refl w.heap.size wr).alloc (by omega) _)).trans hU2
    have HO2 := hide ho2
    clear e e1 e2 ho2 hU2 x0 x1
    go_wp2_with fail
    go_roundw
    case rel => exact ⟨k + 1, v2, by simp, by omega, ⟨hT2, hN3⟩, HO2, hU3⟩
    case measure => simp [intOf]; omega
  . have hlt' : ¬ (k : Int) < l.length := by omega
    have hkl : k = l.length := by omega
    rw [hkl, List.take_length] at hTk HOk
    have hcv := jE (uh HOk) (by
     rcases Nat.eq_zero_or_pos (Lk.squeeze B L l).1.length with h | h
     . have := (Lk.BH B l L).1 (List.eq_nil_of_length_eq_zero h)
       rw [this] at hl0
       simp at hl0
     . exact h)
    rw [show (⟨(Lk.squeeze B L l).1.toArray⟩ : ByteArray) = S from uh HS] at hcv
    have HTk := hide hTk
    have HU := hide hU
    clear hTk hU
    go_wp2_with fail
    go_ret
    exact ⟨rfl, ⟨v', uh HTk, hNk⟩, (uh HU).toTurns⟩
open Go.RowKit
theorem CZ {w : World} {B : Nat} {v : Value} {l : Lk.Bs} (h : w.ownsRow B 5 1 v l.length (bytesV l)) : (convert 78 9 v).run Tryz.prog w = .ok (.string (bs l)) w := by
 rcases Nat.eq_zero_or_pos l.length with h0 | h0
 . have hl : l = [] := List.eq_nil_of_length_eq_zero h0
   subst hl
   rcases h.2 with ⟨rfl, _⟩ | ⟨g, cap, cur, rfl, _, hg, _, _, _, _⟩
   . exact EY w
   . have hI : Is w g 5 cur.toList := by unfold Is; simpa using hg
     have := Is.string (xs := []) hI (by simp) cap
     simpa [bs, strOfNums] using this
 . exact jE h h0
theorem wP {N c : Nat} {e e1 e2 : Lk.En} {xs s : Lk.Bs} (h : Lk.En.drain N e = (xs ++ (Lk.En.drain (N - c) e1).1, (Lk.En.drain (N - c) e1).2)) (hc : c < N) (hd : e1.bG = some (s, e2)) : Lk.En.drain N e = ((xs ++ s) ++ (Lk.En.drain (N - (c + 1)) e2).1, (Lk.En.drain (N - (c + 1)) e2).2) := by
 have e0 : N - c = (N - (c + 1)) + 1 := by omega
 rw [h, e0]
 simp only [Lk.En.drain, hd]
 rw [List.append_assoc]
theorem GI {N c : Nat} {e e1 : Lk.En} {xs : Lk.Bs} (h : Lk.En.drain N e = (xs ++ (Lk.En.drain (N - c) e1).1, (Lk.En.drain (N - c) e1).2)) (hd : e1.bG = none ∨ ¬ c < N) : Lk.En.drain N e = (xs, e1) := by
 rw [h]
 rcases hd with hd | hd
 . cases hx : N - c with
   | zero => simp [Lk.En.drain]
   | succ m => simp [Lk.En.drain, hd]
 . have : N - c = 0 := by omega
   rw [this]
   simp [Lk.En.drain]
theorem JK (b : Nat) (e : Lk.En) (d : PD) (most : Int) (w : World) (hL : kM w b e d) (U7 : most <= 9223372036854775807) (TV : (Lk.En.drain most.toNat e).1.length <= 2 ^ 44) :
 Calls Tryz.prog 14 #[.pointer (some ⟨b, 0, none⟩), .int .i64 most] w fun r w' => r = .returned (.string (bs (Lk.En.drain most.toNat e).1)) ∧ iO w b d (Lk.En.drain most.toNat e).2 w' := by
 have hlt := hL.lt
 have hI0 := Is.new w 78 [.slice none 0 0]
 have hO0 : Only (fun i => foot b d i ∨ w.heap.size <= i) w (w.alloc (.cells #[.slice none 0 0] 78)) := (Only.refl _ w).alloc _
 have hL0 := hL.only ((Only.refl (fun _ => False) w).alloc (.cells #[.slice none 0 0] 78)) (fun _ _ h => h)
 have hG0 : rU (w.alloc (.cells #[.slice none 0 0] 78)) w.heap.size w.heap.size [] := ⟨_, hI0, World.ownsRow_nil _ _ _ _⟩
 have hbl : b < w.heap.size := hlt b (.inl rfl)
 generalize hNN : most.toNat = N at *
 have hmN : ∀ c : Nat, (c : Int) < most ↔ c < N := fun c => by omega
 generalize Vd : (Lk.En.drain N e) = Res
 have Oo := hide Vd
 have HF0 := hide (⟨hL0, hG0, hO0, hlt⟩ : _ ∧ _ ∧ _ ∧ _)
 have HMN := hide hmN
 have WG := hide TV
 clear hL hI0 hO0 hL0 hG0 hlt hNN Vd hmN TV
 go_enter Tryz.func14, Tryz.ntmps14
 go_wp2_with fail
 go_loopw [9] (fun u wr => ∃ (c : Nat) (e1 : Lk.En) (d1 : PD) (xs : Lk.Bs), u = .int .i64 c ∧ c <= N ∧ Hid (kM wr b e1 d1 ∧ (∀ i, foot b d1 i -> foot b d i) ∧ rU wr w.heap.size w.heap.size xs ∧ Only (fun i => foot b d i ∨ w.heap.size <= i) w wr ∧ Lk.En.drain N e = (xs ++ (Lk.En.drain (N - c) e1).1, (Lk.En.drain (N - c) e1).2))) (fun u _ => N - (intOf u).toNat)
 case atStart =>
  obtain ⟨h1, h2, h3, h4⟩ := uh HF0
  exact ⟨0, e, d, [], rfl, Nat.zero_le _, h1, fun _ h => h, h2, h3, by simp⟩
 case round =>
  obtain ⟨c, e1, d1, xs, rfl, hcN, HR⟩ := hrel
  have hfin : ∀ (W : World), kM W b e1 d1 -> rU W w.heap.size w.heap.size xs -> Only (fun i => foot b d i ∨ w.heap.size <= i) w W -> (e1.bG = none ∨ ¬ c < N) -> ∃ v, W.cell? ⟨w.heap.size, 0, none⟩ = some v ∧ (∃ a n cap, v = .slice a n cap) ∧ w.heap.size < W.heap.size ∧ (convert 78 9 v).run Tryz.prog W = .ok (.string (bs Res.1)) W ∧ iO w b d Res.2 W := by
   intro W h1 h3 h4 hs
   obtain ⟨_, h2, _, _, h5⟩ := uh HR
   have hst := GI h5 hs
   have hrr := uh Oo
   rw [hst] at hrr
   obtain ⟨v, hI, ho⟩ := h3
   obtain ⟨a, n, cap, hv, _⟩ := bV ho
   refine ⟨v, hI.cell 0, ⟨a, n, cap, hv⟩, hI.lt, ?_, d1, ?_, fun i hi => .inl (h2 i hi), ?_⟩
   . rw [<- hrr]
     exact CZ ho
   . rw [<- hrr]
     exact h1
   . refine ⟨h4.os, h4.tape, h4.output, h4.size, fun i hi hn => h4.block i hi (fun hx => ?_)⟩
     rcases hx with hx | hx
     . exact hn hx
     . omega
  have jD := hide hfin
  clear hfin
  by_cases hlt : c < N
  . have hlt' : (c : Int) < most := (uh HMN c).2 hlt
    have X0 : (c : Int) + 1 <= 9223372036854775807 := by omega
    obtain ⟨h1, h2, h3, h4, h5⟩ := uh HR
    have hxl : xs.length <= 2 ^ 44 := by
     have := uh WG
     rw [h5] at this
     simp at this
     omega
    have hB : ∀ i, foot b d1 i -> i < w.heap.size := fun i hi => (uh HF0).2.2.2 i (h2 i hi)
    have HT := hide (Gy b w.heap.size w.heap.size e1 d1 xs wr h1 h3 (Nat.le_refl _) hB hxl)
    have X3 : b < wr.heap.size := by have := h4.size; omega
    unfold kP at HT
    cases hrow : e1.row with
    | cons s r =>
      rw [hrow] at HT
      simp only at HT
      have hd1 : e1.bG = some (s, { e1 with row := r }) := by unfold Lk.En.bG; rw [hrow]
      have hst := wP h5 hlt hd1
      have HST := hide (⟨h2, h4, hst⟩ : _ ∧ _ ∧ _)
      clear h1 h2 h3 h4 h5 hd1 hst hxl hB
      go_wp2_with fail
      refine (uh HT).mono ?_
      rintro q w1 ⟨rfl, d2, g1, g2, g3, g4⟩
      obtain ⟨h2, h4, hst⟩ := uh HST
      have FO : Hid (kM w1 b { e1 with row := r } d2 ∧ (∀ i, foot b d2 i -> foot b d i) ∧ rU w1 w.heap.size w.heap.size (xs ++ s) ∧ Only (fun i => foot b d i ∨ w.heap.size <= i) w w1 ∧ Lk.En.drain N e = ((xs ++ s) ++ (Lk.En.drain (N - (c + 1)) { e1 with row := r }).1, (Lk.En.drain (N - (c + 1)) { e1 with row := r }).2)) :=
       ⟨g1, fun i hi => h2 i (g2 i hi), g3, h4.trans g4 (fun i hi _ => hi.imp (h2 i) id), hst⟩
      clear g1 g2 g3 g4 h2 h4 hst
      go_wp2_with fail
      go_roundw
      case rel => exact ⟨c + 1, _, d2, xs ++ s, by simp, by omega, FO⟩
      case measure => simp [intOf]; omega
    | nil =>
      rw [hrow] at HT
      simp only at HT
      have HS := hide (Gz b w.heap.size w.heap.size e1 d1 xs wr h1 hrow h3 (Nat.le_refl _) hB hxl)
      unfold kP at HS
      cases hd1 : e1.bG with
      | some p =>
        obtain ⟨s, e2⟩ := p
        rw [hd1] at HS
        simp only at HS
        have hst := wP h5 hlt hd1
        have HST := hide (⟨h2, h4, hst⟩ : _ ∧ _ ∧ _)
        clear h1 h2 h3 h4 h5 hd1 hst hxl hB
        go_wp2_with fail
        refine (uh HT).mono ?_
        rintro q w1 ⟨rfl, rfl⟩
        go_wp2_with fail
        refine (uh HS).mono ?_
        rintro q w2 ⟨rfl, d2, g1, g2, g3, g4⟩
        obtain ⟨h2, h4, hst⟩ := uh HST
        have FO : Hid (kM w2 b e2 d2 ∧ (∀ i, foot b d2 i -> foot b d i) ∧ rU w2 w.heap.size w.heap.size (xs ++ s) ∧ Only (fun i => foot b d i ∨ w.heap.size <= i) w w2 ∧ Lk.En.drain N e = ((xs ++ s) ++ (Lk.En.drain (N - (c + 1)) e2).1, (Lk.En.drain (N - (c + 1)) e2).2)) :=
         ⟨g1, fun i hi => h2 i (g2 i hi), g3, h4.trans g4 (fun i hi _ => hi.imp (h2 i) id), hst⟩
        clear g1 g2 g3 g4 h2 h4 hst
        go_wp2_with fail
        go_roundw
        case rel => exact ⟨c + 1, e2, d2, xs ++ s, by simp, by omega, FO⟩
        case measure => simp [intOf]; omega
      | none =>
        rw [hd1] at HS
        simp only at HS
        have HX := hide (fun n => uh jD (wr.drewN n) (h1.only ((Only.refl (fun _ => False) wr).drewN n) (fun _ _ h => h)) (let ⟨v, a, b⟩ := h3; ⟨v, a.drewN n, b⟩) (h4.drewN n) (.inl hd1))
        clear h1 h2 h3 h4 h5 hd1 hxl hB
        go_wp2_with fail
        refine (uh HT).mono ?_
        rintro q w1 ⟨rfl, rfl⟩
        go_wp2_with fail
        refine (uh HS).mono ?_
        rintro q w2 ⟨rfl, n, rfl⟩
        obtain ⟨v, k1, ⟨va, vn, vc, rfl⟩, k2, k3, k4⟩ := uh HX n
        have HK := hide k4
        clear k4
        go_wp2_with fail
        go_ret
        exact ⟨rfl, uh HK⟩
  . have hlt' : ¬ (c : Int) < most := fun h => hlt ((uh HMN c).1 h)
    obtain ⟨h1, h2, h3, h4, h5⟩ := uh HR
    obtain ⟨v, k1, ⟨va, vn, vc, rfl⟩, k2, k3, k4⟩ := uh jD wr h1 h3 h4 (.inr hlt)
    have HK := hide k4
    clear k4 h1 h2 h3 h4 h5
    go_wp2_with fail
    go_ret
    exact ⟨rfl, uh HK⟩
theorem Aj (n : Int) (w : World) : Calls Tryz.prog 125 #[.int .i64 n, aU] w fun e w' => e = .returned (.agg #[aU, .int .i64 n, .slice none 0 0]) ∧ Below w.heap.size w w' := by
 go_enter Tryz.func125, Tryz.ntmps125
 go_wp2_with fail
 exact bodyPost_ret (v := .agg #[aU, .int .i64 n, .slice none 0 0]) (by simp [results, Tryz.results125, go_sem]) rfl ⟨rfl, by ((repeat' (first | exact Below.refl _ _ | assumption | apply Below.drew | apply Below.alloc | apply Below.setCell)) <;> (simp <;> omega))⟩
theorem lI (n : Int) (w : World) : Calls Tryz.prog 78 #[.int .i64 n] w fun e w' => e = .returned (.agg #[aU, .int .i64 n, .slice none 0 0]) ∧ Below w.heap.size w w' := by
 have HX := hide (Is.new w 90 [.nilFunc, .int .i64 0, .slice none 0 0])
 have HB := hide ((Below.refl w.heap.size w).alloc (Nat.le_refl _) (.cells #[.nilFunc, .int .i64 0, .slice none 0 0] 90))
 go_enter Tryz.func78, Tryz.ntmps78
 go_wp2_with fail
 refine (Aj _ _).mono ?_
 rintro e w1 ⟨rfl, hb⟩
 have hX1 := (uh HX).below hb (by simp)
 have hbel := (uh HB).trans (hb.mono (by simp))
 have n0 := hX1.cell 0
 have n1 := hX1.cell 1
 have n2 := hX1.cell 2
 have g0 := hX1.free 0
 have g1 := hX1.free 1
 have g2 := hX1.free 2
 have hl := hX1.lt
 simp only [List.getElem?_cons_zero, List.getElem?_cons_succ] at n0 n1 n2
 clear hb hX1
 go_wp2_with fail
 exact bodyPost_ret (v := .agg #[aU, .int .i64 n, .slice none 0 0]) (by simp [results, Tryz.results78, go_sem, n0, n1, n2]) rfl ⟨rfl, ((hbel.setCell (by simp) _).setCell (by simp) _).setCell (by simp) _⟩
theorem tV (B : Nat) (hB : B <= 200) (w : World) :
 Calls Tryz.prog 52 #[.int .i64 B] w fun e w' => ∃ t, e = .returned (.tuple #[.pointer (some ⟨t, 0, none⟩), .int .i64 0]) ∧ w.heap.size <= t ∧ Tab w' t B [] (.slice none 0 0) ∧ Below w.heap.size w w' := by
 have h1 : ¬ (B : Int) < 0 := by omega
 have h2 : ¬ 200 < (B : Int) := by omega
 go_enter Tryz.func52, Tryz.ntmps52
 go_wp2_with fail
 refine (lI _ _).mono ?_
 rintro e w1 ⟨rfl, hb⟩
 have hs := hb.size
 go_wp2_with fail
 go_ret2
 exact ⟨_, rfl, hs, ⟨by simpa [Lk.weights] using Is.new w1 90 [aU, .int .i64 B, .slice none 0 0], World.ownsRow_nil _ _ _ _, by simp [Lk.weights], hB⟩, hb.alloc hs _⟩
theorem Ak (n : Int) (hn : n < 0 ∨ 200 < n) (w : World) :
 Calls Tryz.prog 52 #[.int .i64 n] w fun e w' => e = .returned (.tuple #[.pointer none, .int .i64 1]) ∧ Below w.heap.size w w' := by
 by_cases h1 : n < 0
 . go_enter Tryz.func52, Tryz.ntmps52
   go_wp2_with fail
   go_ret2
   exact ⟨rfl, Below.refl _ _⟩
 . have h2 : 200 < n := by omega
   go_enter Tryz.func52, Tryz.ntmps52
   go_wp2_with fail
   go_ret2
   exact ⟨rfl, Below.refl _ _⟩
theorem C9 (t B : Nat) (L : List Lk.Hd) (v : Value) (w : World) (hT : Tab w t B L v) :
 Calls Tryz.prog 100 #[.pointer (some ⟨t, 0, none⟩)] w fun e w' => ∃ v', e = .returned v' ∧ w'.ownsRow w.heap.size 112 2 v' L.length (aQ L) ∧ Below w.heap.size w w' := by
 have hlen := Lk.jc L
 have h1 := hT.le
 have h2 := hT.hB
 have c2 := hT.blk.cell 2
 simp only [List.getElem?_cons_zero, List.getElem?_cons_succ] at c2
 have HO := hide hT.own
 clear hT
 go_enter Tryz.func100, Tryz.ntmps100
 go_wp2_with fail
 refine (IX 0 v L _ (by omega) (uh HO)).mono ?_
 rintro e w1 ⟨v', rfl, ho, hb⟩
 go_wp2_with fail
 go_ret
 exact ⟨_, rfl, ho, hb⟩
theorem tX (t B1 : Nat) (l : List Lk.Hd) (lv : Value) (w : World) (hw : (Lk.wrong l).1 ≠ 0) (own : w.ownsRow B1 112 2 lv l.length (aQ l)) :
 Calls Tryz.prog 59 #[.pointer (some ⟨t, 0, none⟩), lv] w fun e w' =>
  e = .returned (.tuple #[.string ⟨#[]⟩, .int .i64 (Lk.wrong l).1, .int .i64 (Lk.wrong l).2]) ∧ Below w.heap.size w w' := by
 have HO := hide own
 clear own
 generalize hE1 : (Lk.wrong l).1 = E at hw ⊢
 have hE : ((E : Int) != 0) = true := by rw [bne_iff_ne]; omega
 have HE := hide hE1
 clear hE1
 go_enter Tryz.func59, Tryz.ntmps59
 go_wp2_with fail
 refine (iJ B1 lv l _ (uh HO)).mono ?_
 rintro e w1 ⟨he, hb⟩
 rw [uh HE] at he
 subst he
 go_wp2_with fail
 go_ret3
 exact ⟨rfl, hb⟩
theorem kG (t B B1 : Nat) (L l : List Lk.Hd) (v lv : Value) (w : World) (hT : Tab w t B L v) (hfx : Fx w) (ht0 : t ≠ 0) (hw : (Lk.wrong l).1 = 0) (own : w.ownsRow B1 112 2 lv l.length (aQ l)) :
 Calls Tryz.prog 82 #[.pointer (some ⟨t, 0, none⟩), lv] w fun e w' => e = .returned (.string (bs (Lk.squeeze B L l).1)) ∧ (∃ v', Tab w' t B (Lk.squeeze B L l).2 v' ∧ fZ w.heap.size v v') ∧ Turns t w w' := by
 have hlg := Lk.xy hw
 rcases eP own with ⟨rfl, rfl⟩ | ⟨g, cap, rfl, _, hg, hcap, _⟩
 . refine (qA t 0 none w).mono ?_
   rintro e w2 ⟨rfl, hb2⟩
   exact ⟨rfl, ⟨v, hT.below hb2, .inl rfl⟩, Below.turns hb2 t⟩
 . by_cases hl0 : 0 < l.length
   . exact Ai t B g cap B1 L l v w hT hfx ht0 hlg.1 hl0 hlg.2 own
   . have : l = [] := List.eq_nil_of_length_eq_zero (by omega)
     subst this
     refine (qA t cap _ w).mono ?_
     rintro e w2 ⟨rfl, hb2⟩
     exact ⟨rfl, ⟨v, hT.below hb2, .inl rfl⟩, Below.turns hb2 t⟩
end Go.Proofs.YtbkpdapagfjmmaaGreatDoor
