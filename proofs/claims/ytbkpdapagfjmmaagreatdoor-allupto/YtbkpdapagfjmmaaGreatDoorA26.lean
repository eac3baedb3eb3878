import Derived.Test.YtbkpdapagfjmmaaGreatDoorA25
set_option linter.unusedVariables false
set_option maxRecDepth 100000
set_option maxHeartbeats 16000000
namespace Go.Proofs.YtbkpdapagfjmmaaGreatDoor
open Go.RowKit
namespace Lk
theorem wR {s : Bs} {p n q : Nat} (h : kT s p = .ok n q) : n < 2 ^ 62 := by
 unfold kT at h
 cases e : rd 0 0 (s.drop p) with
 | short => rw [e] at h; cases h
 | bad k => rw [e] at h; cases h
 | ok m k =>
   rw [e] at h
   cases h
   have := (kX e).2
   omega
end Lk
theorem RB.dn {w : World} {b : Nat} {s : ByteArray} {p : Nat} {z : Int} (n : Nat) (h : RB w b s p z) : RB (w.drewN n) b s p z := h
theorem GY (b : Nat) (nm : Bool) (s : ByteArray) (p q : Nat) (w : World) (hI : RB w b s p q) :
 Calls Tryz.prog 157 #[.pointer (some ⟨b, 0, none⟩), .bool nm] w fun e w' => e = .returned (.string ⟨#[]⟩) ∧ w' = w := by
 have c2 : w.cell? ⟨b, 2, none⟩ = some (.int .i64 q) := hI.cell 2
 have hq : (0 : Int) <= q := by omega
 have HI := hide hI
 clear hI
 go_enter Tryz.func157, Tryz.ntmps157
 go_wp2_with fail
 refine (Au b s p q _ (uh HI)).mono ?_
 rintro e w1 ⟨rfl, rfl⟩
 go_wp2_with fail
 go_ret
 exact ⟨rfl, rfl⟩
theorem Dl (b : Nat) (s : ByteArray) (p : Nat) (w : World) (hs : s.size <= 2 ^ 48) (hp : p <= s.size) (R : Lk.PR Lk.Bs) (HR : Hid (Lk.bI true s.data.toList p = R)) (hI : RB w b s p (-1)) :
 Calls Tryz.prog 157 #[.pointer (some ⟨b, 0, none⟩), .bool true] w fun e w' =>
  (match R with
   | .ok t q => e = .returned (.string (bs t)) ∧ RB w' b s q (-1)
   | .bad q => e = .returned (.string ⟨#[]⟩) ∧ ∃ p', RB w' b s p' q) ∧ Turns b w w' := by
 have hC := eX b s p w hs hp hI
 clear hI
 cases hn : Lk.kT s.data.toList p with
 | bad q =>
   have hR : R = .bad q := by rw [<- uh HR]; unfold Lk.bI; rw [hn]
   subst hR
   rw [hn] at hC
   have HC := hide hC
   have hq : (0 : Int) <= q := by omega
   clear hC hn
   go_enter Tryz.func157, Tryz.ntmps157
   go_wp2_with fail
   refine (uh HC).mono ?_
   rintro e w1 ⟨⟨rfl, hI1⟩, hT1⟩
   have c2 : w1.cell? ⟨b, 2, none⟩ = some (.int .i64 q) := hI1.cell 2
   have HI1 := hide hI1
   clear hI1
   go_wp2_with fail
   go_ret
   exact ⟨⟨rfl, p, uh HI1⟩, hT1⟩
 | ok n q =>
   have hq := Lk.iq (by rw [<- af]; exact hp) hn
   rw [<- af] at hq
   have hnl := Lk.wR hn
   rw [hn] at hC
   have HC := hide hC
   have HNR := hide hn
   clear hC hn
   go_enter Tryz.func157, Tryz.ntmps157
   go_wp2_with fail
   refine (uh HC).mono ?_
   rintro e w1 ⟨⟨rfl, hI1⟩, hT1⟩
   have c1 : w1.cell? ⟨b, 1, none⟩ = some (.int .i64 q) := hI1.cell 1
   have c2 : w1.cell? ⟨b, 2, none⟩ = some (.int .i64 (-1)) := hI1.cell 2
   have HI1 := hide hI1
   clear hI1
   by_cases hl : 1 <= (n : Int) ∧ (n : Int) <= 16
   . have hl1 : 1 <= (n : Int) := hl.1
     have hl2 : (n : Int) <= 16 := hl.2
     have HTR := hide (show R = (if Lk.upto Lk.aG n (s.data.toList.drop q) = n then .ok ((s.data.toList.drop q).take n) (q + n) else .bad (q + Lk.upto Lk.aG n (s.data.toList.drop q))) by
      rw [<- uh HR]; unfold Lk.bI; rw [uh HNR]; simp only
      rw [if_pos]
      . rfl
      . simp only [Lk.jM, if_true, decide_eq_true_eq]
        omega)
     clear hl
     go_wp2_with fail
     go_loopw [7] (fun u wr => ∃ j : Nat, u = .int .i64 j ∧ j <= n ∧ q + j <= s.size ∧ RB wr b s (q + j) (-1) ∧ Hid (∀ i, i < j -> ∃ c, (s.data.toList.drop q)[i]? = some c ∧ Lk.aG c = true) ∧ Turns b w wr) (fun u _ => n - (intOf u).toNat)
     case atStart => exact ⟨0, rfl, by omega, by omega, uh HI1, fun i hi => by omega, hT1⟩
     case round =>
      obtain ⟨j, rfl, hj, hqj, hIr, HJ, hTr⟩ := hrel
      clear c1 c2
      generalize hm : q + j = m at *
      have HM := hide hm
      have c0 : wr.cell? ⟨b, 0, none⟩ = some (.string s) := hIr.cell 0
      have c1 : wr.cell? ⟨b, 1, none⟩ = some (.int .i64 (m : Int)) := hIr.cell 1
      have f1 : wr.frozen? ⟨b, 1, none⟩ = false := hIr.free 1
      have HIr := hide hIr
      clear hIr hm
      by_cases hlt : j < n
      . have hlt' : (j : Int) < n := by omega
        by_cases hend : m < s.size
        . have hend' : ¬ (s.size : Int) <= (m : Int) := by omega
          have Ud : (m : Int) < s.size := by omega
          have Ue : (0 : Int) <= (m : Int) := by omega
          generalize hQ : Lk.aG s[m] = Q
          have HQ := hide hQ
          have HL := hide (show ∀ w, Calls Tryz.prog 175 #[.int .u8 s[m].toNat] w fun e w' => e = .returned (.bool Q) ∧ w' = w from fun w => by rw [<- hQ]; exact uf s[m] w)
          have HV := hide (show Q = true -> ∀ w, Calls Tryz.prog 176 #[.int .u8 s[m].toNat] w fun e w' => e = Ending.returned (.bool true) ∧ w' = w from fun h w => by have hh := lK s[m] w; rw [Lk.BG (hQ.trans h)] at hh; exact hh)
          clear hQ
          go_wp2_with fail
          go_quiet (fail)
          go_wp2_with fail
          go_quiet (fail)
          go_wp2_with fail
          refine (uh HL _).mono ?_
          rintro e w2 ⟨rfl, rfl⟩
          have hmq := uh HM
          cases Q
          . have hu := Lk.ik Lk.aG n j (s.data.toList.drop q) (by omega) (uh HJ) (.inr (.inr ⟨s[m], by have := byte_at s q j (by omega); simpa only [hmq] using this, uh HQ⟩))
            have hR := uh HTR
            rw [hu, if_neg (by omega), hmq] at hR
            subst hR
            clear hmq
            go_wp2_with fail
            refine (eU b s m m _ (RB.dn _ (uh HIr))).mono ?_
            rintro e w3 ⟨rfl, hI3, hT3⟩
            go_wp2_with fail
            go_ret
            exact ⟨⟨rfl, m, hI3⟩, (hTr.drewN _).trans hT3⟩
          . have HJ2 : Hid (∀ i, i < j + 1 -> ∃ c, (s.data.toList.drop q)[i]? = some c ∧ Lk.aG c = true) := fun i hi => by
             rcases Nat.lt_succ_iff_lt_or_eq.1 hi with hi | rfl
             . exact uh HJ i hi
             . exact ⟨s[m], by have := byte_at s q i (by omega); simpa only [hmq] using this, uh HQ⟩
            clear hmq
            go_wp2_with fail
            refine (uh HV trivial _).mono ?_
            rintro e w3 ⟨rfl, rfl⟩
            go_wp2_with fail
            go_roundw
            case rel =>
             have hmq := uh HM
             refine ⟨j + 1, by simp, by omega, by omega, ?_, HJ2, (hTr.drewN _).set 1 _⟩
             have h5 := fun nn => Is.set (RB.dn nn (uh HIr)) 1 (.int .i64 ((m : Int) + 1))
             rw [show q + (j + 1) = m + 1 by omega]
             exact h5 _
            case measure => simp [intOf]; omega
        . have hend' : (s.size : Int) <= (m : Int) := by omega
          have hmq := uh HM
          have hu := Lk.ik Lk.aG n j (s.data.toList.drop q) (by omega) (uh HJ) (.inr (.inl (rq s q j (by omega))))
          have hR := uh HTR
          rw [hu, if_neg (by omega), show q + j = s.size by omega] at hR
          subst hR
          clear hmq
          go_wp2_with fail
          go_quiet (fail)
          go_wp2_with fail
          refine (eU b s m s.size _ (RB.dn _ (uh HIr))).mono ?_
          rintro e w3 ⟨rfl, hI3, hT3⟩
          go_wp2_with fail
          go_ret
          exact ⟨⟨rfl, m, hI3⟩, (hTr.drewN _).trans hT3⟩
      . have hlt' : ¬ (j : Int) < n := by omega
        have hjn : j = n := by omega
        subst hjn
        have hmq := uh HM
        have hu := Lk.ik Lk.aG j j (s.data.toList.drop q) (by omega) (uh HJ) (.inl rfl)
        have hR := uh HTR
        rw [hu, if_pos rfl, hmq] at hR
        subst hR
        have hi1 : (q : Int) <= (m : Int) := by omega
        have hi2 : (m : Int) <= s.size := by omega
        have hi3 : (0 : Int) <= (q : Int) := by omega
        clear hmq
        go_wp2_with fail
        go_quiet (fail)
        go_wp2_with fail
        go_ret
        refine ⟨⟨dY ?_, RB.dn _ (uh HIr)⟩, hTr.drewN _⟩
        rw [<- l7, uh HM]
   . have hbad : R = .bad (q - 1) := by
      rw [<- uh HR]; unfold Lk.bI; rw [uh HNR]; simp only
      rw [if_neg]
      simp only [Lk.jM, if_true, decide_eq_true_eq]
      omega
     subst hbad
     by_cases h1 : (n : Int) < 1
     . go_wp2_with fail
       refine (eU b s q ((q : Int) - 1) _ (uh HI1)).mono ?_
       rintro e w2 ⟨rfl, hI2, hT2⟩
       go_wp2_with fail
       go_ret
       refine ⟨⟨rfl, q, ?_⟩, hT1.trans hT2⟩
       rw [show ((q - 1 : Nat) : Int) = (q : Int) - 1 by omega]
       exact hI2
     . have h2 : 16 < (n : Int) := by omega
       go_wp2_with fail
       refine (eU b s q ((q : Int) - 1) _ (uh HI1)).mono ?_
       rintro e w2 ⟨rfl, hI2, hT2⟩
       go_wp2_with fail
       go_ret
       refine ⟨⟨rfl, q, ?_⟩, hT1.trans hT2⟩
       rw [show ((q - 1 : Nat) : Int) = (q : Int) - 1 by omega]
       exact hI2
theorem qE (b : Nat) (s : ByteArray) (p : Nat) (w : World) (hs : s.size <= 2 ^ 48) (hp : p <= s.size) (R : Lk.PR Lk.Bs) (HR : Hid (Lk.bI false s.data.toList p = R)) (hI : RB w b s p (-1)) :
 Calls Tryz.prog 157 #[.pointer (some ⟨b, 0, none⟩), .bool false] w fun e w' =>
  (match R with
   | .ok t q => e = .returned (.string (bs t)) ∧ RB w' b s q (-1)
   | .bad q => e = .returned (.string ⟨#[]⟩) ∧ ∃ p', RB w' b s p' q) ∧ Turns b w w' := by
 have hC := eX b s p w hs hp hI
 clear hI
 cases hn : Lk.kT s.data.toList p with
 | bad q =>
   have hR : R = .bad q := by rw [<- uh HR]; unfold Lk.bI; rw [hn]
   subst hR
   rw [hn] at hC
   have HC := hide hC
   have hq : (0 : Int) <= q := by omega
   clear hC hn
   go_enter Tryz.func157, Tryz.ntmps157
   go_wp2_with fail
   refine (uh HC).mono ?_
   rintro e w1 ⟨⟨rfl, hI1⟩, hT1⟩
   have c2 : w1.cell? ⟨b, 2, none⟩ = some (.int .i64 q) := hI1.cell 2
   have HI1 := hide hI1
   clear hI1
   go_wp2_with fail
   go_ret
   exact ⟨⟨rfl, p, uh HI1⟩, hT1⟩
 | ok n q =>
   have hq := Lk.iq (by rw [<- af]; exact hp) hn
   rw [<- af] at hq
   have hnl := Lk.wR hn
   rw [hn] at hC
   have HC := hide hC
   have HNR := hide hn
   clear hC hn
   go_enter Tryz.func157, Tryz.ntmps157
   go_wp2_with fail
   refine (uh HC).mono ?_
   rintro e w1 ⟨⟨rfl, hI1⟩, hT1⟩
   have c1 : w1.cell? ⟨b, 1, none⟩ = some (.int .i64 q) := hI1.cell 1
   have c2 : w1.cell? ⟨b, 2, none⟩ = some (.int .i64 (-1)) := hI1.cell 2
   have HI1 := hide hI1
   clear hI1
   by_cases hl : (n : Int) <= 32
   . have hl2 : ¬ 32 < (n : Int) := by omega
     have HTR := hide (show R = (if Lk.upto Lk.aB n (s.data.toList.drop q) = n then .ok ((s.data.toList.drop q).take n) (q + n) else .bad (q + Lk.upto Lk.aB n (s.data.toList.drop q))) by
      rw [<- uh HR]; unfold Lk.bI; rw [uh HNR]; simp only
      rw [if_pos]
      . rfl
      . simp only [Lk.jM, Bool.false_eq_true, if_false, decide_eq_true_eq]
        omega)
     clear hl
     go_wp2_with fail
     go_loopw [7] (fun u wr => ∃ j : Nat, u = .int .i64 j ∧ j <= n ∧ q + j <= s.size ∧ RB wr b s (q + j) (-1) ∧ Hid (∀ i, i < j -> ∃ c, (s.data.toList.drop q)[i]? = some c ∧ Lk.aB c = true) ∧ Turns b w wr) (fun u _ => n - (intOf u).toNat)
     case atStart => exact ⟨0, rfl, by omega, by omega, uh HI1, fun i hi => by omega, hT1⟩
     case round =>
      obtain ⟨j, rfl, hj, hqj, hIr, HJ, hTr⟩ := hrel
      clear c1 c2
      generalize hm : q + j = m at *
      have HM := hide hm
      have c0 : wr.cell? ⟨b, 0, none⟩ = some (.string s) := hIr.cell 0
      have c1 : wr.cell? ⟨b, 1, none⟩ = some (.int .i64 (m : Int)) := hIr.cell 1
      have f1 : wr.frozen? ⟨b, 1, none⟩ = false := hIr.free 1
      have HIr := hide hIr
      clear hIr hm
      by_cases hlt : j < n
      . have hlt' : (j : Int) < n := by omega
        by_cases hend : m < s.size
        . have hend' : ¬ (s.size : Int) <= (m : Int) := by omega
          have Ud : (m : Int) < s.size := by omega
          have Ue : (0 : Int) <= (m : Int) := by omega
          generalize hQ : Lk.aB s[m] = Q
          have HQ := hide hQ
          have HL := hide (show ∀ w, Calls Tryz.prog 176 #[.int .u8 s[m].toNat] w fun e w' => e = .returned (.bool Q) ∧ w' = w from fun w => by rw [<- hQ]; exact lK s[m] w)
          have HV := hide True.intro
          clear hQ
          go_wp2_with fail
          go_quiet (fail)
          go_wp2_with fail
          go_quiet (fail)
          go_wp2_with fail
          refine (uh HL _).mono ?_
          rintro e w2 ⟨rfl, rfl⟩
          have hmq := uh HM
          cases Q
          . have hu := Lk.ik Lk.aB n j (s.data.toList.drop q) (by omega) (uh HJ) (.inr (.inr ⟨s[m], by have := byte_at s q j (by omega); simpa only [hmq] using this, uh HQ⟩))
            have hR := uh HTR
            rw [hu, if_neg (by omega), hmq] at hR
            subst hR
            clear hmq
            go_wp2_with fail
            refine (eU b s m m _ (RB.dn _ (uh HIr))).mono ?_
            rintro e w3 ⟨rfl, hI3, hT3⟩
            go_wp2_with fail
            go_ret
            exact ⟨⟨rfl, m, hI3⟩, (hTr.drewN _).trans hT3⟩
          . have HJ2 : Hid (∀ i, i < j + 1 -> ∃ c, (s.data.toList.drop q)[i]? = some c ∧ Lk.aB c = true) := fun i hi => by
             rcases Nat.lt_succ_iff_lt_or_eq.1 hi with hi | rfl
             . exact uh HJ i hi
             . exact ⟨s[m], by have := byte_at s q i (by omega); simpa only [hmq] using this, uh HQ⟩
            clear hmq
            go_wp2_with fail
            go_roundw
            case rel =>
             have hmq := uh HM
             refine ⟨j + 1, by simp, by omega, by omega, ?_, HJ2, (hTr.drewN _).set 1 _⟩
             have h5 := fun nn => Is.set (RB.dn nn (uh HIr)) 1 (.int .i64 ((m : Int) + 1))
             rw [show q + (j + 1) = m + 1 by omega]
             exact h5 _
            case measure => simp [intOf]; omega
        . have hend' : (s.size : Int) <= (m : Int) := by omega
          have hmq := uh HM
          have hu := Lk.ik Lk.aB n j (s.data.toList.drop q) (by omega) (uh HJ) (.inr (.inl (rq s q j (by omega))))
          have hR := uh HTR
          rw [hu, if_neg (by omega), show q + j = s.size by omega] at hR
          subst hR
          clear hmq
          go_wp2_with fail
          go_quiet (fail)
          go_wp2_with fail
          refine (eU b s m s.size _ (RB.dn _ (uh HIr))).mono ?_
          rintro e w3 ⟨rfl, hI3, hT3⟩
          go_wp2_with fail
          go_ret
          exact ⟨⟨rfl, m, hI3⟩, (hTr.drewN _).trans hT3⟩
      . have hlt' : ¬ (j : Int) < n := by omega
        have hjn : j = n := by omega
        subst hjn
        have hmq := uh HM
        have hu := Lk.ik Lk.aB j j (s.data.toList.drop q) (by omega) (uh HJ) (.inl rfl)
        have hR := uh HTR
        rw [hu, if_pos rfl, hmq] at hR
        subst hR
        have hi1 : (q : Int) <= (m : Int) := by omega
        have hi2 : (m : Int) <= s.size := by omega
        have hi3 : (0 : Int) <= (q : Int) := by omega
        clear hmq
        go_wp2_with fail
        go_quiet (fail)
        go_wp2_with fail
        go_ret
        refine ⟨⟨dY ?_, RB.dn _ (uh HIr)⟩, hTr.drewN _⟩
        rw [<- l7, uh HM]
   . have hbad : R = .bad (q - 1) := by
      rw [<- uh HR]; unfold Lk.bI; rw [uh HNR]; simp only
      rw [if_neg]
      simp only [Lk.jM, Bool.false_eq_true, if_false, decide_eq_true_eq]
      omega
     subst hbad
     have h2 : 32 < (n : Int) := by omega
     go_wp2_with fail
     refine (eU b s q ((q : Int) - 1) _ (uh HI1)).mono ?_
     rintro e w2 ⟨rfl, hI2, hT2⟩
     go_wp2_with fail
     go_ret
     refine ⟨⟨rfl, q, ?_⟩, hT1.trans hT2⟩
     rw [show ((q - 1 : Nat) : Int) = (q : Int) - 1 by omega]
     exact hI2
open Go.RowKit
structure Blk (w : World) (b : Nat) (s : ByteArray) (p B : Nat) (L : List Lk.Hd) (v : Value) : Prop where
 blk : Is w b 208 [.string s, .int .i64 p, aU, .int .i64 ((B : Int) - Lk.weights L), v]
 own : w.ownsRow 0 112 2 v L.length (aQ L)
 le : Lk.weights L <= B
 hB : B <= 200
 fx : Fx w
 b0 : 0 ≠ b
theorem Blk.turns {w w' : World} {b : Nat} {s : ByteArray} {p q B : Nat} {L : List Lk.Hd} {v : Value} (h : Blk w b s p B L v) (hT : Turns b w w') (hI : Is w' b 208 [.string s, .int .i64 q, aU, .int .i64 ((B : Int) - Lk.weights L), v]) : Blk w' b s q B L v :=
 ⟨hI, iP h.own h.blk (nbq rfl) hT, h.le, h.hB, h.fx.grown hT (by simpa using h.b0), h.b0⟩
theorem Blk.below {w w' : World} {b : Nat} {s : ByteArray} {p B : Nat} {L : List Lk.Hd} {v : Value} (h : Blk w b s p B L v) (hb : Below w.heap.size w w') : Blk w' b s p B L v :=
 ⟨h.blk.below hb h.blk.lt, own_below h.own hb, h.le, h.hB, h.fx.below hb h.fx.1, h.b0⟩
theorem Blk.alloc {w : World} {b : Nat} {s : ByteArray} {p B : Nat} {L : List Lk.Hd} {v : Value} (h : Blk w b s p B L v) (o : Obj) : Blk (w.alloc o) b s p B L v :=
 h.below ((Below.refl _ _).alloc (Nat.le_refl _) o)
theorem Turns.aY {b : Nat} {w w1 : World} (h : Turns b w w1) {a : Addr} (ha : w.heap.size <= a.block) (v : Value) : Turns b w (w1.setCell a v) :=
 ⟨h.os, h.tape, h.output, by simpa using h.size, fun i hi hn => by
  rw [heap_setCell_other _ _ _ _ (by omega)]
  exact h.block i hi hn⟩
def QN : Lk.PR Lk.Hd -> Lk.Hd
 | .ok h _ => h
 | .bad _ => bF
theorem set1 {w : World} {b : Nat} {T : TypeId} {a x y : Value} {more : List Value} (h : Is w b T (a :: x :: more)) : Is (w.setCell ⟨b, 1, none⟩ y) b T (a :: y :: more) := h.set 1 y
theorem Dn (b : Nat) (s : ByteArray) (p i B : Nat) (L : List Lk.Hd) (v : Value) (h : Lk.Hd) (w : World) (hi : i <= 2 ^ 40) (hK : Blk w b s p B L v) (he : (Lk.fB L)[i]? = some h) :
 Calls Tryz.prog 178 #[.pointer (some ⟨b, 0, none⟩), .int .i64 i] w fun e w' => e = .returned (.tuple #[hdA h, .bool true]) ∧ Below w.heap.size w w' := by
 have hK0 := hK.alloc (.cells #[.string ⟨#[]⟩, .string ⟨#[]⟩] 112)
 have HC := hide (ou b 2 i 0 L v _ hK0.blk.lt hi hK0.fx (hK0.blk.cell 4) hK0.own)
 have HE := hide he
 have HB := hide ((Below.refl w.heap.size w).alloc (Nat.le_refl _) (.cells #[.string ⟨#[]⟩, .string ⟨#[]⟩] 112))
 have HX := hide (Is.new w 112 [.string ⟨#[]⟩, .string ⟨#[]⟩])
 clear hK hK0 he
 go_enter Tryz.func178, Tryz.ntmps178
 go_wp2_with fail
 refine (uh HC).mono ?_
 rintro e w1 ⟨hr, hb⟩
 rw [uh HE] at hr
 subst hr
 simp only [Option.getD, Option.isSome]
 have hX1 := (uh HX).below hb (by simp)
 have hbel := (uh HB).trans (hb.mono (by simp))
 have c0 := hX1.cell 0
 have c1 := hX1.cell 1
 have f0 := hX1.free 0
 have f1 := hX1.free 1
 have hXl := hX1.lt
 simp only [List.getElem?_cons_zero, List.getElem?_cons_succ] at c0 c1
 clear hb hX1
 go_wp2_with fail
 exact bodyPost_ret (v := .tuple #[hdA h, .bool true]) (by simp [results, Tryz.results178, go_sem, c0, c1, hXl]) rfl ⟨rfl, ((hbel.setCell (Nat.le_refl _) _).setCell (Nat.le_refl _) _).alloc (by simpa using hbel.size) _⟩
theorem Dp (b : Nat) (s : ByteArray) (p i B : Nat) (L : List Lk.Hd) (v : Value) (w : World) (hi : i <= 2 ^ 40) (hp : 0 < p) (hps : p <= 2 ^ 50) (hK : Blk w b s p B L v) (he : (Lk.fB L)[i]? = none) :
 Calls Tryz.prog 178 #[.pointer (some ⟨b, 0, none⟩), .int .i64 i] w fun e w' => e = .returned (.tuple #[hdA bF, .bool false]) ∧ Blk w' b s (p - 1) B L v ∧ Turns b w w' := by
 have hK0 := hK.alloc (.cells #[.string ⟨#[]⟩, .string ⟨#[]⟩] 112)
 have HC := hide (ou b 2 i 0 L v _ hK0.blk.lt hi hK0.fx (hK0.blk.cell 4) hK0.own)
 have HE := hide he
 have HK := hide hK
 have HK0 := hide hK0
 have HB := hide ((Below.refl w.heap.size w).alloc (Nat.le_refl _) (.cells #[.string ⟨#[]⟩, .string ⟨#[]⟩] 112))
 have HX := hide (Is.new w 112 [.string ⟨#[]⟩, .string ⟨#[]⟩])
 clear hK hK0 he
 go_enter Tryz.func178, Tryz.ntmps178
 go_wp2_with fail
 refine (uh HC).mono ?_
 rintro e w1 ⟨hr, hb⟩
 rw [uh HE] at hr
 subst hr
 simp only [Option.getD, Option.isSome]
 have hX1 := (uh HX).below hb (by simp)
 have hbel := (uh HB).trans (hb.mono (by simp))
 have hK1 := (uh HK0).below hb
 have c0 := hX1.cell 0
 have c1 := hX1.cell 1
 have f0 := hX1.free 0
 have f1 := hX1.free 1
 have hXl := hX1.lt
 have d1 := hK1.blk.cell 1
 have g1 := hK1.blk.free 1
 have hbl := hK1.blk.lt
 simp only [List.getElem?_cons_zero, List.getElem?_cons_succ] at c0 c1 d1
 have hne : ¬ w.heap.size = b := fun e => hX1.ne hK1.blk (nbq rfl) e
 have hne' : ¬ b = w.heap.size := fun e => hne e.symm
 have HK1 := hide hK1
 have HX1 := hide hX1
 clear hb hX1 hK1
 go_wp2_with fail
 have hz : ((p : Int) - 1) = ((p - 1 : Nat) : Int) := by omega
 refine bodyPost_ret (v := .tuple #[hdA bF, .bool false]) (by simp [results, Tryz.results178, go_sem, c0, c1, hXl, bF, bs]) rfl ⟨rfl, ?_, ?_⟩
 . rw [hz]
   exact (uh HK).turns ((((((Below.turns hbel b).set 1 _).aY (Nat.le_refl _) _).aY (Nat.le_refl _) _).alloc _)) ((((set1 (uh HK1).blk).other _ _ hne').other _ _ hne').alloc _)
 . exact ((((Below.turns hbel b).set 1 _).aY (Nat.le_refl _) _).aY (Nat.le_refl _) _).alloc _
theorem wS (b : Nat) (s : ByteArray) (p i B : Nat) (L : List Lk.Hd) (v : Value) (w : World) (hi : i <= 2 ^ 40) (hp : 0 < p) (hps : p <= 2 ^ 50) (hK : Blk w b s p B L v) :
 Calls Tryz.prog 178 #[.pointer (some ⟨b, 0, none⟩), .int .i64 i] w fun e w' => e = .returned (.tuple #[hdA (QN (Lk.pX L i p)), .bool (Lk.pX L i p).good]) ∧ Blk w' b s (Lk.pX L i p).at B L v ∧ Turns b w w' := by
 unfold Lk.pX
 cases he : (Lk.fB L)[i]? with
 | none => exact Dp b s p i B L v w hi hp hps hK he
 | some h =>
   refine (Dn b s p i B L v h w hi hK he).mono ?_
   rintro e w' ⟨rfl, hb⟩
   exact ⟨rfl, hK.below hb, Below.turns hb b⟩
def textOf : Lk.PR Lk.Bs -> Lk.Bs
 | .ok t _ => t
 | .bad _ => []
theorem E8 (r : Lk.PR Lk.Bs) : JQ r = .tuple #[.string (bs (textOf r)), .bool r.good] := by cases r <;> rfl
theorem yD (b : Nat) (s : ByteArray) (p B : Nat) (L : List Lk.Hd) (v : Value) (w : World) (hs : s.size <= 2 ^ 48) (hp : p <= s.size) (hK : Blk w b s p B L v) :
 Calls Tryz.prog 187 #[.pointer (some ⟨b, 0, none⟩), jY] w fun e w' =>
  e = .returned (.tuple #[.string (bs (textOf (Lk.bI true s.data.toList p))), .bool (Lk.bI true s.data.toList p).good]) ∧ Blk w' b s (Lk.bI true s.data.toList p).at B L v ∧ Turns b w w' := by
 refine (Aw b s p _ w hs hp _ (hide rfl) hK.blk).mono ?_
 rintro e w' ⟨rfl, hI, hT⟩
 exact ⟨by rw [E8], hK.turns hT hI, hT⟩
theorem uU (b : Nat) (s : ByteArray) (p B : Nat) (L : List Lk.Hd) (v : Value) (w : World) (hs : s.size <= 2 ^ 48) (hp : p <= s.size) (hK : Blk w b s p B L v) :
 Calls Tryz.prog 187 #[.pointer (some ⟨b, 0, none⟩), valueR] w fun e w' =>
  e = .returned (.tuple #[.string (bs (textOf (Lk.bI false s.data.toList p))), .bool (Lk.bI false s.data.toList p).good]) ∧ Blk w' b s (Lk.bI false s.data.toList p).at B L v ∧ Turns b w w' := by
 refine (yC b s p _ w hs hp _ (hide rfl) hK.blk).mono ?_
 rintro e w' ⟨rfl, hI, hT⟩
 exact ⟨by rw [E8], hK.turns hT hI, hT⟩
namespace Lk
theorem pJ {s : Bs} {p n q : Nat} (h : kT s p = .ok n q) : n <= 268435455 := by
 unfold kT at h
 cases e : rd 0 0 (s.drop p) with
 | short => rw [e] at h; cases h
 | bad k => rw [e] at h; cases h
 | ok m k => rw [e] at h; cases h; exact (kX e).2
theorem yE {L : List Hd} {k : Nat} {s : Bs} {p : Nat} {t : Bs} {q : Nat} (hp : p <= s.length) (h : jY L k s p = .ok t q) : p <= q ∧ q <= s.length := by
 unfold jY at h
 split at h
 . have := jZ hp h; omega
 . unfold pX at h
   cases e : (fB L)[k - 1]? with
   | none => rw [e] at h; cases h
   | some x => rw [e] at h; cases h; omega
theorem pM {L : List Hd} {k : Nat} {s : Bs} {p : Nat} {h : Hd} {q B : Nat} (hL : weights L <= B) (hB : B <= 200) (hp : p <= s.length) (hf : eH L k s p = .ok h q) : h.n.length <= 200 ∧ h.v.length <= 32 ∧ q <= s.length := by
 unfold eH at hf
 cases e : jY L k s p with
 | bad q => rw [e] at hf; cases hf
 | ok n q1 =>
   rw [e] at hf
   have h1 := yE hp e
   simp only at hf
   cases e2 : bI false s q1 with
   | bad q => rw [e2] at hf; cases hf
   | ok v q2 =>
     rw [e2] at hf
     have h2 := jZ h1.2 e2
     cases hf
     refine ⟨?_, h2.2.2, h2.2.1⟩
     unfold jY at e
     split at e
     . have := jZ hp e; simp only; omega
     . unfold pX at e
       cases e3 : (fB L)[k - 1]? with
       | none => rw [e3] at e; cases e
       | some x =>
         rw [e3] at e
         cases e
         have hm := List.mem_of_getElem? e3
         unfold fB at hm
         rw [List.mem_append] at hm
         rcases hm with hm | hm
         . simp [jb] at hm
           rcases hm with rfl | rfl | rfl | rfl <;> simp
         . have := jX hm
           unfold Hd.weight at this
           simp only
           omega
end Lk
theorem GZ (b : Nat) (s : ByteArray) (p B : Nat) (L : List Lk.Hd) (v : Value) (w : World) (hs : s.size <= 2 ^ 48) (hp : p <= s.size) (hK : Blk w b s p B L v) :
 Calls Tryz.prog 186 #[.pointer (some ⟨b, 0, none⟩), .int .i64 0] w fun e w' =>
  e = .returned (.tuple #[.string (bs (textOf (Lk.bI true s.data.toList p))), .bool (Lk.bI true s.data.toList p).good]) ∧ Blk w' b s (Lk.bI true s.data.toList p).at B L v ∧ Turns b w w' := by
 have HC := hide (fun w (hK : Blk w b s p B L v) => yD b s p B L v w hs hp hK)
 have HK := hide hK
 clear hK
 generalize Lk.bI true s.data.toList p = R at *
 go_enter Tryz.func186, Tryz.ntmps186
 go_wp2_with fail
 refine (jG _).mono ?_
 rintro e w1 ⟨rfl, hb⟩
 go_wp2_with fail
 refine (uh HC _ ((uh HK).below hb)).mono ?_
 rintro e w2 ⟨rfl, hK2, hT⟩
 go_wp2_with fail
 go_ret2
 exact ⟨rfl, hK2, (Below.turns hb b).trans hT⟩
theorem JR (b : Nat) (s : ByteArray) (p k B : Nat) (L : List Lk.Hd) (v : Value) (w : World) (hk : 0 < k) (hk2 : k <= 2 ^ 40) (hp : 0 < p) (hps : p <= 2 ^ 50) (hK : Blk w b s p B L v) :
 Calls Tryz.prog 186 #[.pointer (some ⟨b, 0, none⟩), .int .i64 k] w fun e w' =>
  e = .returned (.tuple #[.string (bs (QN (Lk.pX L (k - 1) p)).n), .bool (Lk.pX L (k - 1) p).good]) ∧ Blk w' b s (Lk.pX L (k - 1) p).at B L v ∧ Turns b w w' := by
 have HC := hide (fun w (hK : Blk w b s p B L v) => wS b s p (k - 1) B L v w (by omega) hp hps hK)
 have HK := hide hK
 have hk0 : ((k : Int) == 0) = false := by rw [beq_eq_false_iff_ne]; omega
 clear hK
 generalize Lk.pX L (k - 1) p = R at *
 rw [show ((k - 1 : Nat) : Int) = (k : Int) - 1 by omega] at HC
 go_enter Tryz.func186, Tryz.ntmps186
 go_wp2_with fail
 refine (uh HC _ (uh HK)).mono ?_
 rintro e w2 ⟨rfl, hK2, hT⟩
 go_wp2_with fail
 go_ret2
 exact ⟨rfl, hK2.alloc _, hT.alloc _⟩
def nameOf : Lk.PR Lk.Bs -> Lk.Bs
 | .ok t _ => t
 | .bad _ => []
theorem Az (b : Nat) (s : ByteArray) (p k B : Nat) (L : List Lk.Hd) (v : Value) (w : World) (hs : s.size <= 2 ^ 48) (hk2 : k <= 2 ^ 40) (hp : 0 < p) (hps : p <= s.size) (hK : Blk w b s p B L v) :
 Calls Tryz.prog 186 #[.pointer (some ⟨b, 0, none⟩), .int .i64 k] w fun e w' =>
  e = .returned (.tuple #[.string (bs (nameOf (Lk.jY L k s.data.toList p))), .bool (Lk.jY L k s.data.toList p).good]) ∧ Blk w' b s (Lk.jY L k s.data.toList p).at B L v ∧ Turns b w w' := by
 unfold Lk.jY
 by_cases hk : k = 0
 . subst hk
   rw [if_pos rfl]
   refine (GZ b s p B L v w hs hps hK).mono ?_
   rintro e w' ⟨rfl, h1, h2⟩
   refine ⟨?_, h1, h2⟩
   cases Lk.bI true s.data.toList p <;> rfl
 . rw [if_neg hk]
   refine (JR b s p k B L v w (by omega) hk2 hp (by omega) hK).mono ?_
   rintro e w' ⟨rfl, h1, h2⟩
   cases hr : Lk.pX L (k - 1) p with
   | ok h q => rw [hr] at h1; exact ⟨rfl, h1, h2⟩
   | bad q => rw [hr] at h1; exact ⟨rfl, h1, h2⟩
theorem G5 (b : Nat) (s : ByteArray) (p k B : Nat) (L : List Lk.Hd) (v : Value) (w : World) (hs : s.size <= 2 ^ 48) (hk2 : k <= 2 ^ 40) (hp : 0 < p) (hps : p <= s.size) (hK : Blk w b s p B L v) :
 Calls Tryz.prog 179 #[.pointer (some ⟨b, 0, none⟩), .int .i64 k] w fun e w' =>
  (∃ hx, e = .returned (.tuple #[hdA hx, .bool (Lk.eH L k s.data.toList p).good]) ∧ ∀ h q, Lk.eH L k s.data.toList p = .ok h q -> hx = h) ∧ Blk w' b s (Lk.eH L k s.data.toList p).at B L v ∧ Turns b w w' := by
 have HK0 := hide (hK.alloc (.cells #[.string ⟨#[]⟩, .string ⟨#[]⟩] 112))
 have HX := hide (Is.new w 112 [.string ⟨#[]⟩, .string ⟨#[]⟩])
 have hT0 := (Turns.refl b w).alloc (.cells #[.string ⟨#[]⟩, .string ⟨#[]⟩] 112)
 have hbl := hK.blk.lt
 have HK := hide hK
 clear hK
 cases hn : Lk.jY L k s.data.toList p with
 | bad q =>
   have hR : Lk.eH L k s.data.toList p = .bad q := by unfold Lk.eH; rw [hn]
   rw [hR]
   have hC := Az b s p k B L v _ hs hk2 hp hps (uh HK0)
   rw [hn] at hC
   have HC := hide hC
   clear hC hR hn
   go_enter Tryz.func179, Tryz.ntmps179
   go_wp2_with fail
   refine (uh HC).mono ?_
   rintro e w1 ⟨rfl, hK1, hT1⟩
   simp only [nameOf, Lk.PR.good, Lk.PR.at] at hK1 ⊢
   have hX1 := (uh HX).grown hT1 (by simp; omega)
   have c0 := hX1.cell 0
   have c1 := hX1.cell 1
   have f0 := hX1.free 0
   have f1 := hX1.free 1
   have hXl := hX1.lt
   simp only [List.getElem?_cons_zero, List.getElem?_cons_succ] at c0 c1
   have HK1 := hide hK1
   clear hK1 hX1
   go_wp2_with fail
   have hTT := ((hT0.trans hT1).aY (a := ⟨w.heap.size, 0, none⟩) (Nat.le_refl _) (.string (bs bF.n))).aY (a := ⟨w.heap.size, 1, none⟩) (Nat.le_refl _) (.string (bs bF.v))
   refine bodyPost_ret (v := .tuple #[hdA bF, .bool false]) (by simp [results, Tryz.results179, go_sem, c0, c1, bF, bs]) rfl ⟨⟨bF, rfl, fun h q e => by cases e⟩, (uh HK).turns hTT ((((uh HK1).blk.other _ _ (by simp; omega)).other _ _ (by simp; omega))), hTT⟩
 | ok t q =>
   have hqb := Lk.yE (L := L) (k := k) (s := s.data.toList) (by rw [<- af]; exact hps) hn
   rw [<- af] at hqb
   have hC := Az b s p k B L v _ hs hk2 hp hps (uh HK0)
   rw [hn] at hC
   have HC := hide hC
   have HC2 := hide (fun w (hK : Blk w b s q B L v) => uU b s q B L v w hs (by omega) hK)
   have hfr : (Lk.eH L k s.data.toList p).good = (Lk.bI false s.data.toList q).good ∧ (Lk.eH L k s.data.toList p).at = (Lk.bI false s.data.toList q).at ∧ ∀ h q', Lk.eH L k s.data.toList p = .ok h q' -> (⟨t, textOf (Lk.bI false s.data.toList q)⟩ : Lk.Hd) = h := by
    unfold Lk.eH
    rw [hn]
    simp only
    cases Lk.bI false s.data.toList q with
    | bad q' => exact ⟨rfl, rfl, fun _ _ e => by cases e⟩
    | ok u q' => exact ⟨rfl, rfl, fun _ _ e => by cases e; rfl⟩
   obtain ⟨hg, ha, hh⟩ := hfr
   rw [hg, ha]
   have HH := hide hh
   clear hC hn hg ha hh
   generalize Lk.bI false s.data.toList q = R2 at *
   go_enter Tryz.func179, Tryz.ntmps179
   go_wp2_with fail
   refine (uh HC).mono ?_
   rintro e w1 ⟨rfl, hK1, hT1⟩
   simp only [nameOf, Lk.PR.good, Lk.PR.at] at hK1 ⊢
   have hX1 := (uh HX).grown hT1 (by simp; omega)
   have HX1 := hide hX1
   have HK1 := hide hK1
   clear hK1 hX1
   go_wp2_with fail
   refine (kE _).mono ?_
   rintro e w2 ⟨rfl, hb2⟩
   go_wp2_with fail
   refine (uh HC2 _ ((uh HK1).below hb2)).mono ?_
   rintro e w3 ⟨rfl, hK3, hT3⟩
   have hX3 := ((uh HX1).below hb2 (uh HX1).lt).grown hT3 (by simp; omega)
   have c0 := hX3.cell 0
   have c1 := hX3.cell 1
   have f0 := hX3.free 0
   have f1 := hX3.free 1
   have hXl := hX3.lt
   simp only [List.getElem?_cons_zero, List.getElem?_cons_succ] at c0 c1
   have hTT := ((((hT0.trans hT1).below hb2).trans hT3).aY (a := ⟨w.heap.size, 0, none⟩) (Nat.le_refl _) (.string (bs t))).aY (a := ⟨w.heap.size, 1, none⟩) (Nat.le_refl _) (.string (bs (textOf R2)))
   have HK3 := hide hK3
   clear hK3 hX3
   go_wp2_with fail
   refine bodyPost_ret (v := .tuple #[hdA ⟨t, textOf R2⟩, .bool R2.good]) (by simp [results, Tryz.results179, go_sem, c0, c1]) rfl ⟨⟨⟨t, textOf R2⟩, rfl, uh HH⟩, (uh HK).turns hTT ((((uh HK3).blk.other _ _ (by simp; omega)).other _ _ (by simp; omega))), hTT⟩
end Go.Proofs.YtbkpdapagfjmmaaGreatDoor
