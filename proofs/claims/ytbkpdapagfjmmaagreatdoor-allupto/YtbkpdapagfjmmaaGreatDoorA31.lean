import Derived.Test.YtbkpdapagfjmmaaGreatDoorA20
import Derived.Test.YtbkpdapagfjmmaaGreatDoorA32
set_option linter.unusedVariables false
set_option maxRecDepth 100000
set_option maxHeartbeats 16000000
namespace Go.Proofs.YtbkpdapagfjmmaaGreatDoor
open Go.RowKit
namespace Lk
theorem wR {s : Bs} {p n q : Nat} (h : kT s p = .ok n q) : n < 2 ^ 62 := by
 unfold kT at h
 cases e : rd 0 0 (s.drop p) with
 | short => rw [e] at h; cases h
 | bad k => rw [e] at h; cases h
 | ok m k =>
   rw [e] at h
   cases h
   have := (kX e).2
   omega
end Lk
theorem RB.dn {w : World} {b : Nat} {s : ByteArray} {p : Nat} {z : Int} (n : Nat) (h : RB w b s p z) : RB (w.drewN n) b s p z := h
theorem GY (b : Nat) (nm : Bool) (s : ByteArray) (p q : Nat) (w : World) (hI : RB w b s p q) :
 Calls Tryz.prog 157 #[.pointer (some ⟨b, 0, none⟩), .bool nm] w fun e w' => e = .returned (.string ⟨#[]⟩) ∧ w' = w := by
 have c2 : w.cell? ⟨b, 2, none⟩ = some (.int .i64 q) := hI.cell 2
 have hq : (0 : Int) <= q := by omega
 have HI := hide hI
 clear hI
 go_enter Tryz.func157, Tryz.ntmps157
 go_wp2_with fail
 refine (Au b s p q _ (uh HI)).mono ?_
 rintro e w1 ⟨rfl, rfl⟩
 go_wp2_with fail
 go_ret
 exact ⟨rfl, rfl⟩
theorem Dl (b : Nat) (s : ByteArray) (p : Nat) (w : World) (hs : s.size <= 2 ^ 48) (hp : p <= s.size) (R : Lk.PR Lk.Bs) (HR : Hid (Lk.bI true s.data.toList p = R)) (hI : RB w b s p (-1)) :
 Calls Tryz.prog 157 #[.pointer (some ⟨b, 0, none⟩), .bool true] w fun e w' =>
  (match R with
   | .ok t q => e = .returned (.string (bs t)) ∧ RB w' b s q (-1)
   | .bad q => e = .returned (.string ⟨#[]⟩) ∧ ∃ p', RB w' b s p' q) ∧ Turns b w w' := by
 have hC := eX b s p w hs hp hI
 clear hI
 cases hn : Lk.kT s.data.toList p with
 | bad q =>
   have hR : R = .bad q := by rw [<- uh HR]; unfold Lk.bI; rw [hn]
   subst hR
   rw [hn] at hC
   have HC := hide hC
   have hq : (0 : Int) <= q := by omega
   clear hC hn
   go_enter Tryz.func157, Tryz.ntmps157
   go_wp2_with fail
   refine (uh HC).mono ?_
   rintro e w1 ⟨⟨rfl, hI1⟩, hT1⟩
   have c2 : w1.cell? ⟨b, 2, none⟩ = some (.int .i64 q) := hI1.cell 2
   have HI1 := hide hI1
   clear hI1
   go_wp2_with fail
   go_ret
   exact ⟨⟨rfl, p, uh HI1⟩, hT1⟩
 | ok n q =>
   have hq := Lk.iq (by rw [<- af]; exact hp) hn
   rw [<- af] at hq
   have hnl := Lk.wR hn
   rw [hn] at hC
   have HC := hide hC
   have HNR := hide hn
   clear hC hn
   go_enter Tryz.func157, Tryz.ntmps157
   go_wp2_with fail
   refine (uh HC).mono ?_
   rintro e w1 ⟨⟨rfl, hI1⟩, hT1⟩
   have c1 : w1.cell? ⟨b, 1, none⟩ = some (.int .i64 q) := hI1.cell 1
   have c2 : w1.cell? ⟨b, 2, none⟩ = some (.int .i64 (-1)) := hI1.cell 2
   have HI1 := hide hI1
   clear hI1
   by_cases hl : 1 <= (n : Int) ∧ (n : Int) <= 16
   . have hl1 : 1 <= (n : Int) := hl.1
     have hl2 : (n : Int) <= 16 := hl.2
     have HTR := hide (show R = (if Lk.upto Lk.aG n (s.data.toList.drop q) = n then .ok ((s.data.toList.drop q).take n) (q + n) else .bad (q + Lk.upto Lk.aG n (s.data.toList.drop q))) by
      rw [<- uh HR]; unfold Lk.bI; rw [uh HNR]; simp only
      rw [if_pos]
      . rfl
      . simp only [Lk.jM, if_true, decide_eq_true_eq]
        omega)
     clear hl
     go_wp2_with fail
     go_loopw [7] (fun u wr => ∃ j : Nat, u = .int .i64 j ∧ j <= n ∧ q + j <= s.size ∧ RB wr b s (q + j) (-1) ∧ Hid (∀ i, i < j -> ∃ c, (s.data.toList.drop q)[i]? = some c ∧ Lk.aG c = true) ∧ Turns b w wr) (fun u _ => n - (intOf u).toNat)
     case atStart => exact ⟨0, rfl, by omega, by omega, uh HI1, fun i hi => by omega, hT1⟩
     case round =>
      obtain ⟨j, rfl, hj, hqj, hIr, HJ, hTr⟩ := hrel
      clear c1 c2
      generalize hm : q + j = m at *
      have HM := hide hm
      have c0 : wr.cell? ⟨b, 0, none⟩ = some (.string s) := hIr.cell 0
      have c1 : wr.cell? ⟨b, 1, none⟩ = some (.int .i64 (m : Int)) := hIr.cell 1
      have f1 : wr.frozen? ⟨b, 1, none⟩ = false := hIr.free 1
      have HIr := hide hIr
      clear hIr hm
      by_cases hlt : j < n
      . have hlt' : (j : Int) < n := by omega
        by_cases hend : m < s.size
        . have hend' : ¬ (s.size : Int) <= (m : Int) := by omega
          have Ud : (m : Int) < s.size := by omega
          have Ue : (0 : Int) <= (m : Int) := by omega
          generalize hQ : Lk.aG s[m] = Q
          have HQ := hide hQ
          have HL := hide (show ∀ w, Calls Tryz.prog 175 #[.int .u8 s[m].toNat] w fun e w' => e = .returned (.bool Q) ∧ w' = w from fun w => by rw [<- hQ]; exact uf s[m] w)
          have HV := hide (show Q = true -> ∀ w, Calls Tryz.prog 176 #[.int .u8 s[m].toNat] w fun e w' => e = Ending.returned (.bool true) ∧ w' = w from fun h w => by have hh := lK s[m] w; rw [Lk.BG (hQ.trans h)] at hh; exact hh)
          clear hQ
          go_wp2_with fail
          go_quiet (fail)
          go_wp2_with fail
          go_quiet (fail)
          go_wp2_with fail
          refine (uh HL _).mono ?_
          rintro e w2 ⟨rfl, rfl⟩
          have hmq := uh HM
          cases Q
          . have hu := Lk.ik Lk.aG n j (s.data.toList.drop q) (by omega) (uh HJ) (.inr (.inr ⟨s[m], by have := byte_at s q j (by omega); simpa only [hmq] using this, uh HQ⟩))
            have hR := uh HTR
            rw [hu, if_neg (by omega), hmq] at hR
            subst hR
            clear hmq
            go_wp2_with fail
            refine (eU b s m m _ (RB.dn _ (uh HIr))).mono ?_
            rintro e w3 ⟨rfl, hI3, hT3⟩
            go_wp2_with fail
            go_ret
            exact ⟨⟨rfl, m, hI3⟩, (hTr.drewN _).trans hT3⟩
          . have HJ2 : Hid (∀ i, i < j + 1 -> ∃ c, (s.data.toList.drop q)[i]? = some c ∧ Lk.aG c = true) := fun i hi => by
             rcases Nat.lt_succ_iff_lt_or_eq.1 hi with hi | rfl
             . exact uh HJ i hi
             . exact ⟨s[m], by have := byte_at s q i (by omega); simpa only [hmq] using this, uh HQ⟩
            clear hmq
            go_wp2_with fail
            refine (uh HV trivial _).mono ?_
            rintro e w3 ⟨rfl, rfl⟩
            go_wp2_with fail
            go_roundw
            case rel =>
             have hmq := uh HM
             refine ⟨j + 1, by simp, by omega, by omega, ?_, HJ2, (hTr.drewN _).set 1 _⟩
             have h5 := fun nn => Is.set (RB.dn nn (uh HIr)) 1 (.int .i64 ((m : Int) + 1))
             rw [show q + (j + 1) = m + 1 by omega]
             exact h5 _
            case measure => simp [intOf]; omega
        . have hend' : (s.size : Int) <= (m : Int) := by omega
          have hmq := uh HM
          have hu := Lk.ik Lk.aG n j (s.data.toList.drop q) (by omega) (uh HJ) (.inr (.inl (rq s q j (by omega))))
          have hR := uh HTR
          rw [hu, if_neg (by omega), show q + j = s.size by omega] at hR
          subst hR
          clear hmq
          go_wp2_with fail
          go_quiet (fail)
          go_wp2_with fail
          refine (eU b s m s.size _ (RB.dn _ (uh HIr))).mono ?_
          rintro e w3 ⟨rfl, hI3, hT3⟩
          go_wp2_with fail
          go_ret
          exact ⟨⟨rfl, m, hI3⟩, (hTr.drewN _).trans hT3⟩
      . have hlt' : ¬ (j : Int) < n := by omega
        have hjn : j = n := by omega
        subst hjn
        have hmq := uh HM
        have hu := Lk.ik Lk.aG j j (s.data.toList.drop q) (by omega) (uh HJ) (.inl rfl)
        have hR := uh HTR
        rw [hu, if_pos rfl, hmq] at hR
        subst hR
        have hi1 : (q : Int) <= (m : Int) := by omega
        have hi2 : (m : Int) <= s.size := by omega
        have hi3 : (0 : Int) <= (q : Int) := by omega
        clear hmq
        go_wp2_with fail
        go_quiet (fail)
        go_wp2_with fail
        go_ret
        refine ⟨⟨dY ?_, RB.dn _ (uh HIr)⟩, hTr.drewN _⟩
        rw [<- l7, uh HM]
   . have hbad : R = .bad (q - 1) := by
      rw [<- uh HR]; unfold Lk.bI; rw [uh HNR]; simp only
      rw [if_neg]
      simp only [Lk.jM, if_true, decide_eq_true_eq]
      omega
     subst hbad
     by_cases h1 : (n : Int) < 1
     . go_wp2_with fail
       refine (eU b s q ((q : Int) - 1) _ (uh HI1)).mono ?_
       rintro e w2 ⟨rfl, hI2, hT2⟩
       go_wp2_with fail
       go_ret
       refine ⟨⟨rfl, q, ?_⟩, hT1.trans hT2⟩
       rw [show ((q - 1 : Nat) : Int) = (q : Int) - 1 by omega]
       exact hI2
     . have h2 : 16 < (n : Int) := by omega
       go_wp2_with fail
       refine (eU b s q ((q : Int) - 1) _ (uh HI1)).mono ?_
       rintro e w2 ⟨rfl, hI2, hT2⟩
       go_wp2_with fail
       go_ret
       refine ⟨⟨rfl, q, ?_⟩, hT1.trans hT2⟩
       rw [show ((q - 1 : Nat) : Int) = (q : Int) - 1 by omega]
       exact hI2
theorem qE (b : Nat) (s : ByteArray) (p : Nat) (w : World) (hs : s.size <= 2 ^ 48) (hp : p <= s.size) (R : Lk.PR Lk.Bs) (HR : Hid (Lk.bI false s.data.toList p = R)) (hI : RB w b s p (-1)) :
 Calls Tryz.prog 157 #[.pointer (some ⟨b, 0, none⟩), .bool false] w fun e w' =>
  (match R with
   | .ok t q => e = .returned (.string (bs t)) ∧ RB w' b s q (-1)
   | .bad q => e = .returned (.string ⟨#[]⟩) ∧ ∃ p', RB w' b s p' q) ∧ Turns b w w' := by
 have hC := eX b s p w hs hp hI
 clear hI
 cases hn : Lk.kT s.data.toList p with
 | bad q =>
   have hR : R = .bad q := by rw [<- uh HR]; unfold Lk.bI; rw [hn]
   subst hR
   rw [hn] at hC
   have HC := hide hC
   have hq : (0 : Int) <= q := by omega
   clear hC hn
   go_enter Tryz.func157, Tryz.ntmps157
   go_wp2_with fail
   refine (uh HC).mono ?_
   rintro e w1 ⟨⟨rfl, hI1⟩, hT1⟩
   have c2 : w1.cell? ⟨b, 2, none⟩ = some (.int .i64 q) := hI1.cell 2
   have HI1 := hide hI1
   clear hI1
   go_wp2_with fail
   go_ret
   exact ⟨⟨rfl, p, uh HI1⟩, hT1⟩
 | ok n q =>
   have hq := Lk.iq (by rw [<- af]; exact hp) hn
   rw [<- af] at hq
   have hnl := Lk.wR hn
   rw [hn] at hC
   have HC := hide hC
   have HNR := hide hn
   clear hC hn
   go_enter Tryz.func157, Tryz.ntmps157
   go_wp2_with fail
   refine (uh HC).mono ?_
   rintro e w1 ⟨⟨rfl, hI1⟩, hT1⟩
   have c1 : w1.cell? ⟨b, 1, none⟩ = some (.int .i64 q) := hI1.cell 1
   have c2 : w1.cell? ⟨b, 2, none⟩ = some (.int .i64 (-1)) := hI1.cell 2
   have HI1 := hide hI1
   clear hI1
   by_cases hl : (n : Int) <= 32
   . have hl2 : ¬ 32 < (n : Int) := by omega
     have HTR := hide (show R = (if Lk.upto Lk.aB n (s.data.toList.drop q) = n then .ok ((s.data.toList.drop q).take n) (q + n) else .bad (q + Lk.upto Lk.aB n (s.data.toList.drop q))) by
      rw [<- uh HR]; unfold Lk.bI; rw [uh HNR]; simp only
      rw [if_pos]
      . rfl
      . simp only [Lk.jM, Bool.false_eq_true, if_false, decide_eq_true_eq]
        omega)
     clear hl
     go_wp2_with fail
     go_loopw [7] (fun u wr => ∃ j : Nat, u = .int .i64 j ∧ j <= n ∧ q + j <= s.size ∧ RB wr b s (q + j) (-1) ∧ Hid (∀ i, i < j -> ∃ c, (s.data.toList.drop q)[i]? = some c ∧ Lk.aB c = true) ∧ Turns b w wr) (fun u _ => n - (intOf u).toNat)
     case atStart => exact ⟨0, rfl, by omega, by omega, uh HI1, fun i hi => by omega, hT1⟩
     case round =>
      obtain ⟨j, rfl, hj, hqj, hIr, HJ, hTr⟩ := hrel
      clear c1 c2
      generalize hm : q + j = m at *
      have HM := hide hm
      have c0 : wr.cell? ⟨b, 0, none⟩ = some (.string s) := hIr.cell 0
      have c1 : wr.cell? ⟨b, 1, none⟩ = some (.int .i64 (m : Int)) := hIr.cell 1
      have f1 : wr.frozen? ⟨b, 1, none⟩ = false := hIr.free 1
      have HIr := hide hIr
      clear hIr hm
      by_cases hlt : j < n
      . have hlt' : (j : Int) < n := by omega
        by_cases hend : m < s.size
        . have hend' : ¬ (s.size : Int) <= (m : Int) := by omega
          have Ud : (m : Int) < s.size := by omega
          have Ue : (0 : Int) <= (m : Int) := by omega
          generalize hQ : Lk.aB s[m] = Q
          have HQ := hide hQ
          have HL := hide (show ∀ w, Calls Tryz.prog 176 #[.int .u8 s[m].toNat] w fun e w' => e = .returned (.bool Q) ∧ w' = w from fun w => by rw [<- hQ]; exact lK s[m] w)
          have HV := hide True.intro
          clear hQ
          go_wp2_with fail
          go_quiet (fail)
          go_wp2_with fail
          go_quiet (fail)
          go_wp2_with fail
          refine (uh HL _).mono ?_
          rintro e w2 ⟨rfl, rfl⟩
          have hmq := uh HM
          cases Q
          . have hu := Lk.ik Lk.aB n j (s.data.toList.drop q) (by omega) (uh HJ) (.inr (.inr ⟨s[m], by have := byte_at s q j (by omega); simpa only [hmq] using this, uh HQ⟩))
            have hR := uh HTR
            rw [hu, if_neg (by omega), hmq] at hR
            subst hR
            clear hmq
            go_wp2_with fail
            refine (eU b s m m _ (RB.dn _ (uh HIr))).mono ?_
            rintro e w3 ⟨rfl, hI3, hT3⟩
            go_wp2_with fail
            go_ret
            exact ⟨⟨rfl, m, hI3⟩, (hTr.drewN _).trans hT3⟩
          . have HJ2 : Hid (∀ i, i < j + 1 -> ∃ c, (s.data.toList.drop q)[i]? = some c ∧ Lk.aB c = true) := fun i hi => by
             rcases Nat.lt_succ_iff_lt_or_eq.1 hi with hi | rfl
             . exact uh HJ i hi
             . exact ⟨s[m], by have := byte_at s q i (by omega); simpa only [hmq] using this, uh HQ⟩
            clear hmq
            go_wp2_with fail
            go_roundw
            case rel =>
             have hmq := uh HM
             refine ⟨j + 1, by simp, by omega, by omega, ?_, HJ2, (hTr.drewN _).set 1 _⟩
             have h5 := fun nn => Is.set (RB.dn nn (uh HIr)) 1 (.int .i64 ((m : Int) + 1))
             rw [show q + (j + 1) = m + 1 by omega]
             exact h5 _
            case measure => simp [intOf]; omega
        . have hend' : (s.size : Int) <= (m : Int) := by omega
          have hmq := uh HM
          have hu := Lk.ik Lk.aB n j (s.data.toList.drop q) (by omega) (uh HJ) (.inr (.inl (rq s q j (by omega))))
          have hR := uh HTR
          rw [hu, if_neg (by omega), show q + j = s.size by omega] at hR
          subst hR
          clear hmq
          go_wp2_with fail
          go_quiet (fail)
          go_wp2_with fail
          refine (eU b s m s.size _ (RB.dn _ (uh HIr))).mono ?_
          rintro e w3 ⟨rfl, hI3, hT3⟩
          go_wp2_with fail
          go_ret
          exact ⟨⟨rfl, m, hI3⟩, (hTr.drewN _).trans hT3⟩
      . have hlt' : ¬ (j : Int) < n := by omega
        have hjn : j = n := by omega
        subst hjn
        have hmq := uh HM
        have hu := Lk.ik Lk.aB j j (s.data.toList.drop q) (by omega) (uh HJ) (.inl rfl)
        have hR := uh HTR
        rw [hu, if_pos rfl, hmq] at hR
        subst hR
        have hi1 : (q : Int) <= (m : Int) := by omega
        have hi2 : (m : Int) <= s.size := by omega
        have hi3 : (0 : Int) <= (q : Int) := by omega
        clear hmq
        go_wp2_with fail
        go_quiet (fail)
        go_wp2_with fail
        go_ret
        refine ⟨⟨dY ?_, RB.dn _ (uh HIr)⟩, hTr.drewN _⟩
        rw [<- l7, uh HM]
   . have hbad : R = .bad (q - 1) := by
      rw [<- uh HR]; unfold Lk.bI; rw [uh HNR]; simp only
      rw [if_neg]
      simp only [Lk.jM, Bool.false_eq_true, if_false, decide_eq_true_eq]
      omega
     subst hbad
     have h2 : 32 < (n : Int) := by omega
     go_wp2_with fail
     refine (eU b s q ((q : Int) - 1) _ (uh HI1)).mono ?_
     rintro e w2 ⟨rfl, hI2, hT2⟩
     go_wp2_with fail
     go_ret
     refine ⟨⟨rfl, q, ?_⟩, hT1.trans hT2⟩
     rw [show ((q - 1 : Nat) : Int) = (q : Int) - 1 by omega]
     exact hI2
open Go.RowKit
structure Two (b u : Nat) (w w' : World) : Prop where
 os : w'.os = w.os
 tape : w'.tape = w.tape
 output : w'.output = w.output
 size : w.heap.size <= w'.heap.size
 block : ∀ k, k < w.heap.size -> k ≠ b -> k ≠ u -> w'.heap[k]? = w.heap[k]?
theorem Two.refl (b u : Nat) (w : World) : Two b u w w := ⟨rfl, rfl, rfl, Nat.le_refl _, fun _ _ _ _ => rfl⟩
theorem Two.trans {b u : Nat} {w w1 w2 : World} (h : Two b u w w1) (k : Two b u w1 w2) : Two b u w w2 :=
 ⟨k.os.trans h.os, k.tape.trans h.tape, k.output.trans h.output, Nat.le_trans h.size k.size, fun i hi h1 h2 => (k.block i (Nat.lt_of_lt_of_le hi h.size) h1 h2).trans (h.block i hi h1 h2)⟩
theorem Two.ofB {b u : Nat} {w w' : World} (h : Turns b w w') : Two b u w w' := ⟨h.os, h.tape, h.output, h.size, fun k hk h1 _ => h.block k hk (by simpa using h1)⟩
theorem Two.ofU {b u : Nat} {w w' : World} (h : Turns u w w') : Two b u w w' := ⟨h.os, h.tape, h.output, h.size, fun k hk _ h2 => h.block k hk (by simpa using h2)⟩
theorem Two.below {b u : Nat} {w w1 w2 : World} (h : Two b u w w1) (k : Below w1.heap.size w1 w2) : Two b u w w2 := h.trans (Two.ofB (Below.turns k b))
theorem Two.alloc {b u : Nat} {w w1 : World} (h : Two b u w w1) (o : Obj) : Two b u w (w1.alloc o) := h.below ((Below.refl _ _).alloc (Nat.le_refl _) o)
theorem Two.drewN {b u : Nat} {w w1 : World} (h : Two b u w w1) (n : Nat) : Two b u w (w1.drewN n) := ⟨h.os, h.tape, h.output, h.size, h.block⟩
theorem Two.aY {b u : Nat} {w w1 : World} (h : Two b u w w1) {a : Addr} (ha : w.heap.size <= a.block) (x : Value) : Two b u w (w1.setCell a x) :=
 ⟨h.os, h.tape, h.output, by simpa using h.size, fun k hk h1 h2 => (heap_setCell_other _ _ _ _ (by omega)).trans (h.block k hk h1 h2)⟩
theorem Two.is {b u i : Nat} {w w' : World} {T : TypeId} {cs : List Value} (h : Two b u w w') (hI : Is w i T cs) (h1 : i ≠ b) (h2 : i ≠ u) : Is w' i T cs := by
 unfold Is
 rw [h.block i hI.lt h1 h2]
 exact hI
theorem Two.own {b u : Nat} {w w' : World} {B size n : Nat} {e : TypeId} {v : Value} {xs : List Value} (h : Two b u w w') (ho : w.ownsRow B e size v n xs) (h1 : some b ≠ v.ownBlock) (h2 : some u ≠ v.ownBlock) : w'.ownsRow B e size v n xs := by
 refine ⟨ho.1, ?_⟩
 rcases ho.2 with h0 | ⟨g, cap, cur, rfl, hB, hg, h3⟩
 . exact .inl h0
 . simp [Value.ownBlock] at h1 h2
   exact .inr ⟨g, cap, cur, rfl, hB, (h.block g (lt_of_block hg) (fun e => h1 e.symm) (fun e => h2 e.symm)).trans hg, h3⟩
theorem Two.toBelow {b u B : Nat} {w w1 w2 : World} (h : Below B w w1) (k : Two b u w1 w2) (hb : B <= b) (hu : B <= u) (hB : B <= w1.heap.size) : Below B w w2 :=
 h.trans ⟨k.os, k.tape, k.output, k.size, fun i hi => k.block i (by omega) (by omega) (by omega)⟩
theorem RTab.turns {w w' : World} {t u B : Nat} {L : List Lk.Hd} {v : Value} {cs : List Value} {T : TypeId} (h : RTab w t B L v) (hT : Turns u w w') (hI : Is w u T cs) (h1 : T ≠ 206) (hne : t ≠ u) : RTab w' t B L v :=
 ⟨h.blk.grown hT (by simpa using hne), lZ h.own hI h1 hT, h.le, h.hB⟩
namespace Lk
theorem Np {B : Nat} {L : List Hd} {s : Bs} {p : Nat} {hl : Hd × List Hd} {q : Nat} (hp : p <= s.length) (hL : weights L <= B) (hB : B <= 200) (h : mY B L s p = .ok hl q) : p < q ∧ q <= s.length := by
 unfold mY at h
 cases hn : kT s p with
 | bad q => rw [hn] at h; cases h
 | ok n q1 =>
   have hq := iq hp hn
   rw [hn] at h
   simp only at h
   split at h
   . unfold pX at h
     cases he : (fB L)[n / 2]? with
     | none => rw [he] at h; cases h
     | some x => rw [he] at h; cases h; exact hq
   . cases hf : eH L (n / 2) s q1 with
     | bad q => rw [hf] at h; cases h
     | ok x q2 =>
       rw [hf] at h
       cases h
       have h5 := (pM hL hB hq.2 hf).2.2
       have h6 := AA hq.2 hf
       omega
end Lk
def wU (w : World) (b u : Nat) (s : ByteArray) (B : Nat) (v : Value) (R : Lk.PR (Lk.Hd × List Lk.Hd)) (e : Ending) (w' : World) : Prop :=
 (match R with
  | .ok hl q => e = .returned (hdA hl.1) ∧ RB w' b s q (-1) ∧ ∃ v', RTab w' u B hl.2 v' ∧ fZ w.heap.size v v'
  | .bad q => (∃ x, e = .returned (hdA x)) ∧ ∃ p', RB w' b s p' q) ∧ Two b u w w'
theorem RB.other {w : World} {b : Nat} {s : ByteArray} {p : Nat} {z : Int} (h : RB w b s p z) (a : Addr) (x : Value) (hne : b ≠ a.block) : RB (w.setCell a x) b s p z := Is.other h a x hne
theorem RB.alloc {w : World} {b : Nat} {s : ByteArray} {p : Nat} {z : Int} (h : RB w b s p z) (o : Obj) : RB (w.alloc o) b s p z := Is.alloc h o
theorem RB.below {w w' : World} {b : Nat} {s : ByteArray} {p : Nat} {z : Int} (h : RB w b s p z) (hb : Below w.heap.size w w') : RB w' b s p z := Is.below h hb (Is.lt h)
theorem RB.set1 {w : World} {b : Nat} {s : ByteArray} {p : Nat} {z : Int} (h : RB w b s p z) : b < w.heap.size := Is.lt h
theorem RTab.far {w : World} {u B H : Nat} {L : List Lk.Hd} {v : Value} (h : RTab w u B L v) (hne : ∀ k, v.ownBlock = some k -> k ≠ H) (hu : u ≠ H) (i : Nat) (x : Value) : RTab (w.setCell ⟨H, i, none⟩ x) u B L v := by
 refine ⟨h.blk.other _ _ hu, h.own.kept (grownBy_set w H i x) ?_, h.le, h.hB⟩
 cases hv : Value.ownBlock v with
 | none => exact .inl rfl
 | some k => exact .inr (by have := hne k hv; simpa using this)
theorem Dq (b u : Nat) (s : ByteArray) (p q B : Nat) (L : List Lk.Hd) (v : Value) (w : World) (hs : s.size <= 2 ^ 48) (hp : p <= s.size) (hI : RB w b s p (-1)) (hT : RTab w u B L v) (hn : Lk.kT s.data.toList p = .bad q) :
 Calls Tryz.prog 105 #[.pointer (some ⟨b, 0, none⟩), .pointer (some ⟨u, 0, none⟩)] w (wU w b u s B v (.bad q)) := by
 have hC := eX b s p (w.alloc (.cells #[.string ⟨#[]⟩, .string ⟨#[]⟩] 206)) hs hp (hI.alloc _)
 rw [hn] at hC
 have HC := hide hC
 have HX := hide (Is.new w 206 [.string ⟨#[]⟩, .string ⟨#[]⟩])
 have hT0 := (Two.refl b u w).alloc (.cells #[.string ⟨#[]⟩, .string ⟨#[]⟩] 206)
 have hbl : b < w.heap.size := Is.lt hI
 have hq : (0 : Int) <= q := by omega
 have HT := hide (hT.alloc (.cells #[.string ⟨#[]⟩, .string ⟨#[]⟩] 206))
 have HN := hide (hT.blk.ne hI (nbq rfl))
 have HI0 := hide (hI.alloc (.cells #[.string ⟨#[]⟩, .string ⟨#[]⟩] 206))
 clear hI hn hC hT
 go_enter Tryz.func105, Tryz.ntmps105
 go_wp2_with fail
 refine (uh HC).mono ?_
 rintro e w1 ⟨⟨rfl, hI1⟩, hT1⟩
 have HX1 := hide ((uh HX).grown hT1 (by simp; omega))
 have HT1 := hide ((uh HT).turns hT1 (uh HI0) (nbq rfl) (uh HN))
 have HI1 := hide hI1
 have Ld := hT0.trans (Two.ofB (u := u) hT1)
 clear hI1 hT1
 go_wp2_with fail
 refine (lV u B L v _ (uh HT1)).mono ?_
 rintro e w2 ⟨v2, rfl, _, hb2⟩
 have hX2 := (uh HX1).below hb2 (uh HX1).lt
 have hI2 := (uh HI1).below hb2
 have JW := Ld.below hb2
 have c2 : w2.cell? ⟨b, 2, none⟩ = some (.int .i64 q) := hI2.cell 2
 have c0 := hX2.cell 0
 have c1 := hX2.cell 1
 have f0 := hX2.free 0
 have f1 := hX2.free 1
 have hXl := hX2.lt
 simp only [List.getElem?_cons_zero, List.getElem?_cons_succ] at c0 c1
 have HI2 := hide hI2
 clear hI2 hX2 hb2
 have hTT := (JW.aY (a := ⟨w.heap.size, 0, none⟩) (Nat.le_refl _) (.string (bs bF.n))).aY (a := ⟨w.heap.size, 1, none⟩) (Nat.le_refl _) (.string (bs bF.v))
 go_wp2_with fail
 exact bodyPost_ret (v := hdA bF) (by simp [results, Tryz.results105, go_sem, c0, c1, bF, bs]) rfl ⟨⟨⟨bF, rfl⟩, p, ((uh HI2).other _ _ (by simp; omega)).other _ _ (by simp; omega)⟩, hTT⟩
theorem Dt (b u : Nat) (s : ByteArray) (p n q B : Nat) (L : List Lk.Hd) (v : Value) (w : World) (hs : s.size <= 2 ^ 48) (hp : p <= s.size) (hI : RB w b s p (-1)) (hT : RTab w u B L v) (hn : Lk.kT s.data.toList p = .ok n q) (h2 : n % 2 = 0) :
 Calls Tryz.prog 105 #[.pointer (some ⟨b, 0, none⟩), .pointer (some ⟨u, 0, none⟩)] w (wU w b u s B v (match Lk.pX L (n / 2) q with | .ok h q => .ok (h, L) q | .bad q => .bad q)) := by
 have hC := eX b s p (w.alloc (.cells #[.string ⟨#[]⟩, .string ⟨#[]⟩] 206)) hs hp (hI.alloc _)
 rw [hn] at hC
 have hq := Lk.iq (by rw [<- af]; exact hp) hn
 rw [<- af] at hq
 have hnl := Lk.pJ hn
 have HC := hide hC
 have HX := hide (Is.new w 206 [.string ⟨#[]⟩, .string ⟨#[]⟩])
 have hT0 := (Two.refl b u w).alloc (.cells #[.string ⟨#[]⟩, .string ⟨#[]⟩] 206)
 have hbl : b < w.heap.size := Is.lt hI
 have hul := hT.blk.lt
 have HT := hide (hT.alloc (.cells #[.string ⟨#[]⟩, .string ⟨#[]⟩] 206))
 have HVL := hide (fun k (hk : v.ownBlock = some k) => (hT.own.lt k hk).2)
 have HN := hide (hT.blk.ne hI (nbq rfl))
 have HI0 := hide (hI.alloc (.cells #[.string ⟨#[]⟩, .string ⟨#[]⟩] 206))
 have hr : Int.tmod (n : Int) 2 = 0 := by rw [QO, h2]; rfl
 generalize hRR : (match Lk.pX L (n / 2) q with | .ok h q => Lk.PR.ok (h, L) q | .bad q => .bad q) = RR
 have HRR := hide hRR
 clear hRR
 have hd := QP n
 clear hI hn hC hT
 go_enter Tryz.func105, Tryz.ntmps105
 go_wp2_with fail
 refine (uh HC).mono ?_
 rintro e w1 ⟨⟨rfl, hI1⟩, hT1⟩
 have HX1 := hide ((uh HX).grown hT1 (by simp; omega))
 have HT1 := hide ((uh HT).turns hT1 (uh HI0) (nbq rfl) (uh HN))
 have HI1 := hide hI1
 have Ld := hT0.trans (Two.ofB (u := u) hT1)
 clear hI1 hT1
 go_wp2_with fail
 refine (lV u B L v _ (uh HT1)).mono ?_
 rintro e w2 ⟨v2, rfl, ho2, hb2⟩
 have hX2 := (uh HX1).below hb2 (uh HX1).lt
 have hI2 := (uh HI1).below hb2
 have JW := Ld.below hb2
 have HT2 := hide ((uh HT1).below hb2)
 have c2 : w2.cell? ⟨b, 2, none⟩ = some (.int .i64 (-1)) := hI2.cell 2
 have c1 : w2.cell? ⟨b, 1, none⟩ = some (.int .i64 q) := hI2.cell 1
 have x0 := hX2.cell 0
 have x1 := hX2.cell 1
 have f0 := hX2.free 0
 have f1 := hX2.free 1
 have hXl := hX2.lt
 simp only [List.getElem?_cons_zero, List.getElem?_cons_succ] at x0 x1
 obtain ⟨la, lc, hlv⟩ := aJ ho2
 subst hlv
 have HO2 := hide ho2
 have HI2 := hide hI2
 have HX2 := hide hX2
 have HB2 := hide hb2
 clear hI2 hX2 hb2 ho2
 by_cases hlt : n / 2 < (Lk.fB L).length
 . obtain ⟨x, hx⟩ : ∃ x, (Lk.fB L)[n / 2]? = some x := ⟨_, List.getElem?_eq_getElem hlt⟩
   have hR : RR = .ok (x, L) q := by rw [<- uh HRR]; unfold Lk.pX; rw [hx]
   subst hR
   clear HRR
   obtain ⟨g, gc, hform, _⟩ := (uh HO2).form (by omega)
   cases hform
   obtain ⟨hg2, y0, y1⟩ := jJ (uh HO2) hx
   generalize hm : n / 2 = m at *
   have HM := hide hm
   have hm9 : m <= 134217728 := by omega
   have hlt' : ¬ ((Lk.fB L).length : Int) <= (m : Int) := by omega
   have hlt2 : (m : Int) < (Lk.fB L).length := by omega
   clear hx hm
   have hTT := (JW.aY (a := ⟨w.heap.size, 0, none⟩) (Nat.le_refl _) (.string (bs x.n))).aY (a := ⟨w.heap.size, 1, none⟩) (Nat.le_refl _) (.string (bs x.v))
   go_wp2_with fail
   refine bodyPost_ret (v := hdA x) (by simp [results, Tryz.results105, go_sem, x0, x1]) rfl ⟨⟨rfl, ((uh HI2).other _ _ (by simp; omega)).other _ _ (by simp; omega), v, ?_, .inl rfl⟩, hTT⟩
   have OG : ∀ k, v.ownBlock = some k -> k ≠ w.heap.size := fun k hk => by have := (uh HVL) k hk; omega
   exact ((uh HT2).far OG (by omega) 0 _).far OG (by omega) 1 _
 . have hx : (Lk.fB L)[n / 2]? = none := List.getElem?_eq_none (by omega)
   have hR : RR = .bad (q - 1) := by rw [<- uh HRR]; unfold Lk.pX; rw [hx]
   subst hR
   clear HRR
   generalize hm : n / 2 = m at *
   have HM := hide hm
   have hm9 : m <= 134217728 := by omega
   have hlt' : ((Lk.fB L).length : Int) <= (m : Int) := by omega
   clear hx hm
   go_wp2_with fail
   refine (eU b s q ((q : Int) - 1) _ (uh HI2)).mono ?_
   rintro e w3 ⟨rfl, hI3, hT3⟩
   have hX3 := (uh HX2).grown hT3 (by simp; omega)
   have z0 := hX3.cell 0
   have z1 := hX3.cell 1
   have g0 := hX3.free 0
   have g1 := hX3.free 1
   have WR := hX3.lt
   simp only [List.getElem?_cons_zero, List.getElem?_cons_succ] at z0 z1
   have HI3 := hide hI3
   clear hX3 hI3 x0 x1 f0 f1
   have hTT := ((JW.trans (Two.ofB (u := u) hT3)).aY (a := ⟨w.heap.size, 0, none⟩) (Nat.le_refl _) (.string (bs bF.n))).aY (a := ⟨w.heap.size, 1, none⟩) (Nat.le_refl _) (.string (bs bF.v))
   go_wp2_with fail
   refine bodyPost_ret (v := hdA bF) (by simp [results, Tryz.results105, go_sem, z0, z1, bF, bs]) rfl ⟨⟨⟨bF, rfl⟩, q, ?_⟩, hTT⟩
   rw [show ((q - 1 : Nat) : Int) = (q : Int) - 1 by omega]
   exact ((uh HI3).other _ _ (by simp; omega)).other _ _ (by simp; omega)
open Go.RowKit
theorem Ha (b u : Nat) (s : ByteArray) (p n q B : Nat) (L : List Lk.Hd) (v : Value) (w : World) (hs : s.size <= 2 ^ 48) (hp : p <= s.size) (hI : RB w b s p (-1)) (hT : RTab w u B L v) (hn : Lk.kT s.data.toList p = .ok n q) (h2 : n % 2 = 1) (hk0 : n / 2 = 0) :
 Calls Tryz.prog 105 #[.pointer (some ⟨b, 0, none⟩), .pointer (some ⟨u, 0, none⟩)] w (wU w b u s B v (match Lk.bI true s.data.toList q with | .bad q => .bad q | .ok nm q => match Lk.bI false s.data.toList q with | .bad q => .bad q | .ok t q => .ok (⟨nm, t⟩, Lk.put B L ⟨nm, t⟩) q)) := by
 generalize hRR : (match Lk.bI true s.data.toList q with | .bad q => Lk.PR.bad q | .ok nm q => match Lk.bI false s.data.toList q with | .bad q => .bad q | .ok t q => .ok ((⟨nm, t⟩ : Lk.Hd), Lk.put B L ⟨nm, t⟩) q) = RR
 have HRR := hide hRR
 clear hRR
 have hC := eX b s p (w.alloc (.cells #[.string ⟨#[]⟩, .string ⟨#[]⟩] 206)) hs hp (hI.alloc _)
 rw [hn] at hC
 have hq := Lk.iq (by rw [<- af]; exact hp) hn
 rw [<- af] at hq
 have hnl := Lk.pJ hn
 have HC := hide hC
 have HX := hide (Is.new w 206 [.string ⟨#[]⟩, .string ⟨#[]⟩])
 have hT0 := (Two.refl b u w).alloc (.cells #[.string ⟨#[]⟩, .string ⟨#[]⟩] 206)
 have hbl : b < w.heap.size := Is.lt hI
 have hul := hT.blk.lt
 have HT := hide (hT.alloc (.cells #[.string ⟨#[]⟩, .string ⟨#[]⟩] 206))
 have HVL := hide (fun k (hk : v.ownBlock = some k) => (hT.own.lt k hk).2)
 have HN := hide (hT.blk.ne hI (nbq rfl))
 have HI0 := hide (hI.alloc (.cells #[.string ⟨#[]⟩, .string ⟨#[]⟩] 206))
 have HLB := hide (⟨hT.le, hT.hB⟩ : Lk.weights L <= B ∧ B <= 200)
 have hr : Int.tmod (n : Int) 2 = 1 := by rw [QO, h2]; rfl
 have hd := QP n
 rw [hk0] at hd
 clear hI hn hC hT
 go_enter Tryz.func105, Tryz.ntmps105
 go_wp2_with fail
 refine (uh HC).mono ?_
 rintro e w1 ⟨⟨rfl, hI1⟩, hT1⟩
 have HX1 := hide ((uh HX).grown hT1 (by simp; omega))
 have HT1 := hide ((uh HT).turns hT1 (uh HI0) (nbq rfl) (uh HN))
 have HI1 := hide hI1
 have Ld := hT0.trans (Two.ofB (u := u) hT1)
 clear hI1 hT1
 go_wp2_with fail
 refine (lV u B L v _ (uh HT1)).mono ?_
 rintro e w2 ⟨v2, rfl, ho2, hb2⟩
 have hX2 := (uh HX1).below hb2 (uh HX1).lt
 have hI2 := (uh HI1).below hb2
 have JW := (Ld.below hb2).alloc (.cells #[.string ⟨#[]⟩, .string ⟨#[]⟩] 206)
 have HT2 := hide (((uh HT1).below hb2).alloc (.cells #[.string ⟨#[]⟩, .string ⟨#[]⟩] 206))
 have c2 : w2.cell? ⟨b, 2, none⟩ = some (.int .i64 (-1)) := hI2.cell 2
 have hXl := hX2.lt
 obtain ⟨la, lc, hlv⟩ := aJ ho2
 subst hlv
 have HO2 := hide (ho2.alloc (.cells #[.string ⟨#[]⟩, .string ⟨#[]⟩] 206))
 have HI2 := hide (hI2.alloc (.cells #[.string ⟨#[]⟩, .string ⟨#[]⟩] 206))
 have HX2 := hide (hX2.alloc (.cells #[.string ⟨#[]⟩, .string ⟨#[]⟩] 206))
 have hH2 := Is.new w2 206 [.string ⟨#[]⟩, .string ⟨#[]⟩]
 have HH2 := hide hH2
 clear hI2 hX2 hb2 ho2 hH2
 have hk1 : ¬ ((Lk.fB L).length : Int) < 0 := by omega
 have HC3 := hide (Dl b s q _ hs hq.2 (Lk.bI true s.data.toList q) (hide rfl) (uh HI2))
 have HTN := hide (fun t q2 => Lk.jZ (name := true) (s := s.data.toList) (p := q) (t := t) (q := q2) (by rw [<- af]; exact hq.2))
 generalize Lk.bI true s.data.toList q = R1 at *
 go_wp2_with fail
 refine (uh HC3).mono ?_
 rintro e wn ⟨hm3, hTn⟩
 have hXn := (uh HX2).grown hTn (by simp; omega)
 have hHn := (uh HH2).grown hTn (by simp; omega)
 have Vm := (uh HT2).turns hTn (uh HI2) (nbq rfl) (uh HN)
 have Vo := JW.trans (Two.ofB (u := u) hTn)
 have hsn := hTn.size
 have hf0 := hHn.free 0
 have X8 : wn.cell? ⟨w2.heap.size, 0, none⟩ = some (.string ⟨#[]⟩) := hHn.cell 0
 have HXn := hide hXn
 have HHn := hide hHn
 have HTn := hide Vm
 clear hXn hHn Vm hTn
 cases R1 with
 | bad q1 =>
   obtain ⟨rfl, p1, hI3⟩ := hm3
   have hRR : RR = .bad q1 := (uh HRR).symm
   subst hRR
   clear HRR
   have hI4 := hI3.other ⟨w2.heap.size, 0, none⟩ (.string ⟨#[]⟩) (by simp; omega)
   have hH4 := (uh HHn).set 0 (.string ⟨#[]⟩)
   have hX4 := (uh HXn).other ⟨w2.heap.size, 0, none⟩ (.string ⟨#[]⟩) (by simp; omega)
   have HI4 := hide hI4
   have HH4 := hide hH4
   have HX4 := hide hX4
   have P9 := Vo.aY (a := ⟨w2.heap.size, 0, none⟩) (by simp; omega) (.string ⟨#[]⟩)
   have hff := hH4.free 1
   have X9 : (wn.setCell ⟨w2.heap.size, 0, none⟩ (.string ⟨#[]⟩)).cell? ⟨w2.heap.size, 1, none⟩ = some (.string ⟨#[]⟩) := hH4.cell 1
   have hq2 : (0 : Int) <= q1 := by omega
   clear hI3 hI4 hH4 hX4
   go_wp2_with fail
   refine (GY b false s p1 q1 _ (uh HI4)).mono ?_
   rintro e w5 ⟨rfl, hw5⟩
   subst hw5
   have hI5 := (uh HI4).other ⟨w2.heap.size, 1, none⟩ (.string ⟨#[]⟩) (by simp; omega)
   have hH5 := (uh HH4).set 1 (.string ⟨#[]⟩)
   have hX5 := (uh HX4).other ⟨w2.heap.size, 1, none⟩ (.string ⟨#[]⟩) (by simp; omega)
   have Nq := P9.aY (a := ⟨w2.heap.size, 1, none⟩) (by simp; omega) (.string ⟨#[]⟩)
   have k2 : ((wn.setCell ⟨w2.heap.size, 0, none⟩ (.string ⟨#[]⟩)).setCell ⟨w2.heap.size, 1, none⟩ (.string ⟨#[]⟩)).cell? ⟨b, 2, none⟩ = some (.int .i64 q1) := hI5.cell 2
   have y0 := hH5.cell 0
   have y1 := hH5.cell 1
   have z0 := hX5.cell 0
   have z1 := hX5.cell 1
   have g0 := hX5.free 0
   have g1 := hX5.free 1
   have Ug := hX5.lt
   simp only [List.getElem?_cons_zero, List.getElem?_cons_succ, List.set_cons_succ, List.set_cons_zero] at y0 y1 z0 z1
   have HI5 := hide hI5
   clear hI5 hH5 hX5
   have hTT := (Nq.aY (a := ⟨w.heap.size, 0, none⟩) (Nat.le_refl _) (.string ⟨#[]⟩)).aY (a := ⟨w.heap.size, 1, none⟩) (Nat.le_refl _) (.string ⟨#[]⟩)
   go_wp2_with fail
   exact bodyPost_ret (v := hdA bF) (by simp [results, Tryz.results105, go_sem, z0, z1, bF, bs]) rfl ⟨⟨⟨bF, rfl⟩, p1, ((uh HI5).other _ _ (by simp; omega)).other _ _ (by simp; omega)⟩, hTT⟩
 | ok nm q1 =>
   obtain ⟨rfl, hI3⟩ := hm3
   have Uk := uh HTN nm q1 rfl
   have HRR : Hid ((match Lk.bI false s.data.toList q1 with | .bad q => Lk.PR.bad q | .ok t q => .ok ((⟨nm, t⟩ : Lk.Hd), Lk.put B L ⟨nm, t⟩) q) = RR) := HRR
   have hq1 : q1 <= s.size := by rw [af]; exact Uk.2.1
   have hxl : nm.length <= 200 := by have := Uk.2.2; omega
   have HI3 := hide (hI3.other ⟨w2.heap.size, 0, none⟩ (.string (bs nm)) (by simp; omega))
   have HT3 := hide ((uh HTn).far (H := w2.heap.size) (fun k hk => by have := (uh HVL) k hk; omega) (by omega) 0 (.string (bs nm)))
   have HX3 := hide ((uh HXn).other ⟨w2.heap.size, 0, none⟩ (.string (bs nm)) (by simp; omega))
   have HH3 := hide ((uh HHn).set 0 (.string (bs nm)))
   have P8 := Vo.aY (a := ⟨w2.heap.size, 0, none⟩) (by simp; omega) (.string (bs nm))
   obtain ⟨w3, hW3⟩ : ∃ w3, w3 = wn.setCell ⟨w2.heap.size, 0, none⟩ (.string (bs nm)) := ⟨_, rfl⟩
   have HW3 := hide hW3
   rw [<- hW3] at HI3 HT3 HX3 HH3 P8
   clear hW3
   clear hI3 Uk
   have HC4 := hide (qE b s q1 w3 hs hq1 (Lk.bI false s.data.toList q1) (hide rfl) (uh HI3))
   have HTL := hide (fun t q2 => Lk.jZ (name := false) (s := s.data.toList) (p := q1) (t := t) (q := q2) (by rw [<- af]; exact hq1))
   have hs3 := P8.size
   have h23 : w2.heap.size < w3.heap.size := (uh HH3).lt
   have hsx := JW.size
   generalize Lk.bI false s.data.toList q1 = R2 at *
   go_wp2_with fail
   rw [<- uh HW3]
   refine (uh HC4).mono ?_
   rintro e w4 ⟨hm4, hT4⟩
   have hX4 := (uh HX3).grown hT4 (by simp; omega)
   have hH4 := (uh HH3).grown hT4 (by simp; omega)
   have HT4 := hide ((uh HT3).turns hT4 (uh HI3) (nbq rfl) (uh HN))
   have P9 := P8.trans (Two.ofB (u := u) hT4)
   have hf1 := hH4.free 1
   have WT : w4.cell? ⟨w2.heap.size, 1, none⟩ = some (.string ⟨#[]⟩) := hH4.cell 1
   have hs4 := hT4.size
   have HX4 := hide hX4
   have HH4 := hide hH4
   clear hX4 hH4 hT4
   cases R2 with
   | bad q2 =>
     obtain ⟨rfl, p2, hI4⟩ := hm4
     have hRR : RR = .bad q2 := (uh HRR).symm
     subst hRR
     clear HRR
     have hq2 : (0 : Int) <= q2 := by omega
     have hI5 := hI4.other ⟨w2.heap.size, 1, none⟩ (.string ⟨#[]⟩) (by simp; omega)
     have hH5 := (uh HH4).set 1 (.string ⟨#[]⟩)
     have hX5 := (uh HX4).other ⟨w2.heap.size, 1, none⟩ (.string ⟨#[]⟩) (by simp; omega)
     have k2 : (w4.setCell ⟨w2.heap.size, 1, none⟩ (.string ⟨#[]⟩)).cell? ⟨b, 2, none⟩ = some (.int .i64 q2) := hI5.cell 2
     have y0 := hH5.cell 0
     have y1 := hH5.cell 1
     have z0 := hX5.cell 0
     have z1 := hX5.cell 1
     have g0 := hX5.free 0
     have g1 := hX5.free 1
     simp only [List.getElem?_cons_zero, List.getElem?_cons_succ, List.set_cons_succ, List.set_cons_zero] at y0 y1 z0 z1
     have Nq := P9.aY (a := ⟨w2.heap.size, 1, none⟩) (by simp; omega) (.string ⟨#[]⟩)
     have HI5 := hide hI5
     have Ug := hX5.lt
     clear hI4 hI5 hH5 hX5
     have hTT := (Nq.aY (a := ⟨w.heap.size, 0, none⟩) (Nat.le_refl _) (.string (bs nm))).aY (a := ⟨w.heap.size, 1, none⟩) (Nat.le_refl _) (.string ⟨#[]⟩)
     go_wp2_with fail
     exact bodyPost_ret (v := hdA ⟨nm, []⟩) (by simp [results, Tryz.results105, go_sem, z0, z1, bs]) rfl ⟨⟨⟨⟨nm, []⟩, rfl⟩, p2, ((uh HI5).other _ _ (by simp; omega)).other _ _ (by simp; omega)⟩, hTT⟩
   | ok val q2 =>
     obtain ⟨rfl, hI4⟩ := hm4
     have hRR : RR = .ok (⟨nm, val⟩, Lk.put B L ⟨nm, val⟩) q2 := (uh HRR).symm
     subst hRR
     clear HRR
     have hvl := (uh HTL val q2 rfl).2.2
     have hI5 := hI4.other ⟨w2.heap.size, 1, none⟩ (.string (bs val)) (by simp; omega)
     have hH5 := (uh HH4).set 1 (.string (bs val))
     have hX5 := (uh HX4).other ⟨w2.heap.size, 1, none⟩ (.string (bs val)) (by simp; omega)
     have HT5 := hide ((uh HT4).far (H := w2.heap.size) (fun k hk => by have := (uh HVL) k hk; omega) (by omega) 1 (.string (bs val)))
     have k2 : (w4.setCell ⟨w2.heap.size, 1, none⟩ (.string (bs val))).cell? ⟨b, 2, none⟩ = some (.int .i64 (-1)) := hI5.cell 2
     have y0 := hH5.cell 0
     have y1 := hH5.cell 1
     simp only [List.getElem?_cons_zero, List.getElem?_cons_succ, List.set_cons_succ, List.set_cons_zero] at y0 y1
     have Nq := P9.aY (a := ⟨w2.heap.size, 1, none⟩) (by simp; omega) (.string (bs val))
     have HI5 := hide hI5
     have HX5 := hide hX5
     have HH5 := hide hH5
     have hs5 : w4.heap.size = (w4.setCell ⟨w2.heap.size, 1, none⟩ (.string (bs val))).heap.size := by simp
     have HC5 := hide (xR u B L ⟨nm, val⟩ v _ (uh HT5) (by simp only; omega) (by simp only; omega))
     clear hI4 hI5 hH5 hX5
     go_wp2_with fail
     refine (uh HC5).mono ?_
     rintro e w6 ⟨rfl, ⟨v6, hT6, hN6⟩, Nr⟩
     have hX6 := (uh HX5).grown Nr (by simp; omega)
     have hH6 := (uh HH5).grown Nr (by simp; omega)
     have hI6 := Is.grown (uh HI5) Nr (by have := uh HN; simp; omega)
     have Uj := Nq.trans (Two.ofU (b := b) Nr)
     have z0 := hX6.cell 0
     have z1 := hX6.cell 1
     have g0 := hX6.free 0
     have g1 := hX6.free 1
     have j0 := hH6.cell 0
     have j1 := hH6.cell 1
     simp only [List.getElem?_cons_zero, List.getElem?_cons_succ, List.set_cons_succ, List.set_cons_zero] at z0 z1 j0 j1
     have WU := hX6.lt
     have HI6 := hide hI6
     have HT6 := hide hT6
     clear hX6 hH6 hI6 hT6 y0 y1 k2
     have hTT := (Uj.aY (a := ⟨w.heap.size, 0, none⟩) (Nat.le_refl _) (.string (bs nm))).aY (a := ⟨w.heap.size, 1, none⟩) (Nat.le_refl _) (.string (bs val))
     go_wp2_with fail
     refine bodyPost_ret (v := hdA ⟨nm, val⟩) (by simp [results, Tryz.results105, go_sem, z0, z1]) rfl ⟨⟨rfl, Is.other (Is.other (uh HI6) _ _ (by simp; omega)) _ _ (by simp; omega), v6, ?_, .inr (fun k hk => by have := hN6 k hk; omega)⟩, hTT⟩
     have OG : ∀ k, v6.ownBlock = some k -> k ≠ w.heap.size := fun k hk => by have := hN6 k hk; omega
     exact ((uh HT6).far OG (by omega) 0 _).far OG (by omega) 1 _
end Go.Proofs.YtbkpdapagfjmmaaGreatDoor
