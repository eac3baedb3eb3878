import Derived.Test.YtbkpdapagfjmmaaGreatDoorMS1L5
import Derived.Test.YtbkpdapagfjmmaaGreatDoorMV1
import Derived.Test.YtbkpdapagfjmmaaGreatDoorMSpec4Spec6
set_option linter.unusedVariables false
set_option maxRecDepth 100000
set_option maxHeartbeats 16000000
namespace Go.Proofs.YtbkpdapagfjmmaaGreatDoor
open Go.RowKit
namespace Lk
theorem numR_small {s : Bs} {p n q : Nat} (h : numR s p = .ok n q) : n < 2 ^ 62 := by
  unfold numR at h
  cases e : rd 0 0 (s.drop p) with
  | short => rw [e] at h; cases h
  | bad k => rw [e] at h; cases h
  | ok m k =>
    rw [e] at h
    cases h
    have := (rd_canon0 e).2
    omega
end Lk
theorem RB.dn {w : World} {b : Nat} {s : ByteArray} {p : Nat} {z : Int} (n : Nat) (h : RB w b s p z) : RB (w.drewN n) b s p z := h
theorem rbtext_bad (b : Nat) (nm : Bool) (s : ByteArray) (p q : Nat) (w : World) (hI : RB w b s p q) :
    Calls Tryz.prog 157 #[.pointer (some ⟨b, 0, none⟩), .bool nm] w fun e w' => e = .returned (.string ⟨#[]⟩) ∧ w' = w := by
  have c2 : w.cell? ⟨b, 2, none⟩ = some (.int .i64 q) := hI.cell 2
  have hq : (0 : Int) ≤ q := by omega
  have HI := hide hI
  clear hI
  go_enter Tryz.func157, Tryz.ntmps157
  go_wp2_with fail
  refine (rbnumber_bad b s p q _ (uh HI)).mono ?_
  rintro e w1 ⟨rfl, rfl⟩
  go_wp2_with fail
  go_ret
  exact ⟨rfl, rfl⟩
theorem rbtext_name (b : Nat) (s : ByteArray) (p : Nat) (w : World) (hs : s.size ≤ 2 ^ 48) (hp : p ≤ s.size) (R : Lk.PR Lk.Bs) (HR : Hid (Lk.textR true s.data.toList p = R)) (hI : RB w b s p (-1)) :
    Calls Tryz.prog 157 #[.pointer (some ⟨b, 0, none⟩), .bool true] w fun e w' =>
      (match R with
        | .ok t q => e = .returned (.string (bs t)) ∧ RB w' b s q (-1)
        | .bad q => e = .returned (.string ⟨#[]⟩) ∧ ∃ p', RB w' b s p' q) ∧ Turns b w w' := by
  have hC := rbnumber_any b s p w hs hp hI
  clear hI
  cases hn : Lk.numR s.data.toList p with
  | bad q =>
    have hR : R = .bad q := by rw [← uh HR]; unfold Lk.textR; rw [hn]
    subst hR
    rw [hn] at hC
    have HC := hide hC
    have hq : (0 : Int) ≤ q := by omega
    clear hC hn
    go_enter Tryz.func157, Tryz.ntmps157
    go_wp2_with fail
    refine (uh HC).mono ?_
    rintro e w1 ⟨⟨rfl, hI1⟩, hT1⟩
    have c2 : w1.cell? ⟨b, 2, none⟩ = some (.int .i64 q) := hI1.cell 2
    have HI1 := hide hI1
    clear hI1
    go_wp2_with fail
    go_ret
    exact ⟨⟨rfl, p, uh HI1⟩, hT1⟩
  | ok n q =>
    have hq := Lk.numR_ge (by rw [← size_list]; exact hp) hn
    rw [← size_list] at hq
    have hnl := Lk.numR_small hn
    rw [hn] at hC
    have HC := hide hC
    have HNR := hide hn
    clear hC hn
    go_enter Tryz.func157, Tryz.ntmps157
    go_wp2_with fail
    refine (uh HC).mono ?_
    rintro e w1 ⟨⟨rfl, hI1⟩, hT1⟩
    have c1 : w1.cell? ⟨b, 1, none⟩ = some (.int .i64 q) := hI1.cell 1
    have c2 : w1.cell? ⟨b, 2, none⟩ = some (.int .i64 (-1)) := hI1.cell 2
    have HI1 := hide hI1
    clear hI1
    by_cases hl : 1 ≤ (n : Int) ∧ (n : Int) ≤ 16
    · have hl1 : 1 ≤ (n : Int) := hl.1
      have hl2 : (n : Int) ≤ 16 := hl.2
      have HTR := hide (show R = (if Lk.upto Lk.nameByte n (s.data.toList.drop q) = n then .ok ((s.data.toList.drop q).take n) (q + n) else .bad (q + Lk.upto Lk.nameByte n (s.data.toList.drop q))) by
        rw [← uh HR]; unfold Lk.textR; rw [uh HNR]; simp only
        rw [if_pos]
        · rfl
        · simp only [Lk.lenOk, if_true, decide_eq_true_eq]
          omega)
      clear hl
      go_wp2_with fail
      go_loopw [7] (fun u wr => ∃ j : Nat, u = .int .i64 j ∧ j ≤ n ∧ q + j ≤ s.size ∧ RB wr b s (q + j) (-1) ∧ Hid (∀ i, i < j → ∃ c, (s.data.toList.drop q)[i]? = some c ∧ Lk.nameByte c = true) ∧ Turns b w wr) (fun u _ => n - (intOf u).toNat)
      case atStart => exact ⟨0, rfl, by omega, by omega, uh HI1, fun i hi => by omega, hT1⟩
      case round =>
        obtain ⟨j, rfl, hj, hqj, hIr, HJ, hTr⟩ := hrel
        clear c1 c2
        generalize hm : q + j = m at *
        have HM := hide hm
        have c0 : wr.cell? ⟨b, 0, none⟩ = some (.string s) := hIr.cell 0
        have c1 : wr.cell? ⟨b, 1, none⟩ = some (.int .i64 (m : Int)) := hIr.cell 1
        have f1 : wr.frozen? ⟨b, 1, none⟩ = false := hIr.free 1
        have HIr := hide hIr
        clear hIr hm
        by_cases hlt : j < n
        · have hlt' : (j : Int) < n := by omega
          by_cases hend : m < s.size
          · have hend' : ¬ (s.size : Int) ≤ (m : Int) := by omega
            have hend2 : (m : Int) < s.size := by omega
            have hend3 : (0 : Int) ≤ (m : Int) := by omega
            generalize hQ : Lk.nameByte s[m] = Q
            have HQ := hide hQ
            have HL := hide (show ∀ w, Calls Tryz.prog 175 #[.int .u8 s[m].toNat] w fun e w' => e = .returned (.bool Q) ∧ w' = w from fun w => by rw [← hQ]; exact refName_any s[m] w)
            have HV := hide (show Q = true → ∀ w, Calls Tryz.prog 176 #[.int .u8 s[m].toNat] w fun e w' => e = Ending.returned (.bool true) ∧ w' = w from fun h w => by have hh := refValue_any s[m] w; rw [Lk.allows_name (hQ.trans h)] at hh; exact hh)
            clear hQ
            go_wp2_with fail
            go_quiet (fail)
            go_wp2_with fail
            go_quiet (fail)
            go_wp2_with fail
            refine (uh HL _).mono ?_
            rintro e w2 ⟨rfl, rfl⟩
            have hmq := uh HM
            cases Q
            · have hu := Lk.upto_of Lk.nameByte n j (s.data.toList.drop q) (by omega) (uh HJ) (.inr (.inr ⟨s[m], by have := byte_at s q j (by omega); simpa only [hmq] using this, uh HQ⟩))
              have hR := uh HTR
              rw [hu, if_neg (by omega), hmq] at hR
              subst hR
              clear hmq
              go_wp2_with fail
              refine (rfail_any b s m m _ (RB.dn _ (uh HIr))).mono ?_
              rintro e w3 ⟨rfl, hI3, hT3⟩
              go_wp2_with fail
              go_ret
              exact ⟨⟨rfl, m, hI3⟩, (hTr.drewN _).trans hT3⟩
            · have HJ2 : Hid (∀ i, i < j + 1 → ∃ c, (s.data.toList.drop q)[i]? = some c ∧ Lk.nameByte c = true) := fun i hi => by
                rcases Nat.lt_succ_iff_lt_or_eq.1 hi with hi | rfl
                · exact uh HJ i hi
                · exact ⟨s[m], by have := byte_at s q i (by omega); simpa only [hmq] using this, uh HQ⟩
              clear hmq
              go_wp2_with fail
              refine (uh HV trivial _).mono ?_
              rintro e w3 ⟨rfl, rfl⟩
              go_wp2_with fail
              go_roundw
              case rel =>
                have hmq := uh HM
                refine ⟨j + 1, by simp, by omega, by omega, ?_, HJ2, (hTr.drewN _).set 1 _⟩
                have h5 := fun nn => Is.set (RB.dn nn (uh HIr)) 1 (.int .i64 ((m : Int) + 1))
                rw [show q + (j + 1) = m + 1 by omega]
                exact h5 _
              case measure => simp [intOf]; omega
          · have hend' : (s.size : Int) ≤ (m : Int) := by omega
            have hmq := uh HM
            have hu := Lk.upto_of Lk.nameByte n j (s.data.toList.drop q) (by omega) (uh HJ) (.inr (.inl (byte_end s q j (by omega))))
            have hR := uh HTR
            rw [hu, if_neg (by omega), show q + j = s.size by omega] at hR
            subst hR
            clear hmq
            go_wp2_with fail
            go_quiet (fail)
            go_wp2_with fail
            refine (rfail_any b s m s.size _ (RB.dn _ (uh HIr))).mono ?_
            rintro e w3 ⟨rfl, hI3, hT3⟩
            go_wp2_with fail
            go_ret
            exact ⟨⟨rfl, m, hI3⟩, (hTr.drewN _).trans hT3⟩
        · have hlt' : ¬ (j : Int) < n := by omega
          have hjn : j = n := by omega
          subst hjn
          have hmq := uh HM
          have hu := Lk.upto_of Lk.nameByte j j (s.data.toList.drop q) (by omega) (uh HJ) (.inl rfl)
          have hR := uh HTR
          rw [hu, if_pos rfl, hmq] at hR
          subst hR
          have hi1 : (q : Int) ≤ (m : Int) := by omega
          have hi2 : (m : Int) ≤ s.size := by omega
          have hi3 : (0 : Int) ≤ (q : Int) := by omega
          clear hmq
          go_wp2_with fail
          go_quiet (fail)
          go_wp2_with fail
          go_ret
          refine ⟨⟨ret_string ?_, RB.dn _ (uh HIr)⟩, hTr.drewN _⟩
          rw [← extract_bs, uh HM]
    · have hbad : R = .bad (q - 1) := by
        rw [← uh HR]; unfold Lk.textR; rw [uh HNR]; simp only
        rw [if_neg]
        simp only [Lk.lenOk, if_true, decide_eq_true_eq]
        omega
      subst hbad
      by_cases h1 : (n : Int) < 1
      · go_wp2_with fail
        refine (rfail_any b s q ((q : Int) - 1) _ (uh HI1)).mono ?_
        rintro e w2 ⟨rfl, hI2, hT2⟩
        go_wp2_with fail
        go_ret
        refine ⟨⟨rfl, q, ?_⟩, hT1.trans hT2⟩
        rw [show ((q - 1 : Nat) : Int) = (q : Int) - 1 by omega]
        exact hI2
      · have h2 : 16 < (n : Int) := by omega
        go_wp2_with fail
        refine (rfail_any b s q ((q : Int) - 1) _ (uh HI1)).mono ?_
        rintro e w2 ⟨rfl, hI2, hT2⟩
        go_wp2_with fail
        go_ret
        refine ⟨⟨rfl, q, ?_⟩, hT1.trans hT2⟩
        rw [show ((q - 1 : Nat) : Int) = (q : Int) - 1 by omega]
        exact hI2
theorem rbtext_value (b : Nat) (s : ByteArray) (p : Nat) (w : World) (hs : s.size ≤ 2 ^ 48) (hp : p ≤ s.size) (R : Lk.PR Lk.Bs) (HR : Hid (Lk.textR false s.data.toList p = R)) (hI : RB w b s p (-1)) :
    Calls Tryz.prog 157 #[.pointer (some ⟨b, 0, none⟩), .bool false] w fun e w' =>
      (match R with
        | .ok t q => e = .returned (.string (bs t)) ∧ RB w' b s q (-1)
        | .bad q => e = .returned (.string ⟨#[]⟩) ∧ ∃ p', RB w' b s p' q) ∧ Turns b w w' := by
  have hC := rbnumber_any b s p w hs hp hI
  clear hI
  cases hn : Lk.numR s.data.toList p with
  | bad q =>
    have hR : R = .bad q := by rw [← uh HR]; unfold Lk.textR; rw [hn]
    subst hR
    rw [hn] at hC
    have HC := hide hC
    have hq : (0 : Int) ≤ q := by omega
    clear hC hn
    go_enter Tryz.func157, Tryz.ntmps157
    go_wp2_with fail
    refine (uh HC).mono ?_
    rintro e w1 ⟨⟨rfl, hI1⟩, hT1⟩
    have c2 : w1.cell? ⟨b, 2, none⟩ = some (.int .i64 q) := hI1.cell 2
    have HI1 := hide hI1
    clear hI1
    go_wp2_with fail
    go_ret
    exact ⟨⟨rfl, p, uh HI1⟩, hT1⟩
  | ok n q =>
    have hq := Lk.numR_ge (by rw [← size_list]; exact hp) hn
    rw [← size_list] at hq
    have hnl := Lk.numR_small hn
    rw [hn] at hC
    have HC := hide hC
    have HNR := hide hn
    clear hC hn
    go_enter Tryz.func157, Tryz.ntmps157
    go_wp2_with fail
    refine (uh HC).mono ?_
    rintro e w1 ⟨⟨rfl, hI1⟩, hT1⟩
    have c1 : w1.cell? ⟨b, 1, none⟩ = some (.int .i64 q) := hI1.cell 1
    have c2 : w1.cell? ⟨b, 2, none⟩ = some (.int .i64 (-1)) := hI1.cell 2
    have HI1 := hide hI1
    clear hI1
    by_cases hl : (n : Int) ≤ 32
    · have hl2 : ¬ 32 < (n : Int) := by omega
      have HTR := hide (show R = (if Lk.upto Lk.valueByte n (s.data.toList.drop q) = n then .ok ((s.data.toList.drop q).take n) (q + n) else .bad (q + Lk.upto Lk.valueByte n (s.data.toList.drop q))) by
        rw [← uh HR]; unfold Lk.textR; rw [uh HNR]; simp only
        rw [if_pos]
        · rfl
        · simp only [Lk.lenOk, Bool.false_eq_true, if_false, decide_eq_true_eq]
          omega)
      clear hl
      go_wp2_with fail
      go_loopw [7] (fun u wr => ∃ j : Nat, u = .int .i64 j ∧ j ≤ n ∧ q + j ≤ s.size ∧ RB wr b s (q + j) (-1) ∧ Hid (∀ i, i < j → ∃ c, (s.data.toList.drop q)[i]? = some c ∧ Lk.valueByte c = true) ∧ Turns b w wr) (fun u _ => n - (intOf u).toNat)
      case atStart => exact ⟨0, rfl, by omega, by omega, uh HI1, fun i hi => by omega, hT1⟩
      case round =>
        obtain ⟨j, rfl, hj, hqj, hIr, HJ, hTr⟩ := hrel
        clear c1 c2
        generalize hm : q + j = m at *
        have HM := hide hm
        have c0 : wr.cell? ⟨b, 0, none⟩ = some (.string s) := hIr.cell 0
        have c1 : wr.cell? ⟨b, 1, none⟩ = some (.int .i64 (m : Int)) := hIr.cell 1
        have f1 : wr.frozen? ⟨b, 1, none⟩ = false := hIr.free 1
        have HIr := hide hIr
        clear hIr hm
        by_cases hlt : j < n
        · have hlt' : (j : Int) < n := by omega
          by_cases hend : m < s.size
          · have hend' : ¬ (s.size : Int) ≤ (m : Int) := by omega
            have hend2 : (m : Int) < s.size := by omega
            have hend3 : (0 : Int) ≤ (m : Int) := by omega
            generalize hQ : Lk.valueByte s[m] = Q
            have HQ := hide hQ
            have HL := hide (show ∀ w, Calls Tryz.prog 176 #[.int .u8 s[m].toNat] w fun e w' => e = .returned (.bool Q) ∧ w' = w from fun w => by rw [← hQ]; exact refValue_any s[m] w)
            have HV := hide True.intro
            clear hQ
            go_wp2_with fail
            go_quiet (fail)
            go_wp2_with fail
            go_quiet (fail)
            go_wp2_with fail
            refine (uh HL _).mono ?_
            rintro e w2 ⟨rfl, rfl⟩
            have hmq := uh HM
            cases Q
            · have hu := Lk.upto_of Lk.valueByte n j (s.data.toList.drop q) (by omega) (uh HJ) (.inr (.inr ⟨s[m], by have := byte_at s q j (by omega); simpa only [hmq] using this, uh HQ⟩))
              have hR := uh HTR
              rw [hu, if_neg (by omega), hmq] at hR
              subst hR
              clear hmq
              go_wp2_with fail
              refine (rfail_any b s m m _ (RB.dn _ (uh HIr))).mono ?_
              rintro e w3 ⟨rfl, hI3, hT3⟩
              go_wp2_with fail
              go_ret
              exact ⟨⟨rfl, m, hI3⟩, (hTr.drewN _).trans hT3⟩
            · have HJ2 : Hid (∀ i, i < j + 1 → ∃ c, (s.data.toList.drop q)[i]? = some c ∧ Lk.valueByte c = true) := fun i hi => by
                rcases Nat.lt_succ_iff_lt_or_eq.1 hi with hi | rfl
                · exact uh HJ i hi
                · exact ⟨s[m], by have := byte_at s q i (by omega); simpa only [hmq] using this, uh HQ⟩
              clear hmq
              go_wp2_with fail
              go_roundw
              case rel =>
                have hmq := uh HM
                refine ⟨j + 1, by simp, by omega, by omega, ?_, HJ2, (hTr.drewN _).set 1 _⟩
                have h5 := fun nn => Is.set (RB.dn nn (uh HIr)) 1 (.int .i64 ((m : Int) + 1))
                rw [show q + (j + 1) = m + 1 by omega]
                exact h5 _
              case measure => simp [intOf]; omega
          · have hend' : (s.size : Int) ≤ (m : Int) := by omega
            have hmq := uh HM
            have hu := Lk.upto_of Lk.valueByte n j (s.data.toList.drop q) (by omega) (uh HJ) (.inr (.inl (byte_end s q j (by omega))))
            have hR := uh HTR
            rw [hu, if_neg (by omega), show q + j = s.size by omega] at hR
            subst hR
            clear hmq
            go_wp2_with fail
            go_quiet (fail)
            go_wp2_with fail
            refine (rfail_any b s m s.size _ (RB.dn _ (uh HIr))).mono ?_
            rintro e w3 ⟨rfl, hI3, hT3⟩
            go_wp2_with fail
            go_ret
            exact ⟨⟨rfl, m, hI3⟩, (hTr.drewN _).trans hT3⟩
        · have hlt' : ¬ (j : Int) < n := by omega
          have hjn : j = n := by omega
          subst hjn
          have hmq := uh HM
          have hu := Lk.upto_of Lk.valueByte j j (s.data.toList.drop q) (by omega) (uh HJ) (.inl rfl)
          have hR := uh HTR
          rw [hu, if_pos rfl, hmq] at hR
          subst hR
          have hi1 : (q : Int) ≤ (m : Int) := by omega
          have hi2 : (m : Int) ≤ s.size := by omega
          have hi3 : (0 : Int) ≤ (q : Int) := by omega
          clear hmq
          go_wp2_with fail
          go_quiet (fail)
          go_wp2_with fail
          go_ret
          refine ⟨⟨ret_string ?_, RB.dn _ (uh HIr)⟩, hTr.drewN _⟩
          rw [← extract_bs, uh HM]
    · have hbad : R = .bad (q - 1) := by
        rw [← uh HR]; unfold Lk.textR; rw [uh HNR]; simp only
        rw [if_neg]
        simp only [Lk.lenOk, Bool.false_eq_true, if_false, decide_eq_true_eq]
        omega
      subst hbad
      have h2 : 32 < (n : Int) := by omega
      go_wp2_with fail
      refine (rfail_any b s q ((q : Int) - 1) _ (uh HI1)).mono ?_
      rintro e w2 ⟨rfl, hI2, hT2⟩
      go_wp2_with fail
      go_ret
      refine ⟨⟨rfl, q, ?_⟩, hT1.trans hT2⟩
      rw [show ((q - 1 : Nat) : Int) = (q : Int) - 1 by omega]
      exact hI2
end Go.Proofs.YtbkpdapagfjmmaaGreatDoor

namespace Go.Proofs.YtbkpdapagfjmmaaGreatDoor
open Go.RowKit
structure Blk (w : World) (b : Nat) (s : ByteArray) (p B : Nat) (L : List Lk.Hd) (v : Value) : Prop where
  blk : Is w b 208 [.string s, .int .i64 p, weighV, .int .i64 ((B : Int) - Lk.weights L), v]
  own : w.ownsRow 0 112 2 v L.length (hdsV L)
  le : Lk.weights L ≤ B
  hB : B ≤ 200
  fx : Fx w
  b0 : 0 ≠ b
theorem Blk.turns {w w' : World} {b : Nat} {s : ByteArray} {p q B : Nat} {L : List Lk.Hd} {v : Value} (h : Blk w b s p B L v) (hT : Turns b w w') (hI : Is w' b 208 [.string s, .int .i64 q, weighV, .int .i64 ((B : Int) - Lk.weights L), v]) : Blk w' b s q B L v :=
  ⟨hI, own_turns h.own h.blk (nbq rfl) hT, h.le, h.hB, h.fx.grown hT (by simpa using h.b0), h.b0⟩
theorem Blk.below {w w' : World} {b : Nat} {s : ByteArray} {p B : Nat} {L : List Lk.Hd} {v : Value} (h : Blk w b s p B L v) (hb : Below w.heap.size w w') : Blk w' b s p B L v :=
  ⟨h.blk.below hb h.blk.lt, own_below h.own hb, h.le, h.hB, h.fx.below hb h.fx.1, h.b0⟩
theorem Blk.alloc {w : World} {b : Nat} {s : ByteArray} {p B : Nat} {L : List Lk.Hd} {v : Value} (h : Blk w b s p B L v) (o : Obj) : Blk (w.alloc o) b s p B L v :=
  h.below ((Below.refl _ _).alloc (Nat.le_refl _) o)
theorem Turns.setFar {b : Nat} {w w1 : World} (h : Turns b w w1) {a : Addr} (ha : w.heap.size ≤ a.block) (v : Value) : Turns b w (w1.setCell a v) :=
  ⟨h.os, h.tape, h.output, by simpa using h.size, fun i hi hn => by
    rw [heap_setCell_other _ _ _ _ (by omega)]
    exact h.block i hi hn⟩
def hdOf : Lk.PR Lk.Hd → Lk.Hd
  | .ok h _ => h
  | .bad _ => zeroHd
theorem set1 {w : World} {b : Nat} {T : TypeId} {a x y : Value} {more : List Value} (h : Is w b T (a :: x :: more)) : Is (w.setCell ⟨b, 1, none⟩ y) b T (a :: y :: more) := h.set 1 y
theorem bentry_some (b : Nat) (s : ByteArray) (p i B : Nat) (L : List Lk.Hd) (v : Value) (h : Lk.Hd) (w : World) (hi : i ≤ 2 ^ 40) (hK : Blk w b s p B L v) (he : (Lk.ents L)[i]? = some h) :
    Calls Tryz.prog 178 #[.pointer (some ⟨b, 0, none⟩), .int .i64 i] w fun e w' => e = .returned (.tuple #[hdA h, .bool true]) ∧ Below w.heap.size w w' := by
  have hK0 := hK.alloc (.cells #[.string ⟨#[]⟩, .string ⟨#[]⟩] 112)
  have HC := hide (entry_any b 2 i 0 L v _ hK0.blk.lt hi hK0.fx (hK0.blk.cell 4) hK0.own)
  have HE := hide he
  have HB := hide ((Below.refl w.heap.size w).alloc (Nat.le_refl _) (.cells #[.string ⟨#[]⟩, .string ⟨#[]⟩] 112))
  have HX := hide (Is.new w 112 [.string ⟨#[]⟩, .string ⟨#[]⟩])
  clear hK hK0 he
  go_enter Tryz.func178, Tryz.ntmps178
  go_wp2_with fail
  refine (uh HC).mono ?_
  rintro e w1 ⟨hr, hb⟩
  rw [uh HE] at hr
  subst hr
  simp only [Option.getD, Option.isSome]
  have hX1 := (uh HX).below hb (by simp)
  have hbel := (uh HB).trans (hb.mono (by simp))
  have c0 := hX1.cell 0
  have c1 := hX1.cell 1
  have f0 := hX1.free 0
  have f1 := hX1.free 1
  have hXl := hX1.lt
  simp only [List.getElem?_cons_zero, List.getElem?_cons_succ] at c0 c1
  clear hb hX1
  go_wp2_with fail
  exact bodyPost_ret (v := .tuple #[hdA h, .bool true]) (by simp [results, Tryz.results178, go_sem, c0, c1, hXl]) rfl ⟨rfl, ((hbel.setCell (Nat.le_refl _) _).setCell (Nat.le_refl _) _).alloc (by simpa using hbel.size) _⟩
theorem bentry_none (b : Nat) (s : ByteArray) (p i B : Nat) (L : List Lk.Hd) (v : Value) (w : World) (hi : i ≤ 2 ^ 40) (hp : 0 < p) (hps : p ≤ 2 ^ 50) (hK : Blk w b s p B L v) (he : (Lk.ents L)[i]? = none) :
    Calls Tryz.prog 178 #[.pointer (some ⟨b, 0, none⟩), .int .i64 i] w fun e w' => e = .returned (.tuple #[hdA zeroHd, .bool false]) ∧ Blk w' b s (p - 1) B L v ∧ Turns b w w' := by
  have hK0 := hK.alloc (.cells #[.string ⟨#[]⟩, .string ⟨#[]⟩] 112)
  have HC := hide (entry_any b 2 i 0 L v _ hK0.blk.lt hi hK0.fx (hK0.blk.cell 4) hK0.own)
  have HE := hide he
  have HK := hide hK
  have HK0 := hide hK0
  have HB := hide ((Below.refl w.heap.size w).alloc (Nat.le_refl _) (.cells #[.string ⟨#[]⟩, .string ⟨#[]⟩] 112))
  have HX := hide (Is.new w 112 [.string ⟨#[]⟩, .string ⟨#[]⟩])
  clear hK hK0 he
  go_enter Tryz.func178, Tryz.ntmps178
  go_wp2_with fail
  refine (uh HC).mono ?_
  rintro e w1 ⟨hr, hb⟩
  rw [uh HE] at hr
  subst hr
  simp only [Option.getD, Option.isSome]
  have hX1 := (uh HX).below hb (by simp)
  have hbel := (uh HB).trans (hb.mono (by simp))
  have hK1 := (uh HK0).below hb
  have c0 := hX1.cell 0
  have c1 := hX1.cell 1
  have f0 := hX1.free 0
  have f1 := hX1.free 1
  have hXl := hX1.lt
  have d1 := hK1.blk.cell 1
  have g1 := hK1.blk.free 1
  have hbl := hK1.blk.lt
  simp only [List.getElem?_cons_zero, List.getElem?_cons_succ] at c0 c1 d1
  have hne : ¬ w.heap.size = b := fun e => hX1.ne hK1.blk (nbq rfl) e
  have hne' : ¬ b = w.heap.size := fun e => hne e.symm
  have HK1 := hide hK1
  have HX1 := hide hX1
  clear hb hX1 hK1
  go_wp2_with fail
  have hz : ((p : Int) - 1) = ((p - 1 : Nat) : Int) := by omega
  refine bodyPost_ret (v := .tuple #[hdA zeroHd, .bool false]) (by simp [results, Tryz.results178, go_sem, c0, c1, hXl, zeroHd, bs]) rfl ⟨rfl, ?_, ?_⟩
  · rw [hz]
    exact (uh HK).turns ((((((Below.turns hbel b).set 1 _).setFar (Nat.le_refl _) _).setFar (Nat.le_refl _) _).alloc _)) ((((set1 (uh HK1).blk).other _ _ hne').other _ _ hne').alloc _)
  · exact ((((Below.turns hbel b).set 1 _).setFar (Nat.le_refl _) _).setFar (Nat.le_refl _) _).alloc _
theorem bentry_any (b : Nat) (s : ByteArray) (p i B : Nat) (L : List Lk.Hd) (v : Value) (w : World) (hi : i ≤ 2 ^ 40) (hp : 0 < p) (hps : p ≤ 2 ^ 50) (hK : Blk w b s p B L v) :
    Calls Tryz.prog 178 #[.pointer (some ⟨b, 0, none⟩), .int .i64 i] w fun e w' => e = .returned (.tuple #[hdA (hdOf (Lk.entR L i p)), .bool (Lk.entR L i p).good]) ∧ Blk w' b s (Lk.entR L i p).at B L v ∧ Turns b w w' := by
  unfold Lk.entR
  cases he : (Lk.ents L)[i]? with
  | none => exact bentry_none b s p i B L v w hi hp hps hK he
  | some h =>
    refine (bentry_some b s p i B L v h w hi hK he).mono ?_
    rintro e w' ⟨rfl, hb⟩
    exact ⟨rfl, hK.below hb, Below.turns hb b⟩
def textOf : Lk.PR Lk.Bs → Lk.Bs
  | .ok t _ => t
  | .bad _ => []
theorem textV_eq (r : Lk.PR Lk.Bs) : textV r = .tuple #[.string (bs (textOf r)), .bool r.good] := by cases r <;> rfl
theorem bwritten_name (b : Nat) (s : ByteArray) (p B : Nat) (L : List Lk.Hd) (v : Value) (w : World) (hs : s.size ≤ 2 ^ 48) (hp : p ≤ s.size) (hK : Blk w b s p B L v) :
    Calls Tryz.prog 187 #[.pointer (some ⟨b, 0, none⟩), nameR] w fun e w' =>
      e = .returned (.tuple #[.string (bs (textOf (Lk.textR true s.data.toList p))), .bool (Lk.textR true s.data.toList p).good]) ∧ Blk w' b s (Lk.textR true s.data.toList p).at B L v ∧ Turns b w w' := by
  refine (written_name b s p _ w hs hp _ (hide rfl) hK.blk).mono ?_
  rintro e w' ⟨rfl, hI, hT⟩
  exact ⟨by rw [textV_eq], hK.turns hT hI, hT⟩
theorem bwritten_value (b : Nat) (s : ByteArray) (p B : Nat) (L : List Lk.Hd) (v : Value) (w : World) (hs : s.size ≤ 2 ^ 48) (hp : p ≤ s.size) (hK : Blk w b s p B L v) :
    Calls Tryz.prog 187 #[.pointer (some ⟨b, 0, none⟩), valueR] w fun e w' =>
      e = .returned (.tuple #[.string (bs (textOf (Lk.textR false s.data.toList p))), .bool (Lk.textR false s.data.toList p).good]) ∧ Blk w' b s (Lk.textR false s.data.toList p).at B L v ∧ Turns b w w' := by
  refine (written_value b s p _ w hs hp _ (hide rfl) hK.blk).mono ?_
  rintro e w' ⟨rfl, hI, hT⟩
  exact ⟨by rw [textV_eq], hK.turns hT hI, hT⟩
end Go.Proofs.YtbkpdapagfjmmaaGreatDoor

namespace Go.Proofs.YtbkpdapagfjmmaaGreatDoor
open Go.RowKit
namespace Lk
theorem numR_le {s : Bs} {p n q : Nat} (h : numR s p = .ok n q) : n ≤ 268435455 := by
  unfold numR at h
  cases e : rd 0 0 (s.drop p) with
  | short => rw [e] at h; cases h
  | bad k => rw [e] at h; cases h
  | ok m k => rw [e] at h; cases h; exact (rd_canon0 e).2
theorem nameR_at {L : List Hd} {k : Nat} {s : Bs} {p : Nat} {t : Bs} {q : Nat} (hp : p ≤ s.length) (h : nameR L k s p = .ok t q) : p ≤ q ∧ q ≤ s.length := by
  unfold nameR at h
  split at h
  · have := textR_ge hp h; omega
  · unfold entR at h
    cases e : (ents L)[k - 1]? with
    | none => rw [e] at h; cases h
    | some x => rw [e] at h; cases h; omega
theorem freshR_len {L : List Hd} {k : Nat} {s : Bs} {p : Nat} {h : Hd} {q B : Nat} (hL : weights L ≤ B) (hB : B ≤ 200) (hp : p ≤ s.length) (hf : freshR L k s p = .ok h q) : h.n.length ≤ 200 ∧ h.v.length ≤ 32 ∧ q ≤ s.length := by
  unfold freshR at hf
  cases e : nameR L k s p with
  | bad q => rw [e] at hf; cases hf
  | ok n q1 =>
    rw [e] at hf
    have h1 := nameR_at hp e
    simp only at hf
    cases e2 : textR false s q1 with
    | bad q => rw [e2] at hf; cases hf
    | ok v q2 =>
      rw [e2] at hf
      have h2 := textR_ge h1.2 e2
      cases hf
      refine ⟨?_, h2.2.2, h2.2.1⟩
      unfold nameR at e
      split at e
      · have := textR_ge hp e; simp only; omega
      · unfold entR at e
        cases e3 : (ents L)[k - 1]? with
        | none => rw [e3] at e; cases e
        | some x =>
          rw [e3] at e
          cases e
          have hm := List.mem_of_getElem? e3
          unfold ents at hm
          rw [List.mem_append] at hm
          rcases hm with hm | hm
          · simp [fixedL] at hm
            rcases hm with rfl | rfl | rfl | rfl <;> simp
          · have := weights_mem hm
            unfold Hd.weight at this
            simp only
            omega
end Lk
theorem bname_zero (b : Nat) (s : ByteArray) (p B : Nat) (L : List Lk.Hd) (v : Value) (w : World) (hs : s.size ≤ 2 ^ 48) (hp : p ≤ s.size) (hK : Blk w b s p B L v) :
    Calls Tryz.prog 186 #[.pointer (some ⟨b, 0, none⟩), .int .i64 0] w fun e w' =>
      e = .returned (.tuple #[.string (bs (textOf (Lk.textR true s.data.toList p))), .bool (Lk.textR true s.data.toList p).good]) ∧ Blk w' b s (Lk.textR true s.data.toList p).at B L v ∧ Turns b w w' := by
  have HC := hide (fun w (hK : Blk w b s p B L v) => bwritten_name b s p B L v w hs hp hK)
  have HK := hide hK
  clear hK
  generalize Lk.textR true s.data.toList p = R at *
  go_enter Tryz.func186, Tryz.ntmps186
  go_wp2_with fail
  refine (nameRule_any _).mono ?_
  rintro e w1 ⟨rfl, hb⟩
  go_wp2_with fail
  refine (uh HC _ ((uh HK).below hb)).mono ?_
  rintro e w2 ⟨rfl, hK2, hT⟩
  go_wp2_with fail
  go_ret2
  exact ⟨rfl, hK2, (Below.turns hb b).trans hT⟩
theorem bname_ent (b : Nat) (s : ByteArray) (p k B : Nat) (L : List Lk.Hd) (v : Value) (w : World) (hk : 0 < k) (hk2 : k ≤ 2 ^ 40) (hp : 0 < p) (hps : p ≤ 2 ^ 50) (hK : Blk w b s p B L v) :
    Calls Tryz.prog 186 #[.pointer (some ⟨b, 0, none⟩), .int .i64 k] w fun e w' =>
      e = .returned (.tuple #[.string (bs (hdOf (Lk.entR L (k - 1) p)).n), .bool (Lk.entR L (k - 1) p).good]) ∧ Blk w' b s (Lk.entR L (k - 1) p).at B L v ∧ Turns b w w' := by
  have HC := hide (fun w (hK : Blk w b s p B L v) => bentry_any b s p (k - 1) B L v w (by omega) hp hps hK)
  have HK := hide hK
  have hk0 : ((k : Int) == 0) = false := by rw [beq_eq_false_iff_ne]; omega
  clear hK
  generalize Lk.entR L (k - 1) p = R at *
  rw [show ((k - 1 : Nat) : Int) = (k : Int) - 1 by omega] at HC
  go_enter Tryz.func186, Tryz.ntmps186
  go_wp2_with fail
  refine (uh HC _ (uh HK)).mono ?_
  rintro e w2 ⟨rfl, hK2, hT⟩
  go_wp2_with fail
  go_ret2
  exact ⟨rfl, hK2.alloc _, hT.alloc _⟩
def nameOf : Lk.PR Lk.Bs → Lk.Bs
  | .ok t _ => t
  | .bad _ => []
theorem bname_any (b : Nat) (s : ByteArray) (p k B : Nat) (L : List Lk.Hd) (v : Value) (w : World) (hs : s.size ≤ 2 ^ 48) (hk2 : k ≤ 2 ^ 40) (hp : 0 < p) (hps : p ≤ s.size) (hK : Blk w b s p B L v) :
    Calls Tryz.prog 186 #[.pointer (some ⟨b, 0, none⟩), .int .i64 k] w fun e w' =>
      e = .returned (.tuple #[.string (bs (nameOf (Lk.nameR L k s.data.toList p))), .bool (Lk.nameR L k s.data.toList p).good]) ∧ Blk w' b s (Lk.nameR L k s.data.toList p).at B L v ∧ Turns b w w' := by
  unfold Lk.nameR
  by_cases hk : k = 0
  · subst hk
    rw [if_pos rfl]
    refine (bname_zero b s p B L v w hs hps hK).mono ?_
    rintro e w' ⟨rfl, h1, h2⟩
    refine ⟨?_, h1, h2⟩
    cases Lk.textR true s.data.toList p <;> rfl
  · rw [if_neg hk]
    refine (bname_ent b s p k B L v w (by omega) hk2 hp (by omega) hK).mono ?_
    rintro e w' ⟨rfl, h1, h2⟩
    cases hr : Lk.entR L (k - 1) p with
    | ok h q => rw [hr] at h1; exact ⟨rfl, h1, h2⟩
    | bad q => rw [hr] at h1; exact ⟨rfl, h1, h2⟩
theorem bfresh_any (b : Nat) (s : ByteArray) (p k B : Nat) (L : List Lk.Hd) (v : Value) (w : World) (hs : s.size ≤ 2 ^ 48) (hk2 : k ≤ 2 ^ 40) (hp : 0 < p) (hps : p ≤ s.size) (hK : Blk w b s p B L v) :
    Calls Tryz.prog 179 #[.pointer (some ⟨b, 0, none⟩), .int .i64 k] w fun e w' =>
      (∃ hx, e = .returned (.tuple #[hdA hx, .bool (Lk.freshR L k s.data.toList p).good]) ∧ ∀ h q, Lk.freshR L k s.data.toList p = .ok h q → hx = h) ∧ Blk w' b s (Lk.freshR L k s.data.toList p).at B L v ∧ Turns b w w' := by
  have HK0 := hide (hK.alloc (.cells #[.string ⟨#[]⟩, .string ⟨#[]⟩] 112))
  have HX := hide (Is.new w 112 [.string ⟨#[]⟩, .string ⟨#[]⟩])
  have hT0 := (Turns.refl b w).alloc (.cells #[.string ⟨#[]⟩, .string ⟨#[]⟩] 112)
  have hbl := hK.blk.lt
  have HK := hide hK
  clear hK
  cases hn : Lk.nameR L k s.data.toList p with
  | bad q =>
    have hR : Lk.freshR L k s.data.toList p = .bad q := by unfold Lk.freshR; rw [hn]
    rw [hR]
    have hC := bname_any b s p k B L v _ hs hk2 hp hps (uh HK0)
    rw [hn] at hC
    have HC := hide hC
    clear hC hR hn
    go_enter Tryz.func179, Tryz.ntmps179
    go_wp2_with fail
    refine (uh HC).mono ?_
    rintro e w1 ⟨rfl, hK1, hT1⟩
    simp only [nameOf, Lk.PR.good, Lk.PR.at] at hK1 ⊢
    have hX1 := (uh HX).grown hT1 (by simp; omega)
    have c0 := hX1.cell 0
    have c1 := hX1.cell 1
    have f0 := hX1.free 0
    have f1 := hX1.free 1
    have hXl := hX1.lt
    simp only [List.getElem?_cons_zero, List.getElem?_cons_succ] at c0 c1
    have HK1 := hide hK1
    clear hK1 hX1
    go_wp2_with fail
    have hTT := ((hT0.trans hT1).setFar (a := ⟨w.heap.size, 0, none⟩) (Nat.le_refl _) (.string (bs zeroHd.n))).setFar (a := ⟨w.heap.size, 1, none⟩) (Nat.le_refl _) (.string (bs zeroHd.v))
    refine bodyPost_ret (v := .tuple #[hdA zeroHd, .bool false]) (by simp [results, Tryz.results179, go_sem, c0, c1, zeroHd, bs]) rfl ⟨⟨zeroHd, rfl, fun h q e => by cases e⟩, (uh HK).turns hTT ((((uh HK1).blk.other _ _ (by simp; omega)).other _ _ (by simp; omega))), hTT⟩
  | ok t q =>
    have hqb := Lk.nameR_at (L := L) (k := k) (s := s.data.toList) (by rw [← size_list]; exact hps) hn
    rw [← size_list] at hqb
    have hC := bname_any b s p k B L v _ hs hk2 hp hps (uh HK0)
    rw [hn] at hC
    have HC := hide hC
    have HC2 := hide (fun w (hK : Blk w b s q B L v) => bwritten_value b s q B L v w hs (by omega) hK)
    have hfr : (Lk.freshR L k s.data.toList p).good = (Lk.textR false s.data.toList q).good ∧ (Lk.freshR L k s.data.toList p).at = (Lk.textR false s.data.toList q).at ∧ ∀ h q', Lk.freshR L k s.data.toList p = .ok h q' → (⟨t, textOf (Lk.textR false s.data.toList q)⟩ : Lk.Hd) = h := by
      unfold Lk.freshR
      rw [hn]
      simp only
      cases Lk.textR false s.data.toList q with
      | bad q' => exact ⟨rfl, rfl, fun _ _ e => by cases e⟩
      | ok u q' => exact ⟨rfl, rfl, fun _ _ e => by cases e; rfl⟩
    obtain ⟨hg, ha, hh⟩ := hfr
    rw [hg, ha]
    have HH := hide hh
    clear hC hn hg ha hh
    generalize Lk.textR false s.data.toList q = R2 at *
    go_enter Tryz.func179, Tryz.ntmps179
    go_wp2_with fail
    refine (uh HC).mono ?_
    rintro e w1 ⟨rfl, hK1, hT1⟩
    simp only [nameOf, Lk.PR.good, Lk.PR.at] at hK1 ⊢
    have hX1 := (uh HX).grown hT1 (by simp; omega)
    have HX1 := hide hX1
    have HK1 := hide hK1
    clear hK1 hX1
    go_wp2_with fail
    refine (valueRule_any _).mono ?_
    rintro e w2 ⟨rfl, hb2⟩
    go_wp2_with fail
    refine (uh HC2 _ ((uh HK1).below hb2)).mono ?_
    rintro e w3 ⟨rfl, hK3, hT3⟩
    have hX3 := ((uh HX1).below hb2 (uh HX1).lt).grown hT3 (by simp; omega)
    have c0 := hX3.cell 0
    have c1 := hX3.cell 1
    have f0 := hX3.free 0
    have f1 := hX3.free 1
    have hXl := hX3.lt
    simp only [List.getElem?_cons_zero, List.getElem?_cons_succ] at c0 c1
    have hTT := ((((hT0.trans hT1).below hb2).trans hT3).setFar (a := ⟨w.heap.size, 0, none⟩) (Nat.le_refl _) (.string (bs t))).setFar (a := ⟨w.heap.size, 1, none⟩) (Nat.le_refl _) (.string (bs (textOf R2)))
    have HK3 := hide hK3
    clear hK3 hX3
    go_wp2_with fail
    refine bodyPost_ret (v := .tuple #[hdA ⟨t, textOf R2⟩, .bool R2.good]) (by simp [results, Tryz.results179, go_sem, c0, c1]) rfl ⟨⟨⟨t, textOf R2⟩, rfl, uh HH⟩, (uh HK).turns hTT ((((uh HK3).blk.other _ _ (by simp; omega)).other _ _ (by simp; omega))), hTT⟩
end Go.Proofs.YtbkpdapagfjmmaaGreatDoor
