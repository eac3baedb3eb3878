import Derived.Test.YtbkpdapagfjmmaaGreatDoorA26
import Derived.Test.YtbkpdapagfjmmaaGreatDoorA13
set_option linter.unusedVariables false
set_option maxRecDepth 100000
set_option maxHeartbeats 16000000
namespace Go.Proofs.YtbkpdapagfjmmaaGreatDoor
open Go.RowKit
theorem oC (b : Nat) (T : TypeId) (s : ByteArray) (p n q : Nat) (more : List Value) (w : World) (hs : s.size <= maxLen) (hp : p <= s.size) (hI : Is w b T (.string s :: .int .i64 p :: more)) (hn : Lk.kT s.data.toList p = .ok n q) :
 Calls Tryz.prog 133 #[.pointer (some ⟨b, 0, none⟩)] w fun e w' => e = .returned (.tuple #[.int .i64 n, .bool true]) ∧ Is w' b T (.string s :: .int .i64 q :: more) ∧ Turns b w w' := by
 have := iZ b T s p more w hs hp hI
 unfold Lk.kT at hn
 cases e : Lk.rd 0 0 (s.data.toList.drop p) with
 | short => rw [e] at hn; cases hn
 | bad k => rw [e] at hn; cases hn
 | ok m k => rw [e] at hn this; cases hn; exact this
theorem ui (b : Nat) (T : TypeId) (s : ByteArray) (p q : Nat) (more : List Value) (w : World) (hs : s.size <= maxLen) (hp : p <= s.size) (hI : Is w b T (.string s :: .int .i64 p :: more)) (hn : Lk.kT s.data.toList p = .bad q) :
 Calls Tryz.prog 133 #[.pointer (some ⟨b, 0, none⟩)] w fun e w' => e = .returned (.tuple #[.int .i64 0, .bool false]) ∧ Is w' b T (.string s :: .int .i64 q :: more) ∧ Turns b w w' := by
 have := iZ b T s p more w hs hp hI
 unfold Lk.kT at hn
 cases e : Lk.rd 0 0 (s.data.toList.drop p) with
 | short => rw [e] at hn this; cases hn; rw [<- af]; exact this
 | bad k => rw [e] at hn this; cases hn; exact this
 | ok m k => rw [e] at hn; cases hn
def JQ : Lk.PR Lk.Bs -> Value
 | .ok t _ => .tuple #[.string (bs t), .bool true]
 | .bad _ => .tuple #[.string ⟨#[]⟩, .bool false]
theorem byte_at (s : ByteArray) (q j : Nat) (h : q + j < s.size) : (s.data.toList.drop q)[j]? = some s[q + j] := by
 rw [List.getElem?_drop, List.getElem?_eq_getElem (by rw [<- af]; exact h)]
 rfl
theorem rq (s : ByteArray) (q j : Nat) (h : s.size <= q + j) : (s.data.toList.drop q)[j]? = none := by
 rw [List.getElem?_drop, List.getElem?_eq_none (by rw [<- af]; exact h)]
theorem l7 (s : ByteArray) (q n : Nat) : s.extract q (q + n) = bs ((s.data.toList.drop q).take n) := by
 have e := dI s q (q + n)
 rw [show q + n - q = n by omega] at e
 unfold bs
 rw [<- e]
theorem Aw (b : Nat) (s : ByteArray) (p : Nat) (more : List Value) (w : World) (hs : s.size <= 2 ^ 48) (hp : p <= s.size) (R : Lk.PR Lk.Bs) (HR : Hid (Lk.bI true s.data.toList p = R))
 (hI : Is w b 208 (.string s :: .int .i64 p :: more)) :
 Calls Tryz.prog 187 #[.pointer (some ⟨b, 0, none⟩), jY] w fun e w' =>
  e = .returned (JQ R) ∧ Is w' b 208 (.string s :: .int .i64 (R.at : Nat) :: more) ∧ Turns b w w' := by
 have hsm : s.size <= maxLen := by unfold maxLen; omega
 have hI0 := hI.alloc (.cells #[.int .i64 1, .int .i64 16, .func (.func 127) #[] #[]] 182)
 have hX0 := Is.new w 182 [.int .i64 1, .int .i64 16, .func (.func 127) #[] #[]]
 have hT0 := (Turns.refl b w).alloc (.cells #[.int .i64 1, .int .i64 16, .func (.func 127) #[] #[]] 182)
 have hbl := hI.lt
 have P5 := hI0
 clear hI
 cases hn : Lk.kT s.data.toList p with
 | bad q =>
   have hR : R = .bad q := by rw [<- uh HR]; unfold Lk.bI; rw [hn]
   subst hR
   have HC := hide (ui b _ s p q more _ hsm hp hI0 hn)
   clear hn hI0 P5 hX0
   go_enter Tryz.func187, Tryz.ntmps187
   go_wp2_with fail
   refine (uh HC).mono ?_
   rintro e w1 ⟨rfl, hI1, hT1⟩
   go_wp2_with fail
   go_ret2
   exact ⟨rfl, hI1, hT0.trans hT1⟩
 | ok n q =>
   have hq := Lk.iq (by rw [<- af]; exact hp) hn
   rw [<- af] at hq
   have HC := hide (oC b _ s p n q more _ hsm hp hI0 hn)
   have HNR := hide hn
   clear hn hI0
   go_enter Tryz.func187, Tryz.ntmps187
   go_wp2_with fail
   refine (uh HC).mono ?_
   rintro e w1 ⟨rfl, hI1, hT1⟩
   have hT2 := hT0.trans hT1
   have hX1 := hX0.grown hT1 (fun e => hX0.ne P5 (nbq rfl) (by simpa using e))
   have c0 := hX1.cell 0
   have c1 := hX1.cell 1
   simp only [List.getElem?_cons_zero, List.getElem?_cons_succ] at c0 c1
   have hXl := hX1.lt
   have d1 := hI1.cell 1
   have f1 := hI1.free 1
   simp only [List.getElem?_cons_zero, List.getElem?_cons_succ] at d1
   clear hX0 P5 hT0 hT1 HC
   by_cases hl : 1 <= (n : Int) ∧ (n : Int) <= 16
   . go_wp2_with fail
     refine (gZ 1 16 _ _).mono ?_
     rintro e w2 ⟨rfl, hb2⟩
     have hl1 : 1 <= (n : Int) := hl.1
     have hl2 : (n : Int) <= 16 := hl.2
     have hI2 := hI1.below hb2 hI1.lt
     have hX2 := hX1.below hb2 hX1.lt
     have hT3 := hT2.below hb2
     have HTR := hide (show R = (if Lk.upto Lk.aG n (s.data.toList.drop q) = n then .ok ((s.data.toList.drop q).take n) (q + n) else .bad (q + Lk.upto Lk.aG n (s.data.toList.drop q))) by
      rw [<- uh HR]; unfold Lk.bI; rw [uh HNR]; simp only
      rw [if_pos]
      . rfl
      . simp only [Lk.jM, if_true, decide_eq_true_eq]
        omega)
     have d1 := hI2.cell 1
     simp only [List.getElem?_cons_zero, List.getElem?_cons_succ] at d1
     clear c0 c1 hI1 hX1 hT2 hb2 hl
     go_wp2_with fail
     go_loopw [40] (fun u wr => ∃ j : Nat, u = .int .i64 j ∧ j <= n ∧ q + j <= s.size ∧ Is wr b 208 (.string s :: .int .i64 ((q + j : Nat) : Int) :: more) ∧ Is wr w.heap.size 182 [.int .i64 1, .int .i64 16, .func (.func 127) #[] #[]] ∧ Hid (∀ i, i < j -> ∃ c, (s.data.toList.drop q)[i]? = some c ∧ Lk.aG c = true) ∧ Turns b w wr) (fun u _ => n - (intOf u).toNat)
     case atStart => exact ⟨0, rfl, by omega, by omega, hI2, hX2, fun i hi => by omega, hT3⟩
     case round =>
      obtain ⟨j, rfl, hj, hqj, hIr, hXr, HJ, hTr⟩ := hrel
      clear hI2 hX2 hT3 d1 f1
      have hbg : some w.heap.size ≠ some b := fun e => hXr.ne hIr (nbq rfl) (by simpa using e)
      by_cases hlt : j < n
      . have hlt' : (j : Int) < n := by omega
        by_cases hend : q + j < s.size
        . go_wp2_with fail
          refine (xN b _ s (q + j) more _ hsm hend hIr).mono ?_
          rintro e w3 ⟨rfl, hI3, hT3⟩
          have hX3 := hXr.grown hT3 hbg
          have hT4 := hTr.trans hT3
          have c2 := hX3.cell 2
          simp only [List.getElem?_cons_zero, List.getElem?_cons_succ] at c2
          have hXl := hX3.lt
          clear hIr hXr hTr hT3
          generalize hQ : Lk.aG s[q + j] = Q
          have HQ := hide hQ
          have HL := hide (show ∀ w, Calls Tryz.prog 127 #[.int .u8 s[q + j].toNat] w fun e w' => e = .returned (.bool Q) ∧ w' = w from fun w => by rw [<- hQ]; exact wM s[q + j] w)
          clear hQ
          go_wp2_with fail
          refine (uh HL _).mono ?_
          rintro e w4 ⟨rfl, rfl⟩
          have d1 := hI3.cell 1
          have f1 := hI3.free 1
          simp only [List.getElem?_cons_zero, List.getElem?_cons_succ] at d1
          cases Q
          . have hu := Lk.ik Lk.aG n j (s.data.toList.drop q) (by omega) (uh HJ) (.inr (.inr ⟨_, byte_at s q j hend, uh HQ⟩))
            have hR := uh HTR
            rw [hu, if_neg (by omega)] at hR
            subst hR
            have HI3 := hide hI3
            clear hI3
            go_wp2_with fail
            go_ret2
            refine ⟨rfl, ?_, hT4.set _ _⟩
            have := (uh HI3).set 1 (.int .i64 (((q + j : Nat) : Int)))
            first | exact this | done
          . go_wp2_with fail
            go_roundw
            case rel =>
             refine ⟨j + 1, by simp, by omega, by omega, hI3, hX3, fun i hi => ?_, hT4⟩
             rcases Nat.lt_succ_iff_lt_or_eq.1 hi with hi | rfl
             . exact uh HJ i hi
             . exact ⟨_, byte_at s q i hend, uh HQ⟩
            case measure => simp [intOf]; omega
        . have hu := Lk.ik Lk.aG n j (s.data.toList.drop q) (by omega) (uh HJ) (.inr (.inl (rq s q j (by omega))))
          have hR := uh HTR
          rw [hu, if_neg (by omega)] at hR
          subst hR
          go_wp2_with fail
          refine (I7 b _ s (q + j) more _ hsm (by omega) hIr).mono ?_
          rintro e w3 ⟨rfl, hI3, hT3⟩
          go_wp2_with fail
          go_ret2
          exact ⟨rfl, hI3, hTr.trans hT3⟩
      . have hlt' : ¬ (j : Int) < n := by omega
        have hjn : j = n := by omega
        subst hjn
        have hu := Lk.ik Lk.aG j j (s.data.toList.drop q) (by omega) (uh HJ) (.inl rfl)
        have hR := uh HTR
        rw [hu, if_pos rfl] at hR
        subst hR
        have d0 := hIr.cell 0
        have d1 := hIr.cell 1
        simp only [List.getElem?_cons_zero, List.getElem?_cons_succ] at d0 d1
        have hbr := hIr.lt
        have hi1 : (q : Int) <= ((q + j : Nat) : Int) := by omega
        have hi2 : ((q + j : Nat) : Int) <= s.size := by omega
        have hsx : (s.extract q (q + j)).size <= 1000 := by rw [ByteArray.size_extract]; omega
        go_wp2_with fail
        go_region_with (go_at_call 70; refine (clone_any (s.extract q (q + j)) _ hsx).mono ?_; rintro e wx ⟨rfl, hbx⟩)
        all_goals
         go_wp2_with fail
         go_ret2
         have Rx : Below wr.heap.size wr wx := ⟨hbx.os, hbx.tape, hbx.output, hbx.size, hbx.block⟩
         refine ⟨?_, hIr.below Rx hbr, hTr.below Rx⟩
         rw [JQ, <- l7]
         rfl
   . have hbad : R = .bad (q - 1) := by
      rw [<- uh HR]; unfold Lk.bI; rw [uh HNR]; simp only
      rw [if_neg]
      simp only [Lk.jM, if_true, decide_eq_true_eq]
      omega
     subst hbad
     go_wp2_with fail
     refine (gZ 1 16 _ _).mono ?_
     rintro e w2 ⟨rfl, hb2⟩
     have hd : decide (1 <= (n : Int) ∧ (n : Int) <= 16) = false := by simpa using hl
     have hI2 := hI1.below hb2 hI1.lt
     have d1 := hI2.cell 1
     have f1 := hI2.free 1
     simp only [List.getElem?_cons_zero, List.getElem?_cons_succ] at d1
     have HI2 := hide hI2
     clear hI1 hI2 c0 c1
     go_wp2_with fail
     go_ret2
     refine ⟨rfl, ?_, (hT2.below hb2).set _ _⟩
     have := (uh HI2).set 1 (.int .i64 ((q : Int) - 1))
     show Is _ _ _ (.string s :: .int .i64 ((q - 1 : Nat) : Int) :: more)
     rw [show ((q - 1 : Nat) : Int) = (q : Int) - 1 by omega]
     exact this
theorem yC (b : Nat) (s : ByteArray) (p : Nat) (more : List Value) (w : World) (hs : s.size <= 2 ^ 48) (hp : p <= s.size) (R : Lk.PR Lk.Bs) (HR : Hid (Lk.bI false s.data.toList p = R))
 (hI : Is w b 208 (.string s :: .int .i64 p :: more)) :
 Calls Tryz.prog 187 #[.pointer (some ⟨b, 0, none⟩), valueR] w fun e w' =>
  e = .returned (JQ R) ∧ Is w' b 208 (.string s :: .int .i64 (R.at : Nat) :: more) ∧ Turns b w w' := by
 have hsm : s.size <= maxLen := by unfold maxLen; omega
 have hI0 := hI.alloc (.cells #[.int .i64 0, .int .i64 32, .func (.func 129) #[] #[]] 182)
 have hX0 := Is.new w 182 [.int .i64 0, .int .i64 32, .func (.func 129) #[] #[]]
 have hT0 := (Turns.refl b w).alloc (.cells #[.int .i64 0, .int .i64 32, .func (.func 129) #[] #[]] 182)
 have hbl := hI.lt
 have P5 := hI0
 clear hI
 cases hn : Lk.kT s.data.toList p with
 | bad q =>
   have hR : R = .bad q := by rw [<- uh HR]; unfold Lk.bI; rw [hn]
   subst hR
   have HC := hide (ui b _ s p q more _ hsm hp hI0 hn)
   clear hn hI0 P5 hX0
   go_enter Tryz.func187, Tryz.ntmps187
   go_wp2_with fail
   refine (uh HC).mono ?_
   rintro e w1 ⟨rfl, hI1, hT1⟩
   go_wp2_with fail
   go_ret2
   exact ⟨rfl, hI1, hT0.trans hT1⟩
 | ok n q =>
   have hq := Lk.iq (by rw [<- af]; exact hp) hn
   rw [<- af] at hq
   have HC := hide (oC b _ s p n q more _ hsm hp hI0 hn)
   have HNR := hide hn
   clear hn hI0
   go_enter Tryz.func187, Tryz.ntmps187
   go_wp2_with fail
   refine (uh HC).mono ?_
   rintro e w1 ⟨rfl, hI1, hT1⟩
   have hT2 := hT0.trans hT1
   have hX1 := hX0.grown hT1 (fun e => hX0.ne P5 (nbq rfl) (by simpa using e))
   have c0 := hX1.cell 0
   have c1 := hX1.cell 1
   simp only [List.getElem?_cons_zero, List.getElem?_cons_succ] at c0 c1
   have hXl := hX1.lt
   have d1 := hI1.cell 1
   have f1 := hI1.free 1
   simp only [List.getElem?_cons_zero, List.getElem?_cons_succ] at d1
   clear hX0 P5 hT0 hT1 HC
   by_cases hl : 0 <= (n : Int) ∧ (n : Int) <= 32
   . go_wp2_with fail
     refine (gZ 0 32 _ _).mono ?_
     rintro e w2 ⟨rfl, hb2⟩
     have hl1 : 0 <= (n : Int) := hl.1
     have hl2 : (n : Int) <= 32 := hl.2
     have hI2 := hI1.below hb2 hI1.lt
     have hX2 := hX1.below hb2 hX1.lt
     have hT3 := hT2.below hb2
     have HTR := hide (show R = (if Lk.upto Lk.aB n (s.data.toList.drop q) = n then .ok ((s.data.toList.drop q).take n) (q + n) else .bad (q + Lk.upto Lk.aB n (s.data.toList.drop q))) by
      rw [<- uh HR]; unfold Lk.bI; rw [uh HNR]; simp only
      rw [if_pos]
      . rfl
      . simp only [Lk.jM, Bool.false_eq_true, if_false, decide_eq_true_eq]
        omega)
     have d1 := hI2.cell 1
     simp only [List.getElem?_cons_zero, List.getElem?_cons_succ] at d1
     clear c0 c1 hI1 hX1 hT2 hb2 hl
     go_wp2_with fail
     go_loopw [40] (fun u wr => ∃ j : Nat, u = .int .i64 j ∧ j <= n ∧ q + j <= s.size ∧ Is wr b 208 (.string s :: .int .i64 ((q + j : Nat) : Int) :: more) ∧ Is wr w.heap.size 182 [.int .i64 0, .int .i64 32, .func (.func 129) #[] #[]] ∧ Hid (∀ i, i < j -> ∃ c, (s.data.toList.drop q)[i]? = some c ∧ Lk.aB c = true) ∧ Turns b w wr) (fun u _ => n - (intOf u).toNat)
     case atStart => exact ⟨0, rfl, by omega, by omega, hI2, hX2, fun i hi => by omega, hT3⟩
     case round =>
      obtain ⟨j, rfl, hj, hqj, hIr, hXr, HJ, hTr⟩ := hrel
      clear hI2 hX2 hT3 d1 f1
      have hbg : some w.heap.size ≠ some b := fun e => hXr.ne hIr (nbq rfl) (by simpa using e)
      by_cases hlt : j < n
      . have hlt' : (j : Int) < n := by omega
        by_cases hend : q + j < s.size
        . go_wp2_with fail
          refine (xN b _ s (q + j) more _ hsm hend hIr).mono ?_
          rintro e w3 ⟨rfl, hI3, hT3⟩
          have hX3 := hXr.grown hT3 hbg
          have hT4 := hTr.trans hT3
          have c2 := hX3.cell 2
          simp only [List.getElem?_cons_zero, List.getElem?_cons_succ] at c2
          have hXl := hX3.lt
          clear hIr hXr hTr hT3
          generalize hQ : Lk.aB s[q + j] = Q
          have HQ := hide hQ
          have HL := hide (show ∀ w, Calls Tryz.prog 129 #[.int .u8 s[q + j].toNat] w fun e w' => e = .returned (.bool Q) ∧ w' = w from fun w => by rw [<- hQ]; exact tH s[q + j] w)
          clear hQ
          go_wp2_with fail
          refine (uh HL _).mono ?_
          rintro e w4 ⟨rfl, rfl⟩
          have d1 := hI3.cell 1
          have f1 := hI3.free 1
          simp only [List.getElem?_cons_zero, List.getElem?_cons_succ] at d1
          cases Q
          . have hu := Lk.ik Lk.aB n j (s.data.toList.drop q) (by omega) (uh HJ) (.inr (.inr ⟨_, byte_at s q j hend, uh HQ⟩))
            have hR := uh HTR
            rw [hu, if_neg (by omega)] at hR
            subst hR
            have HI3 := hide hI3
            clear hI3
            go_wp2_with fail
            go_ret2
            refine ⟨rfl, ?_, hT4.set _ _⟩
            have := (uh HI3).set 1 (.int .i64 (((q + j : Nat) : Int)))
            first | exact this | done
          . go_wp2_with fail
            go_roundw
            case rel =>
             refine ⟨j + 1, by simp, by omega, by omega, hI3, hX3, fun i hi => ?_, hT4⟩
             rcases Nat.lt_succ_iff_lt_or_eq.1 hi with hi | rfl
             . exact uh HJ i hi
             . exact ⟨_, byte_at s q i hend, uh HQ⟩
            case measure => simp [intOf]; omega
        . have hu := Lk.ik Lk.aB n j (s.data.toList.drop q) (by omega) (uh HJ) (.inr (.inl (rq s q j (by omega))))
          have hR := uh HTR
          rw [hu, if_neg (by omega)] at hR
          subst hR
          go_wp2_with fail
          refine (I7 b _ s (q + j) more _ hsm (by omega) hIr).mono ?_
          rintro e w3 ⟨rfl, hI3, hT3⟩
          go_wp2_with fail
          go_ret2
          exact ⟨rfl, hI3, hTr.trans hT3⟩
      . have hlt' : ¬ (j : Int) < n := by omega
        have hjn : j = n := by omega
        subst hjn
        have hu := Lk.ik Lk.aB j j (s.data.toList.drop q) (by omega) (uh HJ) (.inl rfl)
        have hR := uh HTR
        rw [hu, if_pos rfl] at hR
        subst hR
        have d0 := hIr.cell 0
        have d1 := hIr.cell 1
        simp only [List.getElem?_cons_zero, List.getElem?_cons_succ] at d0 d1
        have hbr := hIr.lt
        have hi1 : (q : Int) <= ((q + j : Nat) : Int) := by omega
        have hi2 : ((q + j : Nat) : Int) <= s.size := by omega
        have hsx : (s.extract q (q + j)).size <= 1000 := by rw [ByteArray.size_extract]; omega
        go_wp2_with fail
        go_region_with (go_at_call 70; refine (clone_any (s.extract q (q + j)) _ hsx).mono ?_; rintro e wx ⟨rfl, hbx⟩)
        all_goals
         go_wp2_with fail
         go_ret2
         have Rx : Below wr.heap.size wr wx := ⟨hbx.os, hbx.tape, hbx.output, hbx.size, hbx.block⟩
         refine ⟨?_, hIr.below Rx hbr, hTr.below Rx⟩
         rw [JQ, <- l7]
         rfl
   . have hbad : R = .bad (q - 1) := by
      rw [<- uh HR]; unfold Lk.bI; rw [uh HNR]; simp only
      rw [if_neg]
      simp only [Lk.jM, Bool.false_eq_true, if_false, decide_eq_true_eq]
      omega
     subst hbad
     go_wp2_with fail
     refine (gZ 0 32 _ _).mono ?_
     rintro e w2 ⟨rfl, hb2⟩
     have hd : decide ((n : Int) <= 32) = false := by simpa using hl
     have hI2 := hI1.below hb2 hI1.lt
     have d1 := hI2.cell 1
     have f1 := hI2.free 1
     simp only [List.getElem?_cons_zero, List.getElem?_cons_succ] at d1
     have HI2 := hide hI2
     clear hI1 hI2 c0 c1
     go_wp2_with fail
     go_ret2
     refine ⟨rfl, ?_, (hT2.below hb2).set _ _⟩
     have := (uh HI2).set 1 (.int .i64 ((q : Int) - 1))
     show Is _ _ _ (.string s :: .int .i64 ((q - 1 : Nat) : Int) :: more)
     rw [show ((q - 1 : Nat) : Int) = (q : Int) - 1 by omega]
     exact this
end Go.Proofs.YtbkpdapagfjmmaaGreatDoor
