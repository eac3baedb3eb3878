import Derived.Test.YtbkpdapagfjmmaaGreatDoorMU2PW
import Derived.Test.YtbkpdapagfjmmaaGreatDoorMFAO1
/-
  Walks: a name or a value is read of a block.
-/
namespace Go.Proofs.YtbkpdapagfjmmaaGreatDoor
open Go.RowKit

theorem number_ok (b : Nat) (T : TypeId) (s : ByteArray) (p n q : Nat) (more : List Value) (w : World) (hs : s.size ≤ maxLen) (hp : p ≤ s.size) (hI : Is w b T (.string s :: .int .i64 p :: more)) (hn : Lk.numR s.data.toList p = .ok n q) :
    Calls Tryz.prog 133 #[.pointer (some ⟨b, 0, none⟩)] w fun e w' => e = .returned (.tuple #[.int .i64 n, .bool true]) ∧ Is w' b T (.string s :: .int .i64 q :: more) ∧ Turns b w w' := by
  have := number_any b T s p more w hs hp hI
  unfold Lk.numR at hn
  cases e : Lk.rd 0 0 (s.data.toList.drop p) with
  | short => rw [e] at hn; cases hn
  | bad k => rw [e] at hn; cases hn
  | ok m k => rw [e] at hn this; cases hn; exact this
theorem number_no (b : Nat) (T : TypeId) (s : ByteArray) (p q : Nat) (more : List Value) (w : World) (hs : s.size ≤ maxLen) (hp : p ≤ s.size) (hI : Is w b T (.string s :: .int .i64 p :: more)) (hn : Lk.numR s.data.toList p = .bad q) :
    Calls Tryz.prog 133 #[.pointer (some ⟨b, 0, none⟩)] w fun e w' => e = .returned (.tuple #[.int .i64 0, .bool false]) ∧ Is w' b T (.string s :: .int .i64 q :: more) ∧ Turns b w w' := by
  have := number_any b T s p more w hs hp hI
  unfold Lk.numR at hn
  cases e : Lk.rd 0 0 (s.data.toList.drop p) with
  | short => rw [e] at hn this; cases hn; rw [← size_list]; exact this
  | bad k => rw [e] at hn this; cases hn; exact this
  | ok m k => rw [e] at hn; cases hn

def textV : Lk.PR Lk.Bs → Value
  | .ok t _ => .tuple #[.string (bs t), .bool true]
  | .bad _ => .tuple #[.string ⟨#[]⟩, .bool false]

theorem byte_at (s : ByteArray) (q j : Nat) (h : q + j < s.size) : (s.data.toList.drop q)[j]? = some s[q + j] := by
  rw [List.getElem?_drop, List.getElem?_eq_getElem (by rw [← size_list]; exact h)]
  rfl
theorem byte_end (s : ByteArray) (q j : Nat) (h : s.size ≤ q + j) : (s.data.toList.drop q)[j]? = none := by
  rw [List.getElem?_drop, List.getElem?_eq_none (by rw [← size_list]; exact h)]
theorem extract_bs (s : ByteArray) (q n : Nat) : s.extract q (q + n) = bs ((s.data.toList.drop q).take n) := by
  have e := extract_list s q (q + n)
  rw [show q + n - q = n by omega] at e
  unfold bs
  rw [← e]

set_option maxHeartbeats 2000000 in
set_option maxRecDepth 100000 in
theorem written_name (b : Nat) (s : ByteArray) (p : Nat) (more : List Value) (w : World) (hs : s.size ≤ 2 ^ 48) (hp : p ≤ s.size) (R : Lk.PR Lk.Bs) (HR : Hid (Lk.textR true s.data.toList p = R))
    (hI : Is w b 208 (.string s :: .int .i64 p :: more)) :
    Calls Tryz.prog 187 #[.pointer (some ⟨b, 0, none⟩), nameR] w fun e w' =>
      e = .returned (textV R) ∧ Is w' b 208 (.string s :: .int .i64 (R.at : Nat) :: more) ∧ Turns b w w' := by
  have hsm : s.size ≤ maxLen := by unfold maxLen; omega
  have hI0 := hI.alloc (.cells #[.int .i64 1, .int .i64 16, .func (.func 127) #[] #[]] 182)
  have hX0 := Is.new w 182 [.int .i64 1, .int .i64 16, .func (.func 127) #[] #[]]
  have hT0 := (Turns.refl b w).alloc (.cells #[.int .i64 1, .int .i64 16, .func (.func 127) #[] #[]] 182)
  have hbl := hI.lt
  have hI0' := hI0
  clear hI
  cases hn : Lk.numR s.data.toList p with
  | bad q =>
    have hR : R = .bad q := by rw [← unhide HR]; unfold Lk.textR; rw [hn]
    subst hR
    have HC := hide (number_no b _ s p q more _ hsm hp hI0 hn)
    clear hn hI0 hI0' hX0
    go_enter Tryz.func187, Tryz.ntmps187
    go_wp2_with fail
    refine (unhide HC).mono ?_
    rintro e w1 ⟨rfl, hI1, hT1⟩
    go_wp2_with fail
    go_ret2
    exact ⟨rfl, hI1, hT0.trans hT1⟩
  | ok n q =>
    have hq := Lk.numR_ge (by rw [← size_list]; exact hp) hn
    rw [← size_list] at hq
    have HC := hide (number_ok b _ s p n q more _ hsm hp hI0 hn)
    have HNR := hide hn
    clear hn hI0
    go_enter Tryz.func187, Tryz.ntmps187
    go_wp2_with fail
    refine (unhide HC).mono ?_
    rintro e w1 ⟨rfl, hI1, hT1⟩
    have hT2 := hT0.trans hT1
    have hX1 := hX0.grown hT1 (fun e => hX0.ne hI0' (Nat.ne_of_beq_eq_false rfl) (by simpa using e))
    have c0 := hX1.cell 0
    have c1 := hX1.cell 1
    simp only [List.getElem?_cons_zero, List.getElem?_cons_succ] at c0 c1
    have hXl := hX1.lt
    have d1 := hI1.cell 1
    have f1 := hI1.free 1
    simp only [List.getElem?_cons_zero, List.getElem?_cons_succ] at d1
    clear hX0 hI0' hT0 hT1 HC
    by_cases hl : 1 ≤ (n : Int) ∧ (n : Int) ≤ 16
    · go_wp2_with fail
      refine (holds_any 1 16 _ _).mono ?_
      rintro e w2 ⟨rfl, hb2⟩
      have hl1 : 1 ≤ (n : Int) := hl.1
      have hl2 : (n : Int) ≤ 16 := hl.2
      have hI2 := hI1.below hb2 hI1.lt
      have hX2 := hX1.below hb2 hX1.lt
      have hT3 := hT2.below hb2
      have HTR := hide (show R = (if Lk.upto Lk.nameByte n (s.data.toList.drop q) = n then .ok ((s.data.toList.drop q).take n) (q + n) else .bad (q + Lk.upto Lk.nameByte n (s.data.toList.drop q))) by
        rw [← unhide HR]; unfold Lk.textR; rw [unhide HNR]; simp only
        rw [if_pos]
        · rfl
        · simp only [Lk.lenOk, if_true, decide_eq_true_eq]
          omega)
      have d1 := hI2.cell 1
      simp only [List.getElem?_cons_zero, List.getElem?_cons_succ] at d1
      clear c0 c1 hI1 hX1 hT2 hb2 hl
      go_wp2_with fail
      go_loopw [40] (fun u wr => ∃ j : Nat, u = .int .i64 j ∧ j ≤ n ∧ q + j ≤ s.size ∧ Is wr b 208 (.string s :: .int .i64 ((q + j : Nat) : Int) :: more) ∧ Is wr w.heap.size 182 [.int .i64 1, .int .i64 16, .func (.func 127) #[] #[]] ∧ Hid (∀ i, i < j → ∃ c, (s.data.toList.drop q)[i]? = some c ∧ Lk.nameByte c = true) ∧ Turns b w wr) (fun u _ => n - (intOf u).toNat)
      case atStart => exact ⟨0, rfl, by omega, by omega, hI2, hX2, fun i hi => by omega, hT3⟩
      case round =>
        obtain ⟨j, rfl, hj, hqj, hIr, hXr, HJ, hTr⟩ := hrel
        clear hI2 hX2 hT3 d1 f1
        have hbg : some w.heap.size ≠ some b := fun e => hXr.ne hIr (Nat.ne_of_beq_eq_false rfl) (by simpa using e)
        by_cases hlt : j < n
        · have hlt' : (j : Int) < n := by omega
          by_cases hend : q + j < s.size
          · go_wp2_with fail
            refine (one_yes b _ s (q + j) more _ hsm hend hIr).mono ?_
            rintro e w3 ⟨rfl, hI3, hT3⟩
            have hX3 := hXr.grown hT3 hbg
            have hT4 := hTr.trans hT3
            have c2 := hX3.cell 2
            simp only [List.getElem?_cons_zero, List.getElem?_cons_succ] at c2
            have hXl := hX3.lt
            clear hIr hXr hTr hT3
            generalize hQ : Lk.nameByte s[q + j] = Q
            have HQ := hide hQ
            have HL := hide (show ∀ w, Calls Tryz.prog 127 #[.int .u8 s[q + j].toNat] w fun e w' => e = .returned (.bool Q) ∧ w' = w from fun w => by rw [← hQ]; exact isName_any s[q + j] w)
            clear hQ
            go_wp2_with fail
            refine (unhide HL _).mono ?_
            rintro e w4 ⟨rfl, rfl⟩
            have d1 := hI3.cell 1
            have f1 := hI3.free 1
            simp only [List.getElem?_cons_zero, List.getElem?_cons_succ] at d1
            cases Q
            · have hu := Lk.upto_of Lk.nameByte n j (s.data.toList.drop q) (by omega) (unhide HJ) (.inr (.inr ⟨_, byte_at s q j hend, unhide HQ⟩))
              have hR := unhide HTR
              rw [hu, if_neg (by omega)] at hR
              subst hR
              have HI3 := hide hI3
              clear hI3
              go_wp2_with fail
              go_ret2
              refine ⟨rfl, ?_, hT4.set _ _⟩
              have := (unhide HI3).set 1 (.int .i64 (((q + j : Nat) : Int)))
              first | exact this | done
            · go_wp2_with fail
              go_roundw
              case rel =>
                refine ⟨j + 1, by simp, by omega, by omega, hI3, hX3, fun i hi => ?_, hT4⟩
                rcases Nat.lt_succ_iff_lt_or_eq.1 hi with hi | rfl
                · exact unhide HJ i hi
                · exact ⟨_, byte_at s q i hend, unhide HQ⟩
              case measure => simp [intOf]; omega
          · have hu := Lk.upto_of Lk.nameByte n j (s.data.toList.drop q) (by omega) (unhide HJ) (.inr (.inl (byte_end s q j (by omega))))
            have hR := unhide HTR
            rw [hu, if_neg (by omega)] at hR
            subst hR
            go_wp2_with fail
            refine (one_no b _ s (q + j) more _ hsm (by omega) hIr).mono ?_
            rintro e w3 ⟨rfl, hI3, hT3⟩
            go_wp2_with fail
            go_ret2
            exact ⟨rfl, hI3, hTr.trans hT3⟩
        · have hlt' : ¬ (j : Int) < n := by omega
          have hjn : j = n := by omega
          subst hjn
          have hu := Lk.upto_of Lk.nameByte j j (s.data.toList.drop q) (by omega) (unhide HJ) (.inl rfl)
          have hR := unhide HTR
          rw [hu, if_pos rfl] at hR
          subst hR
          have d0 := hIr.cell 0
          have d1 := hIr.cell 1
          simp only [List.getElem?_cons_zero, List.getElem?_cons_succ] at d0 d1
          have hbr := hIr.lt
          have hi1 : (q : Int) ≤ ((q + j : Nat) : Int) := by omega
          have hi2 : ((q + j : Nat) : Int) ≤ s.size := by omega
          have hsx : (s.extract q (q + j)).size ≤ 1000 := by rw [ByteArray.size_extract]; omega
          go_wp2_with fail
          go_region_with (go_at_call 70; refine (clone_any (s.extract q (q + j)) _ hsx).mono ?_; rintro e wx ⟨rfl, hbx⟩)
          all_goals
            go_wp2_with fail
            go_ret2
            have hbx' : Below wr.heap.size wr wx := ⟨hbx.os, hbx.tape, hbx.output, hbx.size, hbx.block⟩
            refine ⟨?_, hIr.below hbx' hbr, hTr.below hbx'⟩
            rw [textV, ← extract_bs]
            rfl
    · have hbad : R = .bad (q - 1) := by
        rw [← unhide HR]; unfold Lk.textR; rw [unhide HNR]; simp only
        rw [if_neg]
        simp only [Lk.lenOk, if_true, decide_eq_true_eq]
        omega
      subst hbad
      go_wp2_with fail
      refine (holds_any 1 16 _ _).mono ?_
      rintro e w2 ⟨rfl, hb2⟩
      have hd : decide (1 ≤ (n : Int) ∧ (n : Int) ≤ 16) = false := by simpa using hl
      have hI2 := hI1.below hb2 hI1.lt
      have d1 := hI2.cell 1
      have f1 := hI2.free 1
      simp only [List.getElem?_cons_zero, List.getElem?_cons_succ] at d1
      have HI2 := hide hI2
      clear hI1 hI2 c0 c1
      go_wp2_with fail
      go_ret2
      refine ⟨rfl, ?_, (hT2.below hb2).set _ _⟩
      have := (unhide HI2).set 1 (.int .i64 ((q : Int) - 1))
      show Is _ _ _ (.string s :: .int .i64 ((q - 1 : Nat) : Int) :: more)
      rw [show ((q - 1 : Nat) : Int) = (q : Int) - 1 by omega]
      exact this

set_option maxHeartbeats 2000000 in
set_option maxRecDepth 100000 in
theorem written_value (b : Nat) (s : ByteArray) (p : Nat) (more : List Value) (w : World) (hs : s.size ≤ 2 ^ 48) (hp : p ≤ s.size) (R : Lk.PR Lk.Bs) (HR : Hid (Lk.textR false s.data.toList p = R))
    (hI : Is w b 208 (.string s :: .int .i64 p :: more)) :
    Calls Tryz.prog 187 #[.pointer (some ⟨b, 0, none⟩), valueR] w fun e w' =>
      e = .returned (textV R) ∧ Is w' b 208 (.string s :: .int .i64 (R.at : Nat) :: more) ∧ Turns b w w' := by
  have hsm : s.size ≤ maxLen := by unfold maxLen; omega
  have hI0 := hI.alloc (.cells #[.int .i64 0, .int .i64 32, .func (.func 129) #[] #[]] 182)
  have hX0 := Is.new w 182 [.int .i64 0, .int .i64 32, .func (.func 129) #[] #[]]
  have hT0 := (Turns.refl b w).alloc (.cells #[.int .i64 0, .int .i64 32, .func (.func 129) #[] #[]] 182)
  have hbl := hI.lt
  have hI0' := hI0
  clear hI
  cases hn : Lk.numR s.data.toList p with
  | bad q =>
    have hR : R = .bad q := by rw [← unhide HR]; unfold Lk.textR; rw [hn]
    subst hR
    have HC := hide (number_no b _ s p q more _ hsm hp hI0 hn)
    clear hn hI0 hI0' hX0
    go_enter Tryz.func187, Tryz.ntmps187
    go_wp2_with fail
    refine (unhide HC).mono ?_
    rintro e w1 ⟨rfl, hI1, hT1⟩
    go_wp2_with fail
    go_ret2
    exact ⟨rfl, hI1, hT0.trans hT1⟩
  | ok n q =>
    have hq := Lk.numR_ge (by rw [← size_list]; exact hp) hn
    rw [← size_list] at hq
    have HC := hide (number_ok b _ s p n q more _ hsm hp hI0 hn)
    have HNR := hide hn
    clear hn hI0
    go_enter Tryz.func187, Tryz.ntmps187
    go_wp2_with fail
    refine (unhide HC).mono ?_
    rintro e w1 ⟨rfl, hI1, hT1⟩
    have hT2 := hT0.trans hT1
    have hX1 := hX0.grown hT1 (fun e => hX0.ne hI0' (Nat.ne_of_beq_eq_false rfl) (by simpa using e))
    have c0 := hX1.cell 0
    have c1 := hX1.cell 1
    simp only [List.getElem?_cons_zero, List.getElem?_cons_succ] at c0 c1
    have hXl := hX1.lt
    have d1 := hI1.cell 1
    have f1 := hI1.free 1
    simp only [List.getElem?_cons_zero, List.getElem?_cons_succ] at d1
    clear hX0 hI0' hT0 hT1 HC
    by_cases hl : 0 ≤ (n : Int) ∧ (n : Int) ≤ 32
    · go_wp2_with fail
      refine (holds_any 0 32 _ _).mono ?_
      rintro e w2 ⟨rfl, hb2⟩
      have hl1 : 0 ≤ (n : Int) := hl.1
      have hl2 : (n : Int) ≤ 32 := hl.2
      have hI2 := hI1.below hb2 hI1.lt
      have hX2 := hX1.below hb2 hX1.lt
      have hT3 := hT2.below hb2
      have HTR := hide (show R = (if Lk.upto Lk.valueByte n (s.data.toList.drop q) = n then .ok ((s.data.toList.drop q).take n) (q + n) else .bad (q + Lk.upto Lk.valueByte n (s.data.toList.drop q))) by
        rw [← unhide HR]; unfold Lk.textR; rw [unhide HNR]; simp only
        rw [if_pos]
        · rfl
        · simp only [Lk.lenOk, Bool.false_eq_true, if_false, decide_eq_true_eq]
          omega)
      have d1 := hI2.cell 1
      simp only [List.getElem?_cons_zero, List.getElem?_cons_succ] at d1
      clear c0 c1 hI1 hX1 hT2 hb2 hl
      go_wp2_with fail
      go_loopw [40] (fun u wr => ∃ j : Nat, u = .int .i64 j ∧ j ≤ n ∧ q + j ≤ s.size ∧ Is wr b 208 (.string s :: .int .i64 ((q + j : Nat) : Int) :: more) ∧ Is wr w.heap.size 182 [.int .i64 0, .int .i64 32, .func (.func 129) #[] #[]] ∧ Hid (∀ i, i < j → ∃ c, (s.data.toList.drop q)[i]? = some c ∧ Lk.valueByte c = true) ∧ Turns b w wr) (fun u _ => n - (intOf u).toNat)
      case atStart => exact ⟨0, rfl, by omega, by omega, hI2, hX2, fun i hi => by omega, hT3⟩
      case round =>
        obtain ⟨j, rfl, hj, hqj, hIr, hXr, HJ, hTr⟩ := hrel
        clear hI2 hX2 hT3 d1 f1
        have hbg : some w.heap.size ≠ some b := fun e => hXr.ne hIr (Nat.ne_of_beq_eq_false rfl) (by simpa using e)
        by_cases hlt : j < n
        · have hlt' : (j : Int) < n := by omega
          by_cases hend : q + j < s.size
          · go_wp2_with fail
            refine (one_yes b _ s (q + j) more _ hsm hend hIr).mono ?_
            rintro e w3 ⟨rfl, hI3, hT3⟩
            have hX3 := hXr.grown hT3 hbg
            have hT4 := hTr.trans hT3
            have c2 := hX3.cell 2
            simp only [List.getElem?_cons_zero, List.getElem?_cons_succ] at c2
            have hXl := hX3.lt
            clear hIr hXr hTr hT3
            generalize hQ : Lk.valueByte s[q + j] = Q
            have HQ := hide hQ
            have HL := hide (show ∀ w, Calls Tryz.prog 129 #[.int .u8 s[q + j].toNat] w fun e w' => e = .returned (.bool Q) ∧ w' = w from fun w => by rw [← hQ]; exact isValue_any s[q + j] w)
            clear hQ
            go_wp2_with fail
            refine (unhide HL _).mono ?_
            rintro e w4 ⟨rfl, rfl⟩
            have d1 := hI3.cell 1
            have f1 := hI3.free 1
            simp only [List.getElem?_cons_zero, List.getElem?_cons_succ] at d1
            cases Q
            · have hu := Lk.upto_of Lk.valueByte n j (s.data.toList.drop q) (by omega) (unhide HJ) (.inr (.inr ⟨_, byte_at s q j hend, unhide HQ⟩))
              have hR := unhide HTR
              rw [hu, if_neg (by omega)] at hR
              subst hR
              have HI3 := hide hI3
              clear hI3
              go_wp2_with fail
              go_ret2
              refine ⟨rfl, ?_, hT4.set _ _⟩
              have := (unhide HI3).set 1 (.int .i64 (((q + j : Nat) : Int)))
              first | exact this | done
            · go_wp2_with fail
              go_roundw
              case rel =>
                refine ⟨j + 1, by simp, by omega, by omega, hI3, hX3, fun i hi => ?_, hT4⟩
                rcases Nat.lt_succ_iff_lt_or_eq.1 hi with hi | rfl
                · exact unhide HJ i hi
                · exact ⟨_, byte_at s q i hend, unhide HQ⟩
              case measure => simp [intOf]; omega
          · have hu := Lk.upto_of Lk.valueByte n j (s.data.toList.drop q) (by omega) (unhide HJ) (.inr (.inl (byte_end s q j (by omega))))
            have hR := unhide HTR
            rw [hu, if_neg (by omega)] at hR
            subst hR
            go_wp2_with fail
            refine (one_no b _ s (q + j) more _ hsm (by omega) hIr).mono ?_
            rintro e w3 ⟨rfl, hI3, hT3⟩
            go_wp2_with fail
            go_ret2
            exact ⟨rfl, hI3, hTr.trans hT3⟩
        · have hlt' : ¬ (j : Int) < n := by omega
          have hjn : j = n := by omega
          subst hjn
          have hu := Lk.upto_of Lk.valueByte j j (s.data.toList.drop q) (by omega) (unhide HJ) (.inl rfl)
          have hR := unhide HTR
          rw [hu, if_pos rfl] at hR
          subst hR
          have d0 := hIr.cell 0
          have d1 := hIr.cell 1
          simp only [List.getElem?_cons_zero, List.getElem?_cons_succ] at d0 d1
          have hbr := hIr.lt
          have hi1 : (q : Int) ≤ ((q + j : Nat) : Int) := by omega
          have hi2 : ((q + j : Nat) : Int) ≤ s.size := by omega
          have hsx : (s.extract q (q + j)).size ≤ 1000 := by rw [ByteArray.size_extract]; omega
          go_wp2_with fail
          go_region_with (go_at_call 70; refine (clone_any (s.extract q (q + j)) _ hsx).mono ?_; rintro e wx ⟨rfl, hbx⟩)
          all_goals
            go_wp2_with fail
            go_ret2
            have hbx' : Below wr.heap.size wr wx := ⟨hbx.os, hbx.tape, hbx.output, hbx.size, hbx.block⟩
            refine ⟨?_, hIr.below hbx' hbr, hTr.below hbx'⟩
            rw [textV, ← extract_bs]
            rfl
    · have hbad : R = .bad (q - 1) := by
        rw [← unhide HR]; unfold Lk.textR; rw [unhide HNR]; simp only
        rw [if_neg]
        simp only [Lk.lenOk, Bool.false_eq_true, if_false, decide_eq_true_eq]
        omega
      subst hbad
      go_wp2_with fail
      refine (holds_any 0 32 _ _).mono ?_
      rintro e w2 ⟨rfl, hb2⟩
      have hd : decide ((n : Int) ≤ 32) = false := by simpa using hl
      have hI2 := hI1.below hb2 hI1.lt
      have d1 := hI2.cell 1
      have f1 := hI2.free 1
      simp only [List.getElem?_cons_zero, List.getElem?_cons_succ] at d1
      have HI2 := hide hI2
      clear hI1 hI2 c0 c1
      go_wp2_with fail
      go_ret2
      refine ⟨rfl, ?_, (hT2.below hb2).set _ _⟩
      have := (unhide HI2).set 1 (.int .i64 ((q : Int) - 1))
      show Is _ _ _ (.string s :: .int .i64 ((q - 1 : Nat) : Int) :: more)
      rw [show ((q - 1 : Nat) : Int) = (q : Int) - 1 by omega]
      exact this

end Go.Proofs.YtbkpdapagfjmmaaGreatDoor

/-
  Walks: parts of a block.
-/
namespace Go.Proofs.YtbkpdapagfjmmaaGreatDoor
open Go.RowKit

/-- The reader of blocks: it is at p of the text s, and its table keeps L. -/
structure Blk (w : World) (b : Nat) (s : ByteArray) (p B : Nat) (L : List Lk.Hd) (v : Value) : Prop where
  blk : Is w b 208 [.string s, .int .i64 p, weighV, .int .i64 ((B : Int) - Lk.weights L), v]
  own : w.ownsRow 0 112 2 v L.length (hdsV L)
  le : Lk.weights L ≤ B
  hB : B ≤ 200
  fx : Fx w
  b0 : 0 ≠ b

theorem Blk.turns {w w' : World} {b : Nat} {s : ByteArray} {p q B : Nat} {L : List Lk.Hd} {v : Value} (h : Blk w b s p B L v) (hT : Turns b w w') (hI : Is w' b 208 [.string s, .int .i64 q, weighV, .int .i64 ((B : Int) - Lk.weights L), v]) : Blk w' b s q B L v :=
  ⟨hI, own_turns h.own h.blk (Nat.ne_of_beq_eq_false rfl) hT, h.le, h.hB, h.fx.grown hT (by simpa using h.b0), h.b0⟩
theorem Blk.below {w w' : World} {b : Nat} {s : ByteArray} {p B : Nat} {L : List Lk.Hd} {v : Value} (h : Blk w b s p B L v) (hb : Below w.heap.size w w') : Blk w' b s p B L v :=
  ⟨h.blk.below hb h.blk.lt, own_below h.own hb, h.le, h.hB, h.fx.below hb h.fx.1, h.b0⟩
theorem Blk.alloc {w : World} {b : Nat} {s : ByteArray} {p B : Nat} {L : List Lk.Hd} {v : Value} (h : Blk w b s p B L v) (o : Obj) : Blk (w.alloc o) b s p B L v :=
  h.below ((Below.refl _ _).alloc (Nat.le_refl _) o)

theorem Turns.setFar {b : Nat} {w w1 : World} (h : Turns b w w1) {a : Addr} (ha : w.heap.size ≤ a.block) (v : Value) : Turns b w (w1.setCell a v) :=
  ⟨h.os, h.tape, h.output, by simpa using h.size, fun i hi hn => by
    rw [heap_setCell_other _ _ _ _ (by omega)]
    exact h.block i hi hn⟩

def hdOf : Lk.PR Lk.Hd → Lk.Hd
  | .ok h _ => h
  | .bad _ => zeroHd
theorem set1 {w : World} {b : Nat} {T : TypeId} {a x y : Value} {more : List Value} (h : Is w b T (a :: x :: more)) : Is (w.setCell ⟨b, 1, none⟩ y) b T (a :: y :: more) := h.set 1 y

set_option maxHeartbeats 1000000 in
set_option maxRecDepth 100000 in
theorem bentry_some (b : Nat) (s : ByteArray) (p i B : Nat) (L : List Lk.Hd) (v : Value) (h : Lk.Hd) (w : World) (hi : i ≤ 2 ^ 40) (hK : Blk w b s p B L v) (he : (Lk.ents L)[i]? = some h) :
    Calls Tryz.prog 178 #[.pointer (some ⟨b, 0, none⟩), .int .i64 i] w fun e w' => e = .returned (.tuple #[hdA h, .bool true]) ∧ Below w.heap.size w w' := by
  have hK0 := hK.alloc (.cells #[.string ⟨#[]⟩, .string ⟨#[]⟩] 112)
  have HC := hide (entry_any b 2 i 0 L v _ hK0.blk.lt hi hK0.fx (hK0.blk.cell 4) hK0.own)
  have HE := hide he
  have HB := hide ((Below.refl w.heap.size w).alloc (Nat.le_refl _) (.cells #[.string ⟨#[]⟩, .string ⟨#[]⟩] 112))
  have HX := hide (Is.new w 112 [.string ⟨#[]⟩, .string ⟨#[]⟩])
  clear hK hK0 he
  go_enter Tryz.func178, Tryz.ntmps178
  go_wp2_with fail
  refine (unhide HC).mono ?_
  rintro e w1 ⟨hr, hb⟩
  rw [unhide HE] at hr
  subst hr
  simp only [Option.getD, Option.isSome]
  have hX1 := (unhide HX).below hb (by simp)
  have hbel := (unhide HB).trans (hb.mono (by simp))
  have c0 := hX1.cell 0
  have c1 := hX1.cell 1
  have f0 := hX1.free 0
  have f1 := hX1.free 1
  have hXl := hX1.lt
  simp only [List.getElem?_cons_zero, List.getElem?_cons_succ] at c0 c1
  clear hb hX1
  go_wp2_with fail
  exact bodyPost_ret (v := .tuple #[hdA h, .bool true]) (by simp [results, Tryz.results178, go_sem, c0, c1, hXl]) rfl ⟨rfl, ((hbel.setCell (Nat.le_refl _) _).setCell (Nat.le_refl _) _).alloc (by simpa using hbel.size) _⟩

set_option maxHeartbeats 1000000 in
set_option maxRecDepth 100000 in
theorem bentry_none (b : Nat) (s : ByteArray) (p i B : Nat) (L : List Lk.Hd) (v : Value) (w : World) (hi : i ≤ 2 ^ 40) (hp : 0 < p) (hps : p ≤ 2 ^ 50) (hK : Blk w b s p B L v) (he : (Lk.ents L)[i]? = none) :
    Calls Tryz.prog 178 #[.pointer (some ⟨b, 0, none⟩), .int .i64 i] w fun e w' => e = .returned (.tuple #[hdA zeroHd, .bool false]) ∧ Blk w' b s (p - 1) B L v ∧ Turns b w w' := by
  have hK0 := hK.alloc (.cells #[.string ⟨#[]⟩, .string ⟨#[]⟩] 112)
  have HC := hide (entry_any b 2 i 0 L v _ hK0.blk.lt hi hK0.fx (hK0.blk.cell 4) hK0.own)
  have HE := hide he
  have HK := hide hK
  have HK0 := hide hK0
  have HB := hide ((Below.refl w.heap.size w).alloc (Nat.le_refl _) (.cells #[.string ⟨#[]⟩, .string ⟨#[]⟩] 112))
  have HX := hide (Is.new w 112 [.string ⟨#[]⟩, .string ⟨#[]⟩])
  clear hK hK0 he
  go_enter Tryz.func178, Tryz.ntmps178
  go_wp2_with fail
  refine (unhide HC).mono ?_
  rintro e w1 ⟨hr, hb⟩
  rw [unhide HE] at hr
  subst hr
  simp only [Option.getD, Option.isSome]
  have hX1 := (unhide HX).below hb (by simp)
  have hbel := (unhide HB).trans (hb.mono (by simp))
  have hK1 := (unhide HK0).below hb
  have c0 := hX1.cell 0
  have c1 := hX1.cell 1
  have f0 := hX1.free 0
  have f1 := hX1.free 1
  have hXl := hX1.lt
  have d1 := hK1.blk.cell 1
  have g1 := hK1.blk.free 1
  have hbl := hK1.blk.lt
  simp only [List.getElem?_cons_zero, List.getElem?_cons_succ] at c0 c1 d1
  have hne : ¬ w.heap.size = b := fun e => hX1.ne hK1.blk (Nat.ne_of_beq_eq_false rfl) e
  have hne' : ¬ b = w.heap.size := fun e => hne e.symm
  have HK1 := hide hK1
  have HX1 := hide hX1
  clear hb hX1 hK1
  go_wp2_with fail
  have hz : ((p : Int) - 1) = ((p - 1 : Nat) : Int) := by omega
  refine bodyPost_ret (v := .tuple #[hdA zeroHd, .bool false]) (by simp [results, Tryz.results178, go_sem, c0, c1, hXl, zeroHd, bs]) rfl ⟨rfl, ?_, ?_⟩
  · rw [hz]
    exact (unhide HK).turns ((((((Below.turns hbel b).set 1 _).setFar (Nat.le_refl _) _).setFar (Nat.le_refl _) _).alloc _)) ((((set1 (unhide HK1).blk).other _ _ hne').other _ _ hne').alloc _)
  · exact ((((Below.turns hbel b).set 1 _).setFar (Nat.le_refl _) _).setFar (Nat.le_refl _) _).alloc _

theorem bentry_any (b : Nat) (s : ByteArray) (p i B : Nat) (L : List Lk.Hd) (v : Value) (w : World) (hi : i ≤ 2 ^ 40) (hp : 0 < p) (hps : p ≤ 2 ^ 50) (hK : Blk w b s p B L v) :
    Calls Tryz.prog 178 #[.pointer (some ⟨b, 0, none⟩), .int .i64 i] w fun e w' => e = .returned (.tuple #[hdA (hdOf (Lk.entR L i p)), .bool (Lk.entR L i p).good]) ∧ Blk w' b s (Lk.entR L i p).at B L v ∧ Turns b w w' := by
  unfold Lk.entR
  cases he : (Lk.ents L)[i]? with
  | none => exact bentry_none b s p i B L v w hi hp hps hK he
  | some h =>
    refine (bentry_some b s p i B L v h w hi hK he).mono ?_
    rintro e w' ⟨rfl, hb⟩
    exact ⟨rfl, hK.below hb, Below.turns hb b⟩

def textOf : Lk.PR Lk.Bs → Lk.Bs
  | .ok t _ => t
  | .bad _ => []
theorem textV_eq (r : Lk.PR Lk.Bs) : textV r = .tuple #[.string (bs (textOf r)), .bool r.good] := by cases r <;> rfl

theorem bwritten_name (b : Nat) (s : ByteArray) (p B : Nat) (L : List Lk.Hd) (v : Value) (w : World) (hs : s.size ≤ 2 ^ 48) (hp : p ≤ s.size) (hK : Blk w b s p B L v) :
    Calls Tryz.prog 187 #[.pointer (some ⟨b, 0, none⟩), nameR] w fun e w' =>
      e = .returned (.tuple #[.string (bs (textOf (Lk.textR true s.data.toList p))), .bool (Lk.textR true s.data.toList p).good]) ∧ Blk w' b s (Lk.textR true s.data.toList p).at B L v ∧ Turns b w w' := by
  refine (written_name b s p _ w hs hp _ (hide rfl) hK.blk).mono ?_
  rintro e w' ⟨rfl, hI, hT⟩
  exact ⟨by rw [textV_eq], hK.turns hT hI, hT⟩
theorem bwritten_value (b : Nat) (s : ByteArray) (p B : Nat) (L : List Lk.Hd) (v : Value) (w : World) (hs : s.size ≤ 2 ^ 48) (hp : p ≤ s.size) (hK : Blk w b s p B L v) :
    Calls Tryz.prog 187 #[.pointer (some ⟨b, 0, none⟩), valueR] w fun e w' =>
      e = .returned (.tuple #[.string (bs (textOf (Lk.textR false s.data.toList p))), .bool (Lk.textR false s.data.toList p).good]) ∧ Blk w' b s (Lk.textR false s.data.toList p).at B L v ∧ Turns b w w' := by
  refine (written_value b s p _ w hs hp _ (hide rfl) hK.blk).mono ?_
  rintro e w' ⟨rfl, hI, hT⟩
  exact ⟨by rw [textV_eq], hK.turns hT hI, hT⟩

end Go.Proofs.YtbkpdapagfjmmaaGreatDoor
