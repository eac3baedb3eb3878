import Derived.Test.YtbkpdapagfjmmaaGreatDoorML1W2
import Derived.Test.YtbkpdapagfjmmaaGreatDoorMW4W7
set_option linter.unusedVariables false
set_option maxRecDepth 100000
set_option maxHeartbeats 16000000
namespace Go.Proofs.YtbkpdapagfjmmaaGreatDoor
open Go.RowKit
def frameVal : Lk.Nx → Value
  | .more => .tuple #[.agg #[.int .i64 0, .int .i64 0, .string ⟨#[]⟩], .int .i64 0, .bool false]
  | .err e => .tuple #[.agg #[.int .i64 0, .int .i64 0, .string ⟨#[]⟩], .int .i64 (e : Int), .bool false]
  | .frame k st d _ => .tuple #[.agg #[.int .i64 (k : Int), .int .i64 (st : Int), .string ⟨d.toArray⟩], .int .i64 0, .bool true]
def Past (p p' : Nat) (r : Lk.Nx) : Prop := ∀ k st d n, r = .frame k st d n → p' = p + n
theorem rd_lt : ∀ (l : Lk.Bs) (k acc n j : Nat), k ≤ 4 → acc < 128 ^ k → Lk.rd k acc l = .ok n j → n < 128 ^ 4
  | [], k, acc, n, j, _, _, h => by simp [Lk.rd] at h
  | c :: t, k, acc, n, j, hk, ha, h => by
    rw [Lk.rd] at h
    split at h
    · cases h
    · rename_i g
      have hc : c.toNat % 128 < 128 := by omega
      have hk3 : k = 0 ∨ k = 1 ∨ k = 2 ∨ k = 3 := by omega
      split at h
      · cases h
        rcases hk3 with rfl | rfl | rfl | rfl <;> omega
      · exact rd_lt t (k + 1) _ n j (by omega) (by rcases hk3 with rfl | rfl | rfl | rfl <;> omega) h
theorem past_more (p p' : Nat) : Past p p' .more := fun _ _ _ _ h => by cases h
theorem past_err (p p' e : Nat) : Past p p' (.err e) := fun _ _ _ _ h => by cases h
theorem Is.frameStore {w : World} {b N : Nat} {T : TypeId} {cs : List Value} {x y z : Value} (h : Is w b T cs) (hN : N ≠ b) : Is (((w.setCell ⟨N, 0, none⟩ x).setCell ⟨N, 1, none⟩ y).setCell ⟨N, 2, none⟩ z) b T cs :=
  ((h.other ⟨N, 0, none⟩ x hN.symm).other ⟨N, 1, none⟩ y hN.symm).other ⟨N, 2, none⟩ z hN.symm
theorem Turns.frameStore {w w1 : World} {b : Nat} {x y z : Value} (h : Turns b w w1) : Turns b w (((w1.setCell ⟨w.heap.size, 0, none⟩ x).setCell ⟨w.heap.size, 1, none⟩ y).setCell ⟨w.heap.size, 2, none⟩ z) :=
  ((h.setNew (a := ⟨w.heap.size, 0, none⟩) (Nat.le_refl _) x).setNew (a := ⟨w.heap.size, 1, none⟩) (Nat.le_refl _) y).setNew (a := ⟨w.heap.size, 2, none⟩) (Nat.le_refl _) z
section
variable {c : UInt8} {t : Lk.Bs} (h : ¬ 7 < c.toNat)
include h
theorem nx_bad1 {k : Nat} (h1 : Lk.rd 0 0 t = .bad k) : Lk.nx (c :: t) = .err 2 := by simp only [Lk.nx, if_neg h, h1]
theorem nx_short1 (h1 : Lk.rd 0 0 t = .short) : Lk.nx (c :: t) = .more := by simp only [Lk.nx, if_neg h, h1]
variable {st a : Nat} (h1 : Lk.rd 0 0 t = .ok st a)
include h1
theorem nx_stream (h2 : Lk.streamFits c.toNat st = false) : Lk.nx (c :: t) = .err 4 := by simp only [Lk.nx, if_neg h, h1, if_pos h2]
variable (h2 : ¬ Lk.streamFits c.toNat st = false)
include h2
theorem nx_bad2 {k : Nat} (h3 : Lk.rd 0 0 (t.drop a) = .bad k) : Lk.nx (c :: t) = .err 2 := by simp only [Lk.nx, if_neg h, h1, if_neg h2, h3]
theorem nx_short2 (h3 : Lk.rd 0 0 (t.drop a) = .short) : Lk.nx (c :: t) = .more := by simp only [Lk.nx, if_neg h, h1, if_neg h2, h3]
variable {n b : Nat} (h3 : Lk.rd 0 0 (t.drop a) = .ok n b)
include h3
theorem nx_large (h4 : 64 < n) : Lk.nx (c :: t) = .err 5 := by simp only [Lk.nx, if_neg h, h1, if_neg h2, h3, if_pos h4]
variable (h4 : ¬ 64 < n)
include h4
theorem nx_length (h5 : Lk.lengthFits c.toNat n = false) : Lk.nx (c :: t) = .err 6 := by simp only [Lk.nx, if_neg h, h1, if_neg h2, h3, if_neg h4, if_pos h5]
variable (h5 : ¬ Lk.lengthFits c.toNat n = false)
include h5
theorem nx_wait (h6 : t.length < a + b + n) : Lk.nx (c :: t) = .more := by simp only [Lk.nx, if_neg h, h1, if_neg h2, h3, if_neg h4, if_neg h5, if_pos h6]
variable (h6 : ¬ t.length < a + b + n)
include h6
theorem nx_payload (h7 : Lk.payloadFits c.toNat ((t.drop (a + b)).take n) = false) : Lk.nx (c :: t) = .err 6 := by simp only [Lk.nx, if_neg h, h1, if_neg h2, h3, if_neg h4, if_neg h5, if_neg h6, if_pos h7]
theorem nx_frame (h7 : ¬ Lk.payloadFits c.toNat ((t.drop (a + b)).take n) = false) : Lk.nx (c :: t) = .frame c.toNat st ((t.drop (a + b)).take n) (1 + a + b + n) := by simp only [Lk.nx, if_neg h, h1, if_neg h2, h3, if_neg h4, if_neg h5, if_neg h6, if_neg h7]
end
theorem frame_any {T : TypeId} {more : List Value} (b : Nat) (s : ByteArray) (p : Nat) (f : Int) (w : World) (hs : s.size ≤ maxLen) (hp : p ≤ s.size)
    (hI : Is w b T (.string s :: .int .i64 p :: .int .i64 f :: more)) :
    Calls Tryz.prog 88 #[.pointer (some ⟨b, 0, none⟩)] w fun e w' =>
      e = .returned (frameVal (Lk.nx (s.data.toList.drop p))) ∧ (∃ p', p' ≤ s.size ∧ Past p p' (Lk.nx (s.data.toList.drop p)) ∧ Is w' b T (.string s :: .int .i64 (p' : Nat) :: .int .i64 f :: more)) ∧ Turns b w w' := by
  have hI0 := hI.alloc (.cells #[.int .i64 0, .int .i64 0, .string ⟨#[]⟩] 79)
  have hN0 := Is.new w 79 [.int .i64 0, .int .i64 0, .string ⟨#[]⟩]
  have hT0 := (Turns.refl b w).alloc (.cells #[.int .i64 0, .int .i64 0, .string ⟨#[]⟩] 79)
  have hbN : w.heap.size ≠ b := Nat.ne_of_gt hI.lt
  have hbS : some w.heap.size ≠ some b := by simpa using hbN
  by_cases hlt : p < s.size
  · have hcons := drop_cons s p hlt
    rw [hcons]
    by_cases h7 : 7 < s[p].toNat
    · have hnx : Lk.nx (s[p] :: s.data.toList.drop (p + 1)) = .err 3 := by rw [Lk.nx, if_pos h7]
      have hke : Lk.kindErr (s[p].toNat : Int) = 3 := by rw [Lk.kindErr, if_pos (by omega)]
      rw [hnx]
      have HK := hide hke
      clear hnx hcons hke
      go_enter Tryz.func88, Tryz.ntmps88
      go_wp2_with fail
      refine (one_yes b T s p _ _ hs hlt hI0).mono ?_
      rintro e w1 ⟨rfl, hI1, hT1⟩
      have hN1 := hN0.grown hT1 hbS
      go_wp2_with fail
      simp only [wrap64_byte']
      refine (askKind_any _ _).mono ?_
      rw [uh HK]
      rintro e w2 ⟨rfl, rfl⟩
      have n0 := hN1.cell 0
      have n1 := hN1.cell 1
      have n2 := hN1.cell 2
      have g0 := hN1.free 0
      have g1 := hN1.free 1
      have g2 := hN1.free 2
      simp only [List.getElem?_cons_zero, List.getElem?_cons_succ] at n0 n1 n2
      go_wp2_with fail
      exact bodyPost_ret (v := frameVal (.err 3)) (by simp [results, frameVal, Tryz.results88, go_sem, n0, n1, n2]) rfl ⟨rfl, ⟨p + 1, by omega, past_err _ _ _, Is.frameStore hI1 hbN⟩, Turns.frameStore (hT0.trans hT1)⟩
    · have hke : Lk.kindErr (s[p].toNat : Int) = 0 := by rw [Lk.kindErr, if_neg (by omega)]
      have HK := hide hke
      have HC := hide hcons
      clear hcons hke
      generalize hl : s.data.toList.drop (p + 1) = t
      have HL := hide hl
      have hlen : t.length = s.size - (p + 1) := by rw [← hl, List.length_drop, ← size_list]
      clear hl
      generalize hx : Lk.nx (s[p] :: t) = x
      have HX := hide hx
      clear hx
      go_enter Tryz.func88, Tryz.ntmps88
      go_wp2_with fail
      refine (one_yes b T s p _ _ hs hlt hI0).mono ?_
      rintro e w1 ⟨rfl, hI1, hT1⟩
      have hN1 := hN0.grown hT1 hbS
      have hW1 := hT0.trans hT1
      clear hI0 hN0 hT0 hT1
      go_wp2_with fail
      try simp only [wrap64_byte']
      refine (askKind_any _ _).mono ?_
      rw [uh HK]
      rintro e w2 ⟨rfl, rfl⟩
      go_wp2_with fail
      refine (number_any b T s (p + 1) _ _ hs (by omega) hI1).mono ?_
      rw [uh HL]
      rintro e w2 ⟨rfl, hI2, hT2⟩
      have hN2 := hN1.grown hT2 hbS
      have hW2 := hW1.trans hT2
      clear hI1 hN1 hW1 hT2
      cases hr : Lk.rd 0 0 t with
      | short =>
        have e1 := nx_short1 h7 hr
        rw [uh HX] at e1
        subst e1
        simp only [hr, Lk.Rd.val, Lk.Rd.good, Lk.Rd.at] at hI2 ⊢
        clear hr
        go_wp2_with fail
        refine (lack_any b T s _ _ _ hs hI2).mono ?_
        rw [if_pos (Nat.le_refl _)]
        rintro e w3 ⟨rfl, n3, rfl⟩
        have n0 := hN2.cell 0
        have n1 := hN2.cell 1
        have n2 := hN2.cell 2
        have g0 := hN2.free 0
        have g1 := hN2.free 1
        have g2 := hN2.free 2
        simp only [List.getElem?_cons_zero, List.getElem?_cons_succ] at n0 n1 n2
        go_wp2_with fail
        exact bodyPost_ret (v := frameVal (.more)) (by simp [results, frameVal, Tryz.results88, go_sem, n0, n1, n2]) rfl ⟨rfl, ⟨s.size, Nat.le_refl _, past_more _ _, Is.frameStore (hI2.drewN n3) hbN⟩, Turns.frameStore (hW2.drewN n3)⟩
      | bad k =>
        have e1 := nx_bad1 h7 hr
        have hk := Lk.rd_bad_bounds t 0 0 k hr
        rw [uh HX] at e1
        subst e1
        simp only [hr, Lk.Rd.val, Lk.Rd.good, Lk.Rd.at] at hI2 ⊢
        clear hr
        go_wp2_with fail
        refine (lack_any b T s _ _ _ hs hI2).mono ?_
        rw [if_neg (by omega)]
        rintro e w3 ⟨rfl, n3, rfl⟩
        have n0 := hN2.cell 0
        have n1 := hN2.cell 1
        have n2 := hN2.cell 2
        have g0 := hN2.free 0
        have g1 := hN2.free 1
        have g2 := hN2.free 2
        simp only [List.getElem?_cons_zero, List.getElem?_cons_succ] at n0 n1 n2
        go_wp2_with fail
        exact bodyPost_ret (v := frameVal (.err 2)) (by simp [results, frameVal, Tryz.results88, go_sem, n0, n1, n2]) rfl ⟨rfl, ⟨p + 1 + k, by omega, past_err _ _ _, Is.frameStore (hI2.drewN n3) hbN⟩, Turns.frameStore (hW2.drewN n3)⟩
      | ok st a =>
        have ha := Lk.rd_ok_bounds t 0 0 st a hr
        have hst := rd_lt t 0 0 st a (by omega) (by omega) hr
        simp only [hr, Lk.Rd.val, Lk.Rd.good, Lk.Rd.at] at hI2 ⊢
        have HR := hide hr
        clear hr
        have hst' : (st : Int) ≤ 268435455 := by omega
        go_wp2_with fail
        refine (askStream_any _ st (by omega) (by omega) (by omega) hst' _).mono ?_
        rintro e w3 ⟨rfl, hb3⟩
        have hI3 := hI2.below hb3 hI2.lt
        have hN3 := hN2.below hb3 hN2.lt
        have hW3 := hW2.below hb3
        clear hI2 hN2 hW2 hb3
        by_cases hsf : Lk.streamFits s[p].toNat st = false
        · have e1 := nx_stream h7 (uh HR) hsf
          have e2 : Lk.streamErr s[p].toNat st = 4 := by rw [Lk.streamErr, if_pos hsf]
          rw [uh HX] at e1
          subst e1
          rw [e2]
          clear e2 hsf
          have n0 := hN3.cell 0
          have n1 := hN3.cell 1
          have n2 := hN3.cell 2
          have g0 := hN3.free 0
          have g1 := hN3.free 1
          have g2 := hN3.free 2
          simp only [List.getElem?_cons_zero, List.getElem?_cons_succ] at n0 n1 n2
          go_wp2_with fail
          exact bodyPost_ret (v := frameVal (.err 4)) (by simp [results, frameVal, Tryz.results88, go_sem, n0, n1, n2]) rfl ⟨rfl, ⟨p + 1 + a, by omega, past_err _ _ _, Is.frameStore hI3 hbN⟩, Turns.frameStore hW3⟩
        have e2 : Lk.streamErr s[p].toNat st = 0 := by rw [Lk.streamErr, if_neg hsf]
        rw [e2]
        have HSF := hide hsf
        clear e2 hsf
        go_wp2_with fail
        refine (number_any b T s (p + 1 + a) _ _ hs (by omega) hI3).mono ?_
        rw [← List.drop_drop, uh HL]
        rintro e w4 ⟨rfl, hI4, hT4⟩
        have hN4 := hN3.grown hT4 hbS
        have hW4 := hW3.trans hT4
        clear hI3 hN3 hW3 hT4
        cases hr : Lk.rd 0 0 (t.drop a) with
        | short =>
          have e1 := nx_short2 h7 (uh HR) (uh HSF) hr
          rw [uh HX] at e1
          subst e1
          simp only [hr, Lk.Rd.val, Lk.Rd.good, Lk.Rd.at] at hI4 ⊢
          clear hr
          go_wp2_with fail
          refine (lack_any b T s _ _ _ hs hI4).mono ?_
          rw [if_pos (Nat.le_refl _)]
          rintro e w5 ⟨rfl, n5, rfl⟩
          have n0 := hN4.cell 0
          have n1 := hN4.cell 1
          have n2 := hN4.cell 2
          have g0 := hN4.free 0
          have g1 := hN4.free 1
          have g2 := hN4.free 2
          simp only [List.getElem?_cons_zero, List.getElem?_cons_succ] at n0 n1 n2
          go_wp2_with fail
          exact bodyPost_ret (v := frameVal (.more)) (by simp [results, frameVal, Tryz.results88, go_sem, n0, n1, n2]) rfl ⟨rfl, ⟨s.size, Nat.le_refl _, past_more _ _, Is.frameStore (hI4.drewN n5) hbN⟩, Turns.frameStore (hW4.drewN n5)⟩
        | bad k =>
          have e1 := nx_bad2 h7 (uh HR) (uh HSF) hr
          have hk := Lk.rd_bad_bounds _ 0 0 k hr
          rw [List.length_drop] at hk
          rw [uh HX] at e1
          subst e1
          simp only [hr, Lk.Rd.val, Lk.Rd.good, Lk.Rd.at] at hI4 ⊢
          clear hr
          go_wp2_with fail
          refine (lack_any b T s _ _ _ hs hI4).mono ?_
          rw [if_neg (by omega)]
          rintro e w5 ⟨rfl, n5, rfl⟩
          have n0 := hN4.cell 0
          have n1 := hN4.cell 1
          have n2 := hN4.cell 2
          have g0 := hN4.free 0
          have g1 := hN4.free 1
          have g2 := hN4.free 2
          simp only [List.getElem?_cons_zero, List.getElem?_cons_succ] at n0 n1 n2
          go_wp2_with fail
          exact bodyPost_ret (v := frameVal (.err 2)) (by simp [results, frameVal, Tryz.results88, go_sem, n0, n1, n2]) rfl ⟨rfl, ⟨p + 1 + a + k, by omega, past_err _ _ _, Is.frameStore (hI4.drewN n5) hbN⟩, Turns.frameStore (hW4.drewN n5)⟩
        | ok n m =>
          have hm := Lk.rd_ok_bounds _ 0 0 n m hr
          rw [List.length_drop] at hm
          simp only [hr, Lk.Rd.val, Lk.Rd.good, Lk.Rd.at] at hI4 ⊢
          have HR2 := hide hr
          clear hr
          go_wp2_with fail
          refine (askLength_any _ n (by omega) (by omega) (by omega) _).mono ?_
          rintro e w5 ⟨rfl, hb5⟩
          have hI5 := hI4.below hb5 hI4.lt
          have hN5 := hN4.below hb5 hN4.lt
          have hW5 := hW4.below hb5
          clear hI4 hN4 hW4 hb5
          by_cases h64 : 64 < n
          · have e1 := nx_large h7 (uh HR) (uh HSF) (uh HR2) h64
            have e2 : Lk.lengthErr s[p].toNat n = 5 := by rw [Lk.lengthErr, if_pos (by omega)]
            rw [uh HX] at e1
            subst e1
            rw [e2]
            clear e2
            have n0 := hN5.cell 0
            have n1 := hN5.cell 1
            have n2 := hN5.cell 2
            have g0 := hN5.free 0
            have g1 := hN5.free 1
            have g2 := hN5.free 2
            simp only [List.getElem?_cons_zero, List.getElem?_cons_succ] at n0 n1 n2
            go_wp2_with fail
            exact bodyPost_ret (v := frameVal (.err 5)) (by simp [results, frameVal, Tryz.results88, go_sem, n0, n1, n2]) rfl ⟨rfl, ⟨p + 1 + a + m, by omega, past_err _ _ _, Is.frameStore hI5 hbN⟩, Turns.frameStore hW5⟩
          by_cases hlf : Lk.lengthFits s[p].toNat n = false
          · have e1 := nx_length h7 (uh HR) (uh HSF) (uh HR2) h64 hlf
            have e2 : Lk.lengthErr s[p].toNat n = 6 := by rw [Lk.lengthErr, if_neg (by omega), if_pos hlf]
            rw [uh HX] at e1
            subst e1
            rw [e2]
            clear e2 hlf
            have n0 := hN5.cell 0
            have n1 := hN5.cell 1
            have n2 := hN5.cell 2
            have g0 := hN5.free 0
            have g1 := hN5.free 1
            have g2 := hN5.free 2
            simp only [List.getElem?_cons_zero, List.getElem?_cons_succ] at n0 n1 n2
            go_wp2_with fail
            exact bodyPost_ret (v := frameVal (.err 6)) (by simp [results, frameVal, Tryz.results88, go_sem, n0, n1, n2]) rfl ⟨rfl, ⟨p + 1 + a + m, by omega, past_err _ _ _, Is.frameStore hI5 hbN⟩, Turns.frameStore hW5⟩
          have e2 : Lk.lengthErr s[p].toNat n = 0 := by rw [Lk.lengthErr, if_neg (by omega), if_neg hlf]
          rw [e2]
          have HLF := hide hlf
          clear e2 hlf
          by_cases htk : t.length < a + m + n
          · have e1 := nx_wait h7 (uh HR) (uh HSF) (uh HR2) h64 (uh HLF) htk
            rw [uh HX] at e1
            subst e1
            go_wp2_with fail
            refine (take_no b T s (p + 1 + a + m) n _ _ hs (by omega) (by omega) hI5).mono ?_
            rintro e w6 ⟨rfl, hI6, hT6⟩
            have hN6 := hN5.grown hT6 hbS
            have hW6 := hW5.trans hT6
            have n0 := hN6.cell 0
            have n1 := hN6.cell 1
            have n2 := hN6.cell 2
            have g0 := hN6.free 0
            have g1 := hN6.free 1
            have g2 := hN6.free 2
            simp only [List.getElem?_cons_zero, List.getElem?_cons_succ] at n0 n1 n2
            go_wp2_with fail
            exact bodyPost_ret (v := frameVal (.more)) (by simp [results, frameVal, Tryz.results88, go_sem, n0, n1, n2]) rfl ⟨rfl, ⟨s.size, Nat.le_refl _, past_more _ _, Is.frameStore hI6 hbN⟩, Turns.frameStore hW6⟩
          go_wp2_with fail
          refine (take_yes b T s (p + 1 + a + m) n _ _ hs (by omega) hI5).mono ?_
          rintro e w6 ⟨rfl, hI6, hT6⟩
          have hN6 := hN5.grown hT6 hbS
          have hW6 := hW5.trans hT6
          clear hI5 hN5 hW5 hT6
          have hdata : (s.extract (p + 1 + a + m) (p + 1 + a + m + n)).data.toList = (t.drop (a + m)).take n := by
            rw [← uh HL, List.drop_drop, extract_list]
            congr 2 <;> omega
          have hdsz : (s.extract (p + 1 + a + m) (p + 1 + a + m + n)).size = n := by rw [ByteArray.size_extract]; omega
          have hdv : s.extract (p + 1 + a + m) (p + 1 + a + m + n) = ⟨((t.drop (a + m)).take n).toArray⟩ := by rw [← hdata]
          have HDV := hide hdv
          clear hdv
          generalize s.extract (p + 1 + a + m) (p + 1 + a + m + n) = d at *
          go_wp2_with fail
          refine (askPayload_any _ d _ (by unfold maxLen; omega)).mono ?_
          rw [hdata]
          clear hdata
          rintro e w7 ⟨rfl, hb7⟩
          have hI7 := hI6.below hb7 hI6.lt
          have hN7 := hN6.below hb7 hN6.lt
          have hW7 := hW6.below hb7
          clear hI6 hN6 hW6 hb7
          by_cases hpf : Lk.payloadFits s[p].toNat ((t.drop (a + m)).take n) = false
          · have e1 := nx_payload h7 (uh HR) (uh HSF) (uh HR2) h64 (uh HLF) htk hpf
            have e2 : Lk.payloadErr s[p].toNat ((t.drop (a + m)).take n) = 6 := by rw [Lk.payloadErr, if_pos hpf]
            rw [uh HX] at e1
            subst e1
            rw [e2]
            clear e2 hpf
            have n0 := hN7.cell 0
            have n1 := hN7.cell 1
            have n2 := hN7.cell 2
            have g0 := hN7.free 0
            have g1 := hN7.free 1
            have g2 := hN7.free 2
            simp only [List.getElem?_cons_zero, List.getElem?_cons_succ] at n0 n1 n2
            go_wp2_with fail
            exact bodyPost_ret (v := frameVal (.err 6)) (by simp [results, frameVal, Tryz.results88, go_sem, n0, n1, n2]) rfl ⟨rfl, ⟨p + 1 + a + m + n, by omega, past_err _ _ _, Is.frameStore hI7 hbN⟩, Turns.frameStore hW7⟩
          have e1 := nx_frame h7 (uh HR) (uh HSF) (uh HR2) h64 (uh HLF) htk hpf
          have e2 : Lk.payloadErr s[p].toNat ((t.drop (a + m)).take n) = 0 := by rw [Lk.payloadErr, if_neg hpf]
          rw [e2]
          rw [uh HX] at e1
          clear e2 hpf
          go_wp2_with fail
          refine (clone_any d _ (by omega)).mono ?_
          rintro e w8 ⟨rfl, hb8⟩
          have hI8 := hI7.below hb8 hI7.lt
          have hN8 := hN7.below hb8 hN7.lt
          have hW8 := hW7.below hb8
          clear hI7 hN7 hW7 hb8
          have hfv : frameVal x = .tuple #[.agg #[.int .i64 (s[p].toNat : Int), .int .i64 (st : Int), .string d], .int .i64 0, .bool true] := by rw [e1, frameVal, uh HDV]
          have hpst : Past p (p + 1 + a + m + n) x := by
            intro k' st' d' n' h'
            rw [e1] at h'
            cases h'
            omega
          have HFV := hide hfv
          have HPS := hide hpst
          clear e1 hfv hpst
          have n0 := hN8.cell 0
          have n1 := hN8.cell 1
          have n2 := hN8.cell 2
          have g0 := hN8.free 0
          have g1 := hN8.free 1
          have g2 := hN8.free 2
          simp only [List.getElem?_cons_zero, List.getElem?_cons_succ] at n0 n1 n2
          go_wp2_with fail
          exact bodyPost_ret (v := .tuple #[.agg #[.int .i64 (s[p].toNat : Int), .int .i64 (st : Int), .string d], .int .i64 0, .bool true]) (by simp [results, Tryz.results88, go_sem, n0, n1, n2]) rfl ⟨congrArg Ending.returned (uh HFV).symm, ⟨p + 1 + a + m + n, by omega, uh HPS, Is.frameStore hI8 hbN⟩, Turns.frameStore hW8⟩
  · have hnx : Lk.nx (s.data.toList.drop p) = .more := by rw [drop_end s p (by omega)]; rfl
    rw [hnx]
    clear hnx
    go_enter Tryz.func88, Tryz.ntmps88
    go_wp2_with fail
    refine (one_no b T s p _ _ hs (by omega) hI0).mono ?_
    rintro e w1 ⟨rfl, hI1, hT1⟩
    have hN1 := hN0.grown hT1 hbS
    have n0 := hN1.cell 0
    have n1 := hN1.cell 1
    have n2 := hN1.cell 2
    have g0 := hN1.free 0
    have g1 := hN1.free 1
    have g2 := hN1.free 2
    simp only [List.getElem?_cons_zero, List.getElem?_cons_succ] at n0 n1 n2
    go_wp2_with fail
    exact bodyPost_ret (v := frameVal (.more)) (by simp [results, frameVal, Tryz.results88, go_sem, n0, n1, n2]) rfl ⟨rfl, ⟨p, hp, past_more _ _, Is.frameStore hI1 hbN⟩, Turns.frameStore (hT0.trans hT1)⟩
end Go.Proofs.YtbkpdapagfjmmaaGreatDoor
