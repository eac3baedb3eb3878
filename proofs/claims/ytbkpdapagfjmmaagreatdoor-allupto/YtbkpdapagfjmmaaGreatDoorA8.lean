import Derived.Test.YtbkpdapagfjmmaaGreatDoorA7
set_option linter.unusedVariables false
set_option maxRecDepth 100000
set_option maxHeartbeats 16000000
namespace Go.Proofs.YtbkpdapagfjmmaaGreatDoor
open Go.RowKit
def aS : Lk.Nx -> Value
 | .more => .tuple #[.agg #[.int .i64 0, .int .i64 0, .string ⟨#[]⟩], .int .i64 0, .bool false]
 | .err e => .tuple #[.agg #[.int .i64 0, .int .i64 0, .string ⟨#[]⟩], .int .i64 (e : Int), .bool false]
 | .frame k st d _ => .tuple #[.agg #[.int .i64 (k : Int), .int .i64 (st : Int), .string ⟨d.toArray⟩], .int .i64 0, .bool true]
def Past (p p' : Nat) (r : Lk.Nx) : Prop := ∀ k st d n, r = .frame k st d n -> p' = p + n
theorem Ph : ∀ (l : Lk.Bs) (k acc n j : Nat), k <= 4 -> acc < 128 ^ k -> Lk.rd k acc l = .ok n j -> n < 128 ^ 4
 | [], k, acc, n, j, _, _, h => by simp [Lk.rd] at h
 | c :: t, k, acc, n, j, hk, ha, h => by
   rw [Lk.rd] at h
   split at h
   . cases h
   . rename_i g
     have hc : c.toNat % 128 < 128 := by omega
     have hk3 : k = 0 ∨ k = 1 ∨ k = 2 ∨ k = 3 := by omega
     split at h
     . cases h
       rcases hk3 with rfl | rfl | rfl | rfl <;> omega
     . exact Ph t (k + 1) _ n j (by omega) (by rcases hk3 with rfl | rfl | rfl | rfl <;> omega) h
theorem nX (p p' : Nat) : Past p p' .more := fun _ _ _ _ h => by cases h
theorem kC (p p' e : Nat) : Past p p' (.err e) := fun _ _ _ _ h => by cases h
theorem Is.aF {w : World} {b N : Nat} {T : TypeId} {cs : List Value} {x y z : Value} (h : Is w b T cs) (hN : N ≠ b) : Is (((w.setCell ⟨N, 0, none⟩ x).setCell ⟨N, 1, none⟩ y).setCell ⟨N, 2, none⟩ z) b T cs :=
 ((h.other ⟨N, 0, none⟩ x hN.symm).other ⟨N, 1, none⟩ y hN.symm).other ⟨N, 2, none⟩ z hN.symm
theorem Turns.aF {w w1 : World} {b : Nat} {x y z : Value} (h : Turns b w w1) : Turns b w (((w1.setCell ⟨w.heap.size, 0, none⟩ x).setCell ⟨w.heap.size, 1, none⟩ y).setCell ⟨w.heap.size, 2, none⟩ z) :=
 ((h.I9 (a := ⟨w.heap.size, 0, none⟩) (Nat.le_refl _) x).I9 (a := ⟨w.heap.size, 1, none⟩) (Nat.le_refl _) y).I9 (a := ⟨w.heap.size, 2, none⟩) (Nat.le_refl _) z
section
variable {c : UInt8} {t : Lk.Bs} (h : ¬ 7 < c.toNat)
include h
theorem Jd {k : Nat} (h1 : Lk.rd 0 0 t = .bad k) : Lk.nx (c :: t) = .err 2 := by simp only [Lk.nx, if_neg h, h1]
theorem zO (h1 : Lk.rd 0 0 t = .short) : Lk.nx (c :: t) = .more := by simp only [Lk.nx, if_neg h, h1]
variable {st a : Nat} (h1 : Lk.rd 0 0 t = .ok st a)
include h1
theorem zQ (h2 : Lk.aC c.toNat st = false) : Lk.nx (c :: t) = .err 4 := by simp only [Lk.nx, if_neg h, h1, if_pos h2]
variable (h2 : ¬ Lk.aC c.toNat st = false)
include h2
theorem Je {k : Nat} (h3 : Lk.rd 0 0 (t.drop a) = .bad k) : Lk.nx (c :: t) = .err 2 := by simp only [Lk.nx, if_neg h, h1, if_neg h2, h3]
theorem zS (h3 : Lk.rd 0 0 (t.drop a) = .short) : Lk.nx (c :: t) = .more := by simp only [Lk.nx, if_neg h, h1, if_neg h2, h3]
variable {n b : Nat} (h3 : Lk.rd 0 0 (t.drop a) = .ok n b)
include h3
theorem Es (h4 : 64 < n) : Lk.nx (c :: t) = .err 5 := by simp only [Lk.nx, if_neg h, h1, if_neg h2, h3, if_pos h4]
variable (h4 : ¬ 64 < n)
include h4
theorem zT (h5 : Lk.aA c.toNat n = false) : Lk.nx (c :: t) = .err 6 := by simp only [Lk.nx, if_neg h, h1, if_neg h2, h3, if_neg h4, if_pos h5]
variable (h5 : ¬ Lk.aA c.toNat n = false)
include h5
theorem Jf (h6 : t.length < a + b + n) : Lk.nx (c :: t) = .more := by simp only [Lk.nx, if_neg h, h1, if_neg h2, h3, if_neg h4, if_neg h5, if_pos h6]
variable (h6 : ¬ t.length < a + b + n)
include h6
theorem vW (h7 : Lk.ay c.toNat ((t.drop (a + b)).take n) = false) : Lk.nx (c :: t) = .err 6 := by simp only [Lk.nx, if_neg h, h1, if_neg h2, h3, if_neg h4, if_neg h5, if_neg h6, if_pos h7]
theorem Et (h7 : ¬ Lk.ay c.toNat ((t.drop (a + b)).take n) = false) : Lk.nx (c :: t) = .frame c.toNat st ((t.drop (a + b)).take n) (1 + a + b + n) := by simp only [Lk.nx, if_neg h, h1, if_neg h2, h3, if_neg h4, if_neg h5, if_neg h6, if_neg h7]
end
theorem Jg {T : TypeId} {more : List Value} (b : Nat) (s : ByteArray) (p : Nat) (f : Int) (w : World) (hs : s.size <= maxLen) (hp : p <= s.size)
 (hI : Is w b T (.string s :: .int .i64 p :: .int .i64 f :: more)) :
 Calls Tryz.prog 88 #[.pointer (some ⟨b, 0, none⟩)] w fun e w' =>
  e = .returned (aS (Lk.nx (s.data.toList.drop p))) ∧ (∃ p', p' <= s.size ∧ Past p p' (Lk.nx (s.data.toList.drop p)) ∧ Is w' b T (.string s :: .int .i64 (p' : Nat) :: .int .i64 f :: more)) ∧ Turns b w w' := by
 have hI0 := hI.alloc (.cells #[.int .i64 0, .int .i64 0, .string ⟨#[]⟩] 79)
 have hN0 := Is.new w 79 [.int .i64 0, .int .i64 0, .string ⟨#[]⟩]
 have hT0 := (Turns.refl b w).alloc (.cells #[.int .i64 0, .int .i64 0, .string ⟨#[]⟩] 79)
 have hbN : w.heap.size ≠ b := Nat.ne_of_gt hI.lt
 have hbS : some w.heap.size ≠ some b := by simpa using hbN
 by_cases hlt : p < s.size
 . have hcons := drop_cons s p hlt
   rw [hcons]
   by_cases h7 : 7 < s[p].toNat
   . have hnx : Lk.nx (s[p] :: s.data.toList.drop (p + 1)) = .err 3 := by rw [Lk.nx, if_pos h7]
     have hke : Lk.jH (s[p].toNat : Int) = 3 := by rw [Lk.jH, if_pos (by omega)]
     rw [hnx]
     have HK := hide hke
     clear hnx hcons hke
     go_enter Tryz.func88, Tryz.ntmps88
     go_wp2_with fail
     refine (xN b T s p _ _ hs hlt hI0).mono ?_
     rintro e w1 ⟨rfl, hI1, hT1⟩
     have hN1 := hN0.grown hT1 hbS
     go_wp2_with fail
     simp only [gG]
     refine (jk _ _).mono ?_
     rw [uh HK]
     rintro e w2 ⟨rfl, rfl⟩
     have n0 := hN1.cell 0
     have n1 := hN1.cell 1
     have n2 := hN1.cell 2
     have g0 := hN1.free 0
     have g1 := hN1.free 1
     have g2 := hN1.free 2
     simp only [List.getElem?_cons_zero, List.getElem?_cons_succ] at n0 n1 n2
     go_wp2_with fail
     exact bodyPost_ret (v := aS (.err 3)) (by simp [results, aS, Tryz.results88, go_sem, n0, n1, n2]) rfl ⟨rfl, ⟨p + 1, by omega, kC _ _ _, Is.aF hI1 hbN⟩, Turns.aF (hT0.trans hT1)⟩
   . have hke : Lk.jH (s[p].toNat : Int) = 0 := by rw [Lk.jH, if_neg (by omega)]
     have HK := hide hke
     have HC := hide hcons
     clear hcons hke
     generalize hl : s.data.toList.drop (p + 1) = t
     have HL := hide hl
     have hlen : t.length = s.size - (p + 1) := by rw [<- hl, List.length_drop, <- af]
     clear hl
     generalize hx : Lk.nx (s[p] :: t) = x
     have HX := hide hx
     clear hx
     go_enter Tryz.func88, Tryz.ntmps88
     go_wp2_with fail
     refine (xN b T s p _ _ hs hlt hI0).mono ?_
     rintro e w1 ⟨rfl, hI1, hT1⟩
     have hN1 := hN0.grown hT1 hbS
     have hW1 := hT0.trans hT1
     clear hI0 hN0 hT0 hT1
     go_wp2_with fail
     try simp only [gG]
     refine (jk _ _).mono ?_
     rw [uh HK]
     rintro e w2 ⟨rfl, rfl⟩
     go_wp2_with fail
     refine (iZ b T s (p + 1) _ _ hs (by omega) hI1).mono ?_
     rw [uh HL]
     rintro e w2 ⟨rfl, hI2, hT2⟩
     have hN2 := hN1.grown hT2 hbS
     have hW2 := hW1.trans hT2
     clear hI1 hN1 hW1 hT2
     cases hr : Lk.rd 0 0 t with
     | short =>
       have e1 := zO h7 hr
       rw [uh HX] at e1
       subst e1
       simp only [hr, Lk.Rd.val, Lk.Rd.good, Lk.Rd.at] at hI2 ⊢
       clear hr
       go_wp2_with fail
       refine (qW b T s _ _ _ hs hI2).mono ?_
       rw [if_pos (Nat.le_refl _)]
       rintro e w3 ⟨rfl, n3, rfl⟩
       have n0 := hN2.cell 0
       have n1 := hN2.cell 1
       have n2 := hN2.cell 2
       have g0 := hN2.free 0
       have g1 := hN2.free 1
       have g2 := hN2.free 2
       simp only [List.getElem?_cons_zero, List.getElem?_cons_succ] at n0 n1 n2
       go_wp2_with fail
       exact bodyPost_ret (v := aS (.more)) (by simp [results, aS, Tryz.results88, go_sem, n0, n1, n2]) rfl ⟨rfl, ⟨s.size, Nat.le_refl _, nX _ _, Is.aF (hI2.drewN n3) hbN⟩, Turns.aF (hW2.drewN n3)⟩
     | bad k =>
       have e1 := Jd h7 hr
       have hk := Lk.jW t 0 0 k hr
       rw [uh HX] at e1
       subst e1
       simp only [hr, Lk.Rd.val, Lk.Rd.good, Lk.Rd.at] at hI2 ⊢
       clear hr
       go_wp2_with fail
       refine (qW b T s _ _ _ hs hI2).mono ?_
       rw [if_neg (by omega)]
       rintro e w3 ⟨rfl, n3, rfl⟩
       have n0 := hN2.cell 0
       have n1 := hN2.cell 1
       have n2 := hN2.cell 2
       have g0 := hN2.free 0
       have g1 := hN2.free 1
       have g2 := hN2.free 2
       simp only [List.getElem?_cons_zero, List.getElem?_cons_succ] at n0 n1 n2
       go_wp2_with fail
       exact bodyPost_ret (v := aS (.err 2)) (by simp [results, aS, Tryz.results88, go_sem, n0, n1, n2]) rfl ⟨rfl, ⟨p + 1 + k, by omega, kC _ _ _, Is.aF (hI2.drewN n3) hbN⟩, Turns.aF (hW2.drewN n3)⟩
     | ok st a =>
       have ha := Lk.bn t 0 0 st a hr
       have hst := Ph t 0 0 st a (by omega) (by omega) hr
       simp only [hr, Lk.Rd.val, Lk.Rd.good, Lk.Rd.at] at hI2 ⊢
       have HR := hide hr
       clear hr
       have hst' : (st : Int) <= 268435455 := by omega
       go_wp2_with fail
       refine (nT _ st (by omega) (by omega) (by omega) hst' _).mono ?_
       rintro e w3 ⟨rfl, hb3⟩
       have hI3 := hI2.below hb3 hI2.lt
       have hN3 := hN2.below hb3 hN2.lt
       have hW3 := hW2.below hb3
       clear hI2 hN2 hW2 hb3
       by_cases hsf : Lk.aC s[p].toNat st = false
       . have e1 := zQ h7 (uh HR) hsf
         have e2 : Lk.fM s[p].toNat st = 4 := by rw [Lk.fM, if_pos hsf]
         rw [uh HX] at e1
         subst e1
         rw [e2]
         clear e2 hsf
         have n0 := hN3.cell 0
         have n1 := hN3.cell 1
         have n2 := hN3.cell 2
         have g0 := hN3.free 0
         have g1 := hN3.free 1
         have g2 := hN3.free 2
         simp only [List.getElem?_cons_zero, List.getElem?_cons_succ] at n0 n1 n2
         go_wp2_with fail
         exact bodyPost_ret (v := aS (.err 4)) (by simp [results, aS, Tryz.results88, go_sem, n0, n1, n2]) rfl ⟨rfl, ⟨p + 1 + a, by omega, kC _ _ _, Is.aF hI3 hbN⟩, Turns.aF hW3⟩
       have e2 : Lk.fM s[p].toNat st = 0 := by rw [Lk.fM, if_neg hsf]
       rw [e2]
       have HSF := hide hsf
       clear e2 hsf
       go_wp2_with fail
       refine (iZ b T s (p + 1 + a) _ _ hs (by omega) hI3).mono ?_
       rw [<- List.drop_drop, uh HL]
       rintro e w4 ⟨rfl, hI4, hT4⟩
       have hN4 := hN3.grown hT4 hbS
       have hW4 := hW3.trans hT4
       clear hI3 hN3 hW3 hT4
       cases hr : Lk.rd 0 0 (t.drop a) with
       | short =>
         have e1 := zS h7 (uh HR) (uh HSF) hr
         rw [uh HX] at e1
         subst e1
         simp only [hr, Lk.Rd.val, Lk.Rd.good, Lk.Rd.at] at hI4 ⊢
         clear hr
         go_wp2_with fail
         refine (qW b T s _ _ _ hs hI4).mono ?_
         rw [if_pos (Nat.le_refl _)]
         rintro e w5 ⟨rfl, n5, rfl⟩
         have n0 := hN4.cell 0
         have n1 := hN4.cell 1
         have n2 := hN4.cell 2
         have g0 := hN4.free 0
         have g1 := hN4.free 1
         have g2 := hN4.free 2
         simp only [List.getElem?_cons_zero, List.getElem?_cons_succ] at n0 n1 n2
         go_wp2_with fail
         exact bodyPost_ret (v := aS (.more)) (by simp [results, aS, Tryz.results88, go_sem, n0, n1, n2]) rfl ⟨rfl, ⟨s.size, Nat.le_refl _, nX _ _, Is.aF (hI4.drewN n5) hbN⟩, Turns.aF (hW4.drewN n5)⟩
       | bad k =>
         have e1 := Je h7 (uh HR) (uh HSF) hr
         have hk := Lk.jW _ 0 0 k hr
         rw [List.length_drop] at hk
         rw [uh HX] at e1
         subst e1
         simp only [hr, Lk.Rd.val, Lk.Rd.good, Lk.Rd.at] at hI4 ⊢
         clear hr
         go_wp2_with fail
         refine (qW b T s _ _ _ hs hI4).mono ?_
         rw [if_neg (by omega)]
         rintro e w5 ⟨rfl, n5, rfl⟩
         have n0 := hN4.cell 0
         have n1 := hN4.cell 1
         have n2 := hN4.cell 2
         have g0 := hN4.free 0
         have g1 := hN4.free 1
         have g2 := hN4.free 2
         simp only [List.getElem?_cons_zero, List.getElem?_cons_succ] at n0 n1 n2
         go_wp2_with fail
         exact bodyPost_ret (v := aS (.err 2)) (by simp [results, aS, Tryz.results88, go_sem, n0, n1, n2]) rfl ⟨rfl, ⟨p + 1 + a + k, by omega, kC _ _ _, Is.aF (hI4.drewN n5) hbN⟩, Turns.aF (hW4.drewN n5)⟩
       | ok n m =>
         have hm := Lk.bn _ 0 0 n m hr
         rw [List.length_drop] at hm
         simp only [hr, Lk.Rd.val, Lk.Rd.good, Lk.Rd.at] at hI4 ⊢
         have HR2 := hide hr
         clear hr
         go_wp2_with fail
         refine (nU _ n (by omega) (by omega) (by omega) _).mono ?_
         rintro e w5 ⟨rfl, hb5⟩
         have hI5 := hI4.below hb5 hI4.lt
         have hN5 := hN4.below hb5 hN4.lt
         have hW5 := hW4.below hb5
         clear hI4 hN4 hW4 hb5
         by_cases h64 : 64 < n
         . have e1 := Es h7 (uh HR) (uh HSF) (uh HR2) h64
           have e2 : Lk.dF s[p].toNat n = 5 := by rw [Lk.dF, if_pos (by omega)]
           rw [uh HX] at e1
           subst e1
           rw [e2]
           clear e2
           have n0 := hN5.cell 0
           have n1 := hN5.cell 1
           have n2 := hN5.cell 2
           have g0 := hN5.free 0
           have g1 := hN5.free 1
           have g2 := hN5.free 2
           simp only [List.getElem?_cons_zero, List.getElem?_cons_succ] at n0 n1 n2
           go_wp2_with fail
           exact bodyPost_ret (v := aS (.err 5)) (by simp [results, aS, Tryz.results88, go_sem, n0, n1, n2]) rfl ⟨rfl, ⟨p + 1 + a + m, by omega, kC _ _ _, Is.aF hI5 hbN⟩, Turns.aF hW5⟩
         by_cases hlf : Lk.aA s[p].toNat n = false
         . have e1 := zT h7 (uh HR) (uh HSF) (uh HR2) h64 hlf
           have e2 : Lk.dF s[p].toNat n = 6 := by rw [Lk.dF, if_neg (by omega), if_pos hlf]
           rw [uh HX] at e1
           subst e1
           rw [e2]
           clear e2 hlf
           have n0 := hN5.cell 0
           have n1 := hN5.cell 1
           have n2 := hN5.cell 2
           have g0 := hN5.free 0
           have g1 := hN5.free 1
           have g2 := hN5.free 2
           simp only [List.getElem?_cons_zero, List.getElem?_cons_succ] at n0 n1 n2
           go_wp2_with fail
           exact bodyPost_ret (v := aS (.err 6)) (by simp [results, aS, Tryz.results88, go_sem, n0, n1, n2]) rfl ⟨rfl, ⟨p + 1 + a + m, by omega, kC _ _ _, Is.aF hI5 hbN⟩, Turns.aF hW5⟩
         have e2 : Lk.dF s[p].toNat n = 0 := by rw [Lk.dF, if_neg (by omega), if_neg hlf]
         rw [e2]
         have HLF := hide hlf
         clear e2 hlf
         by_cases htk : t.length < a + m + n
         . have e1 := Jf h7 (uh HR) (uh HSF) (uh HR2) h64 (uh HLF) htk
           rw [uh HX] at e1
           subst e1
           go_wp2_with fail
           refine (O9 b T s (p + 1 + a + m) n _ _ hs (by omega) (by omega) hI5).mono ?_
           rintro e w6 ⟨rfl, hI6, hT6⟩
           have hN6 := hN5.grown hT6 hbS
           have hW6 := hW5.trans hT6
           have n0 := hN6.cell 0
           have n1 := hN6.cell 1
           have n2 := hN6.cell 2
           have g0 := hN6.free 0
           have g1 := hN6.free 1
           have g2 := hN6.free 2
           simp only [List.getElem?_cons_zero, List.getElem?_cons_succ] at n0 n1 n2
           go_wp2_with fail
           exact bodyPost_ret (v := aS (.more)) (by simp [results, aS, Tryz.results88, go_sem, n0, n1, n2]) rfl ⟨rfl, ⟨s.size, Nat.le_refl _, nX _ _, Is.aF hI6 hbN⟩, Turns.aF hW6⟩
         go_wp2_with fail
         refine (LK b T s (p + 1 + a + m) n _ _ hs (by omega) hI5).mono ?_
         rintro e w6 ⟨rfl, hI6, hT6⟩
         have hN6 := hN5.grown hT6 hbS
         have hW6 := hW5.trans hT6
         clear hI5 hN5 hW5 hT6
         have hdata : (s.extract (p + 1 + a + m) (p + 1 + a + m + n)).data.toList = (t.drop (a + m)).take n := by
          rw [<- uh HL, List.drop_drop, dI]
          congr 2 <;> omega
         have We : (s.extract (p + 1 + a + m) (p + 1 + a + m + n)).size = n := by rw [ByteArray.size_extract]; omega
         have hdv : s.extract (p + 1 + a + m) (p + 1 + a + m + n) = ⟨((t.drop (a + m)).take n).toArray⟩ := by rw [<- hdata]
         have HDV := hide hdv
         clear hdv
         generalize s.extract (p + 1 + a + m) (p + 1 + a + m + n) = d at *
         go_wp2_with fail
         refine (mM _ d _ (by unfold maxLen; omega)).mono ?_
         rw [hdata]
         clear hdata
         rintro e w7 ⟨rfl, hb7⟩
         have hI7 := hI6.below hb7 hI6.lt
         have hN7 := hN6.below hb7 hN6.lt
         have hW7 := hW6.below hb7
         clear hI6 hN6 hW6 hb7
         by_cases hpf : Lk.ay s[p].toNat ((t.drop (a + m)).take n) = false
         . have e1 := vW h7 (uh HR) (uh HSF) (uh HR2) h64 (uh HLF) htk hpf
           have e2 : Lk.bP s[p].toNat ((t.drop (a + m)).take n) = 6 := by rw [Lk.bP, if_pos hpf]
           rw [uh HX] at e1
           subst e1
           rw [e2]
           clear e2 hpf
           have n0 := hN7.cell 0
           have n1 := hN7.cell 1
           have n2 := hN7.cell 2
           have g0 := hN7.free 0
           have g1 := hN7.free 1
           have g2 := hN7.free 2
           simp only [List.getElem?_cons_zero, List.getElem?_cons_succ] at n0 n1 n2
           go_wp2_with fail
           exact bodyPost_ret (v := aS (.err 6)) (by simp [results, aS, Tryz.results88, go_sem, n0, n1, n2]) rfl ⟨rfl, ⟨p + 1 + a + m + n, by omega, kC _ _ _, Is.aF hI7 hbN⟩, Turns.aF hW7⟩
         have e1 := Et h7 (uh HR) (uh HSF) (uh HR2) h64 (uh HLF) htk hpf
         have e2 : Lk.bP s[p].toNat ((t.drop (a + m)).take n) = 0 := by rw [Lk.bP, if_neg hpf]
         rw [e2]
         rw [uh HX] at e1
         clear e2 hpf
         go_wp2_with fail
         refine (clone_any d _ (by omega)).mono ?_
         rintro e w8 ⟨rfl, hb8⟩
         have hI8 := hI7.below hb8 hI7.lt
         have hN8 := hN7.below hb8 hN7.lt
         have hW8 := hW7.below hb8
         clear hI7 hN7 hW7 hb8
         have hfv : aS x = .tuple #[.agg #[.int .i64 (s[p].toNat : Int), .int .i64 (st : Int), .string d], .int .i64 0, .bool true] := by rw [e1, aS, uh HDV]
         have UY : Past p (p + 1 + a + m + n) x := by
          intro k' st' d' n' h'
          rw [e1] at h'
          cases h'
          omega
         have HFV := hide hfv
         have HPS := hide UY
         clear e1 hfv UY
         have n0 := hN8.cell 0
         have n1 := hN8.cell 1
         have n2 := hN8.cell 2
         have g0 := hN8.free 0
         have g1 := hN8.free 1
         have g2 := hN8.free 2
         simp only [List.getElem?_cons_zero, List.getElem?_cons_succ] at n0 n1 n2
         go_wp2_with fail
         exact bodyPost_ret (v := .tuple #[.agg #[.int .i64 (s[p].toNat : Int), .int .i64 (st : Int), .string d], .int .i64 0, .bool true]) (by simp [results, Tryz.results88, go_sem, n0, n1, n2]) rfl ⟨congrArg Ending.returned (uh HFV).symm, ⟨p + 1 + a + m + n, by omega, uh HPS, Is.aF hI8 hbN⟩, Turns.aF hW8⟩
 . have hnx : Lk.nx (s.data.toList.drop p) = .more := by rw [drop_end s p (by omega)]; rfl
   rw [hnx]
   clear hnx
   go_enter Tryz.func88, Tryz.ntmps88
   go_wp2_with fail
   refine (I7 b T s p _ _ hs (by omega) hI0).mono ?_
   rintro e w1 ⟨rfl, hI1, hT1⟩
   have hN1 := hN0.grown hT1 hbS
   have n0 := hN1.cell 0
   have n1 := hN1.cell 1
   have n2 := hN1.cell 2
   have g0 := hN1.free 0
   have g1 := hN1.free 1
   have g2 := hN1.free 2
   simp only [List.getElem?_cons_zero, List.getElem?_cons_succ] at n0 n1 n2
   go_wp2_with fail
   exact bodyPost_ret (v := aS (.more)) (by simp [results, aS, Tryz.results88, go_sem, n0, n1, n2]) rfl ⟨rfl, ⟨p, hp, nX _ _, Is.aF hI1 hbN⟩, Turns.aF (hT0.trans hT1)⟩
end Go.Proofs.YtbkpdapagfjmmaaGreatDoor
