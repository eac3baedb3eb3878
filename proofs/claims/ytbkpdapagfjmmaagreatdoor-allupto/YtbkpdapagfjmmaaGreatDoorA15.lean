import Derived.Test.YtbkpdapagfjmmaaGreatDoorA13
set_option linter.unusedVariables false
set_option maxRecDepth 100000
set_option maxHeartbeats 16000000
namespace Go.Proofs.YtbkpdapagfjmmaaGreatDoor
open Go.RowKit
def aS : Lk.Nx -> Value
 | .more => .tuple #[.agg #[.int .i64 0, .int .i64 0, .string ⟨#[]⟩], .int .i64 0, .bool false]
 | .err e => .tuple #[.agg #[.int .i64 0, .int .i64 0, .string ⟨#[]⟩], .int .i64 (e : Int), .bool false]
 | .frame k st d _ => .tuple #[.agg #[.int .i64 (k : Int), .int .i64 (st : Int), .string ⟨d.toArray⟩], .int .i64 0, .bool true]
def Past (p p' : Nat) (r : Lk.Nx) : Prop := ∀ k st d n, r = .frame k st d n -> p' = p + n
theorem Ph : ∀ (l : Lk.Bs) (k acc n j : Nat), k <= 4 -> acc < 128 ^ k -> Lk.rd k acc l = .ok n j -> n < 128 ^ 4
 | [], k, acc, n, j, _, _, h => by simp [Lk.rd] at h
 | c :: t, k, acc, n, j, hk, ha, h => by
   rw [Lk.rd] at h
   split at h
   . cases h
   . rename_i g
     have hc : c.toNat % 128 < 128 := by omega
     have hk3 : k = 0 ∨ k = 1 ∨ k = 2 ∨ k = 3 := by omega
     split at h
     . cases h
       rcases hk3 with rfl | rfl | rfl | rfl <;> omega
     . exact Ph t (k + 1) _ n j (by omega) (by rcases hk3 with rfl | rfl | rfl | rfl <;> omega) h
theorem nX (p p' : Nat) : Past p p' .more := fun _ _ _ _ h => by cases h
theorem kC (p p' e : Nat) : Past p p' (.err e) := fun _ _ _ _ h => by cases h
theorem Is.aF {w : World} {b N : Nat} {T : TypeId} {cs : List Value} {x y z : Value} (h : Is w b T cs) (hN : N ≠ b) : Is (((w.setCell ⟨N, 0, none⟩ x).setCell ⟨N, 1, none⟩ y).setCell ⟨N, 2, none⟩ z) b T cs :=
 ((h.other ⟨N, 0, none⟩ x hN.symm).other ⟨N, 1, none⟩ y hN.symm).other ⟨N, 2, none⟩ z hN.symm
theorem Turns.aF {w w1 : World} {b : Nat} {x y z : Value} (h : Turns b w w1) : Turns b w (((w1.setCell ⟨w.heap.size, 0, none⟩ x).setCell ⟨w.heap.size, 1, none⟩ y).setCell ⟨w.heap.size, 2, none⟩ z) :=
 ((h.I9 (a := ⟨w.heap.size, 0, none⟩) (Nat.le_refl _) x).I9 (a := ⟨w.heap.size, 1, none⟩) (Nat.le_refl _) y).I9 (a := ⟨w.heap.size, 2, none⟩) (Nat.le_refl _) z
section
variable {c : UInt8} {t : Lk.Bs} (h : ¬ 7 < c.toNat)
include h
theorem Jd {k : Nat} (h1 : Lk.rd 0 0 t = .bad k) : Lk.nx (c :: t) = .err 2 := by simp only [Lk.nx, if_neg h, h1]
theorem zO (h1 : Lk.rd 0 0 t = .short) : Lk.nx (c :: t) = .more := by simp only [Lk.nx, if_neg h, h1]
variable {st a : Nat} (h1 : Lk.rd 0 0 t = .ok st a)
include h1
theorem zQ (h2 : Lk.aC c.toNat st = false) : Lk.nx (c :: t) = .err 4 := by simp only [Lk.nx, if_neg h, h1, if_pos h2]
variable (h2 : ¬ Lk.aC c.toNat st = false)
include h2
theorem Je {k : Nat} (h3 : Lk.rd 0 0 (t.drop a) = .bad k) : Lk.nx (c :: t) = .err 2 := by simp only [Lk.nx, if_neg h, h1, if_neg h2, h3]
theorem zS (h3 : Lk.rd 0 0 (t.drop a) = .short) : Lk.nx (c :: t) = .more := by simp only [Lk.nx, if_neg h, h1, if_neg h2, h3]
variable {n b : Nat} (h3 : Lk.rd 0 0 (t.drop a) = .ok n b)
include h3
theorem Es (h4 : 64 < n) : Lk.nx (c :: t) = .err 5 := by simp only [Lk.nx, if_neg h, h1, if_neg h2, h3, if_pos h4]
variable (h4 : ¬ 64 < n)
include h4
theorem zT (h5 : Lk.aA c.toNat n = false) : Lk.nx (c :: t) = .err 6 := by simp only [Lk.nx, if_neg h, h1, if_neg h2, h3, if_neg h4, if_pos h5]
variable (h5 : ¬ Lk.aA c.toNat n = false)
include h5
theorem Jf (h6 : t.length < a + b + n) : Lk.nx (c :: t) = .more := by simp only [Lk.nx, if_neg h, h1, if_neg h2, h3, if_neg h4, if_neg h5, if_pos h6]
variable (h6 : ¬ t.length < a + b + n)
include h6
theorem vW (h7 : Lk.ay c.toNat ((t.drop (a + b)).take n) = false) : Lk.nx (c :: t) = .err 6 := by simp only [Lk.nx, if_neg h, h1, if_neg h2, h3, if_neg h4, if_neg h5, if_neg h6, if_pos h7]
theorem Et (h7 : ¬ Lk.ay c.toNat ((t.drop (a + b)).take n) = false) : Lk.nx (c :: t) = .frame c.toNat st ((t.drop (a + b)).take n) (1 + a + b + n) := by simp only [Lk.nx, if_neg h, h1, if_neg h2, h3, if_neg h4, if_neg h5, if_neg h6, if_neg h7]
end
theorem Jg {T : TypeId} {more : List Value} (b : Nat) (s : ByteArray) (p : Nat) (f : Int) (w : World) (hs : s.size <= maxLen) (hp : p <= s.size)
 (hI : Is w b T (.string s :: .int .i64 p :: .int .i64 f :: more)) :
 Calls Tryz.prog 88 #[.pointer (some ⟨b, 0, none⟩)] w fun e w' =>
  e = .returned (aS (Lk.nx (s.data.toList.drop p))) ∧ (∃ p', p' <= s.size ∧ Past p p' (Lk.nx (s.data.toList.drop p)) ∧ Is w' b T (.string s :: .int .i64 (p' : Nat) :: .int .i64 f :: more)) ∧ Turns b w w' := by
 have hI0 := hI.alloc (.cells #[.int .i64 0, .int .i64 0, .string ⟨#[]⟩] 79)
 have hN0 := Is.new w 79 [.int .i64 0, .int .i64 0, .string ⟨#[]⟩]
 have hT0 := (Turns.refl b w).alloc (.cells #[.int .i64 0, .int .i64 0, .string ⟨#[]⟩] 79)
 have hbN : w.heap.size ≠ b := Nat.ne_of_gt hI.lt
 have hbS : some w.heap.size ≠ some b := by simpa using hbN
 by_cases hlt : p < s.size
 . have hcons := drop_cons s p hlt
   rw [hcons]
   by_cases h7 : 7 < s[p].toNat
   . have hnx : Lk.nx (s[p] :: s.data.toList.drop (p + 1)) = .err 3 := by rw [Lk.nx, if_pos h7]
     have hke : Lk.jH (s[p].toNat : Int) = 3 := by rw [Lk.jH, if_pos (by omega)]
     rw [hnx]
     have HK := hide hke
     clear hnx hcons hke
     go_enter Tryz.func88, Tryz.ntmps88
     go_wp2_with fail
     refine (xN b T s p _ _ hs hlt hI0).mono ?_
     rintro e w1 ⟨rfl, hI1, hT1⟩
     have hN1 := hN0.grown hT1 hbS
     go_wp2_with fail
     simp only [gG]
     refine (jk _ _).mono ?_
     rw [uh HK]
     rintro e w2 ⟨rfl, rfl⟩
     have n0 := hN1.cell 0
     have n1 := hN1.cell 1
     have n2 := hN1.cell 2
     have g0 := hN1.free 0
     have g1 := hN1.free 1
     have g2 := hN1.free 2
     simp only [List.getElem?_cons_zero, List.getElem?_cons_succ] at n0 n1 n2
     go_wp2_with fail
     exact bodyPost_ret (v := aS (.err 3)) (by simp [results, aS, Tryz.results88, go_sem, n0, n1, n2]) rfl ⟨rfl, ⟨p + 1, by omega, kC _ _ _, Is.aF hI1 hbN⟩, Turns.aF (hT0.trans hT1)⟩
   . have hke : Lk.jH (s[p].toNat : Int) = 0 := by rw [Lk.jH, if_neg (by omega)]
     have HK := hide hke
     have HC := hide hcons
     clear hcons hke
     generalize hl : s.data.toList.drop (p + 1) = t
     have HL := hide hl
     have hlen : t.length = s.size - (p + 1) := by rw [<- hl, List.length_drop, <- af]
     clear hl
     generalize hx : Lk.nx (s[p] :: t) = x
     have HX := hide hx
     clear hx
     go_enter Tryz.func88, Tryz.ntmps88
     go_wp2_with fail
     refine (xN b T s p _ _ hs hlt hI0).mono ?_
     rintro e w1 ⟨rfl, hI1, hT1⟩
     have hN1 := hN0.grown hT1 hbS
     have hW1 := hT0.trans hT1
     clear hI0 hN0 hT0 hT1
     go_wp2_with fail
     try simp only [gG]
     refine (jk _ _).mono ?_
     rw [uh HK]
     rintro e w2 ⟨rfl, rfl⟩
     go_wp2_with fail
     refine (iZ b T s (p + 1) _ _ hs (by omega) hI1).mono ?_
     rw [uh HL]
     rintro e w2 ⟨rfl, hI2, hT2⟩
     have hN2 := hN1.grown hT2 hbS
     have hW2 := hW1.trans hT2
     clear hI1 hN1 hW1 hT2
     cases hr : Lk.rd 0 0 t with
     | short =>
       have e1 := zO h7 hr
       rw [uh HX] at e1
       subst e1
       simp only [hr, Lk.Rd.val, Lk.Rd.good, Lk.Rd.at] at hI2 ⊢
       clear hr
       go_wp2_with fail
       refine (qW b T s _ _ _ hs hI2).mono ?_
       rw [if_pos (Nat.le_refl _)]
       rintro e w3 ⟨rfl, n3, rfl⟩
       have n0 := hN2.cell 0
       have n1 := hN2.cell 1
       have n2 := hN2.cell 2
       have g0 := hN2.free 0
       have g1 := hN2.free 1
       have g2 := hN2.free 2
       simp only [List.getElem?_cons_zero, List.getElem?_cons_succ] at n0 n1 n2
       go_wp2_with fail
       exact bodyPost_ret (v := aS (.more)) (by simp [results, aS, Tryz.results88, go_sem, n0, n1, n2]) rfl ⟨rfl, ⟨s.size, Nat.le_refl _, nX _ _, Is.aF (hI2.drewN n3) hbN⟩, Turns.aF (hW2.drewN n3)⟩
     | bad k =>
       have e1 := Jd h7 hr
       have hk := Lk.jW t 0 0 k hr
       rw [uh HX] at e1
       subst e1
       simp only [hr, Lk.Rd.val, Lk.Rd.good, Lk.Rd.at] at hI2 ⊢
       clear hr
       go_wp2_with fail
       refine (qW b T s _ _ _ hs hI2).mono ?_
       rw [if_neg (by omega)]
       rintro e w3 ⟨rfl, n3, rfl⟩
       have n0 := hN2.cell 0
       have n1 := hN2.cell 1
       have n2 := hN2.cell 2
       have g0 := hN2.free 0
       have g1 := hN2.free 1
       have g2 := hN2.free 2
       simp only [List.getElem?_cons_zero, List.getElem?_cons_succ] at n0 n1 n2
       go_wp2_with fail
       exact bodyPost_ret (v := aS (.err 2)) (by simp [results, aS, Tryz.results88, go_sem, n0, n1, n2]) rfl ⟨rfl, ⟨p + 1 + k, by omega, kC _ _ _, Is.aF (hI2.drewN n3) hbN⟩, Turns.aF (hW2.drewN n3)⟩
     | ok st a =>
       have ha := Lk.bn t 0 0 st a hr
       have hst := Ph t 0 0 st a (by omega) (by omega) hr
       simp only [hr, Lk.Rd.val, Lk.Rd.good, Lk.Rd.at] at hI2 ⊢
       have HR := hide hr
       clear hr
       have hst' : (st : Int) <= 268435455 := by omega
       go_wp2_with fail
       refine (nT _ st (by omega) (by omega) (by omega) hst' _).mono ?_
       rintro e w3 ⟨rfl, hb3⟩
       have hI3 := hI2.below hb3 hI2.lt
       have hN3 := hN2.below hb3 hN2.lt
       have hW3 := hW2.below hb3
       clear hI2 hN2 hW2 hb3
       by_cases hsf : Lk.aC s[p].toNat st = false
       . have e1 := zQ h7 (uh HR) hsf
         have e2 : Lk.fM s[p].toNat st = 4 := by rw [Lk.fM, if_pos hsf]
         rw [uh HX] at e1
         subst e1
         rw [e2]
         clear e2 hsf
         have n0 := hN3.cell 0
         have n1 := hN3.cell 1
         have n2 := hN3.cell 2
         have g0 := hN3.free 0
         have g1 := hN3.free 1
         have g2 := hN3.free 2
         simp only [List.getElem?_cons_zero, List.getElem?_cons_succ] at n0 n1 n2
         go_wp2_with fail
         exact bodyPost_ret (v := aS (.err 4)) (by simp [results, aS, Tryz.results88, go_sem, n0, n1, n2]) rfl ⟨rfl, ⟨p + 1 + a, by omega, kC _ _ _, Is.aF hI3 hbN⟩, Turns.aF hW3⟩
       have e2 : Lk.fM s[p].toNat st = 0 := by rw [Lk.fM, if_neg hsf]
       rw [e2]
       have HSF := hide hsf
       clear e2 hsf
       go_wp2_with fail
       refine (iZ b T s (p + 1 + a) _ _ hs (by omega) hI3).mono ?_
       rw [<- List.drop_drop, uh HL]
       rintro e w4 ⟨rfl, hI4, hT4⟩
       have hN4 := hN3.grown hT4 hbS
       have hW4 := hW3.trans hT4
       clear hI3 hN3 hW3 hT4
       cases hr : Lk.rd 0 0 (t.drop a) with
       | short =>
         have e1 := zS h7 (uh HR) (uh HSF) hr
         rw [uh HX] at e1
         subst e1
         simp only [hr, Lk.Rd.val, Lk.Rd.good, Lk.Rd.at] at hI4 ⊢
         clear hr
         go_wp2_with fail
         refine (qW b T s _ _ _ hs hI4).mono ?_
         rw [if_pos (Nat.le_refl _)]
         rintro e w5 ⟨rfl, n5, rfl⟩
         have n0 := hN4.cell 0
         have n1 := hN4.cell 1
         have n2 := hN4.cell 2
         have g0 := hN4.free 0
         have g1 := hN4.free 1
         have g2 := hN4.free 2
         simp only [List.getElem?_cons_zero, List.getElem?_cons_succ] at n0 n1 n2
         go_wp2_with fail
         exact bodyPost_ret (v := aS (.more)) (by simp [results, aS, Tryz.results88, go_sem, n0, n1, n2]) rfl ⟨rfl, ⟨s.size, Nat.le_refl _, nX _ _, Is.aF (hI4.drewN n5) hbN⟩, Turns.aF (hW4.drewN n5)⟩
       | bad k =>
         have e1 := Je h7 (uh HR) (uh HSF) hr
         have hk := Lk.jW _ 0 0 k hr
         rw [List.length_drop] at hk
         rw [uh HX] at e1
         subst e1
         simp only [hr, Lk.Rd.val, Lk.Rd.good, Lk.Rd.at] at hI4 ⊢
         clear hr
         go_wp2_with fail
         refine (qW b T s _ _ _ hs hI4).mono ?_
         rw [if_neg (by omega)]
         rintro e w5 ⟨rfl, n5, rfl⟩
         have n0 := hN4.cell 0
         have n1 := hN4.cell 1
         have n2 := hN4.cell 2
         have g0 := hN4.free 0
         have g1 := hN4.free 1
         have g2 := hN4.free 2
         simp only [List.getElem?_cons_zero, List.getElem?_cons_succ] at n0 n1 n2
         go_wp2_with fail
         exact bodyPost_ret (v := aS (.err 2)) (by simp [results, aS, Tryz.results88, go_sem, n0, n1, n2]) rfl ⟨rfl, ⟨p + 1 + a + k, by omega, kC _ _ _, Is.aF (hI4.drewN n5) hbN⟩, Turns.aF (hW4.drewN n5)⟩
       | ok n m =>
         have hm := Lk.bn _ 0 0 n m hr
         rw [List.length_drop] at hm
         simp only [hr, Lk.Rd.val, Lk.Rd.good, Lk.Rd.at] at hI4 ⊢
         have HR2 := hide hr
         clear hr
         go_wp2_with fail
         refine (nU _ n (by omega) (by omega) (by omega) _).mono ?_
         rintro e w5 ⟨rfl, hb5⟩
         have hI5 := hI4.below hb5 hI4.lt
         have hN5 := hN4.below hb5 hN4.lt
         have hW5 := hW4.below hb5
         clear hI4 hN4 hW4 hb5
         by_cases h64 : 64 < n
         . have e1 := Es h7 (uh HR) (uh HSF) (uh HR2) h64
           have e2 : Lk.dF s[p].toNat n = 5 := by rw [Lk.dF, if_pos (by omega)]
           rw [uh HX] at e1
           subst e1
           rw [e2]
           clear e2
           have n0 := hN5.cell 0
           have n1 := hN5.cell 1
           have n2 := hN5.cell 2
           have g0 := hN5.free 0
           have g1 := hN5.free 1
           have g2 := hN5.free 2
           simp only [List.getElem?_cons_zero, List.getElem?_cons_succ] at n0 n1 n2
           go_wp2_with fail
           exact bodyPost_ret (v := aS (.err 5)) (by simp [results, aS, Tryz.results88, go_sem, n0, n1, n2]) rfl ⟨rfl, ⟨p + 1 + a + m, by omega, kC _ _ _, Is.aF hI5 hbN⟩, Turns.aF hW5⟩
         by_cases hlf : Lk.aA s[p].toNat n = false
         . have e1 := zT h7 (uh HR) (uh HSF) (uh HR2) h64 hlf
           have e2 : Lk.dF s[p].toNat n = 6 := by rw [Lk.dF, if_neg (by omega), if_pos hlf]
           rw [uh HX] at e1
           subst e1
           rw [e2]
           clear e2 hlf
           have n0 := hN5.cell 0
           have n1 := hN5.cell 1
           have n2 := hN5.cell 2
           have g0 := hN5.free 0
           have g1 := hN5.free 1
           have g2 := hN5.free 2
           simp only [List.getElem?_cons_zero, List.getElem?_cons_succ] at n0 n1 n2
           go_wp2_with fail
           exact bodyPost_ret (v := aS (.err 6)) (by simp [results, aS, Tryz.results88, go_sem, n0, n1, n2]) rfl ⟨rfl, ⟨p + 1 + a + m, by omega, kC _ _ _, Is.aF hI5 hbN⟩, Turns.aF hW5⟩
         have e2 : Lk.dF s[p].toNat n = 0 := by rw [Lk.dF, if_neg (by omega), if_neg hlf]
         rw [e2]
         have HLF := hide hlf
         clear e2 hlf
         by_cases htk : t.length < a + m + n
         . have e1 := Jf h7 (uh HR) (uh HSF) (uh HR2) h64 (uh HLF) htk
           rw [uh HX] at e1
           subst e1
           go_wp2_with fail
           refine (O9 b T s (p + 1 + a + m) n _ _ hs (by omega) (by omega) hI5).mono ?_
           rintro e w6 ⟨rfl, hI6, hT6⟩
           have hN6 := hN5.grown hT6 hbS
           have hW6 := hW5.trans hT6
           have n0 := hN6.cell 0
           have n1 := hN6.cell 1
           have n2 := hN6.cell 2
           have g0 := hN6.free 0
           have g1 := hN6.free 1
           have g2 := hN6.free 2
           simp only [List.getElem?_cons_zero, List.getElem?_cons_succ] at n0 n1 n2
           go_wp2_with fail
           exact bodyPost_ret (v := aS (.more)) (by simp [results, aS, Tryz.results88, go_sem, n0, n1, n2]) rfl ⟨rfl, ⟨s.size, Nat.le_refl _, nX _ _, Is.aF hI6 hbN⟩, Turns.aF hW6⟩
         go_wp2_with fail
         refine (LK b T s (p + 1 + a + m) n _ _ hs (by omega) hI5).mono ?_
         rintro e w6 ⟨rfl, hI6, hT6⟩
         have hN6 := hN5.grown hT6 hbS
         have hW6 := hW5.trans hT6
         clear hI5 hN5 hW5 hT6
         have hdata : (s.extract (p + 1 + a + m) (p + 1 + a + m + n)).data.toList = (t.drop (a + m)).take n := by
          rw [<- uh HL, List.drop_drop, dI]
          congr 2 <;> omega
         have We : (s.extract (p + 1 + a + m) (p + 1 + a + m + n)).size = n := by rw [ByteArray.size_extract]; omega
         have hdv : s.extract (p + 1 + a + m) (p + 1 + a + m + n) = ⟨((t.drop (a + m)).take n).toArray⟩ := by rw [<- hdata]
         have HDV := hide hdv
         clear hdv
         generalize s.extract (p + 1 + a + m) (p + 1 + a + m + n) = d at *
         go_wp2_with fail
         refine (mM _ d _ (by unfold maxLen; omega)).mono ?_
         rw [hdata]
         clear hdata
         rintro e w7 ⟨rfl, hb7⟩
         have hI7 := hI6.below hb7 hI6.lt
         have hN7 := hN6.below hb7 hN6.lt
         have hW7 := hW6.below hb7
         clear hI6 hN6 hW6 hb7
         by_cases hpf : Lk.ay s[p].toNat ((t.drop (a + m)).take n) = false
         . have e1 := vW h7 (uh HR) (uh HSF) (uh HR2) h64 (uh HLF) htk hpf
           have e2 : Lk.bP s[p].toNat ((t.drop (a + m)).take n) = 6 := by rw [Lk.bP, if_pos hpf]
           rw [uh HX] at e1
           subst e1
           rw [e2]
           clear e2 hpf
           have n0 := hN7.cell 0
           have n1 := hN7.cell 1
           have n2 := hN7.cell 2
           have g0 := hN7.free 0
           have g1 := hN7.free 1
           have g2 := hN7.free 2
           simp only [List.getElem?_cons_zero, List.getElem?_cons_succ] at n0 n1 n2
           go_wp2_with fail
           exact bodyPost_ret (v := aS (.err 6)) (by simp [results, aS, Tryz.results88, go_sem, n0, n1, n2]) rfl ⟨rfl, ⟨p + 1 + a + m + n, by omega, kC _ _ _, Is.aF hI7 hbN⟩, Turns.aF hW7⟩
         have e1 := Et h7 (uh HR) (uh HSF) (uh HR2) h64 (uh HLF) htk hpf
         have e2 : Lk.bP s[p].toNat ((t.drop (a + m)).take n) = 0 := by rw [Lk.bP, if_neg hpf]
         rw [e2]
         rw [uh HX] at e1
         clear e2 hpf
         go_wp2_with fail
         refine (clone_any d _ (by omega)).mono ?_
         rintro e w8 ⟨rfl, hb8⟩
         have hI8 := hI7.below hb8 hI7.lt
         have hN8 := hN7.below hb8 hN7.lt
         have hW8 := hW7.below hb8
         clear hI7 hN7 hW7 hb8
         have hfv : aS x = .tuple #[.agg #[.int .i64 (s[p].toNat : Int), .int .i64 (st : Int), .string d], .int .i64 0, .bool true] := by rw [e1, aS, uh HDV]
         have UY : Past p (p + 1 + a + m + n) x := by
          intro k' st' d' n' h'
          rw [e1] at h'
          cases h'
          omega
         have HFV := hide hfv
         have HPS := hide UY
         clear e1 hfv UY
         have n0 := hN8.cell 0
         have n1 := hN8.cell 1
         have n2 := hN8.cell 2
         have g0 := hN8.free 0
         have g1 := hN8.free 1
         have g2 := hN8.free 2
         simp only [List.getElem?_cons_zero, List.getElem?_cons_succ] at n0 n1 n2
         go_wp2_with fail
         exact bodyPost_ret (v := .tuple #[.agg #[.int .i64 (s[p].toNat : Int), .int .i64 (st : Int), .string d], .int .i64 0, .bool true]) (by simp [results, Tryz.results88, go_sem, n0, n1, n2]) rfl ⟨congrArg Ending.returned (uh HFV).symm, ⟨p + 1 + a + m + n, by omega, uh HPS, Is.aF hI8 hbN⟩, Turns.aF hW8⟩
 . have hnx : Lk.nx (s.data.toList.drop p) = .more := by rw [drop_end s p (by omega)]; rfl
   rw [hnx]
   clear hnx
   go_enter Tryz.func88, Tryz.ntmps88
   go_wp2_with fail
   refine (I7 b T s p _ _ hs (by omega) hI0).mono ?_
   rintro e w1 ⟨rfl, hI1, hT1⟩
   have hN1 := hN0.grown hT1 hbS
   have n0 := hN1.cell 0
   have n1 := hN1.cell 1
   have n2 := hN1.cell 2
   have g0 := hN1.free 0
   have g1 := hN1.free 1
   have g2 := hN1.free 2
   simp only [List.getElem?_cons_zero, List.getElem?_cons_succ] at n0 n1 n2
   go_wp2_with fail
   exact bodyPost_ret (v := aS (.more)) (by simp [results, aS, Tryz.results88, go_sem, n0, n1, n2]) rfl ⟨rfl, ⟨p, hp, nX _ _, Is.aF hI1 hbN⟩, Turns.aF (hT0.trans hT1)⟩
def sG (x : Lk.Nx) (a b : Int) (c : ByteArray) (n e : Int) : Prop :=
 (x = .more ∧ n = 0 ∧ e = 0) ∨ (∃ k : Nat, x = .err k ∧ n = 0 ∧ e = k) ∨ (∃ (k st : Nat) (d : Lk.Bs) (j : Nat), x = .frame k st d j ∧ a = k ∧ b = st ∧ c = ⟨d.toArray⟩ ∧ n = j ∧ e = 0)
theorem sG.more {x : Lk.Nx} {a b : Int} {c : ByteArray} (h : x = .more) : sG x a b c 0 0 := Or.inl ⟨h, rfl, rfl⟩
theorem sG.err {x : Lk.Nx} {a b : Int} {c : ByteArray} {k : Nat} {e : Int} (h : x = .err k) (he : e = k) : sG x a b c 0 e := Or.inr (Or.inl ⟨k, h, rfl, he⟩)
theorem lh (s : ByteArray) (z : Int) (i : Nat) (w : World) (hz : z = i) (hs : s.size <= 2 ^ 62) (hi : i <= s.size) :
 Calls Tryz.prog 84 #[.string s, .int .i64 z] w fun e w' =>
  e = .returned (.agg #[.int .i64 (Lk.rd 0 0 (s.data.toList.drop i)).val, .int .i64 ((Lk.rd 0 0 (s.data.toList.drop i)).next i), .int .i64 ((Lk.rd 0 0 (s.data.toList.drop i)).jQ i), .bool (Lk.rd 0 0 (s.data.toList.drop i)).gq])
  ∧ Below w.heap.size w w' := by
 subst hz
 exact kz s i w hs hi
theorem Cc (s : ByteArray) (w : World) (hs : s.size <= 2 ^ 41) :
 Calls Tryz.prog 46 #[.string s] w fun e w' =>
  (∃ (a b : Int) (c : ByteArray) (n e' : Int), e = .returned (.tuple #[.agg #[.int .i64 a, .int .i64 b, .string c], .int .i64 n, .int .i64 e']) ∧ sG (Lk.nx s.data.toList) a b c n e') ∧ Below w.heap.size w w' := by
 by_cases hlt : 0 < s.size
 . have hcons := drop_cons s 0 hlt
   rw [List.drop_zero] at hcons
   rw [hcons]
   have hemp := FW s hlt
   have hz0 : (0 : Int) < s.size := by omega
   by_cases h7 : 7 < s[0].toNat
   . have hnx : Lk.nx (s[0] :: s.data.toList.drop (0 + 1)) = .err 3 := by rw [Lk.nx, if_pos h7]
     have HX := hide hnx
     have hw := gG s[0]
     clear hnx hcons
     go_enter Tryz.func46, Tryz.ntmps46
     go_wp2_with fail
     have hfin := sG.err (a := (s[0].toNat : Int)) (b := 0) (c := ⟨#[]⟩) (e := 3) (uh HX) rfl
     exact bodyPost_ret (v := .tuple #[.agg #[.int .i64 (s[0].toNat : Int), .int .i64 0, .string ⟨#[]⟩], .int .i64 0, .int .i64 3]) (by simp [results, Tryz.results46, go_sem]) rfl ⟨⟨_, _, _, _, _, rfl, hfin⟩, by ((repeat' (first | exact Below.refl _ _ | assumption | apply Below.drew | apply Below.alloc | apply Below.setCell)) <;> (simp <;> omega))⟩
   . generalize hl : s.data.toList.drop (0 + 1) = t
     have hlen : t.length = s.size - 1 := by rw [<- hl, List.length_drop, <- af]
     have HL := hide hl
     clear hl hcons
     generalize hx : Lk.nx (s[0] :: t) = x
     have HX := hide hx
     have hw := gG s[0]
     clear hx
     have hA0 := (Is.new w 66 [.int .i64 0, .int .i64 0, .string ⟨#[]⟩]).alloc (.cells #[.int .i64 (s[0].toNat : Int), .int .i64 0, .string ⟨#[]⟩] 66)
     have hB0 := Is.new (w.alloc (.cells #[.int .i64 0, .int .i64 0, .string ⟨#[]⟩] 66)) 66 [.int .i64 (s[0].toNat : Int), .int .i64 0, .string ⟨#[]⟩]
     have hb0 : Below w.heap.size w ((w.alloc (.cells #[.int .i64 0, .int .i64 0, .string ⟨#[]⟩] 66)).alloc (.cells #[.int .i64 (s[0].toNat : Int), .int .i64 0, .string ⟨#[]⟩] 66)) := by ((repeat' (first | exact Below.refl _ _ | assumption | apply Below.drew | apply Below.alloc | apply Below.setCell)) <;> (simp <;> omega))
     rw [World.size_alloc] at hB0
     go_enter Tryz.func46, Tryz.ntmps46
     go_wp2_with fail
     refine (lh s _ 1 _ rfl (by omega) (by omega)).mono ?_
     rw [show s.data.toList.drop 1 = t from uh HL]
     rintro e w1 ⟨rfl, hb1⟩
     have hA1 := hA0.below hb1 (by simp <;> omega)
     have hB1 := hB0.below hb1 (by simp <;> omega)
     have Iw : Below w.heap.size w w1 := hb0.trans (hb1.mono (by simp <;> omega))
     have hz1 : w.heap.size + 1 < w1.heap.size := hB1.lt
     have hz2 : w.heap.size < w1.heap.size := hA1.lt
     clear hA0 hB0 hb0 hb1
     have a0 := hA1.cell 0
     have a1 := hA1.cell 1
     have a2 := hA1.cell 2
     have fa0 := hA1.free 0
     have fa1 := hA1.free 1
     have fa2 := hA1.free 2
     simp only [List.getElem?_cons_zero, List.getElem?_cons_succ] at a0 a1 a2
     have b0 := hB1.cell 0
     have b1 := hB1.cell 1
     have b2 := hB1.cell 2
     have fb0 := hB1.free 0
     have fb1 := hB1.free 1
     have fb2 := hB1.free 2
     simp only [List.getElem?_cons_zero, List.getElem?_cons_succ] at b0 b1 b2
     cases hr : Lk.rd 0 0 t with
     | short =>
       have e1 := zO h7 hr
       rw [uh HX] at e1
       subst e1
       simp only [Lk.Rd.val, Lk.Rd.next, Lk.Rd.jQ, Lk.Rd.gq]
       clear hr
       go_wp2_with fail
       exact bodyPost_ret (v := .tuple #[.agg #[.int .i64 (s[0].toNat : Int), .int .i64 0, .string ⟨#[]⟩], .int .i64 0, .int .i64 0]) (by simp [results, Tryz.results46, go_sem, hz2, a0, a1, a2]) rfl ⟨⟨_, _, _, _, _, rfl, .more rfl⟩, by ((repeat' (first | exact Below.refl _ _ | assumption | apply Below.drew | apply Below.alloc | apply Below.setCell)) <;> (simp <;> omega))⟩
     | bad k =>
       have e1 := Jd h7 hr
       rw [uh HX] at e1
       subst e1
       simp only [Lk.Rd.val, Lk.Rd.next, Lk.Rd.jQ, Lk.Rd.gq]
       clear hr
       go_wp2_with fail
       exact bodyPost_ret (v := .tuple #[.agg #[.int .i64 (s[0].toNat : Int), .int .i64 0, .string ⟨#[]⟩], .int .i64 0, .int .i64 2]) (by simp [results, Tryz.results46, go_sem, hz2, a0, a1, a2]) rfl ⟨⟨_, _, _, _, _, rfl, .err rfl rfl⟩, by ((repeat' (first | exact Below.refl _ _ | assumption | apply Below.drew | apply Below.alloc | apply Below.setCell)) <;> (simp <;> omega))⟩
     | ok st a =>
       have ha := Lk.bn t 0 0 st a hr
       have hst := Ph t 0 0 st a (by omega) (by omega) hr
       have HR := hide hr
       simp only [Lk.Rd.val, Lk.Rd.next, Lk.Rd.jQ, Lk.Rd.gq]
       clear hr
       have hst' : (st : Int) <= 268435455 := by omega
       by_cases hsf : Lk.aC s[0].toNat st = false
       . have e1 := zQ h7 (uh HR) hsf
         rw [uh HX] at e1
         subst e1
         have HS := hide hsf
         clear hsf
         go_wp2_with fail
         refine (dL _ _ _).mono ?_
         rw [uh HS]
         rintro e w2 ⟨rfl, rfl⟩
         go_wp2_with fail
         exact bodyPost_ret (v := .tuple #[.agg #[.int .i64 (s[0].toNat : Int), .int .i64 (st : Int), .string ⟨#[]⟩], .int .i64 0, .int .i64 4]) (by simp [results, Tryz.results46, go_sem, hz2, a0, a1, a2]) rfl ⟨⟨_, _, _, _, _, rfl, .err rfl rfl⟩, by ((repeat' (first | exact Below.refl _ _ | assumption | apply Below.drew | apply Below.alloc | apply Below.setCell)) <;> (simp <;> omega))⟩
       have HSF := hide hsf
       have UZ : Lk.aC s[0].toNat st = true := by simpa using hsf
       have HS := hide UZ
       clear hsf UZ
       go_wp2_with fail
       refine (dL _ _ _).mono ?_
       rw [uh HS]
       rintro e w2 ⟨rfl, rfl⟩
       go_wp2_with fail
       have hA2 := (hA1.other ⟨w.heap.size + 1, 1, none⟩ (.int .i64 (st : Int)) (by simp)).alloc (.cells #[.int .i64 (st : Int), .int .i64 (1 + (a : Int)), .int .i64 (-1), .bool false] 187)
       have hB2 := (hB1.set 1 (.int .i64 (st : Int))).alloc (.cells #[.int .i64 (st : Int), .int .i64 (1 + (a : Int)), .int .i64 (-1), .bool false] 187)
       have hbw2 := (Iw.setCell (p := ⟨w.heap.size + 1, 1, none⟩) (by simp) (.int .i64 (st : Int))).alloc (by simp; omega) (.cells #[.int .i64 (st : Int), .int .i64 (1 + (a : Int)), .int .i64 (-1), .bool false] 187)
       refine (lh s _ (1 + a) _ (by simp) (by omega) (by omega)).mono ?_
       rw [<- List.drop_drop, show s.data.toList.drop 1 = t from uh HL]
       rintro e w3 ⟨rfl, hb3⟩
       have hA3 := hA2.below hb3 hA2.lt
       have hB3 := hB2.below hb3 hB2.lt
       have hbw3 : Below w.heap.size w w3 := hbw2.trans (hb3.mono hbw2.size)
       clear a0 a1 a2 fa0 fa1 fa2 b0 b1 b2 fb0 fb1 fb2 hz1 hz2
       clear hA1 hB1 Iw hA2 hB2 hbw2 hb3
       simp only [List.set_cons_succ, List.set_cons_zero] at hB3
       have hz1 : w.heap.size + 1 < w3.heap.size := hB3.lt
       have hz2 : w.heap.size < w3.heap.size := hA3.lt
       have a0 := hA3.cell 0
       have a1 := hA3.cell 1
       have a2 := hA3.cell 2
       have fa0 := hA3.free 0
       have fa1 := hA3.free 1
       have fa2 := hA3.free 2
       simp only [List.getElem?_cons_zero, List.getElem?_cons_succ] at a0 a1 a2
       have b0 := hB3.cell 0
       have b1 := hB3.cell 1
       have b2 := hB3.cell 2
       have fb0 := hB3.free 0
       have fb1 := hB3.free 1
       have fb2 := hB3.free 2
       simp only [List.getElem?_cons_zero, List.getElem?_cons_succ] at b0 b1 b2
       cases hr : Lk.rd 0 0 (t.drop a) with
       | short =>
         have e1 := zS h7 (uh HR) (uh HSF) hr
         rw [uh HX] at e1
         subst e1
         simp only [Lk.Rd.val, Lk.Rd.next, Lk.Rd.jQ, Lk.Rd.gq]
         clear hr
         go_wp2_with fail
         exact bodyPost_ret (v := .tuple #[.agg #[.int .i64 (s[0].toNat : Int), .int .i64 (st : Int), .string ⟨#[]⟩], .int .i64 0, .int .i64 0]) (by simp [results, Tryz.results46, go_sem, hz2, a0, a1, a2]) rfl ⟨⟨_, _, _, _, _, rfl, .more rfl⟩, by ((repeat' (first | exact Below.refl _ _ | assumption | apply Below.drew | apply Below.alloc | apply Below.setCell)) <;> (simp <;> omega))⟩
       | bad k =>
         have e1 := Je h7 (uh HR) (uh HSF) hr
         rw [uh HX] at e1
         subst e1
         simp only [Lk.Rd.val, Lk.Rd.next, Lk.Rd.jQ, Lk.Rd.gq]
         clear hr
         go_wp2_with fail
         exact bodyPost_ret (v := .tuple #[.agg #[.int .i64 (s[0].toNat : Int), .int .i64 (st : Int), .string ⟨#[]⟩], .int .i64 0, .int .i64 2]) (by simp [results, Tryz.results46, go_sem, hz2, a0, a1, a2]) rfl ⟨⟨_, _, _, _, _, rfl, .err rfl rfl⟩, by ((repeat' (first | exact Below.refl _ _ | assumption | apply Below.drew | apply Below.alloc | apply Below.setCell)) <;> (simp <;> omega))⟩
       | ok n m =>
         have hm := Lk.bn _ 0 0 n m hr
         rw [List.length_drop] at hm
         have HR2 := hide hr
         simp only [Lk.Rd.val, Lk.Rd.next, Lk.Rd.jQ, Lk.Rd.gq]
         clear hr
         by_cases h64 : 64 < n
         . have e1 := Es h7 (uh HR) (uh HSF) (uh HR2) h64
           rw [uh HX] at e1
           subst e1
           have Q8 : (64 : Int) < n := by omega
           go_wp2_with fail
           exact bodyPost_ret (v := .tuple #[.agg #[.int .i64 (s[0].toNat : Int), .int .i64 (st : Int), .string ⟨#[]⟩], .int .i64 0, .int .i64 5]) (by simp [results, Tryz.results46, go_sem, hz2, a0, a1, a2]) rfl ⟨⟨_, _, _, _, _, rfl, .err rfl rfl⟩, by ((repeat' (first | exact Below.refl _ _ | assumption | apply Below.drew | apply Below.alloc | apply Below.setCell)) <;> (simp <;> omega))⟩
         have Q8 : ¬ (64 : Int) < n := by omega
         by_cases hlf : Lk.aA s[0].toNat n = false
         . have e1 := zT h7 (uh HR) (uh HSF) (uh HR2) h64 hlf
           rw [uh HX] at e1
           subst e1
           have HF := hide hlf
           clear hlf
           go_wp2_with fail
           refine (dZ _ _ _).mono ?_
           rw [uh HF]
           rintro e w4 ⟨rfl, rfl⟩
           go_wp2_with fail
           exact bodyPost_ret (v := .tuple #[.agg #[.int .i64 (s[0].toNat : Int), .int .i64 (st : Int), .string ⟨#[]⟩], .int .i64 0, .int .i64 6]) (by simp [results, Tryz.results46, go_sem, hz2, a0, a1, a2]) rfl ⟨⟨_, _, _, _, _, rfl, .err rfl rfl⟩, by ((repeat' (first | exact Below.refl _ _ | assumption | apply Below.drew | apply Below.alloc | apply Below.setCell)) <;> (simp <;> omega))⟩
         have HLF := hide hlf
         have U0 : Lk.aA s[0].toNat n = true := by simpa using hlf
         have HF := hide U0
         clear hlf U0
         by_cases htk : t.length < a + m + n
         . have e1 := Jf h7 (uh HR) (uh HSF) (uh HR2) h64 (uh HLF) htk
           rw [uh HX] at e1
           subst e1
           have Wh : (s.size : Int) < 1 + a + m + n := by omega
           go_wp2_with fail
           refine (dZ _ _ _).mono ?_
           rw [uh HF]
           rintro e w4 ⟨rfl, rfl⟩
           go_wp2_with fail
           exact bodyPost_ret (v := .tuple #[.agg #[.int .i64 (s[0].toNat : Int), .int .i64 (st : Int), .string ⟨#[]⟩], .int .i64 0, .int .i64 0]) (by simp [results, Tryz.results46, go_sem, hz2, a0, a1, a2]) rfl ⟨⟨_, _, _, _, _, rfl, .more rfl⟩, by ((repeat' (first | exact Below.refl _ _ | assumption | apply Below.drew | apply Below.alloc | apply Below.setCell)) <;> (simp <;> omega))⟩
         have Wh : ¬ (s.size : Int) < 1 + a + m + n := by omega
         have XN : (1 : Int) + a + m <= 1 + a + m + n := by omega
         go_wp2_with fail
         refine (dZ _ _ _).mono ?_
         rw [uh HF]
         rintro e w4 ⟨rfl, rfl⟩
         go_wp2_with fail
         have hdata : (s.extract (1 + a + m) (1 + a + m + n)).data.toList = (t.drop (a + m)).take n := by
          rw [<- uh HL, List.drop_drop, dI]
          congr 2 <;> omega
         have We : (s.extract (1 + a + m) (1 + a + m + n)).size = n := by rw [ByteArray.size_extract]; omega
         have hdv : s.extract (1 + a + m) (1 + a + m + n) = ⟨((t.drop (a + m)).take n).toArray⟩ := by rw [<- hdata]
         have HDV := hide hdv
         clear hdv
         generalize s.extract (1 + a + m) (1 + a + m + n) = d at *
         have hA4 := (hA3.other ⟨w.heap.size + 1, 2, none⟩ (.string d) (by simp)).alloc (.cells #[.int .i64 (n : Int), .int .i64 (1 + (a : Int) + m), .int .i64 (-1), .bool false] 187)
         have hB4 := (hB3.set 2 (.string d)).alloc (.cells #[.int .i64 (n : Int), .int .i64 (1 + (a : Int) + m), .int .i64 (-1), .bool false] 187)
         have hF4 := Is.new (w3.setCell ⟨w.heap.size + 1, 2, none⟩ (.string d)) 187 [.int .i64 (n : Int), .int .i64 (1 + (a : Int) + m), .int .i64 (-1), .bool false]
         have Q3 := (hbw3.setCell (p := ⟨w.heap.size + 1, 2, none⟩) (by simp) (.string d)).alloc (by simp; omega) (.cells #[.int .i64 (n : Int), .int .i64 (1 + (a : Int) + m), .int .i64 (-1), .bool false] 187)
         refine (jl _ d _ (by omega)).mono ?_
         rw [hdata]
         clear hdata
         rintro e w5 ⟨rfl, hb5⟩
         have hA5 := hA4.below hb5 hA4.lt
         have hB5 := hB4.below hb5 hB4.lt
         have hF5 := hF4.below hb5 hF4.lt
         have XO : Below w.heap.size w w5 := Q3.trans (hb5.mono Q3.size)
         rw [World.size_setCell] at hF5
         have hz3 : w.heap.size < w3.heap.size := hz2
         have hn3 : ¬ w.heap.size = w3.heap.size := Nat.ne_of_lt hz2
         have hn4 : ¬ w3.heap.size = w.heap.size := Nat.ne_of_gt hz2
         clear a0 a1 a2 fa0 fa1 fa2 b0 b1 b2 fb0 fb1 fb2 hz1 hz2
         clear hA3 hB3 hbw3 hA4 hB4 hF4 Q3 hb5
         simp only [List.set_cons_succ, List.set_cons_zero] at hB5
         have hz1 : w.heap.size + 1 < w5.heap.size := hB5.lt
         have hz2 : w.heap.size < w5.heap.size := hA5.lt
         have a0 := hA5.cell 0
         have a1 := hA5.cell 1
         have a2 := hA5.cell 2
         have fa0 := hA5.free 0
         have fa1 := hA5.free 1
         have fa2 := hA5.free 2
         simp only [List.getElem?_cons_zero, List.getElem?_cons_succ] at a0 a1 a2
         have b0 := hB5.cell 0
         have b1 := hB5.cell 1
         have b2 := hB5.cell 2
         have fb0 := hB5.free 0
         have fb1 := hB5.free 1
         have fb2 := hB5.free 2
         simp only [List.getElem?_cons_zero, List.getElem?_cons_succ] at b0 b1 b2
         have c0 := hF5.cell 0
         have c1 := hF5.cell 1
         have c2 := hF5.cell 2
         have c3 := hF5.cell 3
         simp only [List.getElem?_cons_zero, List.getElem?_cons_succ] at c0 c1 c2 c3
         by_cases hpf : Lk.ay s[0].toNat ((t.drop (a + m)).take n) = false
         . have e1 := vW h7 (uh HR) (uh HSF) (uh HR2) h64 (uh HLF) htk hpf
           rw [uh HX] at e1
           subst e1
           rw [hpf]
           clear hpf
           go_wp2_with fail
           exact bodyPost_ret (v := .tuple #[.agg #[.int .i64 (s[0].toNat : Int), .int .i64 (st : Int), .string d], .int .i64 0, .int .i64 6]) (by simp [results, Tryz.results46, go_sem, a0, a1, a2]) rfl ⟨⟨_, _, _, _, _, rfl, .err rfl rfl⟩, by ((repeat' (first | exact Below.refl _ _ | assumption | apply Below.drew | apply Below.alloc | apply Below.setCell)) <;> (simp <;> omega))⟩
         have e1 := Et h7 (uh HR) (uh HSF) (uh HR2) h64 (uh HLF) htk hpf
         rw [uh HX] at e1
         have U1 : Lk.ay s[0].toNat ((t.drop (a + m)).take n) = true := by simpa using hpf
         rw [U1]
         have hfin : sG x (s[0].toNat : Int) (st : Int) d (1 + (a : Int) + m + n) 0 := by
          refine Or.inr (Or.inr ⟨_, _, _, _, e1, rfl, rfl, uh HDV, ?_, rfl⟩)
          simp
         have jD := hide hfin
         clear hpf U1 e1 hfin
         go_wp2_with fail
         go_region
         all_goals go_wp2_with fail
         all_goals exact bodyPost_ret (v := .tuple #[.agg #[.int .i64 (s[0].toNat : Int), .int .i64 (st : Int), .string d], .int .i64 (1 + (a : Int) + m + n), .int .i64 0]) (by simp [results, Tryz.results46, go_sem, a0, a1, a2]) rfl ⟨⟨_, _, _, _, _, rfl, uh jD⟩, by ((repeat' (first | exact Below.refl _ _ | assumption | apply Below.drew | apply Below.alloc | apply Below.setCell)) <;> (simp <;> omega))⟩
 . obtain rfl := empty_of s (by omega)
   go_enter Tryz.func46, Tryz.ntmps46
   go_wp2_with fail
   exact bodyPost_ret (v := .tuple #[.agg #[.int .i64 0, .int .i64 0, .string ⟨#[]⟩], .int .i64 0, .int .i64 0]) (by simp [results, Tryz.results46, go_sem]) rfl ⟨⟨_, _, _, _, _, rfl, .more rfl⟩, by ((repeat' (first | exact Below.refl _ _ | assumption | apply Below.drew | apply Below.alloc | apply Below.setCell)) <;> (simp <;> omega))⟩
end Go.Proofs.YtbkpdapagfjmmaaGreatDoor
