import Derived.Test.YtbkpdapagfjmmaaGreatDoorA8
set_option linter.unusedVariables false
set_option maxRecDepth 100000
set_option maxHeartbeats 16000000
namespace Go.Proofs.YtbkpdapagfjmmaaGreatDoor
open Go.RowKit
def sG (x : Lk.Nx) (a b : Int) (c : ByteArray) (n e : Int) : Prop :=
 (x = .more ∧ n = 0 ∧ e = 0) ∨ (∃ k : Nat, x = .err k ∧ n = 0 ∧ e = k) ∨ (∃ (k st : Nat) (d : Lk.Bs) (j : Nat), x = .frame k st d j ∧ a = k ∧ b = st ∧ c = ⟨d.toArray⟩ ∧ n = j ∧ e = 0)
theorem sG.more {x : Lk.Nx} {a b : Int} {c : ByteArray} (h : x = .more) : sG x a b c 0 0 := Or.inl ⟨h, rfl, rfl⟩
theorem sG.err {x : Lk.Nx} {a b : Int} {c : ByteArray} {k : Nat} {e : Int} (h : x = .err k) (he : e = k) : sG x a b c 0 e := Or.inr (Or.inl ⟨k, h, rfl, he⟩)
theorem lh (s : ByteArray) (z : Int) (i : Nat) (w : World) (hz : z = i) (hs : s.size <= 2 ^ 62) (hi : i <= s.size) :
 Calls Tryz.prog 84 #[.string s, .int .i64 z] w fun e w' =>
  e = .returned (.agg #[.int .i64 (Lk.rd 0 0 (s.data.toList.drop i)).val, .int .i64 ((Lk.rd 0 0 (s.data.toList.drop i)).next i), .int .i64 ((Lk.rd 0 0 (s.data.toList.drop i)).jQ i), .bool (Lk.rd 0 0 (s.data.toList.drop i)).gq])
  ∧ Below w.heap.size w w' := by
 subst hz
 exact kz s i w hs hi
theorem Cc (s : ByteArray) (w : World) (hs : s.size <= 2 ^ 41) :
 Calls Tryz.prog 46 #[.string s] w fun e w' =>
  (∃ (a b : Int) (c : ByteArray) (n e' : Int), e = .returned (.tuple #[.agg #[.int .i64 a, .int .i64 b, .string c], .int .i64 n, .int .i64 e']) ∧ sG (Lk.nx s.data.toList) a b c n e') ∧ Below w.heap.size w w' := by
 by_cases hlt : 0 < s.size
 . have hcons := drop_cons s 0 hlt
   rw [List.drop_zero] at hcons
   rw [hcons]
   have hemp := FW s hlt
   have hz0 : (0 : Int) < s.size := by omega
   by_cases h7 : 7 < s[0].toNat
   . have hnx : Lk.nx (s[0] :: s.data.toList.drop (0 + 1)) = .err 3 := by rw [Lk.nx, if_pos h7]
     have HX := hide hnx
     have hw := gG s[0]
     clear hnx hcons
     go_enter Tryz.func46, Tryz.ntmps46
     go_wp2_with fail
     have hfin := sG.err (a := (s[0].toNat : Int)) (b := 0) (c := ⟨#[]⟩) (e := 3) (uh HX) rfl
     exact bodyPost_ret (v := .tuple #[.agg #[.int .i64 (s[0].toNat : Int), .int .i64 0, .string ⟨#[]⟩], .int .i64 0, .int .i64 3]) (by simp [results, Tryz.results46, go_sem]) rfl ⟨⟨_, _, _, _, _, rfl, hfin⟩, by ((repeat' (first | exact Below.refl _ _ | assumption | apply Below.drew | apply Below.alloc | apply Below.setCell)) <;> (simp <;> omega))⟩
   . generalize hl : s.data.toList.drop (0 + 1) = t
     have hlen : t.length = s.size - 1 := by rw [<- hl, List.length_drop, <- af]
     have HL := hide hl
     clear hl hcons
     generalize hx : Lk.nx (s[0] :: t) = x
     have HX := hide hx
     have hw := gG s[0]
     clear hx
     have hA0 := (Is.new w 66 [.int .i64 0, .int .i64 0, .string ⟨#[]⟩]).alloc (.cells #[.int .i64 (s[0].toNat : Int), .int .i64 0, .string ⟨#[]⟩] 66)
     have hB0 := Is.new (w.alloc (.cells #[.int .i64 0, .int .i64 0, .string ⟨#[]⟩] 66)) 66 [.int .i64 (s[0].toNat : Int), .int .i64 0, .string ⟨#[]⟩]
     have hb0 : Below w.heap.size w ((w.alloc (.cells #[.int .i64 0, .int .i64 0, .string ⟨#[]⟩] 66)).alloc (.cells #[.int .i64 (s[0].toNat : Int), .int .i64 0, .string ⟨#[]⟩] 66)) := by ((repeat' (first | exact Below.refl _ _ | assumption | apply Below.drew | apply Below.alloc | apply Below.setCell)) <;> (simp <;> omega))
     rw [World.size_alloc] at hB0
     go_enter Tryz.func46, Tryz.ntmps46
     go_wp2_with fail
     refine (lh s _ 1 _ rfl (by omega) (by omega)).mono ?_
     rw [show s.data.toList.drop 1 = t from uh HL]
     rintro e w1 ⟨rfl, hb1⟩
     have hA1 := hA0.below hb1 (by simp <;> omega)
     have hB1 := hB0.below hb1 (by simp <;> omega)
     have Iw : Below w.heap.size w w1 := hb0.trans (hb1.mono (by simp <;> omega))
     have hz1 : w.heap.size + 1 < w1.heap.size := hB1.lt
     have hz2 : w.heap.size < w1.heap.size := hA1.lt
     clear hA0 hB0 hb0 hb1
     have a0 := hA1.cell 0
     have a1 := hA1.cell 1
     have a2 := hA1.cell 2
     have fa0 := hA1.free 0
     have fa1 := hA1.free 1
     have fa2 := hA1.free 2
     simp only [List.getElem?_cons_zero, List.getElem?_cons_succ] at a0 a1 a2
     have b0 := hB1.cell 0
     have b1 := hB1.cell 1
     have b2 := hB1.cell 2
     have fb0 := hB1.free 0
     have fb1 := hB1.free 1
     have fb2 := hB1.free 2
     simp only [List.getElem?_cons_zero, List.getElem?_cons_succ] at b0 b1 b2
     cases hr : Lk.rd 0 0 t with
     | short =>
       have e1 := zO h7 hr
       rw [uh HX] at e1
       subst e1
       simp only [Lk.Rd.val, Lk.Rd.next, Lk.Rd.jQ, Lk.Rd.gq]
       clear hr
       go_wp2_with fail
       exact bodyPost_ret (v := .tuple #[.agg #[.int .i64 (s[0].toNat : Int), .int .i64 0, .string ⟨#[]⟩], .int .i64 0, .int .i64 0]) (by simp [results, Tryz.results46, go_sem, hz2, a0, a1, a2]) rfl ⟨⟨_, _, _, _, _, rfl, .more rfl⟩, by ((repeat' (first | exact Below.refl _ _ | assumption | apply Below.drew | apply Below.alloc | apply Below.setCell)) <;> (simp <;> omega))⟩
     | bad k =>
       have e1 := Jd h7 hr
       rw [uh HX] at e1
       subst e1
       simp only [Lk.Rd.val, Lk.Rd.next, Lk.Rd.jQ, Lk.Rd.gq]
       clear hr
       go_wp2_with fail
       exact bodyPost_ret (v := .tuple #[.agg #[.int .i64 (s[0].toNat : Int), .int .i64 0, .string ⟨#[]⟩], .int .i64 0, .int .i64 2]) (by simp [results, Tryz.results46, go_sem, hz2, a0, a1, a2]) rfl ⟨⟨_, _, _, _, _, rfl, .err rfl rfl⟩, by ((repeat' (first | exact Below.refl _ _ | assumption | apply Below.drew | apply Below.alloc | apply Below.setCell)) <;> (simp <;> omega))⟩
     | ok st a =>
       have ha := Lk.bn t 0 0 st a hr
       have hst := Ph t 0 0 st a (by omega) (by omega) hr
       have HR := hide hr
       simp only [Lk.Rd.val, Lk.Rd.next, Lk.Rd.jQ, Lk.Rd.gq]
       clear hr
       have hst' : (st : Int) <= 268435455 := by omega
       by_cases hsf : Lk.aC s[0].toNat st = false
       . have e1 := zQ h7 (uh HR) hsf
         rw [uh HX] at e1
         subst e1
         have HS := hide hsf
         clear hsf
         go_wp2_with fail
         refine (dL _ _ _).mono ?_
         rw [uh HS]
         rintro e w2 ⟨rfl, rfl⟩
         go_wp2_with fail
         exact bodyPost_ret (v := .tuple #[.agg #[.int .i64 (s[0].toNat : Int), .int .i64 (st : Int), .string ⟨#[]⟩], .int .i64 0, .int .i64 4]) (by simp [results, Tryz.results46, go_sem, hz2, a0, a1, a2]) rfl ⟨⟨_, _, _, _, _, rfl, .err rfl rfl⟩, by ((repeat' (first | exact Below.refl _ _ | assumption | apply Below.drew | apply Below.alloc | apply Below.setCell)) <;> (simp <;> omega))⟩
       have HSF := hide hsf
       have UZ : Lk.aC s[0].toNat st = true := by simpa using hsf
       have HS := hide UZ
       clear hsf UZ
       go_wp2_with fail
       refine (dL _ _ _).mono ?_
       rw [uh HS]
       rintro e w2 ⟨rfl, rfl⟩
       go_wp2_with fail
       have hA2 := (hA1.other ⟨w.heap.size + 1, 1, none⟩ (.int .i64 (st : Int)) (by simp)).alloc (.cells #[.int .i64 (st : Int), .int .i64 (1 + (a : Int)), .int .i64 (-1), .bool false] 187)
       have hB2 := (hB1.set 1 (.int .i64 (st : Int))).alloc (.cells #[.int .i64 (st : Int), .int .i64 (1 + (a : Int)), .int .i64 (-1), .bool false] 187)
       have hbw2 := (Iw.setCell (p := ⟨w.heap.size + 1, 1, none⟩) (by simp) (.int .i64 (st : Int))).alloc (by simp; omega) (.cells #[.int .i64 (st : Int), .int .i64 (1 + (a : Int)), .int .i64 (-1), .bool false] 187)
       refine (lh s _ (1 + a) _ (by simp) (by omega) (by omega)).mono ?_
       rw [<- List.drop_drop, show s.data.toList.drop 1 = t from uh HL]
       rintro e w3 ⟨rfl, hb3⟩
       have hA3 := hA2.below hb3 hA2.lt
       have hB3 := hB2.below hb3 hB2.lt
       have hbw3 : Below w.heap.size w w3 := hbw2.trans (hb3.mono hbw2.size)
       clear a0 a1 a2 fa0 fa1 fa2 b0 b1 b2 fb0 fb1 fb2 hz1 hz2
       clear hA1 hB1 Iw hA2 hB2 hbw2 hb3
       simp only [List.set_cons_succ, List.set_cons_zero] at hB3
       have hz1 : w.heap.size + 1 < w3.heap.size := hB3.lt
       have hz2 : w.heap.size < w3.heap.size := hA3.lt
       have a0 := hA3.cell 0
       have a1 := hA3.cell 1
       have a2 := hA3.cell 2
       have fa0 := hA3.free 0
       have fa1 := hA3.free 1
       have fa2 := hA3.free 2
       simp only [List.getElem?_cons_zero, List.getElem?_cons_succ] at a0 a1 a2
       have b0 := hB3.cell 0
       have b1 := hB3.cell 1
       have b2 := hB3.cell 2
       have fb0 := hB3.free 0
       have fb1 := hB3.free 1
       have fb2 := hB3.free 2
       simp only [List.getElem?_cons_zero, List.getElem?_cons_succ] at b0 b1 b2
       cases hr : Lk.rd 0 0 (t.drop a) with
       | short =>
         have e1 := zS h7 (uh HR) (uh HSF) hr
         rw [uh HX] at e1
         subst e1
         simp only [Lk.Rd.val, Lk.Rd.next, Lk.Rd.jQ, Lk.Rd.gq]
         clear hr
         go_wp2_with fail
         exact bodyPost_ret (v := .tuple #[.agg #[.int .i64 (s[0].toNat : Int), .int .i64 (st : Int), .string ⟨#[]⟩], .int .i64 0, .int .i64 0]) (by simp [results, Tryz.results46, go_sem, hz2, a0, a1, a2]) rfl ⟨⟨_, _, _, _, _, rfl, .more rfl⟩, by ((repeat' (first | exact Below.refl _ _ | assumption | apply Below.drew | apply Below.alloc | apply Below.setCell)) <;> (simp <;> omega))⟩
       | bad k =>
         have e1 := Je h7 (uh HR) (uh HSF) hr
         rw [uh HX] at e1
         subst e1
         simp only [Lk.Rd.val, Lk.Rd.next, Lk.Rd.jQ, Lk.Rd.gq]
         clear hr
         go_wp2_with fail
         exact bodyPost_ret (v := .tuple #[.agg #[.int .i64 (s[0].toNat : Int), .int .i64 (st : Int), .string ⟨#[]⟩], .int .i64 0, .int .i64 2]) (by simp [results, Tryz.results46, go_sem, hz2, a0, a1, a2]) rfl ⟨⟨_, _, _, _, _, rfl, .err rfl rfl⟩, by ((repeat' (first | exact Below.refl _ _ | assumption | apply Below.drew | apply Below.alloc | apply Below.setCell)) <;> (simp <;> omega))⟩
       | ok n m =>
         have hm := Lk.bn _ 0 0 n m hr
         rw [List.length_drop] at hm
         have HR2 := hide hr
         simp only [Lk.Rd.val, Lk.Rd.next, Lk.Rd.jQ, Lk.Rd.gq]
         clear hr
         by_cases h64 : 64 < n
         . have e1 := Es h7 (uh HR) (uh HSF) (uh HR2) h64
           rw [uh HX] at e1
           subst e1
           have Q8 : (64 : Int) < n := by omega
           go_wp2_with fail
           exact bodyPost_ret (v := .tuple #[.agg #[.int .i64 (s[0].toNat : Int), .int .i64 (st : Int), .string ⟨#[]⟩], .int .i64 0, .int .i64 5]) (by simp [results, Tryz.results46, go_sem, hz2, a0, a1, a2]) rfl ⟨⟨_, _, _, _, _, rfl, .err rfl rfl⟩, by ((repeat' (first | exact Below.refl _ _ | assumption | apply Below.drew | apply Below.alloc | apply Below.setCell)) <;> (simp <;> omega))⟩
         have Q8 : ¬ (64 : Int) < n := by omega
         by_cases hlf : Lk.aA s[0].toNat n = false
         . have e1 := zT h7 (uh HR) (uh HSF) (uh HR2) h64 hlf
           rw [uh HX] at e1
           subst e1
           have HF := hide hlf
           clear hlf
           go_wp2_with fail
           refine (dZ _ _ _).mono ?_
           rw [uh HF]
           rintro e w4 ⟨rfl, rfl⟩
           go_wp2_with fail
           exact bodyPost_ret (v := .tuple #[.agg #[.int .i64 (s[0].toNat : Int), .int .i64 (st : Int), .string ⟨#[]⟩], .int .i64 0, .int .i64 6]) (by simp [results, Tryz.results46, go_sem, hz2, a0, a1, a2]) rfl ⟨⟨_, _, _, _, _, rfl, .err rfl rfl⟩, by ((repeat' (first | exact Below.refl _ _ | assumption | apply Below.drew | apply Below.alloc | apply Below.setCell)) <;> (simp <;> omega))⟩
         have HLF := hide hlf
         have U0 : Lk.aA s[0].toNat n = true := by simpa using hlf
         have HF := hide U0
         clear hlf U0
         by_cases htk : t.length < a + m + n
         . have e1 := Jf h7 (uh HR) (uh HSF) (uh HR2) h64 (uh HLF) htk
           rw [uh HX] at e1
           subst e1
           have Wh : (s.size : Int) < 1 + a + m + n := by omega
           go_wp2_with fail
           refine (dZ _ _ _).mono ?_
           rw [uh HF]
           rintro e w4 ⟨rfl, rfl⟩
           go_wp2_with fail
           exact bodyPost_ret (v := .tuple #[.agg #[.int .i64 (s[0].toNat : Int), .int .i64 (st : Int), .string ⟨#[]⟩], .int .i64 0, .int .i64 0]) (by simp [results, Tryz.results46, go_sem, hz2, a0, a1, a2]) rfl ⟨⟨_, _, _, _, _, rfl, .more rfl⟩, by ((repeat' (first | exact Below.refl _ _ | assumption | apply Below.drew | apply Below.alloc | apply Below.setCell)) <;> (simp <;> omega))⟩
         have Wh : ¬ (s.size : Int) < 1 + a + m + n := by omega
         have XN : (1 : Int) + a + m <= 1 + a + m + n := by omega
         go_wp2_with fail
         refine (dZ _ _ _).mono ?_
         rw [uh HF]
         rintro e w4 ⟨rfl, rfl⟩
         go_wp2_with fail
         have hdata : (s.extract (1 + a + m) (1 + a + m + n)).data.toList = (t.drop (a + m)).take n := by
          rw [<- uh HL, List.drop_drop, dI]
          congr 2 <;> omega
         have We : (s.extract (1 + a + m) (1 + a + m + n)).size = n := by rw [ByteArray.size_extract]; omega
         have hdv : s.extract (1 + a + m) (1 + a + m + n) = ⟨((t.drop (a + m)).take n).toArray⟩ := by rw [<- hdata]
         have HDV := hide hdv
         clear hdv
         generalize s.extract (1 + a + m) (1 + a + m + n) = d at *
         have hA4 := (hA3.other ⟨w.heap.size + 1, 2, none⟩ (.string d) (by simp)).alloc (.cells #[.int .i64 (n : Int), .int .i64 (1 + (a : Int) + m), .int .i64 (-1), .bool false] 187)
         have hB4 := (hB3.set 2 (.string d)).alloc (.cells #[.int .i64 (n : Int), .int .i64 (1 + (a : Int) + m), .int .i64 (-1), .bool false] 187)
         have hF4 := Is.new (w3.setCell ⟨w.heap.size + 1, 2, none⟩ (.string d)) 187 [.int .i64 (n : Int), .int .i64 (1 + (a : Int) + m), .int .i64 (-1), .bool false]
         have Q3 := (hbw3.setCell (p := ⟨w.heap.size + 1, 2, none⟩) (by simp) (.string d)).alloc (by simp; omega) (.cells #[.int .i64 (n : Int), .int .i64 (1 + (a : Int) + m), .int .i64 (-1), .bool false] 187)
         refine (jl _ d _ (by omega)).mono ?_
         rw [hdata]
         clear hdata
         rintro e w5 ⟨rfl, hb5⟩
         have hA5 := hA4.below hb5 hA4.lt
         have hB5 := hB4.below hb5 hB4.lt
         have hF5 := hF4.below hb5 hF4.lt
         have XO : Below w.heap.size w w5 := Q3.trans (hb5.mono Q3.size)
         rw [World.size_setCell] at hF5
         have hz3 : w.heap.size < w3.heap.size := hz2
         have hn3 : ¬ w.heap.size = w3.heap.size := Nat.ne_of_lt hz2
         have hn4 : ¬ w3.heap.size = w.heap.size := Nat.ne_of_gt hz2
         clear a0 a1 a2 fa0 fa1 fa2 b0 b1 b2 fb0 fb1 fb2 hz1 hz2
         clear hA3 hB3 hbw3 hA4 hB4 hF4 Q3 hb5
         simp only [List.set_cons_succ, List.set_cons_zero] at hB5
         have hz1 : w.heap.size + 1 < w5.heap.size := hB5.lt
         have hz2 : w.heap.size < w5.heap.size := hA5.lt
         have a0 := hA5.cell 0
         have a1 := hA5.cell 1
         have a2 := hA5.cell 2
         have fa0 := hA5.free 0
         have fa1 := hA5.free 1
         have fa2 := hA5.free 2
         simp only [List.getElem?_cons_zero, List.getElem?_cons_succ] at a0 a1 a2
         have b0 := hB5.cell 0
         have b1 := hB5.cell 1
         have b2 := hB5.cell 2
         have fb0 := hB5.free 0
         have fb1 := hB5.free 1
         have fb2 := hB5.free 2
         simp only [List.getElem?_cons_zero, List.getElem?_cons_succ] at b0 b1 b2
         have c0 := hF5.cell 0
         have c1 := hF5.cell 1
         have c2 := hF5.cell 2
         have c3 := hF5.cell 3
         simp only [List.getElem?_cons_zero, List.getElem?_cons_succ] at c0 c1 c2 c3
         by_cases hpf : Lk.ay s[0].toNat ((t.drop (a + m)).take n) = false
         . have e1 := vW h7 (uh HR) (uh HSF) (uh HR2) h64 (uh HLF) htk hpf
           rw [uh HX] at e1
           subst e1
           rw [hpf]
           clear hpf
           go_wp2_with fail
           exact bodyPost_ret (v := .tuple #[.agg #[.int .i64 (s[0].toNat : Int), .int .i64 (st : Int), .string d], .int .i64 0, .int .i64 6]) (by simp [results, Tryz.results46, go_sem, a0, a1, a2]) rfl ⟨⟨_, _, _, _, _, rfl, .err rfl rfl⟩, by ((repeat' (first | exact Below.refl _ _ | assumption | apply Below.drew | apply Below.alloc | apply Below.setCell)) <;> (simp <;> omega))⟩
         have e1 := Et h7 (uh HR) (uh HSF) (uh HR2) h64 (uh HLF) htk hpf
         rw [uh HX] at e1
         have U1 : Lk.ay s[0].toNat ((t.drop (a + m)).take n) = true := by simpa using hpf
         rw [U1]
         have hfin : sG x (s[0].toNat : Int) (st : Int) d (1 + (a : Int) + m + n) 0 := by
          refine Or.inr (Or.inr ⟨_, _, _, _, e1, rfl, rfl, uh HDV, ?_, rfl⟩)
          simp
         have jD := hide hfin
         clear hpf U1 e1 hfin
         go_wp2_with fail
         go_region
         all_goals go_wp2_with fail
         all_goals exact bodyPost_ret (v := .tuple #[.agg #[.int .i64 (s[0].toNat : Int), .int .i64 (st : Int), .string d], .int .i64 (1 + (a : Int) + m + n), .int .i64 0]) (by simp [results, Tryz.results46, go_sem, a0, a1, a2]) rfl ⟨⟨_, _, _, _, _, rfl, uh jD⟩, by ((repeat' (first | exact Below.refl _ _ | assumption | apply Below.drew | apply Below.alloc | apply Below.setCell)) <;> (simp <;> omega))⟩
 . obtain rfl := empty_of s (by omega)
   go_enter Tryz.func46, Tryz.ntmps46
   go_wp2_with fail
   exact bodyPost_ret (v := .tuple #[.agg #[.int .i64 0, .int .i64 0, .string ⟨#[]⟩], .int .i64 0, .int .i64 0]) (by simp [results, Tryz.results46, go_sem]) rfl ⟨⟨_, _, _, _, _, rfl, .more rfl⟩, by ((repeat' (first | exact Below.refl _ _ | assumption | apply Below.drew | apply Below.alloc | apply Below.setCell)) <;> (simp <;> omega))⟩
def aZ (fs : List Lk.Fr) : List Value := fs.flatMap fun f => [.int .i64 (f.k : Int), .int .i64 (f.st : Int), .string ⟨f.d.toArray⟩]
theorem qo (fs : List Lk.Fr) (f : Lk.Fr) : aZ fs ++ [.int .i64 (f.k : Int), .int .i64 (f.st : Int), .string ⟨f.d.toArray⟩] = aZ (fs ++ [f]) := by
 simp [aZ]
theorem F5 : (Tryz.prog.info? 79).map (fun i => (i.zero, i.size, i.bytes)) = some (some (.agg #[.int .i64 0, .int .i64 0, .string ⟨#[]⟩]), 3, 32) := by kernel_rfl
def TP (b : Nat) (w : World) : Nat := match w.cell? ⟨b, 1, none⟩ with
 | some (.int _ n) => n.toNat
 | _ => 0
theorem Jh {b : Nat} {w : World} {T : TypeId} {x : Value} {more : List Value} {p : Nat} (h : Is w b T (x :: .int .i64 p :: more)) : TP b w = p := by
 unfold TP
 rw [h.cell 1]
 simp
def Fed (L : Lk.Bs) (p : Nat) (fs : List Lk.Fr) : Prop := Lk.all L = (fs ++ (Lk.all (L.drop p)).1, (Lk.all (L.drop p)).2) ∧ 3 * fs.length <= p
theorem Fed.start (L : Lk.Bs) : Fed L 0 [] := ⟨by simp, by simp⟩
theorem Fed.next {L d : Lk.Bs} {p k st n : Nat} {fs : List Lk.Fr} (h : Fed L p fs) (hn : Lk.nx (L.drop p) = .frame k st d n) : Fed L (p + n) (fs ++ [⟨k, st, d⟩]) := by
 have hb := Lk.aV hn
 have h2 := h.2
 refine ⟨?_, by simp; omega⟩
 rw [h.1, Lk.ja hn, List.drop_drop]
 simp
theorem Fed.more {L : Lk.Bs} {p : Nat} {fs : List Lk.Fr} (h : Fed L p fs) (hn : Lk.nx (L.drop p) = .more) : Lk.all L = (fs, 0, L.drop p) := by
 rw [h.1, Lk.iU hn]; simp
theorem Fed.err {L : Lk.Bs} {p e : Nat} {fs : List Lk.Fr} (h : Fed L p fs) (hn : Lk.nx (L.drop p) = .err e) : Lk.all L = (fs, e, []) := by
 rw [h.1, Lk.mW hn]; simp
theorem sH (S : ByteArray) (p : Nat) : S.extract p S.size = ⟨(S.data.toList.drop p).toArray⟩ := by
 have e := dI S p S.size
 rw [List.take_of_length_le (by rw [List.length_drop, <- af]; omega)] at e
 rw [<- e]
theorem sJ (w : World) (x y z : Value) (T : TypeId) : ∀ j u, [x, y, z][j]? = some u -> (w.alloc (.cells #[x, y, z] T)).cell? ((⟨w.heap.size, 0, none⟩ : Addr).add j) = some u := by
 intro j u hu
 have hplain : (⟨w.heap.size, 0, none⟩ : Addr).add j = ⟨w.heap.size, j, none⟩ := by unfold Addr.add; split <;> simp_all
 rw [hplain]
 have := (Is.new w T [x, y, z]).cell j
 rw [<- hu]
 exact this
theorem xP {T : TypeId} {more : List Value} (b : Nat) (s t : ByteArray) (w : World) (hsz : s.size + t.size <= 2 ^ 40)
 (hI : Is w b T (.string s :: .int .i64 0 :: .int .i64 0 :: more)) :
 Calls Tryz.prog 48 #[.pointer (some ⟨b, 0, none⟩), .string t] w fun e w' =>
  ∃ v, e = .returned (.tuple #[v, .int .i64 ((Lk.all (s.data.toList ++ t.data.toList)).2.1 : Int)])
   ∧ w'.ownsRow w.heap.size 79 3 v (Lk.all (s.data.toList ++ t.data.toList)).1.length (aZ (Lk.all (s.data.toList ++ t.data.toList)).1)
   ∧ Is w' b T (.string ⟨(Lk.all (s.data.toList ++ t.data.toList)).2.2.toArray⟩ :: .int .i64 0 :: .int .i64 ((Lk.all (s.data.toList ++ t.data.toList)).2.1 : Int) :: more)
   ∧ Turns b w w' := by
 have hSl : (s ++ t).data.toList = s.data.toList ++ t.data.toList := by simp
 have hSz : (s ++ t).size = s.size + t.size := by simp
 have hadd : s.size + t.size <= 9223372036854775807 := by omega
 rw [<- hSl]
 clear hSl
 have c0 : w.cell? ⟨b, 0, none⟩ = some (.string s) := hI.cell 0
 have c2 : w.cell? ⟨b, 2, none⟩ = some (.int .i64 0) := hI.cell 2
 have f0 : w.frozen? ⟨b, 0, none⟩ = false := hI.free 0
 have hbl := hI.lt
 obtain ⟨i, hi, hz0, hz1, hz2⟩ := info_parts F5
 go_enter Tryz.func48, Tryz.ntmps48
 go_wp2_with fail
 have hI1 := hI.set 0 (.string (s ++ t))
 have hT1 := (Turns.refl b w).set 0 (.string (s ++ t))
 generalize hSS : (s ++ t) = S at *
 have HSS := hide hSS
 clear hSS
 go_loopw [6] (fun v wr => ∃ (p : Nat) (fs : List Lk.Fr), p <= S.size ∧ Fed S.data.toList p fs ∧ Is wr b T (.string S :: .int .i64 p :: .int .i64 0 :: more) ∧ wr.ownsRow w.heap.size 79 3 v fs.length (aZ fs) ∧ Turns b w wr) (fun _ wr => S.size - TP b wr)
 case atStart => exact ⟨0, [], Nat.zero_le _, Fed.start _, hI1, World.ownsRow_nil _ _ _ _, hT1⟩
 case round =>
  obtain ⟨p, fs, hp, F6, hIr, hown, hTr⟩ := hrel
  have d1 := hIr.cell 1
  simp only [List.getElem?_cons_zero, List.getElem?_cons_succ] at d1
  clear c0 c2 f0 hI1 hT1 hI
  go_wp2_with fail
  refine (Jg b S p 0 _ (by unfold maxLen; omega) hp hIr).mono ?_
  rintro e w1 ⟨rfl, ⟨p', hp', hpast, hI1⟩, hT1⟩
  have hT2 := hTr.trans hT1
  have hown1 := iw hown hbl hT1
  clear hown hT1 hTr d1
  cases hnx : Lk.nx (S.data.toList.drop p) with
  | more =>
    have Ji := hide (F6.more hnx)
    have hlen := Lk.mV hnx
    rw [List.length_drop, <- af] at hlen
    simp only [aS]
    clear hnx hpast F6
    go_wp2_with fail
    refine (Pe b S p' p 0 _ (by unfold maxLen; omega) hp (by omega) (hI1.alloc _)).mono ?_
    rintro e w2 ⟨rfl, hI2, hT3⟩
    have hown2 := iw (hown1.alloc _) hbl hT3
    have hT4 := (hT2.alloc _).trans hT3
    clear hown1 hI1 hT2 hT3
    go_wp2_with fail
    go_ret2
    rw [uh HSS, uh Ji]
    rw [sH] at hI2
    exact ⟨_, rfl, hown2, hI2, hT4⟩
  | err e0 =>
    have Ji := hide (F6.err hnx)
    have he0 := Lk.oO hnx
    simp only [aS]
    clear hnx hpast F6
    go_wp2_with fail
    refine (LM b S p' p 0 e0 _ (by omega) (hI1.alloc _)).mono ?_
    rintro e w2 ⟨rfl, hI2, hT3⟩
    have hown2 := iw (hown1.alloc _) hbl hT3
    have hT4 := (hT2.alloc _).trans hT3
    clear hown1 hI1 hT2 hT3
    go_wp2_with fail
    go_ret2
    rw [uh HSS, uh Ji]
    exact ⟨_, rfl, hown2, hI2, hT4⟩
  | frame k st d n =>
    have hpp := hpast k st d n hnx
    have F7 := F6.next hnx
    have hbd := Lk.aV hnx
    rw [List.length_drop, <- af] at hbd
    have hfl := F7.2
    rw [<- hpp] at F7 hfl
    simp only [List.length_append, List.length_cons, List.length_nil] at hfl
    simp only [aS]
    clear hnx hpast F6
    go_wp2_with (at_builtin; refine wpList_append_own _ rfl _ _ 118 rfl w.heap.size 79 i _ 3 32 Tryz.underlying118 hi hz0 hz1 hz2 rfl (by decide) _ fs.length (aZ fs) rfl ((hown1.alloc _).alloc _) ⟨w1.heap.size + 1, 0, none⟩ 1 1 [.int .i64 (k : Int), .int .i64 (st : Int), .string ⟨d.toArray⟩] rfl rfl ?hnews ?h1 ?h63 ?hby ?hba ?_)
    case hnews =>
     have e := sJ (w1.alloc (.cells #[.int .i64 (k : Int), .int .i64 (st : Int), .string ⟨d.toArray⟩] 79)) (.int .i64 (k : Int)) (.int .i64 (st : Int)) (.string ⟨d.toArray⟩) 79
     simpa using e
    case h1 => simp [Value.oneCell']
    case h63 => unfold maxLen; omega
    case hby => omega
    case hba => have := hT2.size; simp; omega
    intro v2 w2 ho2 hg2 _
    have hrow : ∀ j, Value.ownBlock u6 = some j -> w.heap.size <= j := fun j hj => (hown1.lt j hj).1
    have hI3 := ((hI1.alloc (.cells #[.int .i64 (k : Int), .int .i64 (st : Int), .string ⟨d.toArray⟩] 79)).alloc (.cells #[.int .i64 (k : Int), .int .i64 (st : Int), .string ⟨d.toArray⟩] 79)).grown hg2 (fun e => by have := hrow b e.symm; omega)
    have hT3 := ((hT2.alloc (.cells #[.int .i64 (k : Int), .int .i64 (st : Int), .string ⟨d.toArray⟩] 79)).alloc (.cells #[.int .i64 (k : Int), .int .i64 (st : Int), .string ⟨d.toArray⟩] 79)).qR hg2 hrow
    have e3 := qo fs ⟨k, st, d⟩
    rw [e3] at ho2
    have HPP := hide hpp
    clear hpp e3 hI1 hT2 hown1 hg2 hrow
    go_wp2_with fail
    go_roundw
    case rel => exact ⟨p', fs ++ [⟨k, st, d⟩], hp', F7, hI3, by simpa using ho2, hT3⟩
    case measure =>
     rw [Jh hI3, Jh hIr]
     have := uh HPP
     omega
theorem feed_bad {T : TypeId} {more : List Value} (b : Nat) (s t : ByteArray) (f : Int) (w : World) (hf : f ≠ 0)
 (hI : Is w b T (.string s :: .int .i64 0 :: .int .i64 f :: more)) :
 Calls Tryz.prog 48 #[.pointer (some ⟨b, 0, none⟩), .string t] w fun e w' =>
  e = .returned (.tuple #[.slice none 0 0, .int .i64 f]) ∧ ∃ n, w' = w.drewN n := by
 have c2 : w.cell? ⟨b, 2, none⟩ = some (.int .i64 f) := hI.cell 2
 have hf' : (f != 0) = true := by rw [bne_iff_ne]; exact hf
 clear hI hf
 go_enter Tryz.func48, Tryz.ntmps48
 go_wp2_with fail
 go_quiet (fail)
 go_wp2_with fail
 go_ret2
 exact ⟨rfl, _, rfl⟩
theorem Ce : (Tryz.prog.info? 66).map (fun i => (i.zero, i.size, i.bytes)) = some (some (.agg #[.int .i64 0, .int .i64 0, .string ⟨#[]⟩]), 3, 32) := by kernel_rfl
def Jj (b : Nat) (w : World) : Nat := match w.cell? ⟨b, 0, none⟩ with
 | some (.string s) => s.size
 | _ => 0
theorem zU {b : Nat} {w : World} {T : TypeId} {s : ByteArray} {z : Value} (h : Is w b T [.string s, z]) : Jj b w = s.size := by
 unfold Jj
 rw [h.cell 0]
 simp
theorem F8 (b : Nat) (s t : ByteArray) (w : World) (hsz : s.size + t.size <= 2 ^ 40)
 (hI : Is w b 54 [.string s, .int .i64 0]) :
 Calls Tryz.prog 21 #[.pointer (some ⟨b, 0, none⟩), .string t] w fun e w' =>
  ∃ v, e = .returned (.tuple #[v, .int .i64 ((Lk.all (s.data.toList ++ t.data.toList)).2.1 : Int)])
   ∧ w'.ownsRow w.heap.size 66 3 v (Lk.all (s.data.toList ++ t.data.toList)).1.length (aZ (Lk.all (s.data.toList ++ t.data.toList)).1)
   ∧ (∃ R : ByteArray, Is w' b 54 [.string R, .int .i64 ((Lk.all (s.data.toList ++ t.data.toList)).2.1 : Int)] ∧ ((Lk.all (s.data.toList ++ t.data.toList)).2.1 = 0 -> R.data.toList = (Lk.all (s.data.toList ++ t.data.toList)).2.2))
   ∧ Turns b w w' := by
 have hSl : (s ++ t).data.toList = s.data.toList ++ t.data.toList := by simp
 have hSz : (s ++ t).size = s.size + t.size := by simp
 have hadd : s.size + t.size <= 9223372036854775807 := by omega
 rw [<- hSl]
 clear hSl
 have c0 : w.cell? ⟨b, 0, none⟩ = some (.string s) := hI.cell 0
 have c1 : w.cell? ⟨b, 1, none⟩ = some (.int .i64 0) := hI.cell 1
 have f0 : w.frozen? ⟨b, 0, none⟩ = false := hI.free 0
 have hbl := hI.lt
 obtain ⟨i, hi, hz0, hz1, hz2⟩ := info_parts Ce
 go_enter Tryz.func21, Tryz.ntmps21
 go_wp2_with fail
 have hI1 := hI.set 0 (.string (s ++ t))
 have hT1 := (Turns.refl b w).set 0 (.string (s ++ t))
 generalize hSS : (s ++ t) = S at *
 have HSS := hide hSS
 clear hSS
 generalize hL : S.data.toList = L
 have HL := hide hL
 have hLl : L.length = S.size := by rw [<- hL, af]
 go_loopw [6] (fun v wr => ∃ (p : Nat) (fs : List Lk.Fr) (R : ByteArray), Hid (R.data.toList = L.drop p) ∧ R.size <= 2 ^ 40 ∧ Fed L p fs ∧ p <= L.length ∧ Is wr b 54 [.string R, .int .i64 0] ∧ wr.ownsRow w.heap.size 66 3 v fs.length (aZ fs) ∧ Turns b w wr) (fun _ wr => Jj b wr)
 case atStart => exact ⟨0, [], S, by rw [hL]; rfl, by omega, Fed.start _, Nat.zero_le _, hI1, World.ownsRow_nil _ _ _ _, hT1⟩
 case round =>
  clear hL hI1 hT1 hI c0 c1 f0
  obtain ⟨p, fs, R, HR, XP, F6, hp, hIr, hown, hTr⟩ := hrel
  have d0 := hIr.cell 0
  simp only [List.getElem?_cons_zero] at d0
  go_wp2_with fail
  refine (Cc R _ (by omega)).mono ?_
  rw [uh HR]
  rintro e w1 ⟨⟨a, b', c, n, e', rfl, hnext⟩, hb1⟩
  have hI1 := hIr.below hb1 hIr.lt
  have hT1 := hTr.below hb1
  have hown1 := iw hown hbl ((Turns.refl b _).below hb1)
  have hRl : R.size = L.length - p := by rw [af, uh HR, List.length_drop]
  have e0 := hI1.cell 0
  have e1 := hI1.cell 1
  have g0 := hI1.free 0
  have g1 := hI1.free 1
  simp only [List.getElem?_cons_zero, List.getElem?_cons_succ] at e0 e1
  have hlt := hI1.lt
  clear hown hTr d0 hb1
  rcases hnext with ⟨hx, rfl, rfl⟩ | ⟨k, hx, rfl, rfl⟩ | ⟨k, st, d, j, hx, rfl, rfl, rfl, rfl, rfl⟩
  . have Ji := hide (F6.more hx)
    clear hx F6 hRl
    go_wp2_with fail
    go_ret2
    rw [uh HSS, uh HL, uh Ji]
    exact ⟨_, rfl, (iw hown1 hbl ((Turns.refl b _).set 1 _)).alloc _, ⟨R, (hI1.set 1 _).alloc _, fun _ => uh HR⟩, (hT1.set 1 _).alloc _⟩
  . have Ji := hide (F6.err hx)
    have hk := Lk.oO hx
    have hk' : ((k : Int) != 0) = true := by rw [bne_iff_ne]; omega
    clear hx F6 hRl
    go_wp2_with fail
    go_ret2
    rw [uh HSS, uh HL, uh Ji]
    exact ⟨_, rfl, (iw hown1 hbl ((Turns.refl b _).set 1 _)).alloc _, ⟨R, (hI1.set 1 _).alloc _, fun h => absurd h hk⟩, (hT1.set 1 _).alloc _⟩
  . have hbd := Lk.aV hx
    rw [List.length_drop] at hbd
    have F7 := F6.next hx
    have hfl := F7.2
    simp only [List.length_append, List.length_cons, List.length_nil] at hfl
    have hj0 : ((j : Int) == 0) = false := by rw [beq_eq_false_iff_ne]; omega
    have hjs : (j : Int) <= R.size := by omega
    have hRd : (R.extract j R.size).data.toList = L.drop (p + j) := by
     rw [sH, <- List.drop_drop, <- uh HR]
    have hRz : (R.extract j R.size).size = R.size - j := by rw [ByteArray.size_extract]; omega
    have HRD := hide hRd
    have HRZ := hide hRz
    have HRL := hide hRl
    clear hRd hRz hRl hx F6
    go_wp2_with (at_builtin; refine wpList_append_own _ rfl _ _ 59 rfl w.heap.size 66 i _ 3 32 Tryz.underlying59 hi hz0 hz1 hz2 rfl (by decide) _ fs.length (aZ fs) rfl ((hown1.alloc _).alloc _) ⟨w1.heap.size + 1, 0, none⟩ 1 1 [.int .i64 (k : Int), .int .i64 (st : Int), .string ⟨d.toArray⟩] rfl rfl ?hnews ?h1 ?h63 ?hby ?hba ?_)
    case hnews =>
     have e := sJ (w1.alloc (.cells #[.int .i64 (k : Int), .int .i64 (st : Int), .string ⟨d.toArray⟩] 66)) (.int .i64 (k : Int)) (.int .i64 (st : Int)) (.string ⟨d.toArray⟩) 66
     simpa using e
    case h1 => simp [Value.oneCell']
    case h63 => unfold maxLen; omega
    case hby => omega
    case hba => have := hT1.size; simp; omega
    intro v2 w2 ho2 hg2 _
    have hrow : ∀ j, Value.ownBlock u6 = some j -> w.heap.size <= j := fun j hj => (hown1.lt j hj).1
    have hI3 := ((hI1.alloc (.cells #[.int .i64 (k : Int), .int .i64 (st : Int), .string ⟨d.toArray⟩] 66)).alloc (.cells #[.int .i64 (k : Int), .int .i64 (st : Int), .string ⟨d.toArray⟩] 66)).grown hg2 (fun e => by have := hrow b e.symm; omega)
    have hT3 := ((hT1.alloc (.cells #[.int .i64 (k : Int), .int .i64 (st : Int), .string ⟨d.toArray⟩] 66)).alloc (.cells #[.int .i64 (k : Int), .int .i64 (st : Int), .string ⟨d.toArray⟩] 66)).qR hg2 hrow
    have e3 := qo fs ⟨k, st, d⟩
    rw [e3] at ho2
    clear e3 hI1 hT1 hown1 hg2 hrow e0 e1 g0 g1
    have e0 := hI3.cell 0
    have g0 := hI3.free 0
    simp only [List.getElem?_cons_zero] at e0
    go_wp2_with fail
    go_roundw
    case rel => exact ⟨p + j, fs ++ [⟨k, st, d⟩], R.extract j R.size, HRD, by have := uh HRZ; omega, F7, by omega, hI3.set 0 _, by simpa using iw ho2 hbl ((Turns.refl b _).set 0 _), hT3.set 0 _⟩
    case measure =>
     rw [zU (hI3.set 0 _), zU hIr]
     have := uh HRZ
     omega
theorem Cf (b : Nat) (s t : ByteArray) (f : Int) (w : World) (hf : f ≠ 0)
 (hI : Is w b 54 [.string s, .int .i64 f]) :
 Calls Tryz.prog 21 #[.pointer (some ⟨b, 0, none⟩), .string t] w fun e w' =>
  e = .returned (.tuple #[.slice none 0 0, .int .i64 f]) ∧ ∃ n, w' = w.drewN n := by
 have c1 : w.cell? ⟨b, 1, none⟩ = some (.int .i64 f) := hI.cell 1
 have hf' : (f != 0) = true := by rw [bne_iff_ne]; exact hf
 clear hI hf
 go_enter Tryz.func21, Tryz.ntmps21
 go_wp2_with fail
 go_quiet (fail)
 go_wp2_with fail
 go_ret2
 exact ⟨rfl, _, rfl⟩
end Go.Proofs.YtbkpdapagfjmmaaGreatDoor
