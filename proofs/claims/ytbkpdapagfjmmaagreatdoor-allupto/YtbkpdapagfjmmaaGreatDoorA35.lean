import Derived.Test.YtbkpdapagfjmmaaGreatDoorA29
set_option linter.unusedVariables false
set_option maxRecDepth 100000
set_option maxHeartbeats 16000000
namespace Go.Proofs.YtbkpdapagfjmmaaGreatDoor
open Go.RowKit
variable {κ : Prop}
theorem JX (b : Nat) (e : Lk.En) (p : RP) (f : Lk.Fr) (w : World) (h : aT κ w b e p) (hw : Lk.Wf e) (hd : f.d.length <= 64) (hst : f.st <= 268435455) (hl : e.row.length <= 2 ^ 41) :
 Calls Tryz.prog 180 #[.pointer (some ⟨b, 0, none⟩), frV f] w (fA κ w b p (e.gX f).2.1 (e.gX f).2.2 (e.gX f).1) := by
 have PE := hw.wE
 have hwin := hw.kN
 have hside : e.side <= 1 := by have := hw.side; omega
 have hbW := (Below.refl w.heap.size w).alloc (Nat.le_refl _) (.cells #[.int .i64 (f.k : Int), .int .i64 (f.st : Int), .string (bs f.d)] 66)
 have hBx := Is.new w 66 [.int .i64 (f.k : Int), .int .i64 (f.st : Int), .string (bs f.d)]
 have hW := h.below hbW
 have HLE := hide (by simp : w.heap.size <= (w.alloc (.cells #[.int .i64 (f.k : Int), .int .i64 (f.st : Int), .string (bs f.d)] 66)).heap.size)
 have hwW : w.heap.size < (w.alloc (.cells #[.int .i64 (f.k : Int), .int .i64 (f.st : Int), .string (bs f.d)] 66)).heap.size := by simp
 have hft : ∀ i, aI b p i -> i < w.heap.size := fun i hi => h.lt hi
 generalize hWW : w.alloc (.cells #[.int .i64 (f.k : Int), .int .i64 (f.st : Int), .string (bs f.d)] 66) = W at *
 have o1 : W.cell? ⟨w.heap.size, 1, none⟩ = some (.int .i64 (f.st : Int)) := hBx.cell 1
 have o2 : W.cell? ⟨w.heap.size, 2, none⟩ = some (.string (bs f.d)) := hBx.cell 2
 have c0 : W.cell? ⟨b, 0, none⟩ = some (.int .i64 (e.side : Int)) := hW.blk.cell 0
 have c1 : W.cell? ⟨b, 1, none⟩ = some (.int .i64 (e.win : Int)) := hW.blk.cell 1
 have c3 : W.cell? ⟨b, 3, none⟩ = some (ptr p.ib) := hW.blk.cell 3
 have c7 : W.cell? ⟨b, 7, none⟩ = some p.tv := hW.blk.cell 7
 have c11 : W.cell? ⟨b, 11, none⟩ = some (.bool e.iH) := hW.blk.cell 11
 have hbl := hW.blk.lt
 obtain ⟨ta, tc, htv⟩ := aJ hW.oth
 rw [htv] at c7
 unfold ptr at c3
 have HBX := hide hBx
 have HW := hide (⟨hbW, hW, hft⟩ : _ ∧ _ ∧ _)
 have HTV := hide htv
 generalize hX : e.gX f = X
 unfold Lk.En.gX at hX
 have hes : (e.side : Int) <= 1 := by omega
 have hes0 : (0 : Int) <= e.side := by omega
 have htl : (e.oth.length : Int) <= 134217729 := by omega
 clear h hW hbW hBx hft htv
 by_cases hid : f.st ≠ 2 * e.oth.length + 2 - e.side
 . rw [if_pos hid] at hX
   obtain ⟨hbW, hW, hft⟩ := uh HW
   have HF : Hid (∀ W', Below W.heap.size W W' -> fA κ w b p X.2.1 X.2.2 X.1 (.returned (.tuple #[.slice none 0 0, .int .i64 4])) W') := by
    rw [<- hX]
    exact fun W' hb' => fA.none (R := 4) (aj.before hbW ((aj.same hW).after hb'))
   have WX : ¬ (f.st : Int) = 2 * (e.oth.length : Int) + 2 - e.side := by omega
   clear hX hbW hW hft HW HBX hid
   go_enter Tryz.func180, Tryz.ntmps180
   go_wp2_with fail
   go_quiet (fail)
   go_wp2_with fail
   go_ret2
   exact uh HF _ ⟨rfl, rfl, rfl, Nat.le_refl _, fun _ _ => rfl⟩
 . rw [if_neg hid] at hX
   have Lc : f.st = 2 * e.oth.length + 2 - e.side := by omega
   have WX : 2 * (e.oth.length : Int) + 2 - e.side = (f.st : Int) := by omega
   have HST := hide (by omega : 0 < f.st)
   have hdl : (bs f.d).data.toList = f.d := by unfold bs; simp
   have hsd : (bs f.d).size <= 2 ^ 48 := by rw [ax]; omega
   generalize hXX : Lk.exR 100 f.d 6 e.inn 0 = XX at *
   have HE : Hid (∀ n, Calls Tryz.prog 63 #[.pointer (some ⟨p.ib, 0, none⟩), .string (bs f.d)] (W.drewN n) (OI (W.drewN n) p.ib 100 XX)) := fun n => uj p.ib 100 e.inn p.vi (bs f.d) (W.drewN n) hsd ((uh HW).2.1.below (w' := W.drewN n) ⟨rfl, rfl, rfl, Nat.le_refl _, fun _ _ => rfl⟩).inn XX (by rw [hdl]; exact hXX)
   clear hid Lc hsd hdl
   cases XX with
   | err ec q =>
     have hec : ¬ (ec : Int) = 0 := by rcases Lk.yG _ _ _ _ _ _ _ hXX with h | h <;> omega
     simp only at hX
     have HF : Hid (∀ W', Below W.heap.size W W' -> fA κ w b p X.2.1 X.2.2 X.1 (.returned (.tuple #[.slice none 0 0, .int .i64 9])) W') := by
      rw [<- hX]
      obtain ⟨hbW, hW, hft⟩ := uh HW
      exact fun W' hb' => fA.none (R := 9) (aj.before hbW ((aj.same hW).after hb'))
     clear hXX hX
     go_enter Tryz.func180, Tryz.ntmps180
     go_wp2_with fail
     go_quiet (fail)
     go_wp2_with fail
     go_region_with (first | (go_at_call 63; refine (uh HE _).mono ?_; rintro r w3 ⟨rfl, hb3⟩))
     all_goals
      have HF3 := hide (uh HF w3 ⟨hb3.os, hb3.tape, hb3.output, hb3.size, hb3.block⟩)
      clear hb3
      go_wp2_with fail
      go_ret2
      exact uh HF3
   | ok hs L =>
     simp only at hX
     have HS3 : Hid (∀ n w3 v3 s6, RTab w3 p.ib 100 L v3 -> Turns p.ib (W.drewN n) w3 -> (∀ k, v3.ownBlock = some k -> (W.drewN n).heap.size <= k) -> w3.ownsRow (W.drewN n).heap.size 206 2 s6 hs.length (aQ hs) -> (s6.ownBlock = none ∨ s6.ownBlock ≠ v3.ownBlock) -> ((∀ i, aI b { p with vi := v3 } i -> aI b p i ∨ w.heap.size <= i) ∧ Only (aI b p) w w3 ∧ aT κ w3 b { e with inn := L } { p with vi := v3 } ∧ Is w3 w.heap.size 66 [.int .i64 (f.k : Int), .int .i64 (f.st : Int), .string (bs f.d)] ∧ w3.ownsRow W.heap.size 206 2 s6 hs.length (aQ hs) ∧ (∀ i, s6.ownBlock = some i -> ¬ aI b { p with vi := v3 } i))) := by
      intro n w3 v3 s6 k3 k4 k5 k6 k7
      obtain ⟨hbW, hW, hft⟩ := uh HW
      have k1 : Below W.heap.size W (W.drewN n) := ⟨rfl, rfl, rfl, Nat.le_refl _, fun _ _ => rfl⟩
      obtain ⟨q1, q2, q3⟩ := (hW.below k1).Rz k3 k4 k5
      have hsn : w.heap.size <= (W.drewN n).heap.size := Nat.le_of_lt hwW
      refine ⟨fun i hi => (q2 i hi).imp id (fun x => Nat.le_trans hsn x), ((Only.of_below hbW _).trans (Only.of_below k1 _) (fun _ x _ => x)).trans q3 (fun _ x _ => x), q1, (((uh HBX).below k1 hwW).only (Only.dP k4) (fun hx => ?_)), k6, fun i hi hx => ?_⟩
      . have := hft p.ib (.inr (.inr (.inl rfl)))
        omega
      . obtain ⟨cs, hI⟩ := iM k6 hi
        obtain ⟨a1, a2, a3, _, a5, a6, a7⟩ := q1.apt hI
        have a1 := a1 (nbq rfl)
        have a2 := a2 (nbq rfl)
        have a3 := a3 (nbq rfl)
        have a5 := a5 (nbq rfl)
        have a6 := a6 (nbq rfl)
        have a7 := a7 (nbq rfl)
        rcases hx with k | k | k | k | k | k | k | k | k
        . exact a1 k.symm
        . exact a2.1 k.symm
        . exact a2.2 k.symm
        . exact a3 k.symm
        . have g1 := hft i (.inr (.inr (.inr (.inr (.inl k)))))
          have g2 := (k6.lt i hi).1
          omega
        . rcases k7 with k7 | k7
          . rw [k7] at hi; cases hi
          . exact k7 (hi.trans k.symm)
        . exact a5 i k rfl
        . exact a6 i k rfl
        . exact a7 i k rfl
     have HXX := hide hX
     clear hXX hX
     obtain ⟨B, hbs⟩ : ∃ B, e.iH = B := ⟨_, rfl⟩
     rw [hbs] at c11
     have HBS := hide hbs
     clear hbs
     go_enter Tryz.func180, Tryz.ntmps180
     go_wp2_with fail
     go_quiet (fail)
     go_upto_region 3 with fail
     go_cut [6, 7] (fun s6 s7 w3 => s7 = .int .i64 0 ∧ ∃ v3, Hid ((∀ i, aI b { p with vi := v3 } i -> aI b p i ∨ w.heap.size <= i) ∧ Only (aI b p) w w3 ∧ aT κ w3 b { e with inn := L } { p with vi := v3 } ∧ Is w3 w.heap.size 66 [.int .i64 (f.k : Int), .int .i64 (f.st : Int), .string (bs f.d)] ∧ w3.ownsRow W.heap.size 206 2 s6 hs.length (aQ hs) ∧ (∀ i, s6.ownBlock = some i -> ¬ aI b { p with vi := v3 } i)))
     case first =>
      go_region_with (first | (go_at_call 63; refine (uh HE _).mono ?_; rintro r w3 ⟨⟨lv, v3, rfl, ho3, hT3, h6, hv3, hdis⟩, Tz⟩))
      all_goals
       have HC := hide (uh HS3 _ _ _ _ hT3 Tz hv3 ho3 hdis)
       clear ho3 hT3 hv3 hdis Tz
       go_wp2_with fail
       go_meet
       exact ⟨rfl, v3, HC⟩
     case rest =>
      obtain ⟨rfl, v3, HC⟩ := hcut
      obtain ⟨hf3, hP3, hR3, hI3, hO3, hd3⟩ := uh HC
      obtain ⟨la, lc, rfl⟩ := aJ hO3
      have q1 : wc.cell? ⟨b, 1, none⟩ = some (.int .i64 (e.win : Int)) := hR3.blk.cell 1
      have q7 : wc.cell? ⟨b, 7, none⟩ = some p.tv := hR3.blk.cell 7
      rw [uh HTV] at q7
      have q11 : wc.cell? ⟨b, 11, none⟩ = some (.bool e.iH) := hR3.blk.cell 11
      rw [uh HBS] at q11
      have y1 : wc.cell? ⟨w.heap.size, 1, none⟩ = some (.int .i64 (f.st : Int)) := hI3.cell 1
      have yl := hI3.lt
      have ql := hR3.blk.lt
      obtain ⟨inf, hi, hz0, hz1, hz2⟩ := info_parts Nu
      have HQ : Hid (∀ Wx w1 g1 cap1, Below wc.heap.size wc Wx -> Wx.grownBy w1 (Value.slice ta e.oth.length tc).ownBlock -> w1.ownsRow 0 265 5 (.slice (some ⟨g1, 0, none⟩) (e.oth.length + 1) cap1) (e.oth.length + 1) (L8 e.oth ++ rtV ⟨f.st, e.win, 0, !B, B⟩) -> ((Value.slice ta e.oth.length tc).ownBlock = some g1 ∨ Wx.heap.size <= g1) -> (w1.cell? ⟨b, 7, none⟩ = some (.slice ta e.oth.length tc) ∧ w1.frozen? ⟨b, 7, none⟩ = false ∧ b < w1.heap.size) ∧ ∀ w7, w7 = w1.setCell ⟨b, 7, none⟩ (.slice (some ⟨g1, 0, none⟩) (e.oth.length + 1) cap1) -> ∃ p7, Hid (aT κ w7 b { e with inn := L, oth := e.oth ++ [⟨f.st, e.win, 0, !B, B⟩] } p7 ∧ (∀ i, aI b p7 i -> aI b p i ∨ w.heap.size <= i) ∧ Only (aI b p) w w7 ∧ Is w7 w.heap.size 66 [.int .i64 (f.k : Int), .int .i64 (f.st : Int), .string (bs f.d)] ∧ w7.ownsRow W.heap.size 206 2 (.slice la hs.length lc) hs.length (aQ hs) ∧ (∀ i, (Value.slice la hs.length lc).ownBlock = some i -> ¬ aI b p7 i))) := by
       intro Wx w1 g1 cap1 k1 k2 k3 k4
       have hRx := hR3.below k1
       rw [<- uh HTV] at k2 k4
       have e1 : L8 e.oth ++ rtV ⟨f.st, e.win, 0, !B, B⟩ = L8 (e.oth ++ [⟨f.st, e.win, 0, !B, B⟩]) := by simp [L8]
       have e2 : e.oth.length + 1 = (e.oth ++ [(⟨f.st, e.win, 0, !B, B⟩ : Lk.Ot)]).length := by simp
       have hO : Only (fun i => p.tv.ownBlock = some i) Wx w1 := (Only.gV k2).mono (fun i hi => hi.symm)
       have hb' := hRx.blk.only hO (fun hx => (hRx.apart.2.2.2.2.2.2.2 b hx) rfl)
       have hc7 : w1.cell? ⟨b, 7, none⟩ = some p.tv := hb'.cell 7
       rw [uh HTV] at hc7
       refine ⟨⟨hc7, hb'.free 7, hb'.lt⟩, ?_⟩
       rw [e1, e2] at k3
       intro w7 hw7
       rw [e2] at hw7
       have hq := hRx.RD (v' := .slice (some ⟨g1, 0, none⟩) (e.oth ++ [(⟨f.st, e.win, 0, !B, B⟩ : Lk.Ot)]).length cap1) k3 (k4.imp (fun x => x.symm) (fun x k hk => by have hk : some g1 = some k := hk; injection hk with hk; omega)) hO
       rw [<- hw7] at hq
       obtain ⟨p7, z1, z2, z3⟩ := hq
       have hsx := k1.size
       refine ⟨p7, z1, fun i hi => ?_, ?_, ?_, ?_, fun i hi hx => ?_⟩
       . rcases z2 i hi with x | x
         . exact hf3 i x
         . exact .inr (by omega)
       . refine (hP3.trans (Only.of_below k1 _) (fun _ x _ => x)).trans z3 (fun i hx hlt => ?_)
         rcases hf3 i hx with x | x
         . exact x
         . omega
       . refine (hI3.below k1 hI3.lt).only z3 (fun hx => ?_)
         obtain ⟨a1, a2, a3, a4, a5, a6, a7⟩ := hR3.apt hI3
         have a1 := a1 (nbq rfl)
         have a2 := a2 (nbq rfl)
         have a3 := a3 (nbq rfl)
         have a4 := a4 (nbq rfl)
         have a5 := a5 (nbq rfl)
         have a6 := a6 (nbq rfl)
         have a7 := a7 (nbq rfl)
         rcases hx with k | k | k | k | k | k | k | k | k
         . exact a1 k.symm
         . exact a2.1 k.symm
         . exact a2.2 k.symm
         . exact a3 k.symm
         . exact a4.1 _ k rfl
         . exact a4.2 _ k rfl
         . exact a5 _ k rfl
         . exact a6 _ k rfl
         . exact a7 _ k rfl
       . refine ag (own_below hO3 k1) z3 (fun i hi => hd3 i hi)
       . rcases z2 i hx with x | x
         . exact hd3 i hi x
         . have := (hO3.lt i hi).2
           omega
      have HOT : Hid (∀ Wx, Below wc.heap.size wc Wx -> Wx.ownsRow 0 265 5 (.slice ta e.oth.length tc) e.oth.length (L8 e.oth)) := by
       intro Wx k1
       have := (hR3.below k1).oth
       rw [<- uh HTV]
       exact this
      clear hf3 o1 o2 c0 c1 c3 c7 c11 hbl hwW hP3 hR3 hI3 hO3 hd3 HE HS3 HBX HW hWW
      go_wp2_with fail
      go_region
      go_upto_region 7 with fail
      obtain ⟨wa, hwa⟩ : ∃ wa, wa = wc := ⟨_, rfl⟩
      subst hwa
      go_cut [] (fun w7 => ∃ p7, Hid (aT κ w7 b { e with inn := L, oth := e.oth ++ [⟨f.st, e.win, 0, !B, B⟩] } p7 ∧ (∀ i, aI b p7 i -> aI b p i ∨ w.heap.size <= i) ∧ Only (aI b p) w w7 ∧ Is w7 w.heap.size 66 [.int .i64 (f.k : Int), .int .i64 (f.st : Int), .string (bs f.d)] ∧ w7.ownsRow W.heap.size 206 2 (.slice la hs.length lc) hs.length (aQ hs) ∧ (∀ i, (Value.slice la hs.length lc).ownBlock = some i -> ¬ aI b p7 i)))
      case first =>
       go_region_law (first
        | (refine step_append_lies _ rfl _ _ 198 rfl 0 265 inf _ 5 32 Tryz.underlying198 hi hz0 hz1 hz2 rfl (Nat.succ_pos 4) (.slice ta e.oth.length tc) e.oth.length (L8 e.oth) rfl (uh HOT _ ?_) ⟨wa.heap.size + 1, 0, none⟩ 1 1 (rtV ⟨f.st, e.win, 0, !B, B⟩) rfl rfl ?_ ?_ ?_ ?_ ?_ ?_ (wa.heap.size + 2) ?_ ?_
           exact AO wa _ _
           exact Ns wa _ _
           (intro u hu; simp [rtV] at hu; rcases hu with rfl | rfl | rfl | rfl | rfl <;> rfl)
           exact Nat.one_pos
           (unfold maxLen; omega)
           omega
           exact Nat.zero_le _
           simp
           intro g1 cap1 w1 ho1 hg1 OJ hlt1
           obtain ⟨⟨z7, zf, zl⟩, hP7⟩ := uh HQ _ w1 g1 cap1 (AO wa _ _) hg1 ho1 (by rcases OJ with h | h; exact .inl h; exact .inr (by rw [h]; simp))
           have HP7 := hide hP7
           clear ho1 hg1 OJ hP7))
       all_goals
        go_wp2_with fail
        go_meet
        exact uh HP7 _ rfl
      case rest =>
       obtain ⟨p7, HC7⟩ := hcut
       obtain ⟨hR7, hf7, hO7, hI7, hr7, hn7⟩ := uh HC7
       have y1 : wc.cell? ⟨w.heap.size, 1, none⟩ = some (.int .i64 (f.st : Int)) := hI7.cell 1
       have q11 : wc.cell? ⟨b, 11, none⟩ = some (.bool e.iH) := hR7.blk.cell 11
       rw [uh HBS] at q11
       have ql := hR7.blk.lt
       have yl := hI7.lt
       clear hR7 hf7 hO7 hI7 hr7 hn7 HQ HOT HC
       cases B with
       | false =>
        have HF : Hid (∀ W', Below (wc.heap.size + 1) (wc.alloc (.cells #[.int .i64 1, .int .i64 (f.st : Int), .int .i64 0, .slice la hs.length lc, .string ⟨#[]⟩] 261)) W' -> fA κ w b p X.2.1 X.2.2 X.1 (.returned (.tuple #[.slice (some ⟨wc.heap.size, 0, none⟩) 1 1, .int .i64 0])) W') := by
         obtain ⟨hR7, hf7, hO7, hI7, hr7, hn7⟩ := uh HC7
         have hX := uh HXX
         rw [if_neg (by rw [uh HBS]; simp)] at hX
         rw [<- hX]
         exact fun W' hb => fA.head hR7 hf7 hO7 (uh HLE) hr7 hn7 hb
        clear HXX HC7
        go_wp2_with fail
        go_ret2
        exact uh HF _ ⟨rfl, rfl, rfl, by simp, fun _ _ => rfl⟩
       | true =>
        have kQ := hide (fun W => eu 0 0 W rfl (by omega))
        have HS : Hid (∀ n w8, Below wc.heap.size (wc.drewN n) w8 -> (w8.cell? ⟨w.heap.size, 1, none⟩ = some (.int .i64 (f.st : Int)) ∧ w.heap.size < w8.heap.size) ∧ Calls Tryz.prog 162 #[.pointer (some ⟨b, 0, none⟩), .int .i64 3, .int .i64 (f.st : Int), .string (bs (Lk.wire 0))] w8 fun r w9 => r = .returned (.tuple #[]) ∧ ∀ W', Below w9.heap.size w9 W' -> fA κ w b p X.2.1 X.2.2 X.1 (.returned (.tuple #[.slice none 0 0, .int .i64 0])) W') := by
         obtain ⟨hR7, hf7, hO7, hI7, hr7, hn7⟩ := uh HC7
         have hX := uh HXX
         rw [if_pos (uh HBS)] at hX
         intro n w8 hb8
         have hb8 : Below wc.heap.size wc w8 := ⟨hb8.os, hb8.tape, hb8.output, hb8.size, hb8.block⟩
         have hI8 := hI7.below hb8 hI7.lt
         refine ⟨⟨hI8.cell 1, hI8.lt⟩, ?_⟩
         have k1 := hb8
         refine (fV b _ p7 3 f.st (Lk.wire 0) w8 (hR7.below k1) (Lk.gz f.st 0 (uh HST) hst (by omega)) (by show e.row.length <= _; omega)).mono ?_
         rintro r w9 ⟨rfl, hP⟩
         refine ⟨rfl, fun W' hb' => ?_⟩
         rw [<- hX]
         exact fA.none (R := 0) (aj.trans hf7 hO7 (aj.before k1 (hP.after hb')))
        clear HXX HC7
        go_wp2_with fail
        go_region_with (first
         | (go_at_call 99; refine (uh kQ _).mono ?_; rintro r w8 ⟨rfl, hb8⟩; obtain ⟨⟨y8, yl8⟩, hs8⟩ := uh HS _ w8 hb8; have HS8 := hide hs8; clear hs8 hb8)
         | (go_at_call 162; refine (uh HS8).mono ?_; rintro r w9 ⟨rfl, hP⟩; have HP9 := hide hP; clear hP))
        all_goals
         go_wp2_with fail
         go_ret2
         exact uh HP9 _ ⟨rfl, rfl, rfl, Nat.le_refl _, fun _ _ => rfl⟩
theorem fA.before {w w1 w2 : World} {b : Nat} {p : RP} {R : Nat} {E : Lk.En} {evl : List Lk.Ev} {r : Ending} (hb : Below w.heap.size w w1) (h : fA κ w1 b p R E evl r w2) : fA κ w b p R E evl r w2 := by
 obtain ⟨v, evs, p', h1, h2, h3, h4, h5, h6, h7⟩ := h
 refine ⟨v, evs, p', h1, h2, ⟨wV h3.row hb.size, fun q hq => wV (h3.hds q hq) hb.size⟩, h4, h5, fun i hi => (h6 i hi).imp id (fun x => Nat.le_trans hb.size x), (Only.of_below hb _).trans h7 (fun _ x _ => x)⟩
theorem fA.after {w w1 w2 : World} {b : Nat} {p : RP} {R : Nat} {E : Lk.En} {evl : List Lk.Ev} {r : Ending} (h : fA κ w b p R E evl r w1) (hb : Below w1.heap.size w1 w2) : fA κ w b p R E evl r w2 := by
 obtain ⟨v, evs, p', h1, h2, h3, h4, h5, h6, h7⟩ := h
 exact ⟨v, evs, p', h1, h2, ⟨own_below h3.row hb, fun q hq => own_below (h3.hds q hq) hb⟩, h4, h5.below hb, h6, h7.below hb⟩
theorem Hf (b : Nat) (e : Lk.En) (p : RP) (f : Lk.Fr) (w : World) (h : aT κ w b e p) (hw : Lk.Wf e) (hg : Lk.Good f.k f.st f.d) (hl : e.row.length <= 2 ^ 41) :
 Calls Tryz.prog 160 #[.pointer (some ⟨b, 0, none⟩), frV f] w (fA κ w b p (e.frame f).2.1 (e.frame f).2.2 (e.frame f).1) := by
 have hbW := (Below.refl w.heap.size w).alloc (Nat.le_refl _) (.cells #[.int .i64 (f.k : Int), .int .i64 (f.st : Int), .string (bs f.d)] 66)
 have hBx := Is.new w 66 [.int .i64 (f.k : Int), .int .i64 (f.st : Int), .string (bs f.d)]
 have hW := h.below hbW
 have hwW : w.heap.size < (w.alloc (.cells #[.int .i64 (f.k : Int), .int .i64 (f.st : Int), .string (bs f.d)] 66)).heap.size := by simp
 generalize hWW : w.alloc (.cells #[.int .i64 (f.k : Int), .int .i64 (f.st : Int), .string (bs f.d)] 66) = W at *
 have o0 : W.cell? ⟨w.heap.size, 0, none⟩ = some (.int .i64 (f.k : Int)) := hBx.cell 0
 have o1 : W.cell? ⟨w.heap.size, 1, none⟩ = some (.int .i64 (f.st : Int)) := hBx.cell 1
 have o2 : W.cell? ⟨w.heap.size, 2, none⟩ = some (.string (bs f.d)) := hBx.cell 2
 have hbl := hW.blk.lt
 have hne : b ≠ w.heap.size := Nat.ne_of_lt h.blk.lt
 have HW := hide (⟨hbW, hW⟩ : _ ∧ _)
 have hk := hg.k7
 unfold Lk.En.frame
 clear h hW hbW hBx
 by_cases h0 : f.k = 0
 . rw [if_pos h0]
   have hh := JX b e p f W (uh HW).2 hw hg.len hg.Fv hl
   have HC := hide (fun r w2 (hx : fA κ W b p (e.gX f).2.1 (e.gX f).2.2 (e.gX f).1 r w2) => fA.before (uh HW).1 hx)
   generalize e.gX f = X at *
   have hkz : (f.k : Int) = 0 := by omega
   unfold frV at hh
   rw [hkz] at hh o0 hWW
   have HH := hide hh
   clear hh hkz
   go_enter Tryz.func160, Tryz.ntmps160
   go_wp2_with fail
   refine (uh HH).mono ?_
   rintro r w2 ⟨v, evs, p', rfl, hrest⟩
   have HF := hide (uh HC _ _ ⟨v, evs, p', rfl, hrest⟩)
   clear hrest
   go_wp2_with fail
   go_ret2
   exact uh HF
 rw [if_neg h0]
 by_cases h1 : f.k = 1 ∨ f.k = 2
 . rw [if_pos h1]
   rcases h1 with h1 | h1
   . have hh := wQ b e p f W (uh HW).2 hw hg.len hl
     have HC := hide (fun r w2 (hx : fA κ W b p (e.bH f).2.1 (e.bH f).2.2 (e.bH f).1 r w2) => fA.before (uh HW).1 hx)
     generalize e.bH f = X at *
     have hkz : (f.k : Int) = 1 := by omega
     unfold frV at hh
     rw [hkz] at hh o0 hWW
     have HH := hide hh
     clear hh hkz
     go_enter Tryz.func160, Tryz.ntmps160
     go_wp2_with fail
     refine (uh HH).mono ?_
     rintro r w2 ⟨v, evs, p', rfl, hrest⟩
     have HF := hide (uh HC _ _ ⟨v, evs, p', rfl, hrest⟩)
     clear hrest
     go_wp2_with fail
     go_ret2
     exact uh HF
   . have hh := wQ b e p f W (uh HW).2 hw hg.len hl
     have HC := hide (fun r w2 (hx : fA κ W b p (e.bH f).2.1 (e.bH f).2.2 (e.bH f).1 r w2) => fA.before (uh HW).1 hx)
     generalize e.bH f = X at *
     have hkz : (f.k : Int) = 2 := by omega
     unfold frV at hh
     rw [hkz] at hh o0 hWW
     have HH := hide hh
     clear hh hkz
     go_enter Tryz.func160, Tryz.ntmps160
     go_wp2_with fail
     refine (uh HH).mono ?_
     rintro r w2 ⟨v, evs, p', rfl, hrest⟩
     have HF := hide (uh HC _ _ ⟨v, evs, p', rfl, hrest⟩)
     clear hrest
     go_wp2_with fail
     go_ret2
     exact uh HF
 rw [if_neg h1]
 by_cases h3 : f.k = 3
 . rw [if_pos h3]
   have hh := Dh b e p f W (uh HW).2 hw hg.len hl
   have HC := hide (fun r w2 (hx : fA κ W b p (e.dh f).2.1 (e.dh f).2.2 (e.dh f).1 r w2) => fA.before (uh HW).1 hx)
   generalize e.dh f = X at *
   have hkz : (f.k : Int) = 3 := by omega
   unfold frV at hh
   rw [hkz] at hh o0 hWW
   have HH := hide hh
   clear hh hkz
   go_enter Tryz.func160, Tryz.ntmps160
   go_wp2_with fail
   refine (uh HH).mono ?_
   rintro r w2 ⟨v, evs, p', rfl, hrest⟩
   have HF := hide (uh HC _ _ ⟨v, evs, p', rfl, hrest⟩)
   clear hrest
   go_wp2_with fail
   go_ret2
   exact uh HF
 rw [if_neg h3]
 by_cases h4 : f.k = 4
 . rw [if_pos h4]
   have hh := CP b e p f W (uh HW).2 hw hg.len
   have HC := hide (fun w2 (hx : aj κ W b p (e.bU f).2 w2) => fA.none (R := (e.bU f).1) (aj.before (uh HW).1 hx))
   simp only
   generalize e.bU f = X at *
   have hkz : (f.k : Int) = 4 := by omega
   unfold frV at hh
   rw [hkz] at hh o0 hWW
   have HH := hide hh
   clear hh hkz
   go_enter Tryz.func160, Tryz.ntmps160
   go_wp2_with fail
   refine (uh HH).mono ?_
   rintro r w2 ⟨rfl, hP⟩
   have HF := hide (uh HC _ hP)
   clear hP
   go_wp2_with fail
   go_ret2
   exact uh HF
 rw [if_neg h4]
 by_cases h5 : f.k = 5
 . rw [if_pos h5]
   have h8 : f.d.length = 8 := by
    have := hg.length
    rw [h5] at this
    simp [Lk.aA] at this
    omega
   have HH := hide (fV b e p 6 0 f.d W (uh HW).2 (Lk.iY 6 f.d (by omega) h8) (by omega))
   have HC := hide (fun w2 (hx : aj κ W b p (e.send 6 0 f.d) w2) => fA.none (R := 0) (aj.before (uh HW).1 hx))
   simp only
   generalize e.send 6 0 f.d = X at *
   have hkz : (f.k : Int) = 5 := by omega
   rw [hkz] at o0 hWW
   clear hkz
   clear h8
   go_enter Tryz.func160, Tryz.ntmps160
   go_wp2_with fail
   refine (uh HH).mono ?_
   rintro r w2 ⟨rfl, hP⟩
   have HF := hide (uh HC _ hP)
   clear hP
   go_wp2_with fail
   go_ret2
   exact uh HF
 rw [if_neg h5]
 by_cases h6 : f.k = 6
 . rw [if_pos h6]
   have HF : Hid (fA κ w b p 0 e [⟨5, 0, 0, [], f.d⟩] (.returned (.tuple #[.slice (some ⟨W.heap.size, 0, none⟩) 1 1, .int .i64 0])) (W.alloc (.cells #[.int .i64 5, .int .i64 0, .int .i64 0, .slice none 0 0, .string (bs f.d)] 261))) := by
    obtain ⟨hbW, hW⟩ := uh HW
    have hb2 := (Below.refl W.heap.size W).alloc (Nat.le_refl _) (.cells #[.int .i64 5, .int .i64 0, .int .i64 0, .slice none 0 0, .string (bs f.d)] 261)
    exact fA.ev (evs := [((⟨5, 0, 0, [], f.d⟩ : Lk.Ev), (.slice none 0 0 : Value))]) (R := 0) (hbW.trans (hb2.mono hbW.size)) hbW.size (fun i hi => hW.lt hi) (E5 W 261 ((⟨5, 0, 0, [], f.d⟩ : Lk.Ev), (.slice none 0 0 : Value))) (fun q hq => by simp at hq; subst hq; exact ⟨rfl, rfl⟩) (aj.same (hW.below hb2))
   have hkz : (f.k : Int) = 6 := by omega
   rw [hkz] at o0 hWW
   clear hkz
   clear HW
   go_enter Tryz.func160, Tryz.ntmps160
   go_wp2_with fail
   go_ret2
   exact uh HF
 rw [if_neg h6]
 have h7 : f.k = 7 := by omega
 have c12 : W.cell? ⟨b, 12, none⟩ = some (.bool e.oK) := (uh HW).2.blk.cell 12
 have f12 := (uh HW).2.blk.free 12
 have hfld := pq
 have HS : Hid (∀ W1 : World, Below (W.setCell ⟨b, 12, none⟩ (.bool true)).heap.size (W.setCell ⟨b, 12, none⟩ (.bool true)) W1 -> fA κ w b p 0 { e with oK := true } [⟨6, 0, Lk.numOf f.d, [], []⟩] (.returned (.tuple #[.slice (some ⟨W1.heap.size, 0, none⟩) 1 1, .int .i64 0])) (W1.alloc (.cells #[.int .i64 6, .int .i64 0, .int .i64 (Lk.numOf f.d : Int), .slice none 0 0, .string ⟨#[]⟩] 261))) := by
  intro W1 hb1
  obtain ⟨hbW, hW⟩ := uh HW
  have hs := hW.set (e' := { e with oK := true }) 12 (.bool true) rfl rfl rfl rfl rfl rfl (fun x => ⟨x, rfl⟩)
  have hO : Only (aI b p) W (W.setCell ⟨b, 12, none⟩ (.bool true)) := (Only.refl _ W).set b 12 _ (fun _ => .inl rfl)
  have h1 := hs.below hb1
  have hP1 : aj κ w b p { e with oK := true } W1 := aj.before hbW (aj.on hO ((aj.same hs).after hb1))
  have hb2 := (Below.refl W1.heap.size W1).alloc (Nat.le_refl _) (.cells #[.int .i64 6, .int .i64 0, .int .i64 (Lk.numOf f.d : Int), .slice none 0 0, .string ⟨#[]⟩] 261)
  have hsz : w.heap.size <= W1.heap.size := by have := hbW.size; have := hb1.size; simp at this; omega
  exact fA.evs (evs := [((⟨6, 0, Lk.numOf f.d, [], []⟩ : Lk.Ev), (.slice none 0 0 : Value))]) (R := 0) hP1 hb2 hsz (E5 W1 261 ((⟨6, 0, Lk.numOf f.d, [], []⟩ : Lk.Ev), (.slice none 0 0 : Value))) (fun q hq => by simp at hq; subst hq; exact ⟨rfl, rfl⟩)
 have kQ := hide (fun W => xX f.d W hg.len)
 have hkz : (f.k : Int) = 7 := by omega
 rw [hkz] at o0 hWW
 clear hkz
 clear HW
 go_enter Tryz.func160, Tryz.ntmps160
 go_wp2_with fail
 refine (uh kQ _).mono ?_
 rintro r w3 ⟨x, y, z, rfl, hb3⟩
 have HF := hide (uh HS _ hb3)
 clear hb3
 go_wp2_with fail
 go_ret2
 exact uh HF
end Go.Proofs.YtbkpdapagfjmmaaGreatDoor
