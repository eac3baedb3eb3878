import Derived.Test.YtbkpdapagfjmmaaGreatDoorA28
import Derived.Maps.AppendAt
set_option linter.unusedVariables false
set_option maxRecDepth 100000
set_option maxHeartbeats 16000000
namespace Go.Proofs.YtbkpdapagfjmmaaGreatDoor
open Go.RowKit
def OI (w : World) (t B : Nat) (X : Lk.XR) (e : Ending) (w' : World) : Prop :=
 match X with
 | .ok hs L2 => (∃ lv v', e = .returned (.tuple #[lv, .int .i64 0, .int .i64 0]) ∧ w'.ownsRow w.heap.size 206 2 lv hs.length (aQ hs) ∧ RTab w' t B L2 v' ∧ hs.length <= 6 ∧ (∀ k, v'.ownBlock = some k -> w.heap.size <= k) ∧ (lv.ownBlock = none ∨ lv.ownBlock ≠ v'.ownBlock)) ∧ Turns t w w'
 | .err ec q => e = .returned (.tuple #[.slice none 0 0, .int .i64 (ec : Int), .int .i64 (q : Int)]) ∧ Below w.heap.size w w'
theorem RTab.grown {w w' : World} {t B : Nat} {L : List Lk.Hd} {v : Value} {row : Option Nat} (h : RTab w t B L v) (hg : w.grownBy w' row) (h1 : some t ≠ row) (h2 : v.ownBlock = none ∨ v.ownBlock ≠ row) : RTab w' t B L v :=
 ⟨h.blk.grown hg h1, h.own.kept hg h2, h.le, h.hB⟩
theorem uj (t B : Nat) (L : List Lk.Hd) (v : Value) (s : ByteArray) (w : World) (hs : s.size <= 2 ^ 48) (hT : RTab w t B L v) (X : Lk.XR) (HX : Hid (Lk.exR B s.data.toList 6 L 0 = X)) :
 Calls Tryz.prog 63 #[.pointer (some ⟨t, 0, none⟩), .string s] w (OI w t B X) := by
 obtain ⟨i, hi, hz0, hz1, hz2⟩ := info_parts xK
 have hsm : s.size <= maxLen := by unfold maxLen; omega
 have HSL := hide (af s)
 have HT := hide hT
 have htl := hT.blk.lt
 have HT0 := hide (hT.alloc (.cells #[.string s, .int .i64 0, .int .i64 (-1)] 213))
 have HI0 : Hid (RB (w.alloc (.cells #[.string s, .int .i64 0, .int .i64 (-1)] 213)) w.heap.size s ((0 : Nat) : Nat) (-1)) := Is.new w 213 [.string s, .int .i64 0, .int .i64 (-1)]
 have HB0 := hide ((Below.refl w.heap.size w).alloc (Nat.le_refl _) (.cells #[.string s, .int .i64 0, .int .i64 (-1)] 213))
 clear hT
 go_enter Tryz.func63, Tryz.ntmps63
 go_wp2_with fail
 refine (sD t B L v _ (uh HT0)).mono ?_
 rintro e w1 ⟨u, rfl, hu, ⟨v1, hT1, hv1⟩, hb1⟩
 have hI1 := (uh HI0).below hb1
 have iL : Below w.heap.size w w1 := (uh HB0).trans (hb1.mono (by simp))
 have hub : w.heap.size < u := by simp at hu; omega
 have HV1 : Hid (∀ k, v1.ownBlock = some k -> w.heap.size <= k) := fun k hk => by have := hv1 k hk; simp at this; omega
 clear hv1
 have HT1 := hide hT1
 have HI1 := hide hI1
 clear hT1 hI1 hb1 hu
 generalize hbb : w.heap.size = b at *
 have hbw : b <= w.heap.size := by omega
 have HBB := hide hbb
 clear hbb
 go_wp2_with fail
 go_loopw [9] (fun o wr => ∃ (hd : List Lk.Hd) (p' : Nat) (L' : List Lk.Hd) (v' : Value), hd.length <= 6 ∧ p' <= s.size ∧ Hid (X = Lk.pre hd (Lk.exR B s.data.toList (6 - hd.length) L' p')) ∧ RB wr b s p' (-1) ∧ RTab wr u B L' v' ∧ wr.ownsRow b 206 2 o hd.length (aQ hd) ∧ (o.ownBlock = none ∨ o.ownBlock ≠ v'.ownBlock) ∧ Below b w wr ∧ Hid (∀ k, v'.ownBlock = some k -> b <= k)) (fun o _ => 6 - sliceLen o)
 case atStart =>
  refine ⟨[], 0, L, v1, by simp, by omega, ?_, uh HI1, uh HT1, World.ownsRow_nil _ _ _ _, .inl rfl, iL, HV1⟩
  have := uh HX
  rw [Hid, <- this]
  simp only [List.length_nil, Nat.sub_zero]
  cases Lk.exR B s.data.toList 6 L 0 <;> rfl
 case round =>
  obtain ⟨hd, p', L', v', hd6, hp', HE, hIr, hTr, hown, hdis, hbel, HNV⟩ := hrel
  obtain ⟨a, cap, rfl⟩ := aJ hown
  obtain ⟨va, oM, hvf⟩ := hTr.form
  generalize hvn : L'.length = vn at hvf
  subst hvf
  have HVN := hide hvn
  clear hvn
  have c1 : wr.cell? ⟨b, 1, none⟩ = some (.int .i64 p') := hIr.cell 1
  have hsz := hbel.size
  by_cases hend : s.size <= p'
  . have hend' : ¬ (p' : Int) < s.size := by omega
    have hXX : X = .ok hd L' := by
     rw [uh HE]
     have e : Lk.exR B s.data.toList (6 - hd.length) L' p' = .ok [] L' := by
      cases 6 - hd.length <;> (rw [Lk.exR, if_pos (by rw [<- uh HSL]; exact hend)])
     rw [e]
     simp [Lk.pre]
    subst hXX
    have t1 := hTr.blk.cell 1
    have hTt := (uh HT).blk.below hbel (by omega)
    have tf := hTt.free 1
    have d0 := hTt.cell 0
    have d1 := hTt.cell 1
    have htr : t < wr.heap.size := by omega
    have hur := hTr.blk.lt
    simp only [List.getElem?_cons_zero, List.getElem?_cons_succ] at t1 d0 d1
    have HTt := hide hTt
    have HOr := hide hown
    have HTr := hide hTr
    clear hown hTr hTt
    go_wp2_with fail
    go_ret3
    have hg : Turns t wr (wr.setCell ⟨t, 1, none⟩ (.slice va vn oM)) := (Turns.refl t wr).set 1 _
    refine ⟨⟨_, .slice va vn oM, rfl, ?_, ⟨(uh HTt).set 1 _, lZ (uh HTr).own (uh HTt) (nbq rfl) hg, (uh HTr).le, (uh HT).hB⟩, hd6, by rw [uh HBB]; exact uh HNV, hdis⟩, ?_⟩
    . rw [uh HBB]
      exact lZ (uh HOr) (uh HTt) (nbq rfl) hg
    . have hb' : Below w.heap.size w wr := by rw [uh HBB]; exact hbel
      exact (Below.turns hb' t).set 1 _
  . have hend' : (p' : Int) < s.size := by omega
    by_cases h6 : hd.length = 6
    . have h6' : ((hd.length : Int) == 6) = true := by rw [beq_iff_eq]; omega
      have hXX : X = .err 8 p' := by
       rw [uh HE, h6]
       simp only [Nat.sub_self]
       rw [Lk.exR, if_neg (by rw [<- uh HSL]; exact hend)]
       rfl
      subst hXX
      go_wp2_with fail
      go_quiet (fail)
      go_wp2_with fail
      go_ret3
      refine ⟨rfl, ?_⟩
      rw [uh HBB]
      exact Below.drewN hbel _
    . have h6' : ((hd.length : Int) == 6) = false := by rw [beq_eq_false_iff_ne]; omega
      have hXX : X = Lk.pre hd (match Lk.mY B L' s.data.toList p' with
       | .bad q => .err 9 q
       | .ok hl q => match Lk.exR B s.data.toList (6 - (hd.length + 1)) hl.2 q with
         | .ok hs L2 => .ok (hl.1 :: hs) L2
         | .err e q => .err e q) := by
       rw [uh HE]
       have e : 6 - hd.length = (6 - (hd.length + 1)) + 1 := by omega
       rw [e, Lk.exR, if_neg (by rw [<- uh HSL]; exact hend)]
       rfl
      have HXX := hide hXX
      have HC := hide (He b u s p' B L' (.slice va vn oM) wr hs hp' hIr hTr)
      have HGE := hide (fun hl q => Lk.Np (B := B) (L := L') (s := s.data.toList) (p := p') (hl := hl) (q := q) (by rw [<- uh HSL]; exact hp') hTr.le hTr.hB)
      have HOr := hide hown
      have HIr := hide hIr
      have HTr := hide hTr
      clear hXX hown hIr hTr
      go_wp2_with fail
      refine (uh HC).mono ?_
      rintro e w2 ⟨hm, hT2⟩
      have ho2 := hT2.own (uh HOr) (own_ne (uh HOr) (uh HIr) (nbq rfl)) (own_ne (uh HOr) (uh HTr).blk (nbq rfl))
      have lH := Two.toBelow hbel hT2 (Nat.le_refl _) (by omega) (by omega)
      have hs2 := lH.size
      cases hpr : Lk.mY B L' s.data.toList p' with
      | bad q =>
        rw [hpr] at hm
        obtain ⟨⟨hx, rfl⟩, p2, hI2⟩ := hm
        have hX2 := uh HXX
        rw [hpr] at hX2
        simp only [Lk.pre] at hX2
        subst hX2
        have hq : (0 : Int) <= q := by omega
        have Oy : b < w2.heap.size := hI2.set1
        have k2 : (w2.alloc (.cells #[.string (bs hx.n), .string (bs hx.v)] 206)).cell? ⟨b, 2, none⟩ = some (.int .i64 q) := (hI2.alloc _).cell 2
        have HI2 := hide hI2
        clear hI2 ho2 c1
        go_wp2_with fail
        go_quiet (fail)
        go_wp2_with fail
        go_ret3
        refine ⟨rfl, ?_⟩
        rw [uh HBB]
        exact Below.drewN (lH.alloc (by omega) _) _
      | ok hl q =>
        rw [hpr] at hm
        obtain ⟨rfl, hI2, v2, hK2, hN2⟩ := hm
        have hge := uh HGE hl q hpr
        rw [<- uh HSL] at hge
        have hlt : ∀ k, (Value.slice a hd.length cap).ownBlock = some k -> k < wr.heap.size := fun k hk => ((uh HOr).lt k hk).2
        have JV : (Value.slice a hd.length cap).ownBlock = none ∨ (Value.slice a hd.length cap).ownBlock ≠ v2.ownBlock := by
         rcases hN2 with rfl | hN2
         . exact hdis
         . cases hv : (Value.slice a hd.length cap).ownBlock with
           | none => exact .inl rfl
           | some k => exact .inr (fun e => by have h1 := hN2 k e.symm; have h2 := hlt k hv; omega)
        have WW : Hid (∀ k, v2.ownBlock = some k -> b <= k) := by
         rcases hN2 with rfl | hN2
         . exact uh HNV
         . intro k hk
           have := hN2 k hk
           omega
        have hX2 := uh HXX
        rw [hpr] at hX2
        have HX2 := hide hX2
        have HK2 := hide hK2
        have HO2 := hide ho2
        have HI2 := hide hI2
        have Oy : b < w2.heap.size := hI2.set1
        have k2 : (w2.alloc (.cells #[.string (bs hl.1.n), .string (bs hl.1.v)] 206)).cell? ⟨b, 2, none⟩ = some (.int .i64 (-1)) := (hI2.alloc _).cell 2
        clear hK2 ho2 hX2 hI2 c1
        go_wp2_with (at_builtin; refine wpList_append_lies _ rfl _ _ 154 rfl b 206 i _ 2 32 Tryz.underlying154 hi hz0 hz1 hz2 rfl (by decide) _ hd.length (aQ hd) rfl (((uh HO2).alloc _).alloc _) ⟨w2.heap.size + 1, 0, none⟩ 1 1 (hdV hl.1) rfl rfl ?hnews ?h1 (by decide) ?h63 ?hby ?hba _ rfl ?_)
        case hnews =>
         have := iK (nS (w2.alloc (.cells #[.string (bs hl.1.n), .string (bs hl.1.v)] 206)) 206 hl.1)
         simpa using this
        case h1 => simp [hdV, Value.oneCell']
        case h63 => unfold maxLen; omega
        case hby => omega
        case hba => first | omega | (simp; omega)
        intro g1 cap1 w3 ho3 hg3 OE hlt3
        have hKa := ((uh HK2).alloc (.cells #[.string (bs hl.1.n), .string (bs hl.1.v)] 206)).alloc (.cells #[.string (bs hl.1.n), .string (bs hl.1.v)] 206)
        have hIa := ((uh HI2).alloc (.cells #[.string (bs hl.1.n), .string (bs hl.1.v)] 206)).alloc (.cells #[.string (bs hl.1.n), .string (bs hl.1.v)] 206)
        have hOa := ((uh HO2).alloc (.cells #[.string (bs hl.1.n), .string (bs hl.1.v)] 206)).alloc (.cells #[.string (bs hl.1.n), .string (bs hl.1.v)] 206)
        have hrow : ∀ k, (Value.slice a hd.length cap).ownBlock = some k -> b <= k := fun k hk => ((uh HO2).lt k hk).1
        have hdv : v2.ownBlock = none ∨ v2.ownBlock ≠ (Value.slice a hd.length cap).ownBlock := by
         cases hv : v2.ownBlock with
         | none => exact .inl rfl
         | some k =>
           right
           rcases JV with h | h
           . rw [h]; simp
           . rw [hv] at h; exact fun e => h e.symm
        have hK3 := hKa.grown hg3 (own_ne hOa hKa.blk (nbq rfl)) hdv
        have hI3 : RB w3 b s q (-1) := Is.grown hIa hg3 (own_ne hOa hIa (nbq rfl))
        have lJ := ((lH.alloc (by omega) (.cells #[.string (bs hl.1.n), .string (bs hl.1.v)] 206)).alloc (by simp; omega) (.cells #[.string (bs hl.1.n), .string (bs hl.1.v)] 206)).grown hg3 (by simp; omega) hrow
        have P7 : (Value.slice (some ⟨g1, 0, none⟩) (hd.length + 1) cap1).ownBlock = none ∨ (Value.slice (some ⟨g1, 0, none⟩) (hd.length + 1) cap1).ownBlock ≠ v2.ownBlock := by
         right
         show some g1 ≠ v2.ownBlock
         intro e
         rcases OE with h | h
         . rcases JV with h' | h'
           . rw [h'] at h; cases h
           . exact h' (h.trans e)
         . have := ((uh HK2).own.lt g1 e.symm).2
           omega
        have Ry : w3.ownsRow b 206 2 (.slice (some ⟨g1, 0, none⟩) (hd.length + 1) cap1) (hd ++ [hl.1]).length (aQ (hd ++ [hl.1])) := by
         rw [dJ]
         simpa [aQ] using ho3
        have HX3 : Hid (X = Lk.pre (hd ++ [hl.1]) (Lk.exR B s.data.toList (6 - (hd ++ [hl.1]).length) hl.2 q)) := by
         have e := uh HX2
         rw [Hid, e, List.length_append, List.length_singleton]
         cases Lk.exR B s.data.toList (6 - (hd.length + 1)) hl.2 q <;> simp [Lk.pre]
        have HK3 := hide hK3
        have HO3 := hide Ry
        have HI3 := hide hI3
        clear ho3 hg3 hKa hOa hK3 Ry OE hdv hIa hI3 k2
        go_wp2_with fail
        go_roundw
        case rel => exact ⟨hd ++ [hl.1], q, hl.2, v2, by simp; omega, hge.2, HX3, uh HI3, uh HK3, uh HO3, P7, lJ, WW⟩
        case measure => simp [sliceLen]; omega
variable {κ : Prop}
theorem aT.Rz {w w' : World} {b : Nat} {e : Lk.En} {p : RP} (h : aT κ w b e p) {L : List Lk.Hd} {v' : Value} (hT : RTab w' p.ib 100 L v') (hTu : Turns p.ib w w') (hv : ∀ k, v'.ownBlock = some k -> w.heap.size <= k) : aT κ w' b { e with inn := L } { p with vi := v' } ∧ (∀ i, aI b { p with vi := v' } i -> aI b p i ∨ w.heap.size <= i) ∧ Only (aI b p) w w' := by
 have hO : Only (· = p.ib) w w' := Only.dP hTu
 obtain ⟨a1, _, a3, a4, a5, a6, a7⟩ := h.apt h.inn.blk
 have a1 := a1 (nbq rfl)
 have a3 := a3 (nbq rfl)
 have a4 := (a4 (nbq rfl)).1
 have a5 := a5 (nbq rfl)
 have a6 := a6 (nbq rfl)
 have a7 := a7 (nbq rfl)
 obtain ⟨s, f, r1, r2⟩ := h.rd
 have hR : aT κ w' b { e with inn := L } { p with vi := v' } := ⟨h.blk.only hO a1, h.out.only hO h.ne (fun i hi => a4 i hi), hT, ⟨s, f, r1.only hO a3, r2⟩, h.row.only hO (fun i hi => a5 i hi), ag h.own hO (fun i hi => a6 i hi), ag h.oth hO (fun i hi => a7 i hi), h.ne, by
  cases hx : p.vo.ownBlock with
  | none => exact .inl rfl
  | some k =>
    refine .inr (fun e2 => ?_)
    have q1 := hv k e2.symm
    have q2 := (h.out.own.lt k hx).2
    omega⟩
 refine ⟨hR, fun i hi => ?_, hO.mono (fun i hi => .inr (.inr (.inl hi)))⟩
 rcases hi with hi | hi | hi | hi | hi | hi | hi | hi | hi
 . exact .inl (.inl hi)
 . exact .inl (.inr (.inl hi))
 . exact .inl (.inr (.inr (.inl hi)))
 . exact .inl (.inr (.inr (.inr (.inl hi))))
 . exact .inl (.inr (.inr (.inr (.inr (.inl hi)))))
 . exact .inr (hv i hi)
 . exact .inl (.inr (.inr (.inr (.inr (.inr (.inr (.inl hi)))))))
 . exact .inl (.inr (.inr (.inr (.inr (.inr (.inr (.inr (.inl hi))))))))
 . exact .inl (.inr (.inr (.inr (.inr (.inr (.inr (.inr (.inr hi))))))))
theorem aT.RD {w w' : World} {b : Nat} {e : Lk.En} {p : RP} (h : aT κ w b e p) {v' : Value} {l : List Lk.Ot} (hq : w'.ownsRow 0 265 5 v' l.length (L8 l)) (hv : v'.ownBlock = p.tv.ownBlock ∨ ∀ k, v'.ownBlock = some k -> w.heap.size <= k) (hO : Only (fun i => p.tv.ownBlock = some i) w w') : aj κ w b p { e with oth := l } (w'.setCell ⟨b, 7, none⟩ v') := by
 have hap : ∀ i, p.tv.ownBlock = some i -> b ≠ i ∧ (p.ob ≠ i ∧ p.ib ≠ i) ∧ p.rb ≠ i ∧ ((∀ j, p.vo.ownBlock = some j -> j ≠ i) ∧ ∀ j, p.vi.ownBlock = some j -> j ≠ i) ∧ (∀ j, p.rv.ownBlock = some j -> j ≠ i) ∧ ∀ j, p.wv.ownBlock = some j -> j ≠ i := fun i hi => by
  obtain ⟨cs, hI⟩ := iM h.oth hi
  obtain ⟨a1, a2, a3, a4, a5, a6, _⟩ := h.apt hI
  exact ⟨a1 (nbq rfl), a2 (nbq rfl), a3 (nbq rfl), a4 (nbq rfl), a5 (nbq rfl), a6 (nbq rfl)⟩
 have hO2 : Only (fun i => p.tv.ownBlock = some i ∨ i = b) w (w'.setCell ⟨b, 7, none⟩ v') := (hO.mono (fun i hi => .inl hi)).set b 7 v' (fun _ => .inr rfl)
 obtain ⟨c1, c2, c3, c4, c5, c6, c7, c8⟩ := h.apart
 have hn : ∀ i, (∀ j, p.tv.ownBlock = some j -> i ≠ j) -> i ≠ b -> ¬ (p.tv.ownBlock = some i ∨ i = b) := fun i h1 h2 hx => by
  rcases hx with hx | hx
  . exact h1 i hx rfl
  . exact h2 hx
 have hI := (h.blk.only hO (fun hb => (hap b hb).1 rfl)).set 7 v'
 have hbq : ∀ i, v'.ownBlock = some i -> i ≠ b := fun i hi => by
  rcases hv with hv | hv
  . rw [hv] at hi
    exact c8 i hi
  . have := hv i hi
    have := h.blk.lt
    omega
 obtain ⟨s, f, r1, r2⟩ := h.rd
 refine ⟨{ p with tv := v' }, ⟨hI, h.out.only hO2 (hn _ (fun j hj => (hap j hj).2.1.1) (Ne.symm c1)) (fun i hi => hn i (fun j hj => (hap j hj).2.2.2.1.1 i hi) (c4 i hi)), h.inn.only hO2 (hn _ (fun j hj => (hap j hj).2.1.2) (Ne.symm c2)) (fun i hi => hn i (fun j hj => (hap j hj).2.2.2.1.2 i hi) (c5 i hi)), ⟨s, f, r1.only hO2 (hn _ (fun j hj => (hap j hj).2.2.1) (Ne.symm c3)), r2⟩, h.row.only hO2 (fun i hi => hn i (fun j hj => (hap j hj).2.2.2.2.1 i hi) (c6 i hi)), ag h.own hO2 (fun i hi => hn i (fun j hj => (hap j hj).2.2.2.2.2 i hi) (c7 i hi)), ag hq ((Only.refl (· = b) w').set b 7 v' (fun _ => rfl)) hbq, h.ne, h.nv⟩, fun i hi => ?_, hO2.mono (fun i hi => ?_)⟩
 . rcases hi with hi | hi | hi | hi | hi | hi | hi | hi | hi
   . exact .inl (.inl hi)
   . exact .inl (.inr (.inl hi))
   . exact .inl (.inr (.inr (.inl hi)))
   . exact .inl (.inr (.inr (.inr (.inl hi))))
   . exact .inl (.inr (.inr (.inr (.inr (.inl hi)))))
   . exact .inl (.inr (.inr (.inr (.inr (.inr (.inl hi))))))
   . exact .inl (.inr (.inr (.inr (.inr (.inr (.inr (.inl hi)))))))
   . exact .inl (.inr (.inr (.inr (.inr (.inr (.inr (.inr (.inl hi))))))))
   . rcases hv with hv | hv
     . have hi : v'.ownBlock = some i := hi
       rw [hv] at hi
       exact .inl (.inr (.inr (.inr (.inr (.inr (.inr (.inr (.inr hi))))))))
     . exact .inr (hv i hi)
 . rcases hi with hi | hi
   . exact .inr (.inr (.inr (.inr (.inr (.inr (.inr (.inr hi)))))))
   . exact .inl hi
theorem aT.RG {w w' : World} {b : Nat} {e : Lk.En} {p : RP} (h : aT κ w b e p) {v' : Value} {l : List Lk.Ow} (hq : w'.ownsRow 0 258 4 v' l.length (L6 l)) (hv : v'.ownBlock = p.wv.ownBlock ∨ ∀ k, v'.ownBlock = some k -> w.heap.size <= k) (hO : Only (fun i => p.wv.ownBlock = some i) w w') : aj κ w b p { e with own := l } (w'.setCell ⟨b, 6, none⟩ v') := by
 have hap : ∀ i, p.wv.ownBlock = some i -> b ≠ i ∧ (p.ob ≠ i ∧ p.ib ≠ i) ∧ p.rb ≠ i ∧ ((∀ j, p.vo.ownBlock = some j -> j ≠ i) ∧ ∀ j, p.vi.ownBlock = some j -> j ≠ i) ∧ (∀ j, p.rv.ownBlock = some j -> j ≠ i) ∧ ∀ j, p.tv.ownBlock = some j -> j ≠ i := fun i hi => by
  obtain ⟨cs, hI⟩ := iM h.own hi
  obtain ⟨a1, a2, a3, a4, a5, _, a7⟩ := h.apt hI
  exact ⟨a1 (nbq rfl), a2 (nbq rfl), a3 (nbq rfl), a4 (nbq rfl), a5 (nbq rfl), a7 (nbq rfl)⟩
 have hO2 : Only (fun i => p.wv.ownBlock = some i ∨ i = b) w (w'.setCell ⟨b, 6, none⟩ v') := (hO.mono (fun i hi => .inl hi)).set b 6 v' (fun _ => .inr rfl)
 obtain ⟨c1, c2, c3, c4, c5, c6, c7, c8⟩ := h.apart
 have hn : ∀ i, (∀ j, p.wv.ownBlock = some j -> i ≠ j) -> i ≠ b -> ¬ (p.wv.ownBlock = some i ∨ i = b) := fun i h1 h2 hx => by
  rcases hx with hx | hx
  . exact h1 i hx rfl
  . exact h2 hx
 have hI := (h.blk.only hO (fun hb => (hap b hb).1 rfl)).set 6 v'
 have hbq : ∀ i, v'.ownBlock = some i -> i ≠ b := fun i hi => by
  rcases hv with hv | hv
  . rw [hv] at hi
    exact c7 i hi
  . have := hv i hi
    have := h.blk.lt
    omega
 obtain ⟨s, f, r1, r2⟩ := h.rd
 refine ⟨{ p with wv := v' }, ⟨hI, h.out.only hO2 (hn _ (fun j hj => (hap j hj).2.1.1) (Ne.symm c1)) (fun i hi => hn i (fun j hj => (hap j hj).2.2.2.1.1 i hi) (c4 i hi)), h.inn.only hO2 (hn _ (fun j hj => (hap j hj).2.1.2) (Ne.symm c2)) (fun i hi => hn i (fun j hj => (hap j hj).2.2.2.1.2 i hi) (c5 i hi)), ⟨s, f, r1.only hO2 (hn _ (fun j hj => (hap j hj).2.2.1) (Ne.symm c3)), r2⟩, h.row.only hO2 (fun i hi => hn i (fun j hj => (hap j hj).2.2.2.2.1 i hi) (c6 i hi)), ag hq ((Only.refl (· = b) w').set b 6 v' (fun _ => rfl)) hbq, ag h.oth hO2 (fun i hi => hn i (fun j hj => (hap j hj).2.2.2.2.2 i hi) (c8 i hi)), h.ne, h.nv⟩, fun i hi => ?_, hO2.mono (fun i hi => ?_)⟩
 . rcases hi with hi | hi | hi | hi | hi | hi | hi | hi | hi
   . exact .inl (.inl hi)
   . exact .inl (.inr (.inl hi))
   . exact .inl (.inr (.inr (.inl hi)))
   . exact .inl (.inr (.inr (.inr (.inl hi))))
   . exact .inl (.inr (.inr (.inr (.inr (.inl hi)))))
   . exact .inl (.inr (.inr (.inr (.inr (.inr (.inl hi))))))
   . exact .inl (.inr (.inr (.inr (.inr (.inr (.inr (.inl hi)))))))
   . rcases hv with hv | hv
     . have hi : v'.ownBlock = some i := hi
       rw [hv] at hi
       exact .inl (.inr (.inr (.inr (.inr (.inr (.inr (.inr (.inl hi))))))))
     . exact .inr (hv i hi)
   . exact .inl (.inr (.inr (.inr (.inr (.inr (.inr (.inr (.inr hi))))))))
 . rcases hi with hi | hi
   . exact .inr (.inr (.inr (.inr (.inr (.inr (.inr (.inl hi)))))))
   . exact .inl hi
theorem AO (w : World) (c d : Obj) : Below w.heap.size w ((w.alloc c).alloc d).drew.drew := by
 have h := ((Below.refl w.heap.size w).alloc (Nat.le_refl _) c).alloc (by simp) d
 exact ⟨h.os, h.tape, h.output, h.size, h.block⟩
theorem Ns (w : World) (c : Obj) (y : Lk.Ot) : ∀ j u, (rtV y)[j]? = some u -> ((w.alloc c).alloc (.cells #[.int .i64 (y.id : Int), .int .i64 (y.cr : Int), .int .i64 (y.held : Int), .bool y.opn, .bool y.drp] 265)).drew.drew.cell? ((⟨w.heap.size + 1, 0, none⟩ : Addr).add j) = some u := by
 intro j u hj
 have e : (⟨w.heap.size + 1, 0, none⟩ : Addr).add j = ⟨w.heap.size + 1, j, none⟩ := by unfold Addr.add; split <;> simp_all
 have hI := Is.new (w.alloc c) 265 (rtV y)
 rw [World.size_alloc] at hI
 rw [e]
 exact (hI.cell j).trans hj
theorem Nu : (Tryz.prog.info? 265).map (fun i => (i.zero, i.size, i.bytes)) = some (some (.agg #[.int .i64 0, .int .i64 0, .int .i64 0, .bool false, .bool false]), 5, 32) := by kernel_rfl
theorem wV {w : World} {B B' : Nat} {e : TypeId} {size n : Nat} {v : Value} {xs : List Value} (h : w.ownsRow B e size v n xs) (hB : B' <= B) : w.ownsRow B' e size v n xs := by
 refine ⟨h.1, ?_⟩
 rcases h.2 with k | ⟨g, cap, cur, k0, k1, k2⟩
 . exact .inl k
 . exact .inr ⟨g, cap, cur, k0, by omega, k2⟩
theorem fA.head {w wc w' : World} {b B : Nat} {E : Lk.En} {p p' : RP} {st : Nat} {hs : List Lk.Hd} {lv : Value} (h1 : aT κ wc b E p') (h2 : ∀ i, aI b p' i -> aI b p i ∨ w.heap.size <= i) (h3 : Only (aI b p) w wc) (hB : w.heap.size <= B) (hr : wc.ownsRow B 206 2 lv hs.length (aQ hs)) (hn : ∀ i, lv.ownBlock = some i -> ¬ aI b p' i)
 (hb : Below (wc.heap.size + 1) (wc.alloc (.cells #[.int .i64 1, .int .i64 (st : Int), .int .i64 0, lv, .string ⟨#[]⟩] 261)) w') :
 fA κ w b p 0 E [⟨1, st, 0, hs, []⟩] (.returned (.tuple #[.slice (some ⟨wc.heap.size, 0, Option.none⟩) 1 1, .int .i64 0])) w' := by
 have hbw : Below wc.heap.size wc w' := ((Below.refl _ wc).alloc (Nat.le_refl _) _).trans (hb.mono (by omega))
 have hsz := h3.size
 refine ⟨_, [(⟨1, st, 0, hs, []⟩, lv)], p', rfl, rfl, ⟨wV (jO (E5 wc 261 (⟨1, st, 0, hs, []⟩, lv)) hb (by simp)) hsz, fun q hq => ?_⟩, fun i hi => ?_, h1.below hbw, h2, h3.trans (Only.of_below hbw _) (fun _ x _ => x)⟩
 . simp at hq
   subst hq
   exact wV (own_below hr hbw) hB
 . rcases hi with hi | ⟨q, hq, hi⟩
   . have hi : some wc.heap.size = some i := hi
     injection hi with hi
     exact fun hx => by have := h1.lt hx; omega
   . simp at hq
     subst hq
     exact hn i hi
end Go.Proofs.YtbkpdapagfjmmaaGreatDoor
