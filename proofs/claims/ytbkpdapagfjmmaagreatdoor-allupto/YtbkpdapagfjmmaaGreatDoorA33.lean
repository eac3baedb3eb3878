import Derived.Test.YtbkpdapagfjmmaaGreatDoorA31
import Derived.Test.YtbkpdapagfjmmaaGreatDoorA34
set_option linter.unusedVariables false
set_option maxRecDepth 100000
set_option maxHeartbeats 16000000
namespace Go.Proofs.YtbkpdapagfjmmaaGreatDoor
open Go.RowKit
theorem G8 (b u : Nat) (s : ByteArray) (p n q B : Nat) (L : List Lk.Hd) (v : Value) (w : World) (hs : s.size <= 2 ^ 48) (hp : p <= s.size) (hI : RB w b s p (-1)) (hT : RTab w u B L v) (hn : Lk.kT s.data.toList p = .ok n q) (h2 : n % 2 = 1) (hk : (Lk.fB L).length < n / 2) :
 Calls Tryz.prog 105 #[.pointer (some ⟨b, 0, none⟩), .pointer (some ⟨u, 0, none⟩)] w (wU w b u s B v (.bad (q - 1))) := by
 have hC := eX b s p (w.alloc (.cells #[.string ⟨#[]⟩, .string ⟨#[]⟩] 206)) hs hp (hI.alloc _)
 rw [hn] at hC
 have hq := Lk.iq (by rw [<- af]; exact hp) hn
 rw [<- af] at hq
 have hnl := Lk.pJ hn
 have HC := hide hC
 have HX := hide (Is.new w 206 [.string ⟨#[]⟩, .string ⟨#[]⟩])
 have hT0 := (Two.refl b u w).alloc (.cells #[.string ⟨#[]⟩, .string ⟨#[]⟩] 206)
 have hbl : b < w.heap.size := Is.lt hI
 have hul := hT.blk.lt
 have HT := hide (hT.alloc (.cells #[.string ⟨#[]⟩, .string ⟨#[]⟩] 206))
 have HVL := hide (fun k (hk : v.ownBlock = some k) => (hT.own.lt k hk).2)
 have HN := hide (hT.blk.ne hI (nbq rfl))
 have HI0 := hide (hI.alloc (.cells #[.string ⟨#[]⟩, .string ⟨#[]⟩] 206))
 have HLB := hide (⟨hT.le, hT.hB⟩ : Lk.weights L <= B ∧ B <= 200)
 have hr : Int.tmod (n : Int) 2 = 1 := by rw [QO, h2]; rfl
 have hd := QP n
 clear hI hn hC hT
 go_enter Tryz.func105, Tryz.ntmps105
 go_wp2_with fail
 refine (uh HC).mono ?_
 rintro e w1 ⟨⟨rfl, hI1⟩, hT1⟩
 have HX1 := hide ((uh HX).grown hT1 (by simp; omega))
 have HT1 := hide ((uh HT).turns hT1 (uh HI0) (nbq rfl) (uh HN))
 have HI1 := hide hI1
 have Ld := hT0.trans (Two.ofB (u := u) hT1)
 clear hI1 hT1
 go_wp2_with fail
 refine (lV u B L v _ (uh HT1)).mono ?_
 rintro e w2 ⟨v2, rfl, ho2, hb2⟩
 have hX2 := (uh HX1).below hb2 (uh HX1).lt
 have hI2 := (uh HI1).below hb2
 have JW := (Ld.below hb2).alloc (.cells #[.string ⟨#[]⟩, .string ⟨#[]⟩] 206)
 have HT2 := hide (((uh HT1).below hb2).alloc (.cells #[.string ⟨#[]⟩, .string ⟨#[]⟩] 206))
 have c2 : w2.cell? ⟨b, 2, none⟩ = some (.int .i64 (-1)) := hI2.cell 2
 have hXl := hX2.lt
 obtain ⟨la, lc, hlv⟩ := aJ ho2
 subst hlv
 have HO2 := hide (ho2.alloc (.cells #[.string ⟨#[]⟩, .string ⟨#[]⟩] 206))
 have HI2 := hide (hI2.alloc (.cells #[.string ⟨#[]⟩, .string ⟨#[]⟩] 206))
 have HX2 := hide (hX2.alloc (.cells #[.string ⟨#[]⟩, .string ⟨#[]⟩] 206))
 have hH2 := Is.new w2 206 [.string ⟨#[]⟩, .string ⟨#[]⟩]
 have HH2 := hide hH2
 clear hI2 hX2 hb2 ho2 hH2
 have hm9 : n / 2 <= 134217728 := by omega
 generalize n / 2 = m at *
 have hk' : ((Lk.fB L).length : Int) < (m : Int) := by omega
 have c1 : (w2.alloc (.cells #[.string ⟨#[]⟩, .string ⟨#[]⟩] 206)).cell? ⟨b, 1, none⟩ = some (.int .i64 q) := (uh HI2).cell 1
 have Oy : b < w2.heap.size := by omega
 go_wp2_with fail
 refine (eU b s q ((q : Int) - 1) _ (uh HI2)).mono ?_
 rintro e w3 ⟨rfl, hI3, hT3⟩
 have hX3 := (uh HX2).grown hT3 (by simp; omega)
 have hH3 := (uh HH2).grown hT3 (by simp; omega)
 have z0 := hX3.cell 0
 have z1 := hX3.cell 1
 have g0 := hX3.free 0
 have g1 := hX3.free 1
 have y0 := hH3.cell 0
 have y1 := hH3.cell 1
 have WR := hX3.lt
 simp only [List.getElem?_cons_zero, List.getElem?_cons_succ] at z0 z1 y0 y1
 have HI3 := hide hI3
 clear hX3 hI3 hH3
 have hTT := ((JW.trans (Two.ofB (u := u) hT3)).aY (a := ⟨w.heap.size, 0, none⟩) (Nat.le_refl _) (.string (bs bF.n))).aY (a := ⟨w.heap.size, 1, none⟩) (Nat.le_refl _) (.string (bs bF.v))
 go_wp2_with fail
 refine bodyPost_ret (v := hdA bF) (by simp [results, Tryz.results105, go_sem, z0, z1, bF, bs]) rfl ⟨⟨⟨bF, rfl⟩, q, ?_⟩, hTT⟩
 rw [show ((q - 1 : Nat) : Int) = (q : Int) - 1 by omega]
 exact ((uh HI3).other _ _ (by simp; omega)).other _ _ (by simp; omega)
theorem G9 (b u : Nat) (s : ByteArray) (p n q B : Nat) (L : List Lk.Hd) (v : Value) (w : World) (hs : s.size <= 2 ^ 48) (hp : p <= s.size) (hI : RB w b s p (-1)) (hT : RTab w u B L v) (hn : Lk.kT s.data.toList p = .ok n q) (h2 : n % 2 = 1) (hk : n / 2 <= (Lk.fB L).length) (hk0 : n / 2 ≠ 0) (x : Lk.Hd) (hx : (Lk.fB L)[n / 2 - 1]? = some x) (hxl : x.n.length <= 200) :
 Calls Tryz.prog 105 #[.pointer (some ⟨b, 0, none⟩), .pointer (some ⟨u, 0, none⟩)] w (wU w b u s B v (match Lk.bI false s.data.toList q with | .bad q => .bad q | .ok t q => .ok (⟨x.n, t⟩, Lk.put B L ⟨x.n, t⟩) q)) := by
 generalize hRR : (match Lk.bI false s.data.toList q with | .bad q => Lk.PR.bad q | .ok t q => .ok ((⟨x.n, t⟩ : Lk.Hd), Lk.put B L ⟨x.n, t⟩) q) = RR
 have HRR := hide hRR
 clear hRR
 have hC := eX b s p (w.alloc (.cells #[.string ⟨#[]⟩, .string ⟨#[]⟩] 206)) hs hp (hI.alloc _)
 rw [hn] at hC
 have hq := Lk.iq (by rw [<- af]; exact hp) hn
 rw [<- af] at hq
 have hnl := Lk.pJ hn
 have HC := hide hC
 have HX := hide (Is.new w 206 [.string ⟨#[]⟩, .string ⟨#[]⟩])
 have hT0 := (Two.refl b u w).alloc (.cells #[.string ⟨#[]⟩, .string ⟨#[]⟩] 206)
 have hbl : b < w.heap.size := Is.lt hI
 have hul := hT.blk.lt
 have HT := hide (hT.alloc (.cells #[.string ⟨#[]⟩, .string ⟨#[]⟩] 206))
 have HVL := hide (fun k (hk : v.ownBlock = some k) => (hT.own.lt k hk).2)
 have HN := hide (hT.blk.ne hI (nbq rfl))
 have HI0 := hide (hI.alloc (.cells #[.string ⟨#[]⟩, .string ⟨#[]⟩] 206))
 have HLB := hide (⟨hT.le, hT.hB⟩ : Lk.weights L <= B ∧ B <= 200)
 have hr : Int.tmod (n : Int) 2 = 1 := by rw [QO, h2]; rfl
 have hd := QP n
 clear hI hn hC hT
 go_enter Tryz.func105, Tryz.ntmps105
 go_wp2_with fail
 refine (uh HC).mono ?_
 rintro e w1 ⟨⟨rfl, hI1⟩, hT1⟩
 have HX1 := hide ((uh HX).grown hT1 (by simp; omega))
 have HT1 := hide ((uh HT).turns hT1 (uh HI0) (nbq rfl) (uh HN))
 have HI1 := hide hI1
 have Ld := hT0.trans (Two.ofB (u := u) hT1)
 clear hI1 hT1
 go_wp2_with fail
 refine (lV u B L v _ (uh HT1)).mono ?_
 rintro e w2 ⟨v2, rfl, ho2, hb2⟩
 have hX2 := (uh HX1).below hb2 (uh HX1).lt
 have hI2 := (uh HI1).below hb2
 have JW := (Ld.below hb2).alloc (.cells #[.string ⟨#[]⟩, .string ⟨#[]⟩] 206)
 have HT2 := hide (((uh HT1).below hb2).alloc (.cells #[.string ⟨#[]⟩, .string ⟨#[]⟩] 206))
 have c2 : w2.cell? ⟨b, 2, none⟩ = some (.int .i64 (-1)) := hI2.cell 2
 have hXl := hX2.lt
 obtain ⟨la, lc, hlv⟩ := aJ ho2
 subst hlv
 have HO2 := hide (ho2.alloc (.cells #[.string ⟨#[]⟩, .string ⟨#[]⟩] 206))
 have HI2 := hide (hI2.alloc (.cells #[.string ⟨#[]⟩, .string ⟨#[]⟩] 206))
 have HX2 := hide (hX2.alloc (.cells #[.string ⟨#[]⟩, .string ⟨#[]⟩] 206))
 have hH2 := Is.new w2 206 [.string ⟨#[]⟩, .string ⟨#[]⟩]
 have HH2 := hide hH2
 have HN2 := hide (⟨hI2, (uh HT1).below hb2, hX2, Ld.below hb2⟩ : RB w2 b s q (-1) ∧ RTab w2 u B L v ∧ Is w2 w.heap.size 206 [.string ⟨#[]⟩, .string ⟨#[]⟩] ∧ Two b u w w2)
 clear hI2 hX2 hb2 ho2 hH2
 have hm9 : n / 2 <= 134217728 := by omega
 generalize n / 2 = m at *
 obtain ⟨i, hi⟩ : ∃ i, m = i + 1 := ⟨m - 1, by omega⟩
 subst hi
 have hk1 : ¬ ((Lk.fB L).length : Int) < ((i + 1 : Nat) : Int) := by omega
 have hk2 : (((i + 1 : Nat) : Int) == 0) = false := by rw [beq_eq_false_iff_ne]; omega
 have hk3 : ((i + 1 : Nat) : Int) - 1 = (i : Int) := by omega
 have hk4 : (i : Int) < (Lk.fB L).length := by omega
 simp only [Nat.add_sub_cancel] at hx
 obtain ⟨g, gc, hform, _⟩ := (uh HO2).form (by omega)
 cases hform
 obtain ⟨hg2, y0, y1⟩ := jJ (uh HO2) hx
 have hf0 := (uh HH2).free 0
 have HI3 := hide ((uh HN2).1.alloc (.cells #[.string (bs x.n), .string ⟨#[]⟩] 206))
 have HT3 := hide ((uh HN2).2.1.alloc (.cells #[.string (bs x.n), .string ⟨#[]⟩] 206))
 have HX3 := hide ((uh HN2).2.2.1.alloc (.cells #[.string (bs x.n), .string ⟨#[]⟩] 206))
 have HH3 := hide (Is.new w2 206 [.string (bs x.n), .string ⟨#[]⟩])
 have P8 := (uh HN2).2.2.2.alloc (.cells #[.string (bs x.n), .string ⟨#[]⟩] 206)
 obtain ⟨w3, hW3⟩ : ∃ w3, w3 = w2.alloc (.cells #[.string (bs x.n), .string ⟨#[]⟩] 206) := ⟨_, rfl⟩
 have Tv := hW3
 rw [<- Tv] at HI3 HT3 HX3 P8
 have WS : Hid (Is w3 w2.heap.size 206 [.string (bs x.n), .string ⟨#[]⟩]) := by rw [Tv]; exact HH3
 clear HH3
 have HH3 := WS
 have HW3 := hide Tv
 generalize hnm : x.n = nm at *
 have hq1 : q <= s.size := hq.2
 generalize q = q1 at *
 clear hx hW3 hnm Tv
 have HC4 := hide (qE b s q1 w3 hs hq1 (Lk.bI false s.data.toList q1) (hide rfl) (uh HI3))
 have HTL := hide (fun t q2 => Lk.jZ (name := false) (s := s.data.toList) (p := q1) (t := t) (q := q2) (by rw [<- af]; exact hq1))
 have hs3 := P8.size
 have h23 : w2.heap.size < w3.heap.size := (uh HH3).lt
 have hsx := JW.size
 generalize Lk.bI false s.data.toList q1 = R2 at *
 go_wp2_with fail
 rw [<- uh HW3]
 refine (uh HC4).mono ?_
 rintro e w4 ⟨hm4, hT4⟩
 have hX4 := (uh HX3).grown hT4 (by simp; omega)
 have hH4 := (uh HH3).grown hT4 (by simp; omega)
 have HT4 := hide ((uh HT3).turns hT4 (uh HI3) (nbq rfl) (uh HN))
 have P9 := P8.trans (Two.ofB (u := u) hT4)
 have hf1 := hH4.free 1
 have WT : w4.cell? ⟨w2.heap.size, 1, none⟩ = some (.string ⟨#[]⟩) := hH4.cell 1
 have hs4 := hT4.size
 have HX4 := hide hX4
 have HH4 := hide hH4
 clear hX4 hH4 hT4
 cases R2 with
 | bad q2 =>
   obtain ⟨rfl, p2, hI4⟩ := hm4
   have hRR : RR = .bad q2 := (uh HRR).symm
   subst hRR
   clear HRR
   have hq2 : (0 : Int) <= q2 := by omega
   have hI5 := hI4.other ⟨w2.heap.size, 1, none⟩ (.string ⟨#[]⟩) (by simp; omega)
   have hH5 := (uh HH4).set 1 (.string ⟨#[]⟩)
   have hX5 := (uh HX4).other ⟨w2.heap.size, 1, none⟩ (.string ⟨#[]⟩) (by simp; omega)
   have k2 : (w4.setCell ⟨w2.heap.size, 1, none⟩ (.string ⟨#[]⟩)).cell? ⟨b, 2, none⟩ = some (.int .i64 q2) := hI5.cell 2
   have y0 := hH5.cell 0
   have y1 := hH5.cell 1
   have z0 := hX5.cell 0
   have z1 := hX5.cell 1
   have g0 := hX5.free 0
   have g1 := hX5.free 1
   simp only [List.getElem?_cons_zero, List.getElem?_cons_succ, List.set_cons_succ, List.set_cons_zero] at y0 y1 z0 z1
   have Nq := P9.aY (a := ⟨w2.heap.size, 1, none⟩) (by simp; omega) (.string ⟨#[]⟩)
   have HI5 := hide hI5
   have Ug := hX5.lt
   clear hI4 hI5 hH5 hX5
   have hTT := (Nq.aY (a := ⟨w.heap.size, 0, none⟩) (Nat.le_refl _) (.string (bs nm))).aY (a := ⟨w.heap.size, 1, none⟩) (Nat.le_refl _) (.string ⟨#[]⟩)
   go_wp2_with fail
   exact bodyPost_ret (v := hdA ⟨nm, []⟩) (by simp [results, Tryz.results105, go_sem, z0, z1, bs]) rfl ⟨⟨⟨⟨nm, []⟩, rfl⟩, p2, ((uh HI5).other _ _ (by simp; omega)).other _ _ (by simp; omega)⟩, hTT⟩
 | ok val q2 =>
   obtain ⟨rfl, hI4⟩ := hm4
   have hRR : RR = .ok (⟨nm, val⟩, Lk.put B L ⟨nm, val⟩) q2 := (uh HRR).symm
   subst hRR
   clear HRR
   have hvl := (uh HTL val q2 rfl).2.2
   have hI5 := hI4.other ⟨w2.heap.size, 1, none⟩ (.string (bs val)) (by simp; omega)
   have hH5 := (uh HH4).set 1 (.string (bs val))
   have hX5 := (uh HX4).other ⟨w2.heap.size, 1, none⟩ (.string (bs val)) (by simp; omega)
   have HT5 := hide ((uh HT4).far (H := w2.heap.size) (fun k hk => by have := (uh HVL) k hk; omega) (by omega) 1 (.string (bs val)))
   have k2 : (w4.setCell ⟨w2.heap.size, 1, none⟩ (.string (bs val))).cell? ⟨b, 2, none⟩ = some (.int .i64 (-1)) := hI5.cell 2
   have y0 := hH5.cell 0
   have y1 := hH5.cell 1
   simp only [List.getElem?_cons_zero, List.getElem?_cons_succ, List.set_cons_succ, List.set_cons_zero] at y0 y1
   have Nq := P9.aY (a := ⟨w2.heap.size, 1, none⟩) (by simp; omega) (.string (bs val))
   have HI5 := hide hI5
   have HX5 := hide hX5
   have HH5 := hide hH5
   have hs5 : w4.heap.size = (w4.setCell ⟨w2.heap.size, 1, none⟩ (.string (bs val))).heap.size := by simp
   have HC5 := hide (xR u B L ⟨nm, val⟩ v _ (uh HT5) (by simp only; omega) (by simp only; omega))
   clear hI4 hI5 hH5 hX5
   go_wp2_with fail
   refine (uh HC5).mono ?_
   rintro e w6 ⟨rfl, ⟨v6, hT6, hN6⟩, Nr⟩
   have hX6 := (uh HX5).grown Nr (by simp; omega)
   have hH6 := (uh HH5).grown Nr (by simp; omega)
   have hI6 := Is.grown (uh HI5) Nr (by have := uh HN; simp; omega)
   have Uj := Nq.trans (Two.ofU (b := b) Nr)
   have z0 := hX6.cell 0
   have z1 := hX6.cell 1
   have g0 := hX6.free 0
   have g1 := hX6.free 1
   have j0 := hH6.cell 0
   have j1 := hH6.cell 1
   simp only [List.getElem?_cons_zero, List.getElem?_cons_succ, List.set_cons_succ, List.set_cons_zero] at z0 z1 j0 j1
   have WU := hX6.lt
   have HI6 := hide hI6
   have HT6 := hide hT6
   clear hX6 hH6 hI6 hT6 y0 y1 k2
   have hTT := (Uj.aY (a := ⟨w.heap.size, 0, none⟩) (Nat.le_refl _) (.string (bs nm))).aY (a := ⟨w.heap.size, 1, none⟩) (Nat.le_refl _) (.string (bs val))
   go_wp2_with fail
   refine bodyPost_ret (v := hdA ⟨nm, val⟩) (by simp [results, Tryz.results105, go_sem, z0, z1]) rfl ⟨⟨rfl, Is.other (Is.other (uh HI6) _ _ (by simp; omega)) _ _ (by simp; omega), v6, ?_, .inr (fun k hk => by have := hN6 k hk; omega)⟩, hTT⟩
   have OG : ∀ k, v6.ownBlock = some k -> k ≠ w.heap.size := fun k hk => by have := hN6 k hk; omega
   exact ((uh HT6).far OG (by omega) 0 _).far OG (by omega) 1 _
theorem He (b u : Nat) (s : ByteArray) (p B : Nat) (L : List Lk.Hd) (v : Value) (w : World) (hs : s.size <= 2 ^ 48) (hp : p <= s.size) (hI : RB w b s p (-1)) (hT : RTab w u B L v) :
 Calls Tryz.prog 105 #[.pointer (some ⟨b, 0, none⟩), .pointer (some ⟨u, 0, none⟩)] w (wU w b u s B v (Lk.mY B L s.data.toList p)) := by
 unfold Lk.mY
 cases hn : Lk.kT s.data.toList p with
 | bad q => exact Dq b u s p q B L v w hs hp hI hT hn
 | ok n q =>
   simp only
   by_cases h2 : n % 2 = 0
   . rw [if_pos h2]
     exact Dt b u s p n q B L v w hs hp hI hT hn h2
   . rw [if_neg h2]
     unfold Lk.eH Lk.jY
     by_cases hk0 : n / 2 = 0
     . rw [if_pos hk0]
       have h := Ha b u s p n q B L v w hs hp hI hT hn (by omega) hk0
       cases h1 : Lk.bI true s.data.toList q with
       | bad q1 => rw [h1] at h; exact h
       | ok nm q1 =>
         rw [h1] at h
         simp only at h ⊢
         cases h3 : Lk.bI false s.data.toList q1 with
         | bad q2 => rw [h3] at h; exact h
         | ok t q2 => rw [h3] at h; exact h
     . rw [if_neg hk0]
       by_cases hk : n / 2 <= (Lk.fB L).length
       . obtain ⟨x, hx⟩ : ∃ x, (Lk.fB L)[n / 2 - 1]? = some x := ⟨_, List.getElem?_eq_getElem (by omega)⟩
         have hxl : x.n.length <= 200 := by
          have hm := List.mem_of_getElem? hx
          have h1 := hT.le
          have h2 := hT.hB
          unfold Lk.fB at hm
          rcases List.mem_append.1 hm with hm | hm
          . have : ∀ y ∈ Lk.jb, y.n.length <= 200 := by decide
            exact this x hm
          . have h3 := Lk.jX hm
            unfold Lk.Hd.weight at h3
            omega
         have h := G9 b u s p n q B L v w hs hp hI hT hn (by omega) hk hk0 x hx hxl
         unfold Lk.pX
         rw [hx]
         simp only
         cases h3 : Lk.bI false s.data.toList q with
         | bad q2 => rw [h3] at h; exact h
         | ok t q2 => rw [h3] at h; exact h
       . have hx : (Lk.fB L)[n / 2 - 1]? = none := List.getElem?_eq_none (by omega)
         unfold Lk.pX
         rw [hx]
         exact G8 b u s p n q B L v w hs hp hI hT hn (by omega) (by omega)
def OI (w : World) (t B : Nat) (X : Lk.XR) (e : Ending) (w' : World) : Prop :=
 match X with
 | .ok hs L2 => (∃ lv v', e = .returned (.tuple #[lv, .int .i64 0, .int .i64 0]) ∧ w'.ownsRow w.heap.size 206 2 lv hs.length (aQ hs) ∧ RTab w' t B L2 v' ∧ hs.length <= 6 ∧ (∀ k, v'.ownBlock = some k -> w.heap.size <= k) ∧ (lv.ownBlock = none ∨ lv.ownBlock ≠ v'.ownBlock)) ∧ Turns t w w'
 | .err ec q => e = .returned (.tuple #[.slice none 0 0, .int .i64 (ec : Int), .int .i64 (q : Int)]) ∧ Below w.heap.size w w'
theorem RTab.grown {w w' : World} {t B : Nat} {L : List Lk.Hd} {v : Value} {row : Option Nat} (h : RTab w t B L v) (hg : w.grownBy w' row) (h1 : some t ≠ row) (h2 : v.ownBlock = none ∨ v.ownBlock ≠ row) : RTab w' t B L v :=
 ⟨h.blk.grown hg h1, h.own.kept hg h2, h.le, h.hB⟩
theorem uj (t B : Nat) (L : List Lk.Hd) (v : Value) (s : ByteArray) (w : World) (hs : s.size <= 2 ^ 48) (hT : RTab w t B L v) (X : Lk.XR) (HX : Hid (Lk.exR B s.data.toList 6 L 0 = X)) :
 Calls Tryz.prog 63 #[.pointer (some ⟨t, 0, none⟩), .string s] w (OI w t B X) := by
 obtain ⟨i, hi, hz0, hz1, hz2⟩ := info_parts xK
 have hsm : s.size <= maxLen := by unfold maxLen; omega
 have HSL := hide (af s)
 have HT := hide hT
 have htl := hT.blk.lt
 have HT0 := hide (hT.alloc (.cells #[.string s, .int .i64 0, .int .i64 (-1)] 213))
 have HI0 : Hid (RB (w.alloc (.cells #[.string s, .int .i64 0, .int .i64 (-1)] 213)) w.heap.size s ((0 : Nat) : Nat) (-1)) := Is.new w 213 [.string s, .int .i64 0, .int .i64 (-1)]
 have HB0 := hide ((Below.refl w.heap.size w).alloc (Nat.le_refl _) (.cells #[.string s, .int .i64 0, .int .i64 (-1)] 213))
 clear hT
 go_enter Tryz.func63, Tryz.ntmps63
 go_wp2_with fail
 refine (sD t B L v _ (uh HT0)).mono ?_
 rintro e w1 ⟨u, rfl, hu, ⟨v1, hT1, hv1⟩, hb1⟩
 have hI1 := (uh HI0).below hb1
 have iL : Below w.heap.size w w1 := (uh HB0).trans (hb1.mono (by simp))
 have hub : w.heap.size < u := by simp at hu; omega
 have HV1 : Hid (∀ k, v1.ownBlock = some k -> w.heap.size <= k) := fun k hk => by have := hv1 k hk; simp at this; omega
 clear hv1
 have HT1 := hide hT1
 have HI1 := hide hI1
 clear hT1 hI1 hb1 hu
 generalize hbb : w.heap.size = b at *
 have hbw : b <= w.heap.size := by omega
 have HBB := hide hbb
 clear hbb
 go_wp2_with fail
 go_loopw [9] (fun o wr => ∃ (hd : List Lk.Hd) (p' : Nat) (L' : List Lk.Hd) (v' : Value), hd.length <= 6 ∧ p' <= s.size ∧ Hid (X = Lk.pre hd (Lk.exR B s.data.toList (6 - hd.length) L' p')) ∧ RB wr b s p' (-1) ∧ RTab wr u B L' v' ∧ wr.ownsRow b 206 2 o hd.length (aQ hd) ∧ (o.ownBlock = none ∨ o.ownBlock ≠ v'.ownBlock) ∧ Below b w wr ∧ Hid (∀ k, v'.ownBlock = some k -> b <= k)) (fun o _ => 6 - sliceLen o)
 case atStart =>
  refine ⟨[], 0, L, v1, by simp, by omega, ?_, uh HI1, uh HT1, World.ownsRow_nil _ _ _ _, .inl rfl, iL, HV1⟩
  have := uh HX
  rw [Hid, <- this]
  simp only [List.length_nil, Nat.sub_zero]
  cases Lk.exR B s.data.toList 6 L 0 <;> rfl
 case round =>
  obtain ⟨hd, p', L', v', hd6, hp', HE, hIr, hTr, hown, hdis, hbel, HNV⟩ := hrel
  obtain ⟨a, cap, rfl⟩ := aJ hown
  obtain ⟨va, oM, hvf⟩ := hTr.form
  generalize hvn : L'.length = vn at hvf
  subst hvf
  have HVN := hide hvn
  clear hvn
  have c1 : wr.cell? ⟨b, 1, none⟩ = some (.int .i64 p') := hIr.cell 1
  have hsz := hbel.size
  by_cases hend : s.size <= p'
  . have hend' : ¬ (p' : Int) < s.size := by omega
    have hXX : X = .ok hd L' := by
     rw [uh HE]
     have e : Lk.exR B s.data.toList (6 - hd.length) L' p' = .ok [] L' := by
      cases 6 - hd.length <;> (rw [Lk.exR, if_pos (by rw [<- uh HSL]; exact hend)])
     rw [e]
     simp [Lk.pre]
    subst hXX
    have t1 := hTr.blk.cell 1
    have hTt := (uh HT).blk.below hbel (by omega)
    have tf := hTt.free 1
    have d0 := hTt.cell 0
    have d1 := hTt.cell 1
    have htr : t < wr.heap.size := by omega
    have hur := hTr.blk.lt
    simp only [List.getElem?_cons_zero, List.getElem?_cons_succ] at t1 d0 d1
    have HTt := hide hTt
    have HOr := hide hown
    have HTr := hide hTr
    clear hown hTr hTt
    go_wp2_with fail
    go_ret3
    have hg : Turns t wr (wr.setCell ⟨t, 1, none⟩ (.slice va vn oM)) := (Turns.refl t wr).set 1 _
    refine ⟨⟨_, .slice va vn oM, rfl, ?_, ⟨(uh HTt).set 1 _, lZ (uh HTr).own (uh HTt) (nbq rfl) hg, (uh HTr).le, (uh HT).hB⟩, hd6, by rw [uh HBB]; exact uh HNV, hdis⟩, ?_⟩
    . rw [uh HBB]
      exact lZ (uh HOr) (uh HTt) (nbq rfl) hg
    . have hb' : Below w.heap.size w wr := by rw [uh HBB]; exact hbel
      exact (Below.turns hb' t).set 1 _
  . have hend' : (p' : Int) < s.size := by omega
    by_cases h6 : hd.length = 6
    . have h6' : ((hd.length : Int) == 6) = true := by rw [beq_iff_eq]; omega
      have hXX : X = .err 8 p' := by
       rw [uh HE, h6]
       simp only [Nat.sub_self]
       rw [Lk.exR, if_neg (by rw [<- uh HSL]; exact hend)]
       rfl
      subst hXX
      go_wp2_with fail
      go_quiet (fail)
      go_wp2_with fail
      go_ret3
      refine ⟨rfl, ?_⟩
      rw [uh HBB]
      exact Below.drewN hbel _
    . have h6' : ((hd.length : Int) == 6) = false := by rw [beq_eq_false_iff_ne]; omega
      have hXX : X = Lk.pre hd (match Lk.mY B L' s.data.toList p' with
       | .bad q => .err 9 q
       | .ok hl q => match Lk.exR B s.data.toList (6 - (hd.length + 1)) hl.2 q with
         | .ok hs L2 => .ok (hl.1 :: hs) L2
         | .err e q => .err e q) := by
       rw [uh HE]
       have e : 6 - hd.length = (6 - (hd.length + 1)) + 1 := by omega
       rw [e, Lk.exR, if_neg (by rw [<- uh HSL]; exact hend)]
       rfl
      have HXX := hide hXX
      have HC := hide (He b u s p' B L' (.slice va vn oM) wr hs hp' hIr hTr)
      have HGE := hide (fun hl q => Lk.Np (B := B) (L := L') (s := s.data.toList) (p := p') (hl := hl) (q := q) (by rw [<- uh HSL]; exact hp') hTr.le hTr.hB)
      have HOr := hide hown
      have HIr := hide hIr
      have HTr := hide hTr
      clear hXX hown hIr hTr
      go_wp2_with fail
      refine (uh HC).mono ?_
      rintro e w2 ⟨hm, hT2⟩
      have ho2 := hT2.own (uh HOr) (own_ne (uh HOr) (uh HIr) (nbq rfl)) (own_ne (uh HOr) (uh HTr).blk (nbq rfl))
      have lH := Two.toBelow hbel hT2 (Nat.le_refl _) (by omega) (by omega)
      have hs2 := lH.size
      cases hpr : Lk.mY B L' s.data.toList p' with
      | bad q =>
        rw [hpr] at hm
        obtain ⟨⟨hx, rfl⟩, p2, hI2⟩ := hm
        have hX2 := uh HXX
        rw [hpr] at hX2
        simp only [Lk.pre] at hX2
        subst hX2
        have hq : (0 : Int) <= q := by omega
        have Oy : b < w2.heap.size := hI2.set1
        have k2 : (w2.alloc (.cells #[.string (bs hx.n), .string (bs hx.v)] 206)).cell? ⟨b, 2, none⟩ = some (.int .i64 q) := (hI2.alloc _).cell 2
        have HI2 := hide hI2
        clear hI2 ho2 c1
        go_wp2_with fail
        go_quiet (fail)
        go_wp2_with fail
        go_ret3
        refine ⟨rfl, ?_⟩
        rw [uh HBB]
        exact Below.drewN (lH.alloc (by omega) _) _
      | ok hl q =>
        rw [hpr] at hm
        obtain ⟨rfl, hI2, v2, hK2, hN2⟩ := hm
        have hge := uh HGE hl q hpr
        rw [<- uh HSL] at hge
        have hlt : ∀ k, (Value.slice a hd.length cap).ownBlock = some k -> k < wr.heap.size := fun k hk => ((uh HOr).lt k hk).2
        have JV : (Value.slice a hd.length cap).ownBlock = none ∨ (Value.slice a hd.length cap).ownBlock ≠ v2.ownBlock := by
         rcases hN2 with rfl | hN2
         . exact hdis
         . cases hv : (Value.slice a hd.length cap).ownBlock with
           | none => exact .inl rfl
           | some k => exact .inr (fun e => by have h1 := hN2 k e.symm; have h2 := hlt k hv; omega)
        have WW : Hid (∀ k, v2.ownBlock = some k -> b <= k) := by
         rcases hN2 with rfl | hN2
         . exact uh HNV
         . intro k hk
           have := hN2 k hk
           omega
        have hX2 := uh HXX
        rw [hpr] at hX2
        have HX2 := hide hX2
        have HK2 := hide hK2
        have HO2 := hide ho2
        have HI2 := hide hI2
        have Oy : b < w2.heap.size := hI2.set1
        have k2 : (w2.alloc (.cells #[.string (bs hl.1.n), .string (bs hl.1.v)] 206)).cell? ⟨b, 2, none⟩ = some (.int .i64 (-1)) := (hI2.alloc _).cell 2
        clear hK2 ho2 hX2 hI2 c1
        go_wp2_with (at_builtin; refine wpList_append_lies _ rfl _ _ 154 rfl b 206 i _ 2 32 Tryz.underlying154 hi hz0 hz1 hz2 rfl (by decide) _ hd.length (aQ hd) rfl (((uh HO2).alloc _).alloc _) ⟨w2.heap.size + 1, 0, none⟩ 1 1 (hdV hl.1) rfl rfl ?hnews ?h1 (by decide) ?h63 ?hby ?hba _ rfl ?_)
        case hnews =>
         have := iK (nS (w2.alloc (.cells #[.string (bs hl.1.n), .string (bs hl.1.v)] 206)) 206 hl.1)
         simpa using this
        case h1 => simp [hdV, Value.oneCell']
        case h63 => unfold maxLen; omega
        case hby => omega
        case hba => first | omega | (simp; omega)
        intro g1 cap1 w3 ho3 hg3 OE hlt3
        have hKa := ((uh HK2).alloc (.cells #[.string (bs hl.1.n), .string (bs hl.1.v)] 206)).alloc (.cells #[.string (bs hl.1.n), .string (bs hl.1.v)] 206)
        have hIa := ((uh HI2).alloc (.cells #[.string (bs hl.1.n), .string (bs hl.1.v)] 206)).alloc (.cells #[.string (bs hl.1.n), .string (bs hl.1.v)] 206)
        have hOa := ((uh HO2).alloc (.cells #[.string (bs hl.1.n), .string (bs hl.1.v)] 206)).alloc (.cells #[.string (bs hl.1.n), .string (bs hl.1.v)] 206)
        have hrow : ∀ k, (Value.slice a hd.length cap).ownBlock = some k -> b <= k := fun k hk => ((uh HO2).lt k hk).1
        have hdv : v2.ownBlock = none ∨ v2.ownBlock ≠ (Value.slice a hd.length cap).ownBlock := by
         cases hv : v2.ownBlock with
         | none => exact .inl rfl
         | some k =>
           right
           rcases JV with h | h
           . rw [h]; simp
           . rw [hv] at h; exact fun e => h e.symm
        have hK3 := hKa.grown hg3 (own_ne hOa hKa.blk (nbq rfl)) hdv
        have hI3 : RB w3 b s q (-1) := Is.grown hIa hg3 (own_ne hOa hIa (nbq rfl))
        have lJ := ((lH.alloc (by omega) (.cells #[.string (bs hl.1.n), .string (bs hl.1.v)] 206)).alloc (by simp; omega) (.cells #[.string (bs hl.1.n), .string (bs hl.1.v)] 206)).grown hg3 (by simp; omega) hrow
        have P7 : (Value.slice (some ⟨g1, 0, none⟩) (hd.length + 1) cap1).ownBlock = none ∨ (Value.slice (some ⟨g1, 0, none⟩) (hd.length + 1) cap1).ownBlock ≠ v2.ownBlock := by
         right
         show some g1 ≠ v2.ownBlock
         intro e
         rcases OE with h | h
         . rcases JV with h' | h'
           . rw [h'] at h; cases h
           . exact h' (h.trans e)
         . have := ((uh HK2).own.lt g1 e.symm).2
           omega
        have Ry : w3.ownsRow b 206 2 (.slice (some ⟨g1, 0, none⟩) (hd.length + 1) cap1) (hd ++ [hl.1]).length (aQ (hd ++ [hl.1])) := by
         rw [dJ]
         simpa [aQ] using ho3
        have HX3 : Hid (X = Lk.pre (hd ++ [hl.1]) (Lk.exR B s.data.toList (6 - (hd ++ [hl.1]).length) hl.2 q)) := by
         have e := uh HX2
         rw [Hid, e, List.length_append, List.length_singleton]
         cases Lk.exR B s.data.toList (6 - (hd.length + 1)) hl.2 q <;> simp [Lk.pre]
        have HK3 := hide hK3
        have HO3 := hide Ry
        have HI3 := hide hI3
        clear ho3 hg3 hKa hOa hK3 Ry OE hdv hIa hI3 k2
        go_wp2_with fail
        go_roundw
        case rel => exact ⟨hd ++ [hl.1], q, hl.2, v2, by simp; omega, hge.2, HX3, uh HI3, uh HK3, uh HO3, P7, lJ, WW⟩
        case measure => simp [sliceLen]; omega
end Go.Proofs.YtbkpdapagfjmmaaGreatDoor
