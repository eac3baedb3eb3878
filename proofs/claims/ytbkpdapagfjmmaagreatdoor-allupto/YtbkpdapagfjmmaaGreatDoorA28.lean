import Derived.Test.YtbkpdapagfjmmaaGreatDoorA27
set_option linter.unusedVariables false
set_option maxRecDepth 100000
set_option maxHeartbeats 16000000
namespace Go.Proofs.YtbkpdapagfjmmaaGreatDoor
open Go.RowKit
theorem G8 (b u : Nat) (s : ByteArray) (p n q B : Nat) (L : List Lk.Hd) (v : Value) (w : World) (hs : s.size <= 2 ^ 48) (hp : p <= s.size) (hI : RB w b s p (-1)) (hT : RTab w u B L v) (hn : Lk.kT s.data.toList p = .ok n q) (h2 : n % 2 = 1) (hk : (Lk.fB L).length < n / 2) :
 Calls Tryz.prog 105 #[.pointer (some ⟨b, 0, none⟩), .pointer (some ⟨u, 0, none⟩)] w (wU w b u s B v (.bad (q - 1))) := by
 have hC := eX b s p (w.alloc (.cells #[.string ⟨#[]⟩, .string ⟨#[]⟩] 206)) hs hp (hI.alloc _)
 rw [hn] at hC
 have hq := Lk.iq (by rw [<- af]; exact hp) hn
 rw [<- af] at hq
 have hnl := Lk.pJ hn
 have HC := hide hC
 have HX := hide (Is.new w 206 [.string ⟨#[]⟩, .string ⟨#[]⟩])
 have hT0 := (Two.refl b u w).alloc (.cells #[.string ⟨#[]⟩, .string ⟨#[]⟩] 206)
 have hbl : b < w.heap.size := Is.lt hI
 have hul := hT.blk.lt
 have HT := hide (hT.alloc (.cells #[.string ⟨#[]⟩, .string ⟨#[]⟩] 206))
 have HVL := hide (fun k (hk : v.ownBlock = some k) => (hT.own.lt k hk).2)
 have HN := hide (hT.blk.ne hI (nbq rfl))
 have HI0 := hide (hI.alloc (.cells #[.string ⟨#[]⟩, .string ⟨#[]⟩] 206))
 have HLB := hide (⟨hT.le, hT.hB⟩ : Lk.weights L <= B ∧ B <= 200)
 have hr : Int.tmod (n : Int) 2 = 1 := by rw [QO, h2]; rfl
 have hd := QP n
 clear hI hn hC hT
 go_enter Tryz.func105, Tryz.ntmps105
 go_wp2_with fail
 refine (uh HC).mono ?_
 rintro e w1 ⟨⟨rfl, hI1⟩, hT1⟩
 have HX1 := hide ((uh HX).grown hT1 (by simp; omega))
 have HT1 := hide ((uh HT).turns hT1 (uh HI0) (nbq rfl) (uh HN))
 have HI1 := hide hI1
 have Ld := hT0.trans (Two.ofB (u := u) hT1)
 clear hI1 hT1
 go_wp2_with fail
 refine (lV u B L v _ (uh HT1)).mono ?_
 rintro e w2 ⟨v2, rfl, ho2, hb2⟩
 have hX2 := (uh HX1).below hb2 (uh HX1).lt
 have hI2 := (uh HI1).below hb2
 have JW := (Ld.below hb2).alloc (.cells #[.string ⟨#[]⟩, .string ⟨#[]⟩] 206)
 have HT2 := hide (((uh HT1).below hb2).alloc (.cells #[.string ⟨#[]⟩, .string ⟨#[]⟩] 206))
 have c2 : w2.cell? ⟨b, 2, none⟩ = some (.int .i64 (-1)) := hI2.cell 2
 have hXl := hX2.lt
 obtain ⟨la, lc, hlv⟩ := aJ ho2
 subst hlv
 have HO2 := hide (ho2.alloc (.cells #[.string ⟨#[]⟩, .string ⟨#[]⟩] 206))
 have HI2 := hide (hI2.alloc (.cells #[.string ⟨#[]⟩, .string ⟨#[]⟩] 206))
 have HX2 := hide (hX2.alloc (.cells #[.string ⟨#[]⟩, .string ⟨#[]⟩] 206))
 have hH2 := Is.new w2 206 [.string ⟨#[]⟩, .string ⟨#[]⟩]
 have HH2 := hide hH2
 clear hI2 hX2 hb2 ho2 hH2
 have hm9 : n / 2 <= 134217728 := by omega
 generalize n / 2 = m at *
 have hk' : ((Lk.fB L).length : Int) < (m : Int) := by omega
 have c1 : (w2.alloc (.cells #[.string ⟨#[]⟩, .string ⟨#[]⟩] 206)).cell? ⟨b, 1, none⟩ = some (.int .i64 q) := (uh HI2).cell 1
 have Oy : b < w2.heap.size := by omega
 go_wp2_with fail
 refine (eU b s q ((q : Int) - 1) _ (uh HI2)).mono ?_
 rintro e w3 ⟨rfl, hI3, hT3⟩
 have hX3 := (uh HX2).grown hT3 (by simp; omega)
 have hH3 := (uh HH2).grown hT3 (by simp; omega)
 have z0 := hX3.cell 0
 have z1 := hX3.cell 1
 have g0 := hX3.free 0
 have g1 := hX3.free 1
 have y0 := hH3.cell 0
 have y1 := hH3.cell 1
 have WR := hX3.lt
 simp only [List.getElem?_cons_zero, List.getElem?_cons_succ] at z0 z1 y0 y1
 have HI3 := hide hI3
 clear hX3 hI3 hH3
 have hTT := ((JW.trans (Two.ofB (u := u) hT3)).aY (a := ⟨w.heap.size, 0, none⟩) (Nat.le_refl _) (.string (bs bF.n))).aY (a := ⟨w.heap.size, 1, none⟩) (Nat.le_refl _) (.string (bs bF.v))
 go_wp2_with fail
 refine bodyPost_ret (v := hdA bF) (by simp [results, Tryz.results105, go_sem, z0, z1, bF, bs]) rfl ⟨⟨⟨bF, rfl⟩, q, ?_⟩, hTT⟩
 rw [show ((q - 1 : Nat) : Int) = (q : Int) - 1 by omega]
 exact ((uh HI3).other _ _ (by simp; omega)).other _ _ (by simp; omega)
theorem G9 (b u : Nat) (s : ByteArray) (p n q B : Nat) (L : List Lk.Hd) (v : Value) (w : World) (hs : s.size <= 2 ^ 48) (hp : p <= s.size) (hI : RB w b s p (-1)) (hT : RTab w u B L v) (hn : Lk.kT s.data.toList p = .ok n q) (h2 : n % 2 = 1) (hk : n / 2 <= (Lk.fB L).length) (hk0 : n / 2 ≠ 0) (x : Lk.Hd) (hx : (Lk.fB L)[n / 2 - 1]? = some x) (hxl : x.n.length <= 200) :
 Calls Tryz.prog 105 #[.pointer (some ⟨b, 0, none⟩), .pointer (some ⟨u, 0, none⟩)] w (wU w b u s B v (match Lk.bI false s.data.toList q with | .bad q => .bad q | .ok t q => .ok (⟨x.n, t⟩, Lk.put B L ⟨x.n, t⟩) q)) := by
 generalize hRR : (match Lk.bI false s.data.toList q with | .bad q => Lk.PR.bad q | .ok t q => .ok ((⟨x.n, t⟩ : Lk.Hd), Lk.put B L ⟨x.n, t⟩) q) = RR
 have HRR := hide hRR
 clear hRR
 have hC := eX b s p (w.alloc (.cells #[.string ⟨#[]⟩, .string ⟨#[]⟩] 206)) hs hp (hI.alloc _)
 rw [hn] at hC
 have hq := Lk.iq (by rw [<- af]; exact hp) hn
 rw [<- af] at hq
 have hnl := Lk.pJ hn
 have HC := hide hC
 have HX := hide (Is.new w 206 [.string ⟨#[]⟩, .string ⟨#[]⟩])
 have hT0 := (Two.refl b u w).alloc (.cells #[.string ⟨#[]⟩, .string ⟨#[]⟩] 206)
 have hbl : b < w.heap.size := Is.lt hI
 have hul := hT.blk.lt
 have HT := hide (hT.alloc (.cells #[.string ⟨#[]⟩, .string ⟨#[]⟩] 206))
 have HVL := hide (fun k (hk : v.ownBlock = some k) => (hT.own.lt k hk).2)
 have HN := hide (hT.blk.ne hI (nbq rfl))
 have HI0 := hide (hI.alloc (.cells #[.string ⟨#[]⟩, .string ⟨#[]⟩] 206))
 have HLB := hide (⟨hT.le, hT.hB⟩ : Lk.weights L <= B ∧ B <= 200)
 have hr : Int.tmod (n : Int) 2 = 1 := by rw [QO, h2]; rfl
 have hd := QP n
 clear hI hn hC hT
 go_enter Tryz.func105, Tryz.ntmps105
 go_wp2_with fail
 refine (uh HC).mono ?_
 rintro e w1 ⟨⟨rfl, hI1⟩, hT1⟩
 have HX1 := hide ((uh HX).grown hT1 (by simp; omega))
 have HT1 := hide ((uh HT).turns hT1 (uh HI0) (nbq rfl) (uh HN))
 have HI1 := hide hI1
 have Ld := hT0.trans (Two.ofB (u := u) hT1)
 clear hI1 hT1
 go_wp2_with fail
 refine (lV u B L v _ (uh HT1)).mono ?_
 rintro e w2 ⟨v2, rfl, ho2, hb2⟩
 have hX2 := (uh HX1).below hb2 (uh HX1).lt
 have hI2 := (uh HI1).below hb2
 have JW := (Ld.below hb2).alloc (.cells #[.string ⟨#[]⟩, .string ⟨#[]⟩] 206)
 have HT2 := hide (((uh HT1).below hb2).alloc (.cells #[.string ⟨#[]⟩, .string ⟨#[]⟩] 206))
 have c2 : w2.cell? ⟨b, 2, none⟩ = some (.int .i64 (-1)) := hI2.cell 2
 have hXl := hX2.lt
 obtain ⟨la, lc, hlv⟩ := aJ ho2
 subst hlv
 have HO2 := hide (ho2.alloc (.cells #[.string ⟨#[]⟩, .string ⟨#[]⟩] 206))
 have HI2 := hide (hI2.alloc (.cells #[.string ⟨#[]⟩, .string ⟨#[]⟩] 206))
 have HX2 := hide (hX2.alloc (.cells #[.string ⟨#[]⟩, .string ⟨#[]⟩] 206))
 have hH2 := Is.new w2 206 [.string ⟨#[]⟩, .string ⟨#[]⟩]
 have HH2 := hide hH2
 have HN2 := hide (⟨hI2, (uh HT1).below hb2, hX2, Ld.below hb2⟩ : RB w2 b s q (-1) ∧ RTab w2 u B L v ∧ Is w2 w.heap.size 206 [.string ⟨#[]⟩, .string ⟨#[]⟩] ∧ Two b u w w2)
 clear hI2 hX2 hb2 ho2 hH2
 have hm9 : n / 2 <= 134217728 := by omega
 generalize n / 2 = m at *
 obtain ⟨i, hi⟩ : ∃ i, m = i + 1 := ⟨m - 1, by omega⟩
 subst hi
 have hk1 : ¬ ((Lk.fB L).length : Int) < ((i + 1 : Nat) : Int) := by omega
 have hk2 : (((i + 1 : Nat) : Int) == 0) = false := by rw [beq_eq_false_iff_ne]; omega
 have hk3 : ((i + 1 : Nat) : Int) - 1 = (i : Int) := by omega
 have hk4 : (i : Int) < (Lk.fB L).length := by omega
 simp only [Nat.add_sub_cancel] at hx
 obtain ⟨g, gc, hform, _⟩ := (uh HO2).form (by omega)
 cases hform
 obtain ⟨hg2, y0, y1⟩ := jJ (uh HO2) hx
 have hf0 := (uh HH2).free 0
 have HI3 := hide ((uh HN2).1.alloc (.cells #[.string (bs x.n), .string ⟨#[]⟩] 206))
 have HT3 := hide ((uh HN2).2.1.alloc (.cells #[.string (bs x.n), .string ⟨#[]⟩] 206))
 have HX3 := hide ((uh HN2).2.2.1.alloc (.cells #[.string (bs x.n), .string ⟨#[]⟩] 206))
 have HH3 := hide (Is.new w2 206 [.string (bs x.n), .string ⟨#[]⟩])
 have P8 := (uh HN2).2.2.2.alloc (.cells #[.string (bs x.n), .string ⟨#[]⟩] 206)
 obtain ⟨w3, hW3⟩ : ∃ w3, w3 = w2.alloc (.cells #[.string (bs x.n), .string ⟨#[]⟩] 206) := ⟨_, rfl⟩
 have Tv := hW3
 rw [<- Tv] at HI3 HT3 HX3 P8
 have WS : Hid (Is w3 w2.heap.size 206 [.string (bs x.n), .string ⟨#[]⟩]) := by rw [Tv]; exact HH3
 clear HH3
 have HH3 := WS
 have HW3 := hide Tv
 generalize hnm : x.n = nm at *
 have hq1 : q <= s.size := hq.2
 generalize q = q1 at *
 clear hx hW3 hnm Tv
 have HC4 := hide (qE b s q1 w3 hs hq1 (Lk.bI false s.data.toList q1) (hide rfl) (uh HI3))
 have HTL := hide (fun t q2 => Lk.jZ (name := false) (s := s.data.toList) (p := q1) (t := t) (q := q2) (by rw [<- af]; exact hq1))
 have hs3 := P8.size
 have h23 : w2.heap.size < w3.heap.size := (uh HH3).lt
 have hsx := JW.size
 generalize Lk.bI false s.data.toList q1 = R2 at *
 go_wp2_with fail
 rw [<- uh HW3]
 refine (uh HC4).mono ?_
 rintro e w4 ⟨hm4, hT4⟩
 have hX4 := (uh HX3).grown hT4 (by simp; omega)
 have hH4 := (uh HH3).grown hT4 (by simp; omega)
 have HT4 := hide ((uh HT3).turns hT4 (uh HI3) (nbq rfl) (uh HN))
 have P9 := P8.trans (Two.ofB (u := u) hT4)
 have hf1 := hH4.free 1
 have WT : w4.cell? ⟨w2.heap.size, 1, none⟩ = some (.string ⟨#[]⟩) := hH4.cell 1
 have hs4 := hT4.size
 have HX4 := hide hX4
 have HH4 := hide hH4
 clear hX4 hH4 hT4
 cases R2 with
 | bad q2 =>
   obtain ⟨rfl, p2, hI4⟩ := hm4
   have hRR : RR = .bad q2 := (uh HRR).symm
   subst hRR
   clear HRR
   have hq2 : (0 : Int) <= q2 := by omega
   have hI5 := hI4.other ⟨w2.heap.size, 1, none⟩ (.string ⟨#[]⟩) (by simp; omega)
   have hH5 := (uh HH4).set 1 (.string ⟨#[]⟩)
   have hX5 := (uh HX4).other ⟨w2.heap.size, 1, none⟩ (.string ⟨#[]⟩) (by simp; omega)
   have k2 : (w4.setCell ⟨w2.heap.size, 1, none⟩ (.string ⟨#[]⟩)).cell? ⟨b, 2, none⟩ = some (.int .i64 q2) := hI5.cell 2
   have y0 := hH5.cell 0
   have y1 := hH5.cell 1
   have z0 := hX5.cell 0
   have z1 := hX5.cell 1
   have g0 := hX5.free 0
   have g1 := hX5.free 1
   simp only [List.getElem?_cons_zero, List.getElem?_cons_succ, List.set_cons_succ, List.set_cons_zero] at y0 y1 z0 z1
   have Nq := P9.aY (a := ⟨w2.heap.size, 1, none⟩) (by simp; omega) (.string ⟨#[]⟩)
   have HI5 := hide hI5
   have Ug := hX5.lt
   clear hI4 hI5 hH5 hX5
   have hTT := (Nq.aY (a := ⟨w.heap.size, 0, none⟩) (Nat.le_refl _) (.string (bs nm))).aY (a := ⟨w.heap.size, 1, none⟩) (Nat.le_refl _) (.string ⟨#[]⟩)
   go_wp2_with fail
   exact bodyPost_ret (v := hdA ⟨nm, []⟩) (by simp [results, Tryz.results105, go_sem, z0, z1, bs]) rfl ⟨⟨⟨⟨nm, []⟩, rfl⟩, p2, ((uh HI5).other _ _ (by simp; omega)).other _ _ (by simp; omega)⟩, hTT⟩
 | ok val q2 =>
   obtain ⟨rfl, hI4⟩ := hm4
   have hRR : RR = .ok (⟨nm, val⟩, Lk.put B L ⟨nm, val⟩) q2 := (uh HRR).symm
   subst hRR
   clear HRR
   have hvl := (uh HTL val q2 rfl).2.2
   have hI5 := hI4.other ⟨w2.heap.size, 1, none⟩ (.string (bs val)) (by simp; omega)
   have hH5 := (uh HH4).set 1 (.string (bs val))
   have hX5 := (uh HX4).other ⟨w2.heap.size, 1, none⟩ (.string (bs val)) (by simp; omega)
   have HT5 := hide ((uh HT4).far (H := w2.heap.size) (fun k hk => by have := (uh HVL) k hk; omega) (by omega) 1 (.string (bs val)))
   have k2 : (w4.setCell ⟨w2.heap.size, 1, none⟩ (.string (bs val))).cell? ⟨b, 2, none⟩ = some (.int .i64 (-1)) := hI5.cell 2
   have y0 := hH5.cell 0
   have y1 := hH5.cell 1
   simp only [List.getElem?_cons_zero, List.getElem?_cons_succ, List.set_cons_succ, List.set_cons_zero] at y0 y1
   have Nq := P9.aY (a := ⟨w2.heap.size, 1, none⟩) (by simp; omega) (.string (bs val))
   have HI5 := hide hI5
   have HX5 := hide hX5
   have HH5 := hide hH5
   have hs5 : w4.heap.size = (w4.setCell ⟨w2.heap.size, 1, none⟩ (.string (bs val))).heap.size := by simp
   have HC5 := hide (xR u B L ⟨nm, val⟩ v _ (uh HT5) (by simp only; omega) (by simp only; omega))
   clear hI4 hI5 hH5 hX5
   go_wp2_with fail
   refine (uh HC5).mono ?_
   rintro e w6 ⟨rfl, ⟨v6, hT6, hN6⟩, Nr⟩
   have hX6 := (uh HX5).grown Nr (by simp; omega)
   have hH6 := (uh HH5).grown Nr (by simp; omega)
   have hI6 := Is.grown (uh HI5) Nr (by have := uh HN; simp; omega)
   have Uj := Nq.trans (Two.ofU (b := b) Nr)
   have z0 := hX6.cell 0
   have z1 := hX6.cell 1
   have g0 := hX6.free 0
   have g1 := hX6.free 1
   have j0 := hH6.cell 0
   have j1 := hH6.cell 1
   simp only [List.getElem?_cons_zero, List.getElem?_cons_succ, List.set_cons_succ, List.set_cons_zero] at z0 z1 j0 j1
   have WU := hX6.lt
   have HI6 := hide hI6
   have HT6 := hide hT6
   clear hX6 hH6 hI6 hT6 y0 y1 k2
   have hTT := (Uj.aY (a := ⟨w.heap.size, 0, none⟩) (Nat.le_refl _) (.string (bs nm))).aY (a := ⟨w.heap.size, 1, none⟩) (Nat.le_refl _) (.string (bs val))
   go_wp2_with fail
   refine bodyPost_ret (v := hdA ⟨nm, val⟩) (by simp [results, Tryz.results105, go_sem, z0, z1]) rfl ⟨⟨rfl, Is.other (Is.other (uh HI6) _ _ (by simp; omega)) _ _ (by simp; omega), v6, ?_, .inr (fun k hk => by have := hN6 k hk; omega)⟩, hTT⟩
   have OG : ∀ k, v6.ownBlock = some k -> k ≠ w.heap.size := fun k hk => by have := hN6 k hk; omega
   exact ((uh HT6).far OG (by omega) 0 _).far OG (by omega) 1 _
theorem Ha (b u : Nat) (s : ByteArray) (p n q B : Nat) (L : List Lk.Hd) (v : Value) (w : World) (hs : s.size <= 2 ^ 48) (hp : p <= s.size) (hI : RB w b s p (-1)) (hT : RTab w u B L v) (hn : Lk.kT s.data.toList p = .ok n q) (h2 : n % 2 = 1) (hk0 : n / 2 = 0) :
 Calls Tryz.prog 105 #[.pointer (some ⟨b, 0, none⟩), .pointer (some ⟨u, 0, none⟩)] w (wU w b u s B v (match Lk.bI true s.data.toList q with | .bad q => .bad q | .ok nm q => match Lk.bI false s.data.toList q with | .bad q => .bad q | .ok t q => .ok (⟨nm, t⟩, Lk.put B L ⟨nm, t⟩) q)) := by
 generalize hRR : (match Lk.bI true s.data.toList q with | .bad q => Lk.PR.bad q | .ok nm q => match Lk.bI false s.data.toList q with | .bad q => .bad q | .ok t q => .ok ((⟨nm, t⟩ : Lk.Hd), Lk.put B L ⟨nm, t⟩) q) = RR
 have HRR := hide hRR
 clear hRR
 have hC := eX b s p (w.alloc (.cells #[.string ⟨#[]⟩, .string ⟨#[]⟩] 206)) hs hp (hI.alloc _)
 rw [hn] at hC
 have hq := Lk.iq (by rw [<- af]; exact hp) hn
 rw [<- af] at hq
 have hnl := Lk.pJ hn
 have HC := hide hC
 have HX := hide (Is.new w 206 [.string ⟨#[]⟩, .string ⟨#[]⟩])
 have hT0 := (Two.refl b u w).alloc (.cells #[.string ⟨#[]⟩, .string ⟨#[]⟩] 206)
 have hbl : b < w.heap.size := Is.lt hI
 have hul := hT.blk.lt
 have HT := hide (hT.alloc (.cells #[.string ⟨#[]⟩, .string ⟨#[]⟩] 206))
 have HVL := hide (fun k (hk : v.ownBlock = some k) => (hT.own.lt k hk).2)
 have HN := hide (hT.blk.ne hI (nbq rfl))
 have HI0 := hide (hI.alloc (.cells #[.string ⟨#[]⟩, .string ⟨#[]⟩] 206))
 have HLB := hide (⟨hT.le, hT.hB⟩ : Lk.weights L <= B ∧ B <= 200)
 have hr : Int.tmod (n : Int) 2 = 1 := by rw [QO, h2]; rfl
 have hd := QP n
 rw [hk0] at hd
 clear hI hn hC hT
 go_enter Tryz.func105, Tryz.ntmps105
 go_wp2_with fail
 refine (uh HC).mono ?_
 rintro e w1 ⟨⟨rfl, hI1⟩, hT1⟩
 have HX1 := hide ((uh HX).grown hT1 (by simp; omega))
 have HT1 := hide ((uh HT).turns hT1 (uh HI0) (nbq rfl) (uh HN))
 have HI1 := hide hI1
 have Ld := hT0.trans (Two.ofB (u := u) hT1)
 clear hI1 hT1
 go_wp2_with fail
 refine (lV u B L v _ (uh HT1)).mono ?_
 rintro e w2 ⟨v2, rfl, ho2, hb2⟩
 have hX2 := (uh HX1).below hb2 (uh HX1).lt
 have hI2 := (uh HI1).below hb2
 have JW := (Ld.below hb2).alloc (.cells #[.string ⟨#[]⟩, .string ⟨#[]⟩] 206)
 have HT2 := hide (((uh HT1).below hb2).alloc (.cells #[.string ⟨#[]⟩, .string ⟨#[]⟩] 206))
 have c2 : w2.cell? ⟨b, 2, none⟩ = some (.int .i64 (-1)) := hI2.cell 2
 have hXl := hX2.lt
 obtain ⟨la, lc, hlv⟩ := aJ ho2
 subst hlv
 have HO2 := hide (ho2.alloc (.cells #[.string ⟨#[]⟩, .string ⟨#[]⟩] 206))
 have HI2 := hide (hI2.alloc (.cells #[.string ⟨#[]⟩, .string ⟨#[]⟩] 206))
 have HX2 := hide (hX2.alloc (.cells #[.string ⟨#[]⟩, .string ⟨#[]⟩] 206))
 have hH2 := Is.new w2 206 [.string ⟨#[]⟩, .string ⟨#[]⟩]
 have HH2 := hide hH2
 clear hI2 hX2 hb2 ho2 hH2
 have hk1 : ¬ ((Lk.fB L).length : Int) < 0 := by omega
 have HC3 := hide (Dl b s q _ hs hq.2 (Lk.bI true s.data.toList q) (hide rfl) (uh HI2))
 have HTN := hide (fun t q2 => Lk.jZ (name := true) (s := s.data.toList) (p := q) (t := t) (q := q2) (by rw [<- af]; exact hq.2))
 generalize Lk.bI true s.data.toList q = R1 at *
 go_wp2_with fail
 refine (uh HC3).mono ?_
 rintro e wn ⟨hm3, hTn⟩
 have hXn := (uh HX2).grown hTn (by simp; omega)
 have hHn := (uh HH2).grown hTn (by simp; omega)
 have Vm := (uh HT2).turns hTn (uh HI2) (nbq rfl) (uh HN)
 have Vo := JW.trans (Two.ofB (u := u) hTn)
 have hsn := hTn.size
 have hf0 := hHn.free 0
 have X8 : wn.cell? ⟨w2.heap.size, 0, none⟩ = some (.string ⟨#[]⟩) := hHn.cell 0
 have HXn := hide hXn
 have HHn := hide hHn
 have HTn := hide Vm
 clear hXn hHn Vm hTn
 cases R1 with
 | bad q1 =>
   obtain ⟨rfl, p1, hI3⟩ := hm3
   have hRR : RR = .bad q1 := (uh HRR).symm
   subst hRR
   clear HRR
   have hI4 := hI3.other ⟨w2.heap.size, 0, none⟩ (.string ⟨#[]⟩) (by simp; omega)
   have hH4 := (uh HHn).set 0 (.string ⟨#[]⟩)
   have hX4 := (uh HXn).other ⟨w2.heap.size, 0, none⟩ (.string ⟨#[]⟩) (by simp; omega)
   have HI4 := hide hI4
   have HH4 := hide hH4
   have HX4 := hide hX4
   have P9 := Vo.aY (a := ⟨w2.heap.size, 0, none⟩) (by simp; omega) (.string ⟨#[]⟩)
   have hff := hH4.free 1
   have X9 : (wn.setCell ⟨w2.heap.size, 0, none⟩ (.string ⟨#[]⟩)).cell? ⟨w2.heap.size, 1, none⟩ = some (.string ⟨#[]⟩) := hH4.cell 1
   have hq2 : (0 : Int) <= q1 := by omega
   clear hI3 hI4 hH4 hX4
   go_wp2_with fail
   refine (GY b false s p1 q1 _ (uh HI4)).mono ?_
   rintro e w5 ⟨rfl, hw5⟩
   subst hw5
   have hI5 := (uh HI4).other ⟨w2.heap.size, 1, none⟩ (.string ⟨#[]⟩) (by simp; omega)
   have hH5 := (uh HH4).set 1 (.string ⟨#[]⟩)
   have hX5 := (uh HX4).other ⟨w2.heap.size, 1, none⟩ (.string ⟨#[]⟩) (by simp; omega)
   have Nq := P9.aY (a := ⟨w2.heap.size, 1, none⟩) (by simp; omega) (.string ⟨#[]⟩)
   have k2 : ((wn.setCell ⟨w2.heap.size, 0, none⟩ (.string ⟨#[]⟩)).setCell ⟨w2.heap.size, 1, none⟩ (.string ⟨#[]⟩)).cell? ⟨b, 2, none⟩ = some (.int .i64 q1) := hI5.cell 2
   have y0 := hH5.cell 0
   have y1 := hH5.cell 1
   have z0 := hX5.cell 0
   have z1 := hX5.cell 1
   have g0 := hX5.free 0
   have g1 := hX5.free 1
   have Ug := hX5.lt
   simp only [List.getElem?_cons_zero, List.getElem?_cons_succ, List.set_cons_succ, List.set_cons_zero] at y0 y1 z0 z1
   have HI5 := hide hI5
   clear hI5 hH5 hX5
   have hTT := (Nq.aY (a := ⟨w.heap.size, 0, none⟩) (Nat.le_refl _) (.string ⟨#[]⟩)).aY (a := ⟨w.heap.size, 1, none⟩) (Nat.le_refl _) (.string ⟨#[]⟩)
   go_wp2_with fail
   exact bodyPost_ret (v := hdA bF) (by simp [results, Tryz.results105, go_sem, z0, z1, bF, bs]) rfl ⟨⟨⟨bF, rfl⟩, p1, ((uh HI5).other _ _ (by simp; omega)).other _ _ (by simp; omega)⟩, hTT⟩
 | ok nm q1 =>
   obtain ⟨rfl, hI3⟩ := hm3
   have Uk := uh HTN nm q1 rfl
   have HRR : Hid ((match Lk.bI false s.data.toList q1 with | .bad q => Lk.PR.bad q | .ok t q => .ok ((⟨nm, t⟩ : Lk.Hd), Lk.put B L ⟨nm, t⟩) q) = RR) := HRR
   have hq1 : q1 <= s.size := by rw [af]; exact Uk.2.1
   have hxl : nm.length <= 200 := by have := Uk.2.2; omega
   have HI3 := hide (hI3.other ⟨w2.heap.size, 0, none⟩ (.string (bs nm)) (by simp; omega))
   have HT3 := hide ((uh HTn).far (H := w2.heap.size) (fun k hk => by have := (uh HVL) k hk; omega) (by omega) 0 (.string (bs nm)))
   have HX3 := hide ((uh HXn).other ⟨w2.heap.size, 0, none⟩ (.string (bs nm)) (by simp; omega))
   have HH3 := hide ((uh HHn).set 0 (.string (bs nm)))
   have P8 := Vo.aY (a := ⟨w2.heap.size, 0, none⟩) (by simp; omega) (.string (bs nm))
   obtain ⟨w3, hW3⟩ : ∃ w3, w3 = wn.setCell ⟨w2.heap.size, 0, none⟩ (.string (bs nm)) := ⟨_, rfl⟩
   have HW3 := hide hW3
   rw [<- hW3] at HI3 HT3 HX3 HH3 P8
   clear hW3
   clear hI3 Uk
   have HC4 := hide (qE b s q1 w3 hs hq1 (Lk.bI false s.data.toList q1) (hide rfl) (uh HI3))
   have HTL := hide (fun t q2 => Lk.jZ (name := false) (s := s.data.toList) (p := q1) (t := t) (q := q2) (by rw [<- af]; exact hq1))
   have hs3 := P8.size
   have h23 : w2.heap.size < w3.heap.size := (uh HH3).lt
   have hsx := JW.size
   generalize Lk.bI false s.data.toList q1 = R2 at *
   go_wp2_with fail
   rw [<- uh HW3]
   refine (uh HC4).mono ?_
   rintro e w4 ⟨hm4, hT4⟩
   have hX4 := (uh HX3).grown hT4 (by simp; omega)
   have hH4 := (uh HH3).grown hT4 (by simp; omega)
   have HT4 := hide ((uh HT3).turns hT4 (uh HI3) (nbq rfl) (uh HN))
   have P9 := P8.trans (Two.ofB (u := u) hT4)
   have hf1 := hH4.free 1
   have WT : w4.cell? ⟨w2.heap.size, 1, none⟩ = some (.string ⟨#[]⟩) := hH4.cell 1
   have hs4 := hT4.size
   have HX4 := hide hX4
   have HH4 := hide hH4
   clear hX4 hH4 hT4
   cases R2 with
   | bad q2 =>
     obtain ⟨rfl, p2, hI4⟩ := hm4
     have hRR : RR = .bad q2 := (uh HRR).symm
     subst hRR
     clear HRR
     have hq2 : (0 : Int) <= q2 := by omega
     have hI5 := hI4.other ⟨w2.heap.size, 1, none⟩ (.string ⟨#[]⟩) (by simp; omega)
     have hH5 := (uh HH4).set 1 (.string ⟨#[]⟩)
     have hX5 := (uh HX4).other ⟨w2.heap.size, 1, none⟩ (.string ⟨#[]⟩) (by simp; omega)
     have k2 : (w4.setCell ⟨w2.heap.size, 1, none⟩ (.string ⟨#[]⟩)).cell? ⟨b, 2, none⟩ = some (.int .i64 q2) := hI5.cell 2
     have y0 := hH5.cell 0
     have y1 := hH5.cell 1
     have z0 := hX5.cell 0
     have z1 := hX5.cell 1
     have g0 := hX5.free 0
     have g1 := hX5.free 1
     simp only [List.getElem?_cons_zero, List.getElem?_cons_succ, List.set_cons_succ, List.set_cons_zero] at y0 y1 z0 z1
     have Nq := P9.aY (a := ⟨w2.heap.size, 1, none⟩) (by simp; omega) (.string ⟨#[]⟩)
     have HI5 := hide hI5
     have Ug := hX5.lt
     clear hI4 hI5 hH5 hX5
     have hTT := (Nq.aY (a := ⟨w.heap.size, 0, none⟩) (Nat.le_refl _) (.string (bs nm))).aY (a := ⟨w.heap.size, 1, none⟩) (Nat.le_refl _) (.string ⟨#[]⟩)
     go_wp2_with fail
     exact bodyPost_ret (v := hdA ⟨nm, []⟩) (by simp [results, Tryz.results105, go_sem, z0, z1, bs]) rfl ⟨⟨⟨⟨nm, []⟩, rfl⟩, p2, ((uh HI5).other _ _ (by simp; omega)).other _ _ (by simp; omega)⟩, hTT⟩
   | ok val q2 =>
     obtain ⟨rfl, hI4⟩ := hm4
     have hRR : RR = .ok (⟨nm, val⟩, Lk.put B L ⟨nm, val⟩) q2 := (uh HRR).symm
     subst hRR
     clear HRR
     have hvl := (uh HTL val q2 rfl).2.2
     have hI5 := hI4.other ⟨w2.heap.size, 1, none⟩ (.string (bs val)) (by simp; omega)
     have hH5 := (uh HH4).set 1 (.string (bs val))
     have hX5 := (uh HX4).other ⟨w2.heap.size, 1, none⟩ (.string (bs val)) (by simp; omega)
     have HT5 := hide ((uh HT4).far (H := w2.heap.size) (fun k hk => by have := (uh HVL) k hk; omega) (by omega) 1 (.string (bs val)))
     have k2 : (w4.setCell ⟨w2.heap.size, 1, none⟩ (.string (bs val))).cell? ⟨b, 2, none⟩ = some (.int .i64 (-1)) := hI5.cell 2
     have y0 := hH5.cell 0
     have y1 := hH5.cell 1
     simp only [List.getElem?_cons_zero, List.getElem?_cons_succ, List.set_cons_succ, List.set_cons_zero] at y0 y1
     have Nq := P9.aY (a := ⟨w2.heap.size, 1, none⟩) (by simp; omega) (.string (bs val))
     have HI5 := hide hI5
     have HX5 := hide hX5
     have HH5 := hide hH5
     have hs5 : w4.heap.size = (w4.setCell ⟨w2.heap.size, 1, none⟩ (.string (bs val))).heap.size := by simp
     have HC5 := hide (xR u B L ⟨nm, val⟩ v _ (uh HT5) (by simp only; omega) (by simp only; omega))
     clear hI4 hI5 hH5 hX5
     go_wp2_with fail
     refine (uh HC5).mono ?_
     rintro e w6 ⟨rfl, ⟨v6, hT6, hN6⟩, Nr⟩
     have hX6 := (uh HX5).grown Nr (by simp; omega)
     have hH6 := (uh HH5).grown Nr (by simp; omega)
     have hI6 := Is.grown (uh HI5) Nr (by have := uh HN; simp; omega)
     have Uj := Nq.trans (Two.ofU (b := b) Nr)
     have z0 := hX6.cell 0
     have z1 := hX6.cell 1
     have g0 := hX6.free 0
     have g1 := hX6.free 1
     have j0 := hH6.cell 0
     have j1 := hH6.cell 1
     simp only [List.getElem?_cons_zero, List.getElem?_cons_succ, List.set_cons_succ, List.set_cons_zero] at z0 z1 j0 j1
     have WU := hX6.lt
     have HI6 := hide hI6
     have HT6 := hide hT6
     clear hX6 hH6 hI6 hT6 y0 y1 k2
     have hTT := (Uj.aY (a := ⟨w.heap.size, 0, none⟩) (Nat.le_refl _) (.string (bs nm))).aY (a := ⟨w.heap.size, 1, none⟩) (Nat.le_refl _) (.string (bs val))
     go_wp2_with fail
     refine bodyPost_ret (v := hdA ⟨nm, val⟩) (by simp [results, Tryz.results105, go_sem, z0, z1]) rfl ⟨⟨rfl, Is.other (Is.other (uh HI6) _ _ (by simp; omega)) _ _ (by simp; omega), v6, ?_, .inr (fun k hk => by have := hN6 k hk; omega)⟩, hTT⟩
     have OG : ∀ k, v6.ownBlock = some k -> k ≠ w.heap.size := fun k hk => by have := hN6 k hk; omega
     exact ((uh HT6).far OG (by omega) 0 _).far OG (by omega) 1 _
theorem He (b u : Nat) (s : ByteArray) (p B : Nat) (L : List Lk.Hd) (v : Value) (w : World) (hs : s.size <= 2 ^ 48) (hp : p <= s.size) (hI : RB w b s p (-1)) (hT : RTab w u B L v) :
 Calls Tryz.prog 105 #[.pointer (some ⟨b, 0, none⟩), .pointer (some ⟨u, 0, none⟩)] w (wU w b u s B v (Lk.mY B L s.data.toList p)) := by
 unfold Lk.mY
 cases hn : Lk.kT s.data.toList p with
 | bad q => exact Dq b u s p q B L v w hs hp hI hT hn
 | ok n q =>
   simp only
   by_cases h2 : n % 2 = 0
   . rw [if_pos h2]
     exact Dt b u s p n q B L v w hs hp hI hT hn h2
   . rw [if_neg h2]
     unfold Lk.eH Lk.jY
     by_cases hk0 : n / 2 = 0
     . rw [if_pos hk0]
       have h := Ha b u s p n q B L v w hs hp hI hT hn (by omega) hk0
       cases h1 : Lk.bI true s.data.toList q with
       | bad q1 => rw [h1] at h; exact h
       | ok nm q1 =>
         rw [h1] at h
         simp only at h ⊢
         cases h3 : Lk.bI false s.data.toList q1 with
         | bad q2 => rw [h3] at h; exact h
         | ok t q2 => rw [h3] at h; exact h
     . rw [if_neg hk0]
       by_cases hk : n / 2 <= (Lk.fB L).length
       . obtain ⟨x, hx⟩ : ∃ x, (Lk.fB L)[n / 2 - 1]? = some x := ⟨_, List.getElem?_eq_getElem (by omega)⟩
         have hxl : x.n.length <= 200 := by
          have hm := List.mem_of_getElem? hx
          have h1 := hT.le
          have h2 := hT.hB
          unfold Lk.fB at hm
          rcases List.mem_append.1 hm with hm | hm
          . have : ∀ y ∈ Lk.jb, y.n.length <= 200 := by decide
            exact this x hm
          . have h3 := Lk.jX hm
            unfold Lk.Hd.weight at h3
            omega
         have h := G9 b u s p n q B L v w hs hp hI hT hn (by omega) hk hk0 x hx hxl
         unfold Lk.pX
         rw [hx]
         simp only
         cases h3 : Lk.bI false s.data.toList q with
         | bad q2 => rw [h3] at h; exact h
         | ok t q2 => rw [h3] at h; exact h
       . have hx : (Lk.fB L)[n / 2 - 1]? = none := List.getElem?_eq_none (by omega)
         unfold Lk.pX
         rw [hx]
         exact G8 b u s p n q B L v w hs hp hI hT hn (by omega) (by omega)
def WV (w : World) (t B : Nat) (X : Lk.XR) (e : Ending) (w' : World) : Prop :=
 match X with
 | .ok hs L2 => (∃ lv v', e = .returned (.tuple #[lv, .int .i64 0, .int .i64 0]) ∧ w'.ownsRow w.heap.size 112 2 lv hs.length (aQ hs) ∧ Tab w' t B L2 v' ∧ (lv.ownBlock = none ∨ lv.ownBlock ≠ v'.ownBlock) ∧ hs.length <= 6) ∧ Turns t w w'
 | .err ec q => e = .returned (.tuple #[.slice none 0 0, .int .i64 (ec : Int), .int .i64 (q : Int)]) ∧ Below w.heap.size w w'
namespace Lk
theorem yG (B : Nat) (s : Bs) : ∀ (n : Nat) (L : List Hd) (p e q : Nat), exR B s n L p = .err e q -> e = 8 ∨ e = 9
 | 0, L, p, e, q, h => by
   rw [exR] at h
   split at h
   . cases h
   . cases h; exact .inl rfl
 | n + 1, L, p, e, q, h => by
   rw [exR] at h
   split at h
   . cases h
   . cases hp : mY B L s p with
     | bad q' => rw [hp] at h; cases h; exact .inr rfl
     | ok hl q' =>
       rw [hp] at h
       simp only at h
       cases hx : exR B s n hl.2 q' with
       | ok a b => rw [hx] at h; cases h
       | err e' q2 =>
         rw [hx] at h
         cases h
         exact yG B s n hl.2 q' _ _ hx
end Lk
end Go.Proofs.YtbkpdapagfjmmaaGreatDoor
