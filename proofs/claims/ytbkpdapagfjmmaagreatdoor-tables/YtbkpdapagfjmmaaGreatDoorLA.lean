import Derived.Test.YtbkpdapagfjmmaaGreatDoorL7
/-
  Walks: the document's blocks: a part that is put in.
-/
namespace Go.Proofs.YtbkpdapagfjmmaaGreatDoor
open Go.RowKit

set_option maxHeartbeats 2000000 in
set_option maxRecDepth 100000 in
theorem rbpart_far (b u : Nat) (s : ByteArray) (p n q B : Nat) (L : List Lk.Hd) (v : Value) (w : World) (hs : s.size ≤ 2 ^ 48) (hp : p ≤ s.size) (hI : RB w b s p (-1)) (hT : RTab w u B L v) (hn : Lk.numR s.data.toList p = .ok n q) (h2 : n % 2 = 1) (hk : (Lk.ents L).length < n / 2) :
    Calls Tryz.prog 105 #[.pointer (some ⟨b, 0, none⟩), .pointer (some ⟨u, 0, none⟩)] w (PPost w b u s B v (.bad (q - 1))) := by
  have hC := rbnumber_any b s p (w.alloc (.cells #[.string ⟨#[]⟩, .string ⟨#[]⟩] 206)) hs hp (hI.alloc _)
  rw [hn] at hC
  have hq := Lk.numR_ge (by rw [← size_list]; exact hp) hn
  rw [← size_list] at hq
  have hnl := Lk.numR_le hn
  have HC := hide hC
  have HX := hide (Is.new w 206 [.string ⟨#[]⟩, .string ⟨#[]⟩])
  have hT0 := (Two.refl b u w).alloc (.cells #[.string ⟨#[]⟩, .string ⟨#[]⟩] 206)
  have hbl : b < w.heap.size := Is.lt hI
  have hul := hT.blk.lt
  have HT := hide (hT.alloc (.cells #[.string ⟨#[]⟩, .string ⟨#[]⟩] 206))
  have HVL := hide (fun k (hk : v.ownBlock = some k) => (hT.own.lt k hk).2)
  have HN := hide (hT.blk.ne hI (Nat.ne_of_beq_eq_false rfl))
  have HI0 := hide (hI.alloc (.cells #[.string ⟨#[]⟩, .string ⟨#[]⟩] 206))
  have HLB := hide (⟨hT.le, hT.hB⟩ : Lk.weights L ≤ B ∧ B ≤ 200)
  have hr : Int.tmod (n : Int) 2 = 1 := by rw [rem2, h2]; rfl
  have hd := quo2 n
  clear hI hn hC hT
  go_enter Tryz.func105, Tryz.ntmps105
  go_wp2_with fail
  refine (unhide HC).mono ?_
  rintro e w1 ⟨⟨rfl, hI1⟩, hT1⟩
  have HX1 := hide ((unhide HX).grown hT1 (by simp; omega))
  have HT1 := hide ((unhide HT).turns hT1 (unhide HI0) (Nat.ne_of_beq_eq_false rfl) (unhide HN))
  have HI1 := hide hI1
  have hTT1 := hT0.trans (Two.ofB (u := u) hT1)
  clear hI1 hT1
  go_wp2_with fail
  refine (rall_any u B L v _ (unhide HT1)).mono ?_
  rintro e w2 ⟨v2, rfl, ho2, hb2⟩
  have hX2 := (unhide HX1).below hb2 (unhide HX1).lt
  have hI2 := (unhide HI1).below hb2
  have hTT2 := (hTT1.below hb2).alloc (.cells #[.string ⟨#[]⟩, .string ⟨#[]⟩] 206)
  have HT2 := hide (((unhide HT1).below hb2).alloc (.cells #[.string ⟨#[]⟩, .string ⟨#[]⟩] 206))
  have c2 : w2.cell? ⟨b, 2, none⟩ = some (.int .i64 (-1)) := hI2.cell 2
  have hXl := hX2.lt
  obtain ⟨la, lc, hlv⟩ := row_form ho2
  subst hlv
  have HO2 := hide (ho2.alloc (.cells #[.string ⟨#[]⟩, .string ⟨#[]⟩] 206))
  have HI2 := hide (hI2.alloc (.cells #[.string ⟨#[]⟩, .string ⟨#[]⟩] 206))
  have HX2 := hide (hX2.alloc (.cells #[.string ⟨#[]⟩, .string ⟨#[]⟩] 206))
  have hH2 := Is.new w2 206 [.string ⟨#[]⟩, .string ⟨#[]⟩]
  have HH2 := hide hH2
  clear hI2 hX2 hb2 ho2 hH2
  have hm9 : n / 2 ≤ 134217728 := by omega
  generalize n / 2 = m at *
  have hk' : ((Lk.ents L).length : Int) < (m : Int) := by omega
  have c1 : (w2.alloc (.cells #[.string ⟨#[]⟩, .string ⟨#[]⟩] 206)).cell? ⟨b, 1, none⟩ = some (.int .i64 q) := (unhide HI2).cell 1
  have hbl2 : b < w2.heap.size := by omega
  go_wp2_with fail
  refine (rfail_any b s q ((q : Int) - 1) _ (unhide HI2)).mono ?_
  rintro e w3 ⟨rfl, hI3, hT3⟩
  have hX3 := (unhide HX2).grown hT3 (by simp; omega)
  have hH3 := (unhide HH2).grown hT3 (by simp; omega)
  have z0 := hX3.cell 0
  have z1 := hX3.cell 1
  have g0 := hX3.free 0
  have g1 := hX3.free 1
  have y0 := hH3.cell 0
  have y1 := hH3.cell 1
  have hXl3 := hX3.lt
  simp only [List.getElem?_cons_zero, List.getElem?_cons_succ] at z0 z1 y0 y1
  have HI3 := hide hI3
  clear hX3 hI3 hH3
  have hTT := ((hTT2.trans (Two.ofB (u := u) hT3)).setFar (a := ⟨w.heap.size, 0, none⟩) (Nat.le_refl _) (.string (bs zeroHd.n))).setFar (a := ⟨w.heap.size, 1, none⟩) (Nat.le_refl _) (.string (bs zeroHd.v))
  go_wp2_with fail
  refine bodyPost_ret (v := hdA zeroHd) (by simp [results, Tryz.results105, go_sem, z0, z1, zeroHd, bs]) rfl ⟨⟨⟨zeroHd, rfl⟩, q, ?_⟩, hTT⟩
  rw [show ((q - 1 : Nat) : Int) = (q : Int) - 1 by omega]
  exact ((unhide HI3).other _ _ (by simp; omega)).other _ _ (by simp; omega)

set_option maxHeartbeats 4000000 in
set_option maxRecDepth 100000 in
theorem rbpart_old (b u : Nat) (s : ByteArray) (p n q B : Nat) (L : List Lk.Hd) (v : Value) (w : World) (hs : s.size ≤ 2 ^ 48) (hp : p ≤ s.size) (hI : RB w b s p (-1)) (hT : RTab w u B L v) (hn : Lk.numR s.data.toList p = .ok n q) (h2 : n % 2 = 1) (hk : n / 2 ≤ (Lk.ents L).length) (hk0 : n / 2 ≠ 0) (x : Lk.Hd) (hx : (Lk.ents L)[n / 2 - 1]? = some x) (hxl : x.n.length ≤ 200) :
    Calls Tryz.prog 105 #[.pointer (some ⟨b, 0, none⟩), .pointer (some ⟨u, 0, none⟩)] w (PPost w b u s B v (match Lk.textR false s.data.toList q with | .bad q => .bad q | .ok t q => .ok (⟨x.n, t⟩, Lk.put B L ⟨x.n, t⟩) q)) := by
  generalize hRR : (match Lk.textR false s.data.toList q with | .bad q => Lk.PR.bad q | .ok t q => .ok ((⟨x.n, t⟩ : Lk.Hd), Lk.put B L ⟨x.n, t⟩) q) = RR
  have HRR := hide hRR
  clear hRR
  have hC := rbnumber_any b s p (w.alloc (.cells #[.string ⟨#[]⟩, .string ⟨#[]⟩] 206)) hs hp (hI.alloc _)
  rw [hn] at hC
  have hq := Lk.numR_ge (by rw [← size_list]; exact hp) hn
  rw [← size_list] at hq
  have hnl := Lk.numR_le hn
  have HC := hide hC
  have HX := hide (Is.new w 206 [.string ⟨#[]⟩, .string ⟨#[]⟩])
  have hT0 := (Two.refl b u w).alloc (.cells #[.string ⟨#[]⟩, .string ⟨#[]⟩] 206)
  have hbl : b < w.heap.size := Is.lt hI
  have hul := hT.blk.lt
  have HT := hide (hT.alloc (.cells #[.string ⟨#[]⟩, .string ⟨#[]⟩] 206))
  have HVL := hide (fun k (hk : v.ownBlock = some k) => (hT.own.lt k hk).2)
  have HN := hide (hT.blk.ne hI (Nat.ne_of_beq_eq_false rfl))
  have HI0 := hide (hI.alloc (.cells #[.string ⟨#[]⟩, .string ⟨#[]⟩] 206))
  have HLB := hide (⟨hT.le, hT.hB⟩ : Lk.weights L ≤ B ∧ B ≤ 200)
  have hr : Int.tmod (n : Int) 2 = 1 := by rw [rem2, h2]; rfl
  have hd := quo2 n
  clear hI hn hC hT
  go_enter Tryz.func105, Tryz.ntmps105
  go_wp2_with fail
  refine (unhide HC).mono ?_
  rintro e w1 ⟨⟨rfl, hI1⟩, hT1⟩
  have HX1 := hide ((unhide HX).grown hT1 (by simp; omega))
  have HT1 := hide ((unhide HT).turns hT1 (unhide HI0) (Nat.ne_of_beq_eq_false rfl) (unhide HN))
  have HI1 := hide hI1
  have hTT1 := hT0.trans (Two.ofB (u := u) hT1)
  clear hI1 hT1
  go_wp2_with fail
  refine (rall_any u B L v _ (unhide HT1)).mono ?_
  rintro e w2 ⟨v2, rfl, ho2, hb2⟩
  have hX2 := (unhide HX1).below hb2 (unhide HX1).lt
  have hI2 := (unhide HI1).below hb2
  have hTT2 := (hTT1.below hb2).alloc (.cells #[.string ⟨#[]⟩, .string ⟨#[]⟩] 206)
  have HT2 := hide (((unhide HT1).below hb2).alloc (.cells #[.string ⟨#[]⟩, .string ⟨#[]⟩] 206))
  have c2 : w2.cell? ⟨b, 2, none⟩ = some (.int .i64 (-1)) := hI2.cell 2
  have hXl := hX2.lt
  obtain ⟨la, lc, hlv⟩ := row_form ho2
  subst hlv
  have HO2 := hide (ho2.alloc (.cells #[.string ⟨#[]⟩, .string ⟨#[]⟩] 206))
  have HI2 := hide (hI2.alloc (.cells #[.string ⟨#[]⟩, .string ⟨#[]⟩] 206))
  have HX2 := hide (hX2.alloc (.cells #[.string ⟨#[]⟩, .string ⟨#[]⟩] 206))
  have hH2 := Is.new w2 206 [.string ⟨#[]⟩, .string ⟨#[]⟩]
  have HH2 := hide hH2
  have HN2 := hide (⟨hI2, (unhide HT1).below hb2, hX2, hTT1.below hb2⟩ : RB w2 b s q (-1) ∧ RTab w2 u B L v ∧ Is w2 w.heap.size 206 [.string ⟨#[]⟩, .string ⟨#[]⟩] ∧ Two b u w w2)
  clear hI2 hX2 hb2 ho2 hH2
  have hm9 : n / 2 ≤ 134217728 := by omega
  generalize n / 2 = m at *
  obtain ⟨i, hi⟩ : ∃ i, m = i + 1 := ⟨m - 1, by omega⟩
  subst hi
  have hk1 : ¬ ((Lk.ents L).length : Int) < ((i + 1 : Nat) : Int) := by omega
  have hk2 : (((i + 1 : Nat) : Int) == 0) = false := by rw [beq_eq_false_iff_ne]; omega
  have hk3 : ((i + 1 : Nat) : Int) - 1 = (i : Int) := by omega
  have hk4 : (i : Int) < (Lk.ents L).length := by omega
  simp only [Nat.add_sub_cancel] at hx
  obtain ⟨g, gc, hform, _⟩ := (unhide HO2).form (by omega)
  cases hform
  obtain ⟨hg2, y0, y1⟩ := row_at2 (unhide HO2) hx
  have hf0 := (unhide HH2).free 0
  have HI3 := hide ((unhide HN2).1.alloc (.cells #[.string (bs x.n), .string ⟨#[]⟩] 206))
  have HT3 := hide ((unhide HN2).2.1.alloc (.cells #[.string (bs x.n), .string ⟨#[]⟩] 206))
  have HX3 := hide ((unhide HN2).2.2.1.alloc (.cells #[.string (bs x.n), .string ⟨#[]⟩] 206))
  have HH3 := hide (Is.new w2 206 [.string (bs x.n), .string ⟨#[]⟩])
  have hTT3 := (unhide HN2).2.2.2.alloc (.cells #[.string (bs x.n), .string ⟨#[]⟩] 206)
  obtain ⟨w3, hW3⟩ : ∃ w3, w3 = w2.alloc (.cells #[.string (bs x.n), .string ⟨#[]⟩] 206) := ⟨_, rfl⟩
  have hW3' := hW3
  rw [← hW3'] at HI3 HT3 HX3 hTT3
  have HH3' : Hid (Is w3 w2.heap.size 206 [.string (bs x.n), .string ⟨#[]⟩]) := by rw [hW3']; exact HH3
  clear HH3
  have HH3 := HH3'
  have HW3 := hide hW3'
  generalize hnm : x.n = nm at *
  have hq1 : q ≤ s.size := hq.2
  generalize q = q1 at *
  clear hx hW3 hnm hW3'
  have HC4 := hide (rbtext_value b s q1 w3 hs hq1 (Lk.textR false s.data.toList q1) (hide rfl) (unhide HI3))
  have HTL := hide (fun t q2 => Lk.textR_ge (name := false) (s := s.data.toList) (p := q1) (t := t) (q := q2) (by rw [← size_list]; exact hq1))
  have hs3 := hTT3.size
  have h23 : w2.heap.size < w3.heap.size := (unhide HH3).lt
  have hsx := hTT2.size
  generalize Lk.textR false s.data.toList q1 = R2 at *
  go_wp2_with fail
  rw [← unhide HW3]
  refine (unhide HC4).mono ?_
  rintro e w4 ⟨hm4, hT4⟩
  have hX4 := (unhide HX3).grown hT4 (by simp; omega)
  have hH4 := (unhide HH3).grown hT4 (by simp; omega)
  have HT4 := hide ((unhide HT3).turns hT4 (unhide HI3) (Nat.ne_of_beq_eq_false rfl) (unhide HN))
  have hTT4 := hTT3.trans (Two.ofB (u := u) hT4)
  have hf1 := hH4.free 1
  have hk1c : w4.cell? ⟨w2.heap.size, 1, none⟩ = some (.string ⟨#[]⟩) := hH4.cell 1
  have hs4 := hT4.size
  have HX4 := hide hX4
  have HH4 := hide hH4
  clear hX4 hH4 hT4
  cases R2 with
  | bad q2 =>
    obtain ⟨rfl, p2, hI4⟩ := hm4
    have hRR : RR = .bad q2 := (unhide HRR).symm
    subst hRR
    clear HRR
    have hq2 : (0 : Int) ≤ q2 := by omega
    have hI5 := hI4.other ⟨w2.heap.size, 1, none⟩ (.string ⟨#[]⟩) (by simp; omega)
    have hH5 := (unhide HH4).set 1 (.string ⟨#[]⟩)
    have hX5 := (unhide HX4).other ⟨w2.heap.size, 1, none⟩ (.string ⟨#[]⟩) (by simp; omega)
    have k2 : (w4.setCell ⟨w2.heap.size, 1, none⟩ (.string ⟨#[]⟩)).cell? ⟨b, 2, none⟩ = some (.int .i64 q2) := hI5.cell 2
    have y0 := hH5.cell 0
    have y1 := hH5.cell 1
    have z0 := hX5.cell 0
    have z1 := hX5.cell 1
    have g0 := hX5.free 0
    have g1 := hX5.free 1
    simp only [List.getElem?_cons_zero, List.getElem?_cons_succ, List.set_cons_succ, List.set_cons_zero] at y0 y1 z0 z1
    have hTT5 := hTT4.setFar (a := ⟨w2.heap.size, 1, none⟩) (by simp; omega) (.string ⟨#[]⟩)
    have HI5 := hide hI5
    have hXl5 := hX5.lt
    clear hI4 hI5 hH5 hX5
    have hTT := (hTT5.setFar (a := ⟨w.heap.size, 0, none⟩) (Nat.le_refl _) (.string (bs nm))).setFar (a := ⟨w.heap.size, 1, none⟩) (Nat.le_refl _) (.string ⟨#[]⟩)
    go_wp2_with fail
    exact bodyPost_ret (v := hdA ⟨nm, []⟩) (by simp [results, Tryz.results105, go_sem, z0, z1, bs]) rfl ⟨⟨⟨⟨nm, []⟩, rfl⟩, p2, ((unhide HI5).other _ _ (by simp; omega)).other _ _ (by simp; omega)⟩, hTT⟩
  | ok val q2 =>
    obtain ⟨rfl, hI4⟩ := hm4
    have hRR : RR = .ok (⟨nm, val⟩, Lk.put B L ⟨nm, val⟩) q2 := (unhide HRR).symm
    subst hRR
    clear HRR
    have hvl := (unhide HTL val q2 rfl).2.2
    have hI5 := hI4.other ⟨w2.heap.size, 1, none⟩ (.string (bs val)) (by simp; omega)
    have hH5 := (unhide HH4).set 1 (.string (bs val))
    have hX5 := (unhide HX4).other ⟨w2.heap.size, 1, none⟩ (.string (bs val)) (by simp; omega)
    have HT5 := hide ((unhide HT4).far (H := w2.heap.size) (fun k hk => by have := (unhide HVL) k hk; omega) (by omega) 1 (.string (bs val)))
    have k2 : (w4.setCell ⟨w2.heap.size, 1, none⟩ (.string (bs val))).cell? ⟨b, 2, none⟩ = some (.int .i64 (-1)) := hI5.cell 2
    have y0 := hH5.cell 0
    have y1 := hH5.cell 1
    simp only [List.getElem?_cons_zero, List.getElem?_cons_succ, List.set_cons_succ, List.set_cons_zero] at y0 y1
    have hTT5 := hTT4.setFar (a := ⟨w2.heap.size, 1, none⟩) (by simp; omega) (.string (bs val))
    have HI5 := hide hI5
    have HX5 := hide hX5
    have HH5 := hide hH5
    have hs5 : w4.heap.size = (w4.setCell ⟨w2.heap.size, 1, none⟩ (.string (bs val))).heap.size := by simp
    have HC5 := hide (rput_any u B L ⟨nm, val⟩ v _ (unhide HT5) (by simp only; omega) (by simp only; omega))
    clear hI4 hI5 hH5 hX5
    go_wp2_with fail
    refine (unhide HC5).mono ?_
    rintro e w6 ⟨rfl, ⟨v6, hT6, hN6⟩, hTu6⟩
    have hX6 := (unhide HX5).grown hTu6 (by simp; omega)
    have hH6 := (unhide HH5).grown hTu6 (by simp; omega)
    have hI6 := Is.grown (unhide HI5) hTu6 (by have := unhide HN; simp; omega)
    have hTT6 := hTT5.trans (Two.ofU (b := b) hTu6)
    have z0 := hX6.cell 0
    have z1 := hX6.cell 1
    have g0 := hX6.free 0
    have g1 := hX6.free 1
    have j0 := hH6.cell 0
    have j1 := hH6.cell 1
    simp only [List.getElem?_cons_zero, List.getElem?_cons_succ, List.set_cons_succ, List.set_cons_zero] at z0 z1 j0 j1
    have hXl6 := hX6.lt
    have HI6 := hide hI6
    have HT6 := hide hT6
    clear hX6 hH6 hI6 hT6 y0 y1 k2
    have hTT := (hTT6.setFar (a := ⟨w.heap.size, 0, none⟩) (Nat.le_refl _) (.string (bs nm))).setFar (a := ⟨w.heap.size, 1, none⟩) (Nat.le_refl _) (.string (bs val))
    go_wp2_with fail
    refine bodyPost_ret (v := hdA ⟨nm, val⟩) (by simp [results, Tryz.results105, go_sem, z0, z1]) rfl ⟨⟨rfl, Is.other (Is.other (unhide HI6) _ _ (by simp; omega)) _ _ (by simp; omega), v6, ?_, .inr (fun k hk => by have := hN6 k hk; omega)⟩, hTT⟩
    have hfar : ∀ k, v6.ownBlock = some k → k ≠ w.heap.size := fun k hk => by have := hN6 k hk; omega
    exact ((unhide HT6).far hfar (by omega) 0 _).far hfar (by omega) 1 _
end Go.Proofs.YtbkpdapagfjmmaaGreatDoor

/-
  Walks: the document's blocks: a part with a name of its own.
-/
namespace Go.Proofs.YtbkpdapagfjmmaaGreatDoor
open Go.RowKit

set_option maxHeartbeats 4000000 in
set_option maxRecDepth 100000 in
theorem rbpart_new (b u : Nat) (s : ByteArray) (p n q B : Nat) (L : List Lk.Hd) (v : Value) (w : World) (hs : s.size ≤ 2 ^ 48) (hp : p ≤ s.size) (hI : RB w b s p (-1)) (hT : RTab w u B L v) (hn : Lk.numR s.data.toList p = .ok n q) (h2 : n % 2 = 1) (hk0 : n / 2 = 0) :
    Calls Tryz.prog 105 #[.pointer (some ⟨b, 0, none⟩), .pointer (some ⟨u, 0, none⟩)] w (PPost w b u s B v (match Lk.textR true s.data.toList q with | .bad q => .bad q | .ok nm q => match Lk.textR false s.data.toList q with | .bad q => .bad q | .ok t q => .ok (⟨nm, t⟩, Lk.put B L ⟨nm, t⟩) q)) := by
  generalize hRR : (match Lk.textR true s.data.toList q with | .bad q => Lk.PR.bad q | .ok nm q => match Lk.textR false s.data.toList q with | .bad q => .bad q | .ok t q => .ok ((⟨nm, t⟩ : Lk.Hd), Lk.put B L ⟨nm, t⟩) q) = RR
  have HRR := hide hRR
  clear hRR
  have hC := rbnumber_any b s p (w.alloc (.cells #[.string ⟨#[]⟩, .string ⟨#[]⟩] 206)) hs hp (hI.alloc _)
  rw [hn] at hC
  have hq := Lk.numR_ge (by rw [← size_list]; exact hp) hn
  rw [← size_list] at hq
  have hnl := Lk.numR_le hn
  have HC := hide hC
  have HX := hide (Is.new w 206 [.string ⟨#[]⟩, .string ⟨#[]⟩])
  have hT0 := (Two.refl b u w).alloc (.cells #[.string ⟨#[]⟩, .string ⟨#[]⟩] 206)
  have hbl : b < w.heap.size := Is.lt hI
  have hul := hT.blk.lt
  have HT := hide (hT.alloc (.cells #[.string ⟨#[]⟩, .string ⟨#[]⟩] 206))
  have HVL := hide (fun k (hk : v.ownBlock = some k) => (hT.own.lt k hk).2)
  have HN := hide (hT.blk.ne hI (Nat.ne_of_beq_eq_false rfl))
  have HI0 := hide (hI.alloc (.cells #[.string ⟨#[]⟩, .string ⟨#[]⟩] 206))
  have HLB := hide (⟨hT.le, hT.hB⟩ : Lk.weights L ≤ B ∧ B ≤ 200)
  have hr : Int.tmod (n : Int) 2 = 1 := by rw [rem2, h2]; rfl
  have hd := quo2 n
  rw [hk0] at hd
  clear hI hn hC hT
  go_enter Tryz.func105, Tryz.ntmps105
  go_wp2_with fail
  refine (unhide HC).mono ?_
  rintro e w1 ⟨⟨rfl, hI1⟩, hT1⟩
  have HX1 := hide ((unhide HX).grown hT1 (by simp; omega))
  have HT1 := hide ((unhide HT).turns hT1 (unhide HI0) (Nat.ne_of_beq_eq_false rfl) (unhide HN))
  have HI1 := hide hI1
  have hTT1 := hT0.trans (Two.ofB (u := u) hT1)
  clear hI1 hT1
  go_wp2_with fail
  refine (rall_any u B L v _ (unhide HT1)).mono ?_
  rintro e w2 ⟨v2, rfl, ho2, hb2⟩
  have hX2 := (unhide HX1).below hb2 (unhide HX1).lt
  have hI2 := (unhide HI1).below hb2
  have hTT2 := (hTT1.below hb2).alloc (.cells #[.string ⟨#[]⟩, .string ⟨#[]⟩] 206)
  have HT2 := hide (((unhide HT1).below hb2).alloc (.cells #[.string ⟨#[]⟩, .string ⟨#[]⟩] 206))
  have c2 : w2.cell? ⟨b, 2, none⟩ = some (.int .i64 (-1)) := hI2.cell 2
  have hXl := hX2.lt
  obtain ⟨la, lc, hlv⟩ := row_form ho2
  subst hlv
  have HO2 := hide (ho2.alloc (.cells #[.string ⟨#[]⟩, .string ⟨#[]⟩] 206))
  have HI2 := hide (hI2.alloc (.cells #[.string ⟨#[]⟩, .string ⟨#[]⟩] 206))
  have HX2 := hide (hX2.alloc (.cells #[.string ⟨#[]⟩, .string ⟨#[]⟩] 206))
  have hH2 := Is.new w2 206 [.string ⟨#[]⟩, .string ⟨#[]⟩]
  have HH2 := hide hH2
  clear hI2 hX2 hb2 ho2 hH2
  have hk1 : ¬ ((Lk.ents L).length : Int) < 0 := by omega
  have HC3 := hide (rbtext_name b s q _ hs hq.2 (Lk.textR true s.data.toList q) (hide rfl) (unhide HI2))
  have HTN := hide (fun t q2 => Lk.textR_ge (name := true) (s := s.data.toList) (p := q) (t := t) (q := q2) (by rw [← size_list]; exact hq.2))
  generalize Lk.textR true s.data.toList q = R1 at *
  go_wp2_with fail
  refine (unhide HC3).mono ?_
  rintro e wn ⟨hm3, hTn⟩
  have hXn := (unhide HX2).grown hTn (by simp; omega)
  have hHn := (unhide HH2).grown hTn (by simp; omega)
  have hTn' := (unhide HT2).turns hTn (unhide HI2) (Nat.ne_of_beq_eq_false rfl) (unhide HN)
  have hTTn := hTT2.trans (Two.ofB (u := u) hTn)
  have hsn := hTn.size
  have hf0 := hHn.free 0
  have hk0c : wn.cell? ⟨w2.heap.size, 0, none⟩ = some (.string ⟨#[]⟩) := hHn.cell 0
  have HXn := hide hXn
  have HHn := hide hHn
  have HTn := hide hTn'
  clear hXn hHn hTn' hTn
  cases R1 with
  | bad q1 =>
    obtain ⟨rfl, p1, hI3⟩ := hm3
    have hRR : RR = .bad q1 := (unhide HRR).symm
    subst hRR
    clear HRR
    have hI4 := hI3.other ⟨w2.heap.size, 0, none⟩ (.string ⟨#[]⟩) (by simp; omega)
    have hH4 := (unhide HHn).set 0 (.string ⟨#[]⟩)
    have hX4 := (unhide HXn).other ⟨w2.heap.size, 0, none⟩ (.string ⟨#[]⟩) (by simp; omega)
    have HI4 := hide hI4
    have HH4 := hide hH4
    have HX4 := hide hX4
    have hTT4 := hTTn.setFar (a := ⟨w2.heap.size, 0, none⟩) (by simp; omega) (.string ⟨#[]⟩)
    have hff := hH4.free 1
    have hkfc : (wn.setCell ⟨w2.heap.size, 0, none⟩ (.string ⟨#[]⟩)).cell? ⟨w2.heap.size, 1, none⟩ = some (.string ⟨#[]⟩) := hH4.cell 1
    have hq2 : (0 : Int) ≤ q1 := by omega
    clear hI3 hI4 hH4 hX4
    go_wp2_with fail
    refine (rbtext_bad b false s p1 q1 _ (unhide HI4)).mono ?_
    rintro e w5 ⟨rfl, hw5⟩
    subst hw5
    have hI5 := (unhide HI4).other ⟨w2.heap.size, 1, none⟩ (.string ⟨#[]⟩) (by simp; omega)
    have hH5 := (unhide HH4).set 1 (.string ⟨#[]⟩)
    have hX5 := (unhide HX4).other ⟨w2.heap.size, 1, none⟩ (.string ⟨#[]⟩) (by simp; omega)
    have hTT5 := hTT4.setFar (a := ⟨w2.heap.size, 1, none⟩) (by simp; omega) (.string ⟨#[]⟩)
    have k2 : ((wn.setCell ⟨w2.heap.size, 0, none⟩ (.string ⟨#[]⟩)).setCell ⟨w2.heap.size, 1, none⟩ (.string ⟨#[]⟩)).cell? ⟨b, 2, none⟩ = some (.int .i64 q1) := hI5.cell 2
    have y0 := hH5.cell 0
    have y1 := hH5.cell 1
    have z0 := hX5.cell 0
    have z1 := hX5.cell 1
    have g0 := hX5.free 0
    have g1 := hX5.free 1
    have hXl5 := hX5.lt
    simp only [List.getElem?_cons_zero, List.getElem?_cons_succ, List.set_cons_succ, List.set_cons_zero] at y0 y1 z0 z1
    have HI5 := hide hI5
    clear hI5 hH5 hX5
    have hTT := (hTT5.setFar (a := ⟨w.heap.size, 0, none⟩) (Nat.le_refl _) (.string ⟨#[]⟩)).setFar (a := ⟨w.heap.size, 1, none⟩) (Nat.le_refl _) (.string ⟨#[]⟩)
    go_wp2_with fail
    exact bodyPost_ret (v := hdA zeroHd) (by simp [results, Tryz.results105, go_sem, z0, z1, zeroHd, bs]) rfl ⟨⟨⟨zeroHd, rfl⟩, p1, ((unhide HI5).other _ _ (by simp; omega)).other _ _ (by simp; omega)⟩, hTT⟩
  | ok nm q1 =>
    obtain ⟨rfl, hI3⟩ := hm3
    have hbnm := unhide HTN nm q1 rfl
    have HRR : Hid ((match Lk.textR false s.data.toList q1 with | .bad q => Lk.PR.bad q | .ok t q => .ok ((⟨nm, t⟩ : Lk.Hd), Lk.put B L ⟨nm, t⟩) q) = RR) := HRR
    have hq1 : q1 ≤ s.size := by rw [size_list]; exact hbnm.2.1
    have hxl : nm.length ≤ 200 := by have := hbnm.2.2; omega
    have HI3 := hide (hI3.other ⟨w2.heap.size, 0, none⟩ (.string (bs nm)) (by simp; omega))
    have HT3 := hide ((unhide HTn).far (H := w2.heap.size) (fun k hk => by have := (unhide HVL) k hk; omega) (by omega) 0 (.string (bs nm)))
    have HX3 := hide ((unhide HXn).other ⟨w2.heap.size, 0, none⟩ (.string (bs nm)) (by simp; omega))
    have HH3 := hide ((unhide HHn).set 0 (.string (bs nm)))
    have hTT3 := hTTn.setFar (a := ⟨w2.heap.size, 0, none⟩) (by simp; omega) (.string (bs nm))
    obtain ⟨w3, hW3⟩ : ∃ w3, w3 = wn.setCell ⟨w2.heap.size, 0, none⟩ (.string (bs nm)) := ⟨_, rfl⟩
    have HW3 := hide hW3
    rw [← hW3] at HI3 HT3 HX3 HH3 hTT3
    clear hW3
    clear hI3 hbnm
    have HC4 := hide (rbtext_value b s q1 w3 hs hq1 (Lk.textR false s.data.toList q1) (hide rfl) (unhide HI3))
    have HTL := hide (fun t q2 => Lk.textR_ge (name := false) (s := s.data.toList) (p := q1) (t := t) (q := q2) (by rw [← size_list]; exact hq1))
    have hs3 := hTT3.size
    have h23 : w2.heap.size < w3.heap.size := (unhide HH3).lt
    have hsx := hTT2.size
    generalize Lk.textR false s.data.toList q1 = R2 at *
    go_wp2_with fail
    rw [← unhide HW3]
    refine (unhide HC4).mono ?_
    rintro e w4 ⟨hm4, hT4⟩
    have hX4 := (unhide HX3).grown hT4 (by simp; omega)
    have hH4 := (unhide HH3).grown hT4 (by simp; omega)
    have HT4 := hide ((unhide HT3).turns hT4 (unhide HI3) (Nat.ne_of_beq_eq_false rfl) (unhide HN))
    have hTT4 := hTT3.trans (Two.ofB (u := u) hT4)
    have hf1 := hH4.free 1
    have hk1c : w4.cell? ⟨w2.heap.size, 1, none⟩ = some (.string ⟨#[]⟩) := hH4.cell 1
    have hs4 := hT4.size
    have HX4 := hide hX4
    have HH4 := hide hH4
    clear hX4 hH4 hT4
    cases R2 with
    | bad q2 =>
      obtain ⟨rfl, p2, hI4⟩ := hm4
      have hRR : RR = .bad q2 := (unhide HRR).symm
      subst hRR
      clear HRR
      have hq2 : (0 : Int) ≤ q2 := by omega
      have hI5 := hI4.other ⟨w2.heap.size, 1, none⟩ (.string ⟨#[]⟩) (by simp; omega)
      have hH5 := (unhide HH4).set 1 (.string ⟨#[]⟩)
      have hX5 := (unhide HX4).other ⟨w2.heap.size, 1, none⟩ (.string ⟨#[]⟩) (by simp; omega)
      have k2 : (w4.setCell ⟨w2.heap.size, 1, none⟩ (.string ⟨#[]⟩)).cell? ⟨b, 2, none⟩ = some (.int .i64 q2) := hI5.cell 2
      have y0 := hH5.cell 0
      have y1 := hH5.cell 1
      have z0 := hX5.cell 0
      have z1 := hX5.cell 1
      have g0 := hX5.free 0
      have g1 := hX5.free 1
      simp only [List.getElem?_cons_zero, List.getElem?_cons_succ, List.set_cons_succ, List.set_cons_zero] at y0 y1 z0 z1
      have hTT5 := hTT4.setFar (a := ⟨w2.heap.size, 1, none⟩) (by simp; omega) (.string ⟨#[]⟩)
      have HI5 := hide hI5
      have hXl5 := hX5.lt
      clear hI4 hI5 hH5 hX5
      have hTT := (hTT5.setFar (a := ⟨w.heap.size, 0, none⟩) (Nat.le_refl _) (.string (bs nm))).setFar (a := ⟨w.heap.size, 1, none⟩) (Nat.le_refl _) (.string ⟨#[]⟩)
      go_wp2_with fail
      exact bodyPost_ret (v := hdA ⟨nm, []⟩) (by simp [results, Tryz.results105, go_sem, z0, z1, bs]) rfl ⟨⟨⟨⟨nm, []⟩, rfl⟩, p2, ((unhide HI5).other _ _ (by simp; omega)).other _ _ (by simp; omega)⟩, hTT⟩
    | ok val q2 =>
      obtain ⟨rfl, hI4⟩ := hm4
      have hRR : RR = .ok (⟨nm, val⟩, Lk.put B L ⟨nm, val⟩) q2 := (unhide HRR).symm
      subst hRR
      clear HRR
      have hvl := (unhide HTL val q2 rfl).2.2
      have hI5 := hI4.other ⟨w2.heap.size, 1, none⟩ (.string (bs val)) (by simp; omega)
      have hH5 := (unhide HH4).set 1 (.string (bs val))
      have hX5 := (unhide HX4).other ⟨w2.heap.size, 1, none⟩ (.string (bs val)) (by simp; omega)
      have HT5 := hide ((unhide HT4).far (H := w2.heap.size) (fun k hk => by have := (unhide HVL) k hk; omega) (by omega) 1 (.string (bs val)))
      have k2 : (w4.setCell ⟨w2.heap.size, 1, none⟩ (.string (bs val))).cell? ⟨b, 2, none⟩ = some (.int .i64 (-1)) := hI5.cell 2
      have y0 := hH5.cell 0
      have y1 := hH5.cell 1
      simp only [List.getElem?_cons_zero, List.getElem?_cons_succ, List.set_cons_succ, List.set_cons_zero] at y0 y1
      have hTT5 := hTT4.setFar (a := ⟨w2.heap.size, 1, none⟩) (by simp; omega) (.string (bs val))
      have HI5 := hide hI5
      have HX5 := hide hX5
      have HH5 := hide hH5
      have hs5 : w4.heap.size = (w4.setCell ⟨w2.heap.size, 1, none⟩ (.string (bs val))).heap.size := by simp
      have HC5 := hide (rput_any u B L ⟨nm, val⟩ v _ (unhide HT5) (by simp only; omega) (by simp only; omega))
      clear hI4 hI5 hH5 hX5
      go_wp2_with fail
      refine (unhide HC5).mono ?_
      rintro e w6 ⟨rfl, ⟨v6, hT6, hN6⟩, hTu6⟩
      have hX6 := (unhide HX5).grown hTu6 (by simp; omega)
      have hH6 := (unhide HH5).grown hTu6 (by simp; omega)
      have hI6 := Is.grown (unhide HI5) hTu6 (by have := unhide HN; simp; omega)
      have hTT6 := hTT5.trans (Two.ofU (b := b) hTu6)
      have z0 := hX6.cell 0
      have z1 := hX6.cell 1
      have g0 := hX6.free 0
      have g1 := hX6.free 1
      have j0 := hH6.cell 0
      have j1 := hH6.cell 1
      simp only [List.getElem?_cons_zero, List.getElem?_cons_succ, List.set_cons_succ, List.set_cons_zero] at z0 z1 j0 j1
      have hXl6 := hX6.lt
      have HI6 := hide hI6
      have HT6 := hide hT6
      clear hX6 hH6 hI6 hT6 y0 y1 k2
      have hTT := (hTT6.setFar (a := ⟨w.heap.size, 0, none⟩) (Nat.le_refl _) (.string (bs nm))).setFar (a := ⟨w.heap.size, 1, none⟩) (Nat.le_refl _) (.string (bs val))
      go_wp2_with fail
      refine bodyPost_ret (v := hdA ⟨nm, val⟩) (by simp [results, Tryz.results105, go_sem, z0, z1]) rfl ⟨⟨rfl, Is.other (Is.other (unhide HI6) _ _ (by simp; omega)) _ _ (by simp; omega), v6, ?_, .inr (fun k hk => by have := hN6 k hk; omega)⟩, hTT⟩
      have hfar : ∀ k, v6.ownBlock = some k → k ≠ w.heap.size := fun k hk => by have := hN6 k hk; omega
      exact ((unhide HT6).far hfar (by omega) 0 _).far hfar (by omega) 1 _
end Go.Proofs.YtbkpdapagfjmmaaGreatDoor

/-
  Walks: the document's blocks: a part whole.
-/
namespace Go.Proofs.YtbkpdapagfjmmaaGreatDoor
open Go.RowKit

theorem rbpart_any (b u : Nat) (s : ByteArray) (p B : Nat) (L : List Lk.Hd) (v : Value) (w : World) (hs : s.size ≤ 2 ^ 48) (hp : p ≤ s.size) (hI : RB w b s p (-1)) (hT : RTab w u B L v) :
    Calls Tryz.prog 105 #[.pointer (some ⟨b, 0, none⟩), .pointer (some ⟨u, 0, none⟩)] w (PPost w b u s B v (Lk.partR B L s.data.toList p)) := by
  unfold Lk.partR
  cases hn : Lk.numR s.data.toList p with
  | bad q => exact rbpart_none b u s p q B L v w hs hp hI hT hn
  | ok n q =>
    simp only
    by_cases h2 : n % 2 = 0
    · rw [if_pos h2]
      exact rbpart_even b u s p n q B L v w hs hp hI hT hn h2
    · rw [if_neg h2]
      unfold Lk.freshR Lk.nameR
      by_cases hk0 : n / 2 = 0
      · rw [if_pos hk0]
        have h := rbpart_new b u s p n q B L v w hs hp hI hT hn (by omega) hk0
        cases h1 : Lk.textR true s.data.toList q with
        | bad q1 => rw [h1] at h; exact h
        | ok nm q1 =>
          rw [h1] at h
          simp only at h ⊢
          cases h3 : Lk.textR false s.data.toList q1 with
          | bad q2 => rw [h3] at h; exact h
          | ok t q2 => rw [h3] at h; exact h
      · rw [if_neg hk0]
        by_cases hk : n / 2 ≤ (Lk.ents L).length
        · obtain ⟨x, hx⟩ : ∃ x, (Lk.ents L)[n / 2 - 1]? = some x := ⟨_, List.getElem?_eq_getElem (by omega)⟩
          have hxl : x.n.length ≤ 200 := by
            have hm := List.mem_of_getElem? hx
            have h1 := hT.le
            have h2 := hT.hB
            unfold Lk.ents at hm
            rcases List.mem_append.1 hm with hm | hm
            · have : ∀ y ∈ Lk.fixedL, y.n.length ≤ 200 := by decide
              exact this x hm
            · have h3 := Lk.weights_mem hm
              unfold Lk.Hd.weight at h3
              omega
          have h := rbpart_old b u s p n q B L v w hs hp hI hT hn (by omega) hk hk0 x hx hxl
          unfold Lk.entR
          rw [hx]
          simp only
          cases h3 : Lk.textR false s.data.toList q with
          | bad q2 => rw [h3] at h; exact h
          | ok t q2 => rw [h3] at h; exact h
        · have hx : (Lk.ents L)[n / 2 - 1]? = none := List.getElem?_eq_none (by omega)
          unfold Lk.entR
          rw [hx]
          exact rbpart_far b u s p n q B L v w hs hp hI hT hn (by omega) (by omega)
end Go.Proofs.YtbkpdapagfjmmaaGreatDoor
