import Derived.Test.YtbkpdapagfjmmaaGreatDoorMS1L5
import Derived.Test.YtbkpdapagfjmmaaGreatDoorML6V3
import Derived.Test.YtbkpdapagfjmmaaGreatDoorMV4V5
set_option linter.unusedVariables false
set_option maxRecDepth 100000
set_option maxHeartbeats 16000000
namespace Go.Proofs.YtbkpdapagfjmmaaGreatDoor
open Go.RowKit
structure Two (b u : Nat) (w w' : World) : Prop where
  os : w'.os = w.os
  tape : w'.tape = w.tape
  output : w'.output = w.output
  size : w.heap.size ≤ w'.heap.size
  block : ∀ k, k < w.heap.size → k ≠ b → k ≠ u → w'.heap[k]? = w.heap[k]?
theorem Two.refl (b u : Nat) (w : World) : Two b u w w := ⟨rfl, rfl, rfl, Nat.le_refl _, fun _ _ _ _ => rfl⟩
theorem Two.trans {b u : Nat} {w w1 w2 : World} (h : Two b u w w1) (k : Two b u w1 w2) : Two b u w w2 :=
  ⟨k.os.trans h.os, k.tape.trans h.tape, k.output.trans h.output, Nat.le_trans h.size k.size, fun i hi h1 h2 => (k.block i (Nat.lt_of_lt_of_le hi h.size) h1 h2).trans (h.block i hi h1 h2)⟩
theorem Two.ofB {b u : Nat} {w w' : World} (h : Turns b w w') : Two b u w w' := ⟨h.os, h.tape, h.output, h.size, fun k hk h1 _ => h.block k hk (by simpa using h1)⟩
theorem Two.ofU {b u : Nat} {w w' : World} (h : Turns u w w') : Two b u w w' := ⟨h.os, h.tape, h.output, h.size, fun k hk _ h2 => h.block k hk (by simpa using h2)⟩
theorem Two.below {b u : Nat} {w w1 w2 : World} (h : Two b u w w1) (k : Below w1.heap.size w1 w2) : Two b u w w2 := h.trans (Two.ofB (Below.turns k b))
theorem Two.alloc {b u : Nat} {w w1 : World} (h : Two b u w w1) (o : Obj) : Two b u w (w1.alloc o) := h.below ((Below.refl _ _).alloc (Nat.le_refl _) o)
theorem Two.drewN {b u : Nat} {w w1 : World} (h : Two b u w w1) (n : Nat) : Two b u w (w1.drewN n) := ⟨h.os, h.tape, h.output, h.size, h.block⟩
theorem Two.setFar {b u : Nat} {w w1 : World} (h : Two b u w w1) {a : Addr} (ha : w.heap.size ≤ a.block) (x : Value) : Two b u w (w1.setCell a x) :=
  ⟨h.os, h.tape, h.output, by simpa using h.size, fun k hk h1 h2 => (heap_setCell_other _ _ _ _ (by omega)).trans (h.block k hk h1 h2)⟩
theorem Two.is {b u i : Nat} {w w' : World} {T : TypeId} {cs : List Value} (h : Two b u w w') (hI : Is w i T cs) (h1 : i ≠ b) (h2 : i ≠ u) : Is w' i T cs := by
  unfold Is
  rw [h.block i hI.lt h1 h2]
  exact hI
theorem Two.own {b u : Nat} {w w' : World} {B size n : Nat} {e : TypeId} {v : Value} {xs : List Value} (h : Two b u w w') (ho : w.ownsRow B e size v n xs) (h1 : some b ≠ v.ownBlock) (h2 : some u ≠ v.ownBlock) : w'.ownsRow B e size v n xs := by
  refine ⟨ho.1, ?_⟩
  rcases ho.2 with h0 | ⟨g, cap, cur, rfl, hB, hg, h3⟩
  · exact .inl h0
  · simp [Value.ownBlock] at h1 h2
    exact .inr ⟨g, cap, cur, rfl, hB, (h.block g (lt_of_block hg) (fun e => h1 e.symm) (fun e => h2 e.symm)).trans hg, h3⟩
theorem Two.toBelow {b u B : Nat} {w w1 w2 : World} (h : Below B w w1) (k : Two b u w1 w2) (hb : B ≤ b) (hu : B ≤ u) (hB : B ≤ w1.heap.size) : Below B w w2 :=
  h.trans ⟨k.os, k.tape, k.output, k.size, fun i hi => k.block i (by omega) (by omega) (by omega)⟩
theorem RTab.turns {w w' : World} {t u B : Nat} {L : List Lk.Hd} {v : Value} {cs : List Value} {T : TypeId} (h : RTab w t B L v) (hT : Turns u w w') (hI : Is w u T cs) (h1 : T ≠ 206) (hne : t ≠ u) : RTab w' t B L v :=
  ⟨h.blk.grown hT (by simpa using hne), rown_turns h.own hI h1 hT, h.le, h.hB⟩
namespace Lk
theorem partR_ge {B : Nat} {L : List Hd} {s : Bs} {p : Nat} {hl : Hd × List Hd} {q : Nat} (hp : p ≤ s.length) (hL : weights L ≤ B) (hB : B ≤ 200) (h : partR B L s p = .ok hl q) : p < q ∧ q ≤ s.length := by
  unfold partR at h
  cases hn : numR s p with
  | bad q => rw [hn] at h; cases h
  | ok n q1 =>
    have hq := numR_ge hp hn
    rw [hn] at h
    simp only at h
    split at h
    · unfold entR at h
      cases he : (ents L)[n / 2]? with
      | none => rw [he] at h; cases h
      | some x => rw [he] at h; cases h; exact hq
    · cases hf : freshR L (n / 2) s q1 with
      | bad q => rw [hf] at h; cases h
      | ok x q2 =>
        rw [hf] at h
        cases h
        have h5 := (freshR_len hL hB hq.2 hf).2.2
        have h6 := freshR_ge hq.2 hf
        omega
end Lk
def PaPost (w : World) (b u : Nat) (s : ByteArray) (B : Nat) (v : Value) (R : Lk.PR (Lk.Hd × List Lk.Hd)) (e : Ending) (w' : World) : Prop :=
  (match R with
    | .ok hl q => e = .returned (hdA hl.1) ∧ RB w' b s q (-1) ∧ ∃ v', RTab w' u B hl.2 v' ∧ NewOr w.heap.size v v'
    | .bad q => (∃ x, e = .returned (hdA x)) ∧ ∃ p', RB w' b s p' q) ∧ Two b u w w'
theorem RB.other {w : World} {b : Nat} {s : ByteArray} {p : Nat} {z : Int} (h : RB w b s p z) (a : Addr) (x : Value) (hne : b ≠ a.block) : RB (w.setCell a x) b s p z := Is.other h a x hne
theorem RB.alloc {w : World} {b : Nat} {s : ByteArray} {p : Nat} {z : Int} (h : RB w b s p z) (o : Obj) : RB (w.alloc o) b s p z := Is.alloc h o
theorem RB.below {w w' : World} {b : Nat} {s : ByteArray} {p : Nat} {z : Int} (h : RB w b s p z) (hb : Below w.heap.size w w') : RB w' b s p z := Is.below h hb (Is.lt h)
theorem RB.set1 {w : World} {b : Nat} {s : ByteArray} {p : Nat} {z : Int} (h : RB w b s p z) : b < w.heap.size := Is.lt h
theorem RTab.far {w : World} {u B H : Nat} {L : List Lk.Hd} {v : Value} (h : RTab w u B L v) (hne : ∀ k, v.ownBlock = some k → k ≠ H) (hu : u ≠ H) (i : Nat) (x : Value) : RTab (w.setCell ⟨H, i, none⟩ x) u B L v := by
  refine ⟨h.blk.other _ _ hu, h.own.kept (grownBy_set w H i x) ?_, h.le, h.hB⟩
  cases hv : Value.ownBlock v with
  | none => exact .inl rfl
  | some k => exact .inr (by have := hne k hv; simpa using this)
theorem rbpart_none (b u : Nat) (s : ByteArray) (p q B : Nat) (L : List Lk.Hd) (v : Value) (w : World) (hs : s.size ≤ 2 ^ 48) (hp : p ≤ s.size) (hI : RB w b s p (-1)) (hT : RTab w u B L v) (hn : Lk.numR s.data.toList p = .bad q) :
    Calls Tryz.prog 105 #[.pointer (some ⟨b, 0, none⟩), .pointer (some ⟨u, 0, none⟩)] w (PaPost w b u s B v (.bad q)) := by
  have hC := rbnumber_any b s p (w.alloc (.cells #[.string ⟨#[]⟩, .string ⟨#[]⟩] 206)) hs hp (hI.alloc _)
  rw [hn] at hC
  have HC := hide hC
  have HX := hide (Is.new w 206 [.string ⟨#[]⟩, .string ⟨#[]⟩])
  have hT0 := (Two.refl b u w).alloc (.cells #[.string ⟨#[]⟩, .string ⟨#[]⟩] 206)
  have hbl : b < w.heap.size := Is.lt hI
  have hq : (0 : Int) ≤ q := by omega
  have HT := hide (hT.alloc (.cells #[.string ⟨#[]⟩, .string ⟨#[]⟩] 206))
  have HN := hide (hT.blk.ne hI (nbq rfl))
  have HI0 := hide (hI.alloc (.cells #[.string ⟨#[]⟩, .string ⟨#[]⟩] 206))
  clear hI hn hC hT
  go_enter Tryz.func105, Tryz.ntmps105
  go_wp2_with fail
  refine (uh HC).mono ?_
  rintro e w1 ⟨⟨rfl, hI1⟩, hT1⟩
  have HX1 := hide ((uh HX).grown hT1 (by simp; omega))
  have HT1 := hide ((uh HT).turns hT1 (uh HI0) (nbq rfl) (uh HN))
  have HI1 := hide hI1
  have hTT1 := hT0.trans (Two.ofB (u := u) hT1)
  clear hI1 hT1
  go_wp2_with fail
  refine (rall_any u B L v _ (uh HT1)).mono ?_
  rintro e w2 ⟨v2, rfl, _, hb2⟩
  have hX2 := (uh HX1).below hb2 (uh HX1).lt
  have hI2 := (uh HI1).below hb2
  have hTT2 := hTT1.below hb2
  have c2 : w2.cell? ⟨b, 2, none⟩ = some (.int .i64 q) := hI2.cell 2
  have c0 := hX2.cell 0
  have c1 := hX2.cell 1
  have f0 := hX2.free 0
  have f1 := hX2.free 1
  have hXl := hX2.lt
  simp only [List.getElem?_cons_zero, List.getElem?_cons_succ] at c0 c1
  have HI2 := hide hI2
  clear hI2 hX2 hb2
  have hTT := (hTT2.setFar (a := ⟨w.heap.size, 0, none⟩) (Nat.le_refl _) (.string (bs zeroHd.n))).setFar (a := ⟨w.heap.size, 1, none⟩) (Nat.le_refl _) (.string (bs zeroHd.v))
  go_wp2_with fail
  exact bodyPost_ret (v := hdA zeroHd) (by simp [results, Tryz.results105, go_sem, c0, c1, zeroHd, bs]) rfl ⟨⟨⟨zeroHd, rfl⟩, p, ((uh HI2).other _ _ (by simp; omega)).other _ _ (by simp; omega)⟩, hTT⟩
theorem rbpart_even (b u : Nat) (s : ByteArray) (p n q B : Nat) (L : List Lk.Hd) (v : Value) (w : World) (hs : s.size ≤ 2 ^ 48) (hp : p ≤ s.size) (hI : RB w b s p (-1)) (hT : RTab w u B L v) (hn : Lk.numR s.data.toList p = .ok n q) (h2 : n % 2 = 0) :
    Calls Tryz.prog 105 #[.pointer (some ⟨b, 0, none⟩), .pointer (some ⟨u, 0, none⟩)] w (PaPost w b u s B v (match Lk.entR L (n / 2) q with | .ok h q => .ok (h, L) q | .bad q => .bad q)) := by
  have hC := rbnumber_any b s p (w.alloc (.cells #[.string ⟨#[]⟩, .string ⟨#[]⟩] 206)) hs hp (hI.alloc _)
  rw [hn] at hC
  have hq := Lk.numR_ge (by rw [← size_list]; exact hp) hn
  rw [← size_list] at hq
  have hnl := Lk.numR_le hn
  have HC := hide hC
  have HX := hide (Is.new w 206 [.string ⟨#[]⟩, .string ⟨#[]⟩])
  have hT0 := (Two.refl b u w).alloc (.cells #[.string ⟨#[]⟩, .string ⟨#[]⟩] 206)
  have hbl : b < w.heap.size := Is.lt hI
  have hul := hT.blk.lt
  have HT := hide (hT.alloc (.cells #[.string ⟨#[]⟩, .string ⟨#[]⟩] 206))
  have HVL := hide (fun k (hk : v.ownBlock = some k) => (hT.own.lt k hk).2)
  have HN := hide (hT.blk.ne hI (nbq rfl))
  have HI0 := hide (hI.alloc (.cells #[.string ⟨#[]⟩, .string ⟨#[]⟩] 206))
  have hr : Int.tmod (n : Int) 2 = 0 := by rw [rem2, h2]; rfl
  generalize hRR : (match Lk.entR L (n / 2) q with | .ok h q => Lk.PR.ok (h, L) q | .bad q => .bad q) = RR
  have HRR := hide hRR
  clear hRR
  have hd := quo2 n
  clear hI hn hC hT
  go_enter Tryz.func105, Tryz.ntmps105
  go_wp2_with fail
  refine (uh HC).mono ?_
  rintro e w1 ⟨⟨rfl, hI1⟩, hT1⟩
  have HX1 := hide ((uh HX).grown hT1 (by simp; omega))
  have HT1 := hide ((uh HT).turns hT1 (uh HI0) (nbq rfl) (uh HN))
  have HI1 := hide hI1
  have hTT1 := hT0.trans (Two.ofB (u := u) hT1)
  clear hI1 hT1
  go_wp2_with fail
  refine (rall_any u B L v _ (uh HT1)).mono ?_
  rintro e w2 ⟨v2, rfl, ho2, hb2⟩
  have hX2 := (uh HX1).below hb2 (uh HX1).lt
  have hI2 := (uh HI1).below hb2
  have hTT2 := hTT1.below hb2
  have HT2 := hide ((uh HT1).below hb2)
  have c2 : w2.cell? ⟨b, 2, none⟩ = some (.int .i64 (-1)) := hI2.cell 2
  have c1 : w2.cell? ⟨b, 1, none⟩ = some (.int .i64 q) := hI2.cell 1
  have x0 := hX2.cell 0
  have x1 := hX2.cell 1
  have f0 := hX2.free 0
  have f1 := hX2.free 1
  have hXl := hX2.lt
  simp only [List.getElem?_cons_zero, List.getElem?_cons_succ] at x0 x1
  obtain ⟨la, lc, hlv⟩ := row_form ho2
  subst hlv
  have HO2 := hide ho2
  have HI2 := hide hI2
  have HX2 := hide hX2
  have HB2 := hide hb2
  clear hI2 hX2 hb2 ho2
  by_cases hlt : n / 2 < (Lk.ents L).length
  · obtain ⟨x, hx⟩ : ∃ x, (Lk.ents L)[n / 2]? = some x := ⟨_, List.getElem?_eq_getElem hlt⟩
    have hR : RR = .ok (x, L) q := by rw [← uh HRR]; unfold Lk.entR; rw [hx]
    subst hR
    clear HRR
    obtain ⟨g, gc, hform, _⟩ := (uh HO2).form (by omega)
    cases hform
    obtain ⟨hg2, y0, y1⟩ := row_at2 (uh HO2) hx
    generalize hm : n / 2 = m at *
    have HM := hide hm
    have hm9 : m ≤ 134217728 := by omega
    have hlt' : ¬ ((Lk.ents L).length : Int) ≤ (m : Int) := by omega
    have hlt2 : (m : Int) < (Lk.ents L).length := by omega
    clear hx hm
    have hTT := (hTT2.setFar (a := ⟨w.heap.size, 0, none⟩) (Nat.le_refl _) (.string (bs x.n))).setFar (a := ⟨w.heap.size, 1, none⟩) (Nat.le_refl _) (.string (bs x.v))
    go_wp2_with fail
    refine bodyPost_ret (v := hdA x) (by simp [results, Tryz.results105, go_sem, x0, x1]) rfl ⟨⟨rfl, ((uh HI2).other _ _ (by simp; omega)).other _ _ (by simp; omega), v, ?_, .inl rfl⟩, hTT⟩
    have hfar : ∀ k, v.ownBlock = some k → k ≠ w.heap.size := fun k hk => by have := (uh HVL) k hk; omega
    exact ((uh HT2).far hfar (by omega) 0 _).far hfar (by omega) 1 _
  · have hx : (Lk.ents L)[n / 2]? = none := List.getElem?_eq_none (by omega)
    have hR : RR = .bad (q - 1) := by rw [← uh HRR]; unfold Lk.entR; rw [hx]
    subst hR
    clear HRR
    generalize hm : n / 2 = m at *
    have HM := hide hm
    have hm9 : m ≤ 134217728 := by omega
    have hlt' : ((Lk.ents L).length : Int) ≤ (m : Int) := by omega
    clear hx hm
    go_wp2_with fail
    refine (rfail_any b s q ((q : Int) - 1) _ (uh HI2)).mono ?_
    rintro e w3 ⟨rfl, hI3, hT3⟩
    have hX3 := (uh HX2).grown hT3 (by simp; omega)
    have z0 := hX3.cell 0
    have z1 := hX3.cell 1
    have g0 := hX3.free 0
    have g1 := hX3.free 1
    have hXl3 := hX3.lt
    simp only [List.getElem?_cons_zero, List.getElem?_cons_succ] at z0 z1
    have HI3 := hide hI3
    clear hX3 hI3 x0 x1 f0 f1
    have hTT := ((hTT2.trans (Two.ofB (u := u) hT3)).setFar (a := ⟨w.heap.size, 0, none⟩) (Nat.le_refl _) (.string (bs zeroHd.n))).setFar (a := ⟨w.heap.size, 1, none⟩) (Nat.le_refl _) (.string (bs zeroHd.v))
    go_wp2_with fail
    refine bodyPost_ret (v := hdA zeroHd) (by simp [results, Tryz.results105, go_sem, z0, z1, zeroHd, bs]) rfl ⟨⟨⟨zeroHd, rfl⟩, q, ?_⟩, hTT⟩
    rw [show ((q - 1 : Nat) : Int) = (q : Int) - 1 by omega]
    exact ((uh HI3).other _ _ (by simp; omega)).other _ _ (by simp; omega)
end Go.Proofs.YtbkpdapagfjmmaaGreatDoor

namespace Go.Proofs.YtbkpdapagfjmmaaGreatDoor
open Go.RowKit
theorem rbpart_far (b u : Nat) (s : ByteArray) (p n q B : Nat) (L : List Lk.Hd) (v : Value) (w : World) (hs : s.size ≤ 2 ^ 48) (hp : p ≤ s.size) (hI : RB w b s p (-1)) (hT : RTab w u B L v) (hn : Lk.numR s.data.toList p = .ok n q) (h2 : n % 2 = 1) (hk : (Lk.ents L).length < n / 2) :
    Calls Tryz.prog 105 #[.pointer (some ⟨b, 0, none⟩), .pointer (some ⟨u, 0, none⟩)] w (PaPost w b u s B v (.bad (q - 1))) := by
  have hC := rbnumber_any b s p (w.alloc (.cells #[.string ⟨#[]⟩, .string ⟨#[]⟩] 206)) hs hp (hI.alloc _)
  rw [hn] at hC
  have hq := Lk.numR_ge (by rw [← size_list]; exact hp) hn
  rw [← size_list] at hq
  have hnl := Lk.numR_le hn
  have HC := hide hC
  have HX := hide (Is.new w 206 [.string ⟨#[]⟩, .string ⟨#[]⟩])
  have hT0 := (Two.refl b u w).alloc (.cells #[.string ⟨#[]⟩, .string ⟨#[]⟩] 206)
  have hbl : b < w.heap.size := Is.lt hI
  have hul := hT.blk.lt
  have HT := hide (hT.alloc (.cells #[.string ⟨#[]⟩, .string ⟨#[]⟩] 206))
  have HVL := hide (fun k (hk : v.ownBlock = some k) => (hT.own.lt k hk).2)
  have HN := hide (hT.blk.ne hI (nbq rfl))
  have HI0 := hide (hI.alloc (.cells #[.string ⟨#[]⟩, .string ⟨#[]⟩] 206))
  have HLB := hide (⟨hT.le, hT.hB⟩ : Lk.weights L ≤ B ∧ B ≤ 200)
  have hr : Int.tmod (n : Int) 2 = 1 := by rw [rem2, h2]; rfl
  have hd := quo2 n
  clear hI hn hC hT
  go_enter Tryz.func105, Tryz.ntmps105
  go_wp2_with fail
  refine (uh HC).mono ?_
  rintro e w1 ⟨⟨rfl, hI1⟩, hT1⟩
  have HX1 := hide ((uh HX).grown hT1 (by simp; omega))
  have HT1 := hide ((uh HT).turns hT1 (uh HI0) (nbq rfl) (uh HN))
  have HI1 := hide hI1
  have hTT1 := hT0.trans (Two.ofB (u := u) hT1)
  clear hI1 hT1
  go_wp2_with fail
  refine (rall_any u B L v _ (uh HT1)).mono ?_
  rintro e w2 ⟨v2, rfl, ho2, hb2⟩
  have hX2 := (uh HX1).below hb2 (uh HX1).lt
  have hI2 := (uh HI1).below hb2
  have hTT2 := (hTT1.below hb2).alloc (.cells #[.string ⟨#[]⟩, .string ⟨#[]⟩] 206)
  have HT2 := hide (((uh HT1).below hb2).alloc (.cells #[.string ⟨#[]⟩, .string ⟨#[]⟩] 206))
  have c2 : w2.cell? ⟨b, 2, none⟩ = some (.int .i64 (-1)) := hI2.cell 2
  have hXl := hX2.lt
  obtain ⟨la, lc, hlv⟩ := row_form ho2
  subst hlv
  have HO2 := hide (ho2.alloc (.cells #[.string ⟨#[]⟩, .string ⟨#[]⟩] 206))
  have HI2 := hide (hI2.alloc (.cells #[.string ⟨#[]⟩, .string ⟨#[]⟩] 206))
  have HX2 := hide (hX2.alloc (.cells #[.string ⟨#[]⟩, .string ⟨#[]⟩] 206))
  have hH2 := Is.new w2 206 [.string ⟨#[]⟩, .string ⟨#[]⟩]
  have HH2 := hide hH2
  clear hI2 hX2 hb2 ho2 hH2
  have hm9 : n / 2 ≤ 134217728 := by omega
  generalize n / 2 = m at *
  have hk' : ((Lk.ents L).length : Int) < (m : Int) := by omega
  have c1 : (w2.alloc (.cells #[.string ⟨#[]⟩, .string ⟨#[]⟩] 206)).cell? ⟨b, 1, none⟩ = some (.int .i64 q) := (uh HI2).cell 1
  have hbl2 : b < w2.heap.size := by omega
  go_wp2_with fail
  refine (rfail_any b s q ((q : Int) - 1) _ (uh HI2)).mono ?_
  rintro e w3 ⟨rfl, hI3, hT3⟩
  have hX3 := (uh HX2).grown hT3 (by simp; omega)
  have hH3 := (uh HH2).grown hT3 (by simp; omega)
  have z0 := hX3.cell 0
  have z1 := hX3.cell 1
  have g0 := hX3.free 0
  have g1 := hX3.free 1
  have y0 := hH3.cell 0
  have y1 := hH3.cell 1
  have hXl3 := hX3.lt
  simp only [List.getElem?_cons_zero, List.getElem?_cons_succ] at z0 z1 y0 y1
  have HI3 := hide hI3
  clear hX3 hI3 hH3
  have hTT := ((hTT2.trans (Two.ofB (u := u) hT3)).setFar (a := ⟨w.heap.size, 0, none⟩) (Nat.le_refl _) (.string (bs zeroHd.n))).setFar (a := ⟨w.heap.size, 1, none⟩) (Nat.le_refl _) (.string (bs zeroHd.v))
  go_wp2_with fail
  refine bodyPost_ret (v := hdA zeroHd) (by simp [results, Tryz.results105, go_sem, z0, z1, zeroHd, bs]) rfl ⟨⟨⟨zeroHd, rfl⟩, q, ?_⟩, hTT⟩
  rw [show ((q - 1 : Nat) : Int) = (q : Int) - 1 by omega]
  exact ((uh HI3).other _ _ (by simp; omega)).other _ _ (by simp; omega)
theorem rbpart_old (b u : Nat) (s : ByteArray) (p n q B : Nat) (L : List Lk.Hd) (v : Value) (w : World) (hs : s.size ≤ 2 ^ 48) (hp : p ≤ s.size) (hI : RB w b s p (-1)) (hT : RTab w u B L v) (hn : Lk.numR s.data.toList p = .ok n q) (h2 : n % 2 = 1) (hk : n / 2 ≤ (Lk.ents L).length) (hk0 : n / 2 ≠ 0) (x : Lk.Hd) (hx : (Lk.ents L)[n / 2 - 1]? = some x) (hxl : x.n.length ≤ 200) :
    Calls Tryz.prog 105 #[.pointer (some ⟨b, 0, none⟩), .pointer (some ⟨u, 0, none⟩)] w (PaPost w b u s B v (match Lk.textR false s.data.toList q with | .bad q => .bad q | .ok t q => .ok (⟨x.n, t⟩, Lk.put B L ⟨x.n, t⟩) q)) := by
  generalize hRR : (match Lk.textR false s.data.toList q with | .bad q => Lk.PR.bad q | .ok t q => .ok ((⟨x.n, t⟩ : Lk.Hd), Lk.put B L ⟨x.n, t⟩) q) = RR
  have HRR := hide hRR
  clear hRR
  have hC := rbnumber_any b s p (w.alloc (.cells #[.string ⟨#[]⟩, .string ⟨#[]⟩] 206)) hs hp (hI.alloc _)
  rw [hn] at hC
  have hq := Lk.numR_ge (by rw [← size_list]; exact hp) hn
  rw [← size_list] at hq
  have hnl := Lk.numR_le hn
  have HC := hide hC
  have HX := hide (Is.new w 206 [.string ⟨#[]⟩, .string ⟨#[]⟩])
  have hT0 := (Two.refl b u w).alloc (.cells #[.string ⟨#[]⟩, .string ⟨#[]⟩] 206)
  have hbl : b < w.heap.size := Is.lt hI
  have hul := hT.blk.lt
  have HT := hide (hT.alloc (.cells #[.string ⟨#[]⟩, .string ⟨#[]⟩] 206))
  have HVL := hide (fun k (hk : v.ownBlock = some k) => (hT.own.lt k hk).2)
  have HN := hide (hT.blk.ne hI (nbq rfl))
  have HI0 := hide (hI.alloc (.cells #[.string ⟨#[]⟩, .string ⟨#[]⟩] 206))
  have HLB := hide (⟨hT.le, hT.hB⟩ : Lk.weights L ≤ B ∧ B ≤ 200)
  have hr : Int.tmod (n : Int) 2 = 1 := by rw [rem2, h2]; rfl
  have hd := quo2 n
  clear hI hn hC hT
  go_enter Tryz.func105, Tryz.ntmps105
  go_wp2_with fail
  refine (uh HC).mono ?_
  rintro e w1 ⟨⟨rfl, hI1⟩, hT1⟩
  have HX1 := hide ((uh HX).grown hT1 (by simp; omega))
  have HT1 := hide ((uh HT).turns hT1 (uh HI0) (nbq rfl) (uh HN))
  have HI1 := hide hI1
  have hTT1 := hT0.trans (Two.ofB (u := u) hT1)
  clear hI1 hT1
  go_wp2_with fail
  refine (rall_any u B L v _ (uh HT1)).mono ?_
  rintro e w2 ⟨v2, rfl, ho2, hb2⟩
  have hX2 := (uh HX1).below hb2 (uh HX1).lt
  have hI2 := (uh HI1).below hb2
  have hTT2 := (hTT1.below hb2).alloc (.cells #[.string ⟨#[]⟩, .string ⟨#[]⟩] 206)
  have HT2 := hide (((uh HT1).below hb2).alloc (.cells #[.string ⟨#[]⟩, .string ⟨#[]⟩] 206))
  have c2 : w2.cell? ⟨b, 2, none⟩ = some (.int .i64 (-1)) := hI2.cell 2
  have hXl := hX2.lt
  obtain ⟨la, lc, hlv⟩ := row_form ho2
  subst hlv
  have HO2 := hide (ho2.alloc (.cells #[.string ⟨#[]⟩, .string ⟨#[]⟩] 206))
  have HI2 := hide (hI2.alloc (.cells #[.string ⟨#[]⟩, .string ⟨#[]⟩] 206))
  have HX2 := hide (hX2.alloc (.cells #[.string ⟨#[]⟩, .string ⟨#[]⟩] 206))
  have hH2 := Is.new w2 206 [.string ⟨#[]⟩, .string ⟨#[]⟩]
  have HH2 := hide hH2
  have HN2 := hide (⟨hI2, (uh HT1).below hb2, hX2, hTT1.below hb2⟩ : RB w2 b s q (-1) ∧ RTab w2 u B L v ∧ Is w2 w.heap.size 206 [.string ⟨#[]⟩, .string ⟨#[]⟩] ∧ Two b u w w2)
  clear hI2 hX2 hb2 ho2 hH2
  have hm9 : n / 2 ≤ 134217728 := by omega
  generalize n / 2 = m at *
  obtain ⟨i, hi⟩ : ∃ i, m = i + 1 := ⟨m - 1, by omega⟩
  subst hi
  have hk1 : ¬ ((Lk.ents L).length : Int) < ((i + 1 : Nat) : Int) := by omega
  have hk2 : (((i + 1 : Nat) : Int) == 0) = false := by rw [beq_eq_false_iff_ne]; omega
  have hk3 : ((i + 1 : Nat) : Int) - 1 = (i : Int) := by omega
  have hk4 : (i : Int) < (Lk.ents L).length := by omega
  simp only [Nat.add_sub_cancel] at hx
  obtain ⟨g, gc, hform, _⟩ := (uh HO2).form (by omega)
  cases hform
  obtain ⟨hg2, y0, y1⟩ := row_at2 (uh HO2) hx
  have hf0 := (uh HH2).free 0
  have HI3 := hide ((uh HN2).1.alloc (.cells #[.string (bs x.n), .string ⟨#[]⟩] 206))
  have HT3 := hide ((uh HN2).2.1.alloc (.cells #[.string (bs x.n), .string ⟨#[]⟩] 206))
  have HX3 := hide ((uh HN2).2.2.1.alloc (.cells #[.string (bs x.n), .string ⟨#[]⟩] 206))
  have HH3 := hide (Is.new w2 206 [.string (bs x.n), .string ⟨#[]⟩])
  have hTT3 := (uh HN2).2.2.2.alloc (.cells #[.string (bs x.n), .string ⟨#[]⟩] 206)
  obtain ⟨w3, hW3⟩ : ∃ w3, w3 = w2.alloc (.cells #[.string (bs x.n), .string ⟨#[]⟩] 206) := ⟨_, rfl⟩
  have hW3' := hW3
  rw [← hW3'] at HI3 HT3 HX3 hTT3
  have HH3' : Hid (Is w3 w2.heap.size 206 [.string (bs x.n), .string ⟨#[]⟩]) := by rw [hW3']; exact HH3
  clear HH3
  have HH3 := HH3'
  have HW3 := hide hW3'
  generalize hnm : x.n = nm at *
  have hq1 : q ≤ s.size := hq.2
  generalize q = q1 at *
  clear hx hW3 hnm hW3'
  have HC4 := hide (rbtext_value b s q1 w3 hs hq1 (Lk.textR false s.data.toList q1) (hide rfl) (uh HI3))
  have HTL := hide (fun t q2 => Lk.textR_ge (name := false) (s := s.data.toList) (p := q1) (t := t) (q := q2) (by rw [← size_list]; exact hq1))
  have hs3 := hTT3.size
  have h23 : w2.heap.size < w3.heap.size := (uh HH3).lt
  have hsx := hTT2.size
  generalize Lk.textR false s.data.toList q1 = R2 at *
  go_wp2_with fail
  rw [← uh HW3]
  refine (uh HC4).mono ?_
  rintro e w4 ⟨hm4, hT4⟩
  have hX4 := (uh HX3).grown hT4 (by simp; omega)
  have hH4 := (uh HH3).grown hT4 (by simp; omega)
  have HT4 := hide ((uh HT3).turns hT4 (uh HI3) (nbq rfl) (uh HN))
  have hTT4 := hTT3.trans (Two.ofB (u := u) hT4)
  have hf1 := hH4.free 1
  have hk1c : w4.cell? ⟨w2.heap.size, 1, none⟩ = some (.string ⟨#[]⟩) := hH4.cell 1
  have hs4 := hT4.size
  have HX4 := hide hX4
  have HH4 := hide hH4
  clear hX4 hH4 hT4
  cases R2 with
  | bad q2 =>
    obtain ⟨rfl, p2, hI4⟩ := hm4
    have hRR : RR = .bad q2 := (uh HRR).symm
    subst hRR
    clear HRR
    have hq2 : (0 : Int) ≤ q2 := by omega
    have hI5 := hI4.other ⟨w2.heap.size, 1, none⟩ (.string ⟨#[]⟩) (by simp; omega)
    have hH5 := (uh HH4).set 1 (.string ⟨#[]⟩)
    have hX5 := (uh HX4).other ⟨w2.heap.size, 1, none⟩ (.string ⟨#[]⟩) (by simp; omega)
    have k2 : (w4.setCell ⟨w2.heap.size, 1, none⟩ (.string ⟨#[]⟩)).cell? ⟨b, 2, none⟩ = some (.int .i64 q2) := hI5.cell 2
    have y0 := hH5.cell 0
    have y1 := hH5.cell 1
    have z0 := hX5.cell 0
    have z1 := hX5.cell 1
    have g0 := hX5.free 0
    have g1 := hX5.free 1
    simp only [List.getElem?_cons_zero, List.getElem?_cons_succ, List.set_cons_succ, List.set_cons_zero] at y0 y1 z0 z1
    have hTT5 := hTT4.setFar (a := ⟨w2.heap.size, 1, none⟩) (by simp; omega) (.string ⟨#[]⟩)
    have HI5 := hide hI5
    have hXl5 := hX5.lt
    clear hI4 hI5 hH5 hX5
    have hTT := (hTT5.setFar (a := ⟨w.heap.size, 0, none⟩) (Nat.le_refl _) (.string (bs nm))).setFar (a := ⟨w.heap.size, 1, none⟩) (Nat.le_refl _) (.string ⟨#[]⟩)
    go_wp2_with fail
    exact bodyPost_ret (v := hdA ⟨nm, []⟩) (by simp [results, Tryz.results105, go_sem, z0, z1, bs]) rfl ⟨⟨⟨⟨nm, []⟩, rfl⟩, p2, ((uh HI5).other _ _ (by simp; omega)).other _ _ (by simp; omega)⟩, hTT⟩
  | ok val q2 =>
    obtain ⟨rfl, hI4⟩ := hm4
    have hRR : RR = .ok (⟨nm, val⟩, Lk.put B L ⟨nm, val⟩) q2 := (uh HRR).symm
    subst hRR
    clear HRR
    have hvl := (uh HTL val q2 rfl).2.2
    have hI5 := hI4.other ⟨w2.heap.size, 1, none⟩ (.string (bs val)) (by simp; omega)
    have hH5 := (uh HH4).set 1 (.string (bs val))
    have hX5 := (uh HX4).other ⟨w2.heap.size, 1, none⟩ (.string (bs val)) (by simp; omega)
    have HT5 := hide ((uh HT4).far (H := w2.heap.size) (fun k hk => by have := (uh HVL) k hk; omega) (by omega) 1 (.string (bs val)))
    have k2 : (w4.setCell ⟨w2.heap.size, 1, none⟩ (.string (bs val))).cell? ⟨b, 2, none⟩ = some (.int .i64 (-1)) := hI5.cell 2
    have y0 := hH5.cell 0
    have y1 := hH5.cell 1
    simp only [List.getElem?_cons_zero, List.getElem?_cons_succ, List.set_cons_succ, List.set_cons_zero] at y0 y1
    have hTT5 := hTT4.setFar (a := ⟨w2.heap.size, 1, none⟩) (by simp; omega) (.string (bs val))
    have HI5 := hide hI5
    have HX5 := hide hX5
    have HH5 := hide hH5
    have hs5 : w4.heap.size = (w4.setCell ⟨w2.heap.size, 1, none⟩ (.string (bs val))).heap.size := by simp
    have HC5 := hide (rput_any u B L ⟨nm, val⟩ v _ (uh HT5) (by simp only; omega) (by simp only; omega))
    clear hI4 hI5 hH5 hX5
    go_wp2_with fail
    refine (uh HC5).mono ?_
    rintro e w6 ⟨rfl, ⟨v6, hT6, hN6⟩, hTu6⟩
    have hX6 := (uh HX5).grown hTu6 (by simp; omega)
    have hH6 := (uh HH5).grown hTu6 (by simp; omega)
    have hI6 := Is.grown (uh HI5) hTu6 (by have := uh HN; simp; omega)
    have hTT6 := hTT5.trans (Two.ofU (b := b) hTu6)
    have z0 := hX6.cell 0
    have z1 := hX6.cell 1
    have g0 := hX6.free 0
    have g1 := hX6.free 1
    have j0 := hH6.cell 0
    have j1 := hH6.cell 1
    simp only [List.getElem?_cons_zero, List.getElem?_cons_succ, List.set_cons_succ, List.set_cons_zero] at z0 z1 j0 j1
    have hXl6 := hX6.lt
    have HI6 := hide hI6
    have HT6 := hide hT6
    clear hX6 hH6 hI6 hT6 y0 y1 k2
    have hTT := (hTT6.setFar (a := ⟨w.heap.size, 0, none⟩) (Nat.le_refl _) (.string (bs nm))).setFar (a := ⟨w.heap.size, 1, none⟩) (Nat.le_refl _) (.string (bs val))
    go_wp2_with fail
    refine bodyPost_ret (v := hdA ⟨nm, val⟩) (by simp [results, Tryz.results105, go_sem, z0, z1]) rfl ⟨⟨rfl, Is.other (Is.other (uh HI6) _ _ (by simp; omega)) _ _ (by simp; omega), v6, ?_, .inr (fun k hk => by have := hN6 k hk; omega)⟩, hTT⟩
    have hfar : ∀ k, v6.ownBlock = some k → k ≠ w.heap.size := fun k hk => by have := hN6 k hk; omega
    exact ((uh HT6).far hfar (by omega) 0 _).far hfar (by omega) 1 _
end Go.Proofs.YtbkpdapagfjmmaaGreatDoor
