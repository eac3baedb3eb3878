/-
  Walks: a step of a reader, the second one: bytes come.
-/
import Derived.Test.YtbkpdapagfjmmaaGreatDoorD6
namespace Go.Proofs.YtbkpdapagfjmmaaGreatDoor
open Go.RowKit

set_option maxHeartbeats 1000000 in
set_option maxRecDepth 100000 in
theorem reads_read1 (B M gR gS cR cS r0 r1 s0 s1 : Nat) (pv : Value) (a b n : Int) (st tt : ByteArray) (ha : Option Addr) (hl hc : Nat) (w : World) (hBw : B ≤ w.heap.size) (hst : st.size ≤ 2 ^ 39) (hRig : Rig B M gR gS cR cS pv r0 r1 s0 s1 w) :
    Calls Tryz.prog 28 #[.pointer (some ⟨M, 0, none⟩), .agg #[.int .i64 3, .int .i64 a, .int .i64 b, .string st, .string tt, .int .i64 n, .slice ha hl hc], .int .i64 1] w fun e w' =>
      e = .returned (.bool true) ∧ Rig B M gR gS cR cS pv r0 r1 s0 s1 w' ∧ Below B w w' := by
  obtain ⟨t, R, f, hI, hJ, hf⟩ := hRig.p1
  obtain ⟨tR, hrR⟩ := hRig.rowR
  obtain ⟨tS, hrS⟩ := hRig.rowS
  have hBx := Is.new w 33 [.int .i64 3, .int .i64 a, .int .i64 b, .string st, .string tt, .int .i64 n, .slice ha hl hc]
  have hg0 := World.grownBy_alloc w (.cells #[.int .i64 3, .int .i64 a, .int .i64 b, .string st, .string tt, .int .i64 n, .slice ha hl hc] 33) none
  have hI0 := hI.grown hg0 (by simp)
  have hJ0 := hJ.grown hg0 (by simp)
  have hM0 := hRig.made.grown hg0 (by simp)
  have hrR0 := hrR.grown hg0 (by simp)
  have hrS0 := hrS.grown hg0 (by simp)
  generalize hW : w.alloc (.cells #[.int .i64 3, .int .i64 a, .int .i64 b, .string st, .string tt, .int .i64 n, .slice ha hl hc] 33) = W at *
  have m0 := hM0.cell 0
  have g0 := hrR0.cell 1
  have n0 := hBx.cell 0
  have n3 := hBx.cell 3
  simp only [List.getElem?_cons_zero, List.getElem?_cons_succ] at m0 g0 n0 n3
  have hcR := hRig.cR2
  have hcS := hRig.cS2
  have d1 := hM0.ne hI0 (Nat.ne_of_beq_eq_false rfl)
  have d2 := hrR0.ne hI0 (Nat.ne_of_beq_eq_false rfl)
  have d3 := hBx.ne hI0 (Nat.ne_of_beq_eq_false rfl)
  unfold ptr at g0
  have HF := hide hf
  clear hf hI hJ hrR hrS hg0
  go_enter Tryz.func28, Tryz.ntmps28
  go_wp2_with fail
  go_cut [7, 8] (fun s7 s8 w1 => s8 = .int .i64 (Lk.fedErr t.data.toList f st.data.toList) ∧ w1.ownsRow W.heap.size 79 3 s7 (Lk.fedFrames t.data.toList f st.data.toList).length (framesV (Lk.fedFrames t.data.toList f st.data.toList))
    ∧ (∃ t' : ByteArray, Is w1 r1 85 [.string t', .int .i64 0, .int .i64 (Lk.fedErr t.data.toList f st.data.toList)] ∧ (Lk.fedErr t.data.toList f st.data.toList = 0 → t'.data.toList = Lk.fedRest t.data.toList f st.data.toList ∧ t'.size ≤ 72))
    ∧ Turns r1 W w1)
  case first =>
    go_region_held (fun w' => w'.cell? ⟨M, 0, none⟩ = some (.slice (some ⟨gR, 0, none⟩) 2 cR) ∧ w'.cell? ⟨gR, 1, none⟩ = some (.pointer (some ⟨r1, 0, none⟩)) ∧ w'.cell? ⟨w.heap.size, 3, none⟩ = some (.string st))
      (first | exact ⟨m0, g0, n3⟩ | exact ⟨turnedD m0 hT1 d1, turnedD g0 hT1 d2, turnedD n3 hT1 d3⟩ | assumption)
      (first | (go_at_call 48; refine (feed_any r1 t st f _ (fun h => (unhide HF h).2) hst hI0.drew).mono ?_; rintro e w1 ⟨v1, rfl, ho1, hI1, hT1⟩))
    all_goals (go_wp2_with fail; go_meet; exact ⟨rfl, ho1, hI1, hT1.undrew⟩)
  case rest =>
    obtain ⟨rfl, ho1, ⟨t1, hI1, ht1⟩, hT1⟩ := hcut
    obtain ⟨w1, hw1⟩ : ∃ w1, w1 = wc := ⟨_, rfl⟩
    subst hw1
    have hM1 := hM0.grown hT1 (by simpa using d1)
    have hrR1 := hrR0.grown hT1 (by simpa using d2)
    have hBx1 := hBx.grown hT1 (by simpa using d3)
    have e1 := hJ0.ne hI0 (Nat.ne_of_beq_eq_false rfl)
    have e2 := hrS0.ne hI0 (Nat.ne_of_beq_eq_false rfl)
    have hJ1 := hJ0.grown hT1 (by simpa using e1)
    have hrS1 := hrS0.grown hT1 (by simpa using e2)
    have hlt1 := hI0.lt
    clear m0 g0 n0 n3 d1 d2 d3 e1 e2
    have m1 := hM1.cell 1
    have g1 := hrS1.cell 1
    have n3 := hBx1.cell 3
    simp only [List.getElem?_cons_zero, List.getElem?_cons_succ] at m1 g1 n3
    unfold ptr at g1
    have d1 := hM1.ne hJ1 (Nat.ne_of_beq_eq_false rfl)
    have d2 := hrS1.ne hJ1 (Nat.ne_of_beq_eq_false rfl)
    have d3 := hBx1.ne hJ1 (Nat.ne_of_beq_eq_false rfl)
    go_wp2_with fail
    go_cut [9, 10] (fun s9 s10 w2 => s10 = .int .i64 (Lk.fedErr t.data.toList f st.data.toList) ∧ w2.ownsRow w1.heap.size 66 3 s9 (Lk.fedFrames t.data.toList f st.data.toList).length (framesV (Lk.fedFrames t.data.toList f st.data.toList))
      ∧ (∃ R' : ByteArray, Is w2 s1 54 [.string R', .int .i64 (Lk.fedErr t.data.toList f st.data.toList)] ∧ (Lk.fedErr t.data.toList f st.data.toList = 0 → R'.data.toList = Lk.fedRest t.data.toList f st.data.toList))
      ∧ Turns s1 w1 w2)
    case first =>
      go_region_held (fun w' => w'.cell? ⟨M, 1, none⟩ = some (.slice (some ⟨gS, 0, none⟩) 2 cS) ∧ w'.cell? ⟨gS, 1, none⟩ = some (.pointer (some ⟨s1, 0, none⟩)) ∧ w'.cell? ⟨w.heap.size, 3, none⟩ = some (.string st))
        (first | exact ⟨m1, g1, n3⟩ | exact ⟨turnedD m1 hT2 d1, turnedD g1 hT2 d2, turnedD n3 hT2 d3⟩ | assumption)
        (first | (go_at_call 21; refine (refFeed_any s1 R st t.data.toList f _ (fun h => ⟨(unhide HF h).1, (size_list t) ▸ (unhide HF h).2⟩) hst hJ1.drew).mono ?_; rintro e w2 ⟨v2, rfl, ho2, hI2, hT2⟩))
      all_goals (go_wp2_with fail; go_meet; exact ⟨rfl, ho2, hI2, hT2.undrew⟩)
    case rest =>
      obtain ⟨rfl, ho2, ⟨R2, hJ2, hR2⟩, hT2⟩ := hcut
      have hM2 := hM1.grown hT2 (by simpa using d1)
      have hrS2 := hrS1.grown hT2 (by simpa using d2)
      have e1 := hI1.ne hJ1 (Nat.ne_of_beq_eq_false rfl)
      have e2 := hrR1.ne hJ1 (Nat.ne_of_beq_eq_false rfl)
      have hI2 := hI1.grown hT2 (by simpa using e1)
      have hrR2 := hrR1.grown hT2 (by simpa using e2)
      have ho12 := kept_turns ho1 hJ0.lt hT2
      have hlen := feed_err_frames t.data.toList f st (fun h => (size_list t) ▸ (unhide HF h).2) hst
      have hp1 : Pairs wc r0 s0 := by
        obtain ⟨x, y, z, q1, q2, q3⟩ := hRig.p0
        have q1' := q1.alloc (.cells #[.int .i64 3, .int .i64 a, .int .i64 b, .string st, .string tt, .int .i64 n, .slice ha hl hc] 33)
        have q2' := q2.alloc (.cells #[.int .i64 3, .int .i64 a, .int .i64 b, .string st, .string tt, .int .i64 n, .slice ha hl hc] 33)
        rw [hW] at q1' q2'
        have a1 := q2'.ne hI0 (Nat.ne_of_beq_eq_false rfl)
        have q1'' := q1'.grown hT1 (by simpa using hRig.ner)
        have q2'' := q2'.grown hT1 (by simpa using a1)
        have a2 := q1''.ne hJ1 (Nat.ne_of_beq_eq_false rfl)
        exact ⟨x, y, z, q1''.grown hT2 (by simpa using a2), q2''.grown hT2 (by simpa using hRig.nes), q3⟩
      have hbel : Below B w wc := by
        have b1 : Below B w W := by rw [← hW]; exact (Below.refl _ _).alloc hBw _
        have b2 := hT1.toBelow b1 hRig.h1.1 (by have := b1.size; omega)
        exact hT2.toBelow b2 hRig.h1.2 (by have := b2.size; omega)
      have hfin : ∀ k, Rig B M gR gS cR cS pv r0 r1 s0 s1 (wc.drewN k) := fun k =>
        ⟨hM2.drewN k, ⟨tR, hrR2.drewN k⟩, ⟨tS, hrS2.drewN k⟩, (by
          obtain ⟨x, y, z, q1, q2, q3⟩ := hp1
          exact ⟨x, y, z, q1.drewN k, q2.drewN k, q3⟩), ⟨t1, R2, _, hI2.drewN k, hJ2.drewN k, fun h => ⟨(hR2 h).trans (ht1 h).1.symm, (ht1 h).2⟩⟩, hRig.ner, hRig.nes, hRig.hM, hRig.hR, hRig.hS, hRig.h0, hRig.h1, hRig.cR2, hRig.cS2⟩
      have HFIN := hide hfin
      have HBEL := hide hbel
      generalize Lk.fedFrames t.data.toList f st.data.toList = fs at *
      generalize Lk.fedErr t.data.toList f st.data.toList = er at *
      clear hfin hbel hp1 hM2 hrS2 e1 e2 hI2 hrR2 hJ2 hT2 hT1 hI1 hM1 hrR1 hBx1 hJ1 hrS1 ho1 m1 g1 n3 d1 d2 d3 hM0 hrR0 hrS0 hBx hI0 hJ0 hRig hR2 ht1 HF hW
      go_wp2_with fail
      refine (same_any wc fs _ _ _ _ hlen ho12 ho2).mono ?_
      rintro e w3 ⟨rfl, n3, rfl⟩
      go_wp2_with (go_at_call 18; refine (num_any er _).mono ?_; rintro e w4 ⟨rfl, rfl⟩)
      go_ret
      exact ⟨rfl, unhide HFIN _, Below.drewN (unhide HBEL) _⟩

end Go.Proofs.YtbkpdapagfjmmaaGreatDoor
