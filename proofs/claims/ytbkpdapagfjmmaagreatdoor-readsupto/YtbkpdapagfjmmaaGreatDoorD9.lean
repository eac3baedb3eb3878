/-
  Walks: a step of a reader, the second one: a new one in its place.
-/
import Derived.Test.YtbkpdapagfjmmaaGreatDoorD6
namespace Go.Proofs.YtbkpdapagfjmmaaGreatDoor
open Go.RowKit

set_option maxHeartbeats 1000000 in
set_option maxRecDepth 100000 in
theorem reads_new1 (B M gR gS cR cS r0 r1 s0 s1 : Nat) (pv : Value) (a b n : Int) (st tt : ByteArray) (ha : Option Addr) (hl hc : Nat) (w : World) (hBw : B ≤ w.heap.size) (hRig : Rig B M gR gS cR cS pv r0 r1 s0 s1 w) :
    Calls Tryz.prog 28 #[.pointer (some ⟨M, 0, none⟩), .agg #[.int .i64 2, .int .i64 a, .int .i64 b, .string st, .string tt, .int .i64 n, .slice ha hl hc], .int .i64 1] w fun e w' =>
      e = .returned (.bool true) ∧ (∃ r s, Rig B M gR gS cR cS pv r0 r s0 s w') ∧ Below B w w' := by
  obtain ⟨tR, hrR⟩ := hRig.rowR
  obtain ⟨tS, hrS⟩ := hRig.rowS
  obtain ⟨x, y, z, q1, q2, q3⟩ := hRig.p0
  have hBx := Is.new w 33 [.int .i64 2, .int .i64 a, .int .i64 b, .string st, .string tt, .int .i64 n, .slice ha hl hc]
  have hM0 := hRig.made.alloc (.cells #[.int .i64 2, .int .i64 a, .int .i64 b, .string st, .string tt, .int .i64 n, .slice ha hl hc] 33)
  have hrR0 := hrR.alloc (.cells #[.int .i64 2, .int .i64 a, .int .i64 b, .string st, .string tt, .int .i64 n, .slice ha hl hc] 33)
  have hrS0 := hrS.alloc (.cells #[.int .i64 2, .int .i64 a, .int .i64 b, .string st, .string tt, .int .i64 n, .slice ha hl hc] 33)
  have hq1 := q1.alloc (.cells #[.int .i64 2, .int .i64 a, .int .i64 b, .string st, .string tt, .int .i64 n, .slice ha hl hc] 33)
  have hq2 := q2.alloc (.cells #[.int .i64 2, .int .i64 a, .int .i64 b, .string st, .string tt, .int .i64 n, .slice ha hl hc] 33)
  have hBel : Below B w (w.alloc (.cells #[.int .i64 2, .int .i64 a, .int .i64 b, .string st, .string tt, .int .i64 n, .slice ha hl hc] 33)) := (Below.refl _ _).alloc hBw _
  generalize hW : w.alloc (.cells #[.int .i64 2, .int .i64 a, .int .i64 b, .string st, .string tt, .int .i64 n, .slice ha hl hc] 33) = W at *
  have m0 := hM0.cell 0
  have m1 := hM0.cell 1
  have g0 := hrR0.cell 1
  have g0f := hrR0.free 1
  have k0 := hrS0.cell 1
  have k0f := hrS0.free 1
  have n0 := hBx.cell 0
  simp only [List.getElem?_cons_zero, List.getElem?_cons_succ] at m0 m1 g0 k0 n0
  unfold ptr at g0 k0
  have hcR := hRig.cR2
  have hcS := hRig.cS2
  have d1 := hrR0.ne hM0 (Nat.ne_of_beq_eq_false rfl)
  have d2 := hrS0.ne hM0 (Nat.ne_of_beq_eq_false rfl)
  have d3 := hrS0.ne hrR0 (Nat.ne_of_beq_eq_false rfl)
  have d1' := d1.symm
  have d2' := d2.symm
  have d3' := d3.symm
  have l1 := hM0.lt
  have l2 := hrR0.lt
  have l3 := hrS0.lt
  have e1 := hq1.ne hrR0 (Nat.ne_of_beq_eq_false rfl)
  have e2 := hq1.ne hrS0 (Nat.ne_of_beq_eq_false rfl)
  have e3 := hq2.ne hrR0 (Nat.ne_of_beq_eq_false rfl)
  have e4 := hq2.ne hrS0 (Nat.ne_of_beq_eq_false rfl)
  have hfin : ∀ k, Rig B M gR gS cR cS pv r0 W.heap.size s0 (W.heap.size + 1) (((((W.setCell ⟨gR, 1, none⟩ (.pointer (some ⟨W.heap.size, 0, none⟩))).setCell ⟨gS, 1, none⟩ (.pointer (some ⟨W.heap.size + 1, 0, none⟩))).alloc (.cells #[.string ⟨#[]⟩, .int .i64 0, .int .i64 0] 85)).alloc (.cells #[.string ⟨#[]⟩, .int .i64 0] 54)).drewN k) := by
    intro k
    have hsz := hBel.size
    refine ⟨((((hM0.other ⟨gR, 1, none⟩ _ d1').other ⟨gS, 1, none⟩ _ d2').alloc _).alloc _).drewN k, ⟨tR, ((((hrR0.set 1 _).other ⟨gS, 1, none⟩ _ d3').alloc _).alloc _).drewN k⟩, ⟨tS, ((((hrS0.other ⟨gR, 1, none⟩ _ d3).set 1 _).alloc _).alloc _).drewN k⟩, ⟨x, y, z, ((((hq1.other ⟨gR, 1, none⟩ _ e1).other ⟨gS, 1, none⟩ _ e2).alloc _).alloc _).drewN k, ((((hq2.other ⟨gR, 1, none⟩ _ e3).other ⟨gS, 1, none⟩ _ e4).alloc _).alloc _).drewN k, q3⟩, ?_, ?_, ?_, hRig.hM, hRig.hR, hRig.hS, hRig.h0, by omega, hRig.cR2, hRig.cS2⟩
    · refine ⟨⟨#[]⟩, ⟨#[]⟩, 0, ?_, ?_, fun _ => ⟨rfl, Nat.zero_le 72⟩⟩
      · have a1 := (Is.new ((W.setCell ⟨gR, 1, none⟩ (.pointer (some ⟨W.heap.size, 0, none⟩))).setCell ⟨gS, 1, none⟩ (.pointer (some ⟨W.heap.size + 1, 0, none⟩))) 85 [.string ⟨#[]⟩, .int .i64 0, .int .i64 0]).alloc (.cells #[.string ⟨#[]⟩, .int .i64 0] 54)
        rw [World.size_setCell, World.size_setCell] at a1
        exact a1.drewN k
      · have a1 := Is.new (((W.setCell ⟨gR, 1, none⟩ (.pointer (some ⟨W.heap.size, 0, none⟩))).setCell ⟨gS, 1, none⟩ (.pointer (some ⟨W.heap.size + 1, 0, none⟩))).alloc (.cells #[.string ⟨#[]⟩, .int .i64 0, .int .i64 0] 85)) 54 [.string ⟨#[]⟩, .int .i64 0]
        rw [World.size_alloc, World.size_setCell, World.size_setCell] at a1
        exact a1.drewN k
    · have := hq1.lt; omega
    · have := hq2.lt; omega
  have hbel : ∀ k, Below B w (((((W.setCell ⟨gR, 1, none⟩ (.pointer (some ⟨W.heap.size, 0, none⟩))).setCell ⟨gS, 1, none⟩ (.pointer (some ⟨W.heap.size + 1, 0, none⟩))).alloc (.cells #[.string ⟨#[]⟩, .int .i64 0, .int .i64 0] 85)).alloc (.cells #[.string ⟨#[]⟩, .int .i64 0] 54)).drewN k) := by
    intro k
    have hsz := hBel.size
    exact Below.drewN ((((hBel.setCell (p := ⟨gR, 1, none⟩) hRig.hR _).setCell (p := ⟨gS, 1, none⟩) hRig.hS _).alloc (by simp; omega) _).alloc (by simp; omega) _) k
  have HFIN := hide hfin
  have HBEL := hide hbel
  clear hfin hbel hM0 hrR0 hrS0 hq1 hq2 hBx q1 q2 q3 hrR hrS hBel hRig e1 e2 e3 e4
  go_enter Tryz.func28, Tryz.ntmps28
  go_wp2_with fail
  go_region_held (fun w' => w'.cell? ⟨M, 0, none⟩ = some (.slice (some ⟨gR, 0, none⟩) 2 cR))
    (go_keep)
    (first | (go_at_call 51; refine (newReader_any _).mono ?_; rintro e w1 ⟨rfl, rfl⟩))
  all_goals go_wp2_with fail
  all_goals go_ret
  all_goals exact ⟨rfl, ⟨_, _, unhide HFIN 1⟩, unhide HBEL 1⟩

end Go.Proofs.YtbkpdapagfjmmaaGreatDoor
