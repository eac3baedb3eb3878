/-
  Walks: what the reader keeps.
-/
import Derived.Test.YtbkpdapagfjmmaaGreatDoorR2
namespace Go.Proofs.YtbkpdapagfjmmaaGreatDoor
open Go.RowKit

theorem Turns.setNew {b : Nat} {w w1 : World} (h : Turns b w w1) {a : Addr} (ha : w.heap.size ≤ a.block) (v : Value) : Turns b w (w1.setCell a v) :=
  ⟨h.os, h.tape, h.output, by simpa using h.size, fun k hk hn => (heap_setCell_other _ _ _ _ (by omega)).trans (h.block k hk hn)⟩

set_option maxHeartbeats 400000 in
theorem keep_ok {T : TypeId} {more : List Value} (b : Nat) (s : ByteArray) (p q : Nat) (f : Int) (w : World) (_hs : s.size ≤ maxLen) (hq : q ≤ s.size) (hr : s.size - q ≤ 1000)
    (hI : Is w b T (.string s :: .int .i64 p :: .int .i64 f :: more)) :
    Calls Tryz.prog 89 #[.pointer (some ⟨b, 0, none⟩), .int .i64 q, .int .i64 0] w fun e w' =>
      e = .returned (.tuple #[]) ∧ Is w' b T (.string (s.extract q s.size) :: .int .i64 0 :: .int .i64 0 :: more) ∧ Turns b w w' := by
  unfold maxLen at _hs
  have HC := hide (fun w => clone_any (s.extract q s.size) w (by rw [ByteArray.size_extract]; omega))
  have c0 : w.cell? ⟨b, 0, none⟩ = some (.string s) := hI.cell 0
  have hq' : (q : Int) ≤ s.size := by omega
  go_enter Tryz.func89, Tryz.ntmps89
  go_wp2_with fail
  refine (unhide HC _).mono ?_
  rintro e w1 ⟨rfl, hb⟩
  have hI1 := hI.below hb hI.lt
  have hT1 := (Turns.refl b w).below hb
  have d0 := hI1.cell 0
  have d1 := hI1.cell 1
  have d2 := hI1.cell 2
  have f0 := hI1.free 0
  have f1 := hI1.free 1
  have f2 := hI1.free 2
  simp only [List.getElem?_cons_zero, List.getElem?_cons_succ] at d0 d1 d2
  clear hb hI c0
  go_wp2_with fail
  go_end0
  exact ⟨rfl, ((hI1.set 0 _).set 1 _).set 2 _, ((hT1.set 0 _).set 1 _).set 2 _⟩

set_option maxHeartbeats 400000 in
theorem keep_bad {T : TypeId} {more : List Value} (b : Nat) (s : ByteArray) (p q : Nat) (f e0 : Int) (w : World) (he : e0 ≠ 0)
    (hI : Is w b T (.string s :: .int .i64 p :: .int .i64 f :: more)) :
    Calls Tryz.prog 89 #[.pointer (some ⟨b, 0, none⟩), .int .i64 q, .int .i64 e0] w fun e w' =>
      e = .returned (.tuple #[]) ∧ Is w' b T (.string ⟨#[]⟩ :: .int .i64 0 :: .int .i64 e0 :: more) ∧ Turns b w w' := by
  have he' : (e0 == 0) = false := by simpa using he
  have d0 := hI.cell 0
  have d1 := hI.cell 1
  have d2 := hI.cell 2
  have f0 := hI.free 0
  have f1 := hI.free 1
  have f2 := hI.free 2
  simp only [List.getElem?_cons_zero, List.getElem?_cons_succ] at d0 d1 d2
  clear he
  go_enter Tryz.func89, Tryz.ntmps89
  go_wp2_with fail
  go_end0
  exact ⟨rfl, ((hI.set 0 _).set 1 _).set 2 _, (((Turns.refl _ _).set 0 _).set 1 _).set 2 _⟩

end Go.Proofs.YtbkpdapagfjmmaaGreatDoor
