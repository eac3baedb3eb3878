/-
  Walks: what is asked of a kind, a stream, a length (both sides).
-/
import Derived.Test.YtbkpdapagfjmmaaGreatDoorProg
import Derived.Test.YtbkpdapagfjmmaaGreatDoorSpec
import Derived.Test.YtbkpdapagfjmmaaGreatDoorW0
namespace Go.Proofs.YtbkpdapagfjmmaaGreatDoor
open Go.RowKit

set_option maxHeartbeats 400000 in
theorem streamFits_any (k s : Int) (w : World) :
    Calls Tryz.prog 85 #[.int .i64 k, .int .i64 s] w fun e w' => e = .returned (.bool (Lk.streamFits k s)) ∧ w' = w := by
  go_enter Tryz.func85, Tryz.ntmps85
  go_wp2
  all_goals go_ret
  all_goals refine ⟨ret_bool ?_, rfl⟩
  all_goals unfold Lk.streamFits
  all_goals (repeat' split) <;> first | rfl | omega | (simp_all; done) | (exfalso; simp_all; omega)

set_option maxHeartbeats 400000 in
theorem lengthFits_any (k n : Int) (w : World) :
    Calls Tryz.prog 86 #[.int .i64 k, .int .i64 n] w fun e w' => e = .returned (.bool (Lk.lengthFits k n)) ∧ w' = w := by
  go_enter Tryz.func86, Tryz.ntmps86
  go_wp2
  all_goals go_ret
  all_goals refine ⟨ret_bool ?_, rfl⟩
  all_goals unfold Lk.lengthFits
  all_goals (repeat' split) <;> first | rfl | omega | (simp_all; done) | (exfalso; simp_all; omega) | (simp_all; omega)

set_option maxHeartbeats 400000 in
theorem askKind_any (k : Int) (w : World) :
    Calls Tryz.prog 132 #[.int .i64 k] w fun e w' => e = .returned (.int .i64 (Lk.kindErr k)) ∧ w' = w := by
  go_enter Tryz.func132, Tryz.ntmps132
  go_wp2
  all_goals go_ret
  all_goals refine ⟨ret_int ?_, rfl⟩
  all_goals unfold Lk.kindErr
  all_goals first | (rw [if_pos (by omega)]; done) | (rw [if_neg (by omega)]; done)

theorem kinds8 {k : Int} (h0 : 0 ≤ k) (h7 : k ≤ 7) : k = 0 ∨ k = 1 ∨ k = 2 ∨ k = 3 ∨ k = 4 ∨ k = 5 ∨ k = 6 ∨ k = 7 := by omega

def wantOf (k : Int) : Int × Int × Int × Int :=
  if k = 0 then (1, 268435455, 0, 64) else if k = 1 then (1, 268435455, 1, 16) else if k = 2 then (1, 268435455, 0, 16) else if k = 3 then (1, 268435455, 1, 4)
  else if k = 4 then (0, 268435455, 1, 4) else if k = 5 then (0, 0, 8, 8) else if k = 6 then (0, 0, 8, 8) else (0, 0, 1, 4)

set_option maxHeartbeats 400000 in
theorem wantOf_any (k : Int) (h0 : 0 ≤ k) (h7 : k ≤ 7) (w : World) :
    Calls Tryz.prog 173 #[.int .i64 k] w fun e w' => e = .returned (.agg #[.int .i64 (wantOf k).1, .int .i64 (wantOf k).2.1, .int .i64 (wantOf k).2.2.1, .int .i64 (wantOf k).2.2.2]) ∧ Below w.heap.size w w' := by
  rcases kinds8 h0 h7 with rfl | rfl | rfl | rfl | rfl | rfl | rfl | rfl
  all_goals
    rw [wantOf]
    go_enter Tryz.func173, Tryz.ntmps173
    go_wp2
    refine bodyPost_ret (v := _) (by simp [results, Tryz.results173, go_sem]) rfl ⟨rfl, ?_⟩
    ((repeat' (first | exact Below.refl _ _ | assumption | apply Below.drew | apply Below.alloc | apply Below.setCell)) <;> (simp <;> omega))

def IsWant (k a b x y : Int) : Prop := wantOf k = (a, b, x, y)

theorem wantOf_is (k : Int) (h0 : 0 ≤ k) (h7 : k ≤ 7) (w : World) :
    Calls Tryz.prog 173 #[.int .i64 k] w fun e w' => ∃ a b x y, e = .returned (.agg #[.int .i64 a, .int .i64 b, .int .i64 x, .int .i64 y]) ∧ IsWant k a b x y ∧ Below w.heap.size w w' := by
  refine (wantOf_any k h0 h7 w).mono ?_
  rintro e w' ⟨rfl, hb⟩
  exact ⟨_, _, _, _, rfl, rfl, hb⟩

end Go.Proofs.YtbkpdapagfjmmaaGreatDoor
