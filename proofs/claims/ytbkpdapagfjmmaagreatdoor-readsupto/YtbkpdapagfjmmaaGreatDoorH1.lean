/-
  Walks: a span.
-/
import Derived.Test.YtbkpdapagfjmmaaGreatDoorProg
import Derived.Test.YtbkpdapagfjmmaaGreatDoorW0
namespace Go.Proofs.YtbkpdapagfjmmaaGreatDoor
open Go.RowKit

theorem holds_any (a b n : Int) (w : World) :
    Calls Tryz.prog 128 #[.agg #[.int .i64 a, .int .i64 b], .int .i64 n] w fun e w' => e = .returned (.bool (decide (a ≤ n ∧ n ≤ b))) ∧ Below w.heap.size w w' := by
  go_enter Tryz.func128, Tryz.ntmps128
  go_wp2
  all_goals go_ret
  all_goals refine ⟨ret_bool ?_, ?_⟩
  all_goals first | ((repeat' (first | exact Below.refl _ _ | assumption | apply Below.drew | apply Below.alloc | apply Below.setCell)) <;> (simp <;> omega)) | (simp_all; done)

end Go.Proofs.YtbkpdapagfjmmaaGreatDoor
