/-
  The statement Returned: its walk.
-/
import Derived.Test.YtbkpdapagfjmmaaGreatDoorR5
import Derived.Test.YtbkpdapagfjmmaaGreatDoorW9
import Derived.Test.YtbkpdapagfjmmaaGreatDoorSpec3
namespace Go.Proofs.YtbkpdapagfjmmaaGreatDoor
open Go.RowKit

theorem num_any (e : Int) (w : World) : Calls Tryz.prog 18 #[.int .i64 e] w fun r w' => r = .returned (.int .i64 e) ∧ w' = w := by
  go_enter Tryz.func18, Tryz.ntmps18
  go_wp2
  go_ret
  exact ⟨rfl, rfl⟩

theorem newReader_any (w : World) : Calls Tryz.prog 51 #[] w fun r w' => r = .returned (.pointer (some ⟨w.heap.size, 0, none⟩)) ∧ w' = w.alloc (.cells #[.string ⟨#[]⟩, .int .i64 0, .int .i64 0] 85) := by
  go_enter Tryz.func51, Tryz.ntmps51
  go_wp2
  go_ret
  exact ⟨rfl, rfl⟩

theorem bounded_any (c : Int) (h : Nat) (w : World) (hh : h ≤ 2 ^ 40) (_h1 : -9223372036854775808 ≤ c) (_h2 : c ≤ 9223372036854775807) :
    Calls Tryz.prog 11 #[.int .i64 c, .int .i64 h] w fun r w' => (∃ n : Nat, n ≤ h ∧ r = .returned (.int .i64 n)) ∧ w' = w := by
  have b1 : c.tmod (h + 1) < h + 1 := Int.tmod_lt_of_pos _ (by omega)
  have b2 : -(h + 1 : Int) < c.tmod (h + 1) := by
    have e1 := Int.neg_tmod c (h + 1)
    have e2 := Int.tmod_lt_of_pos (-c) (show (0 : Int) < h + 1 by omega)
    omega
  by_cases h0 : c.tmod (h + 1) < 0
  · go_enter Tryz.func11, Tryz.ntmps11
    go_wp2
    go_ret
    exact ⟨⟨(c.tmod (h + 1) + h + 1).toNat, by omega, ret_int (by omega)⟩, rfl⟩
  · go_enter Tryz.func11, Tryz.ntmps11
    go_wp2
    go_ret
    exact ⟨⟨(c.tmod (h + 1)).toNat, by omega, ret_int (by omega)⟩, rfl⟩

theorem packErr_ne {k st : Int} {l : Lk.Bs} (h : Lk.packErr k st l ≠ 0) : k < 0 ∨ (0 ≤ k ∧ 7 < k) ∨ (0 ≤ k ∧ k ≤ 7 ∧ st < 0) ∨ (0 ≤ k ∧ k ≤ 7 ∧ 0 ≤ st ∧ 268435455 < st) ∨ (0 ≤ k ∧ k ≤ 7 ∧ 0 ≤ st ∧ st ≤ 268435455 ∧ 64 < l.length)
    ∨ (0 ≤ k ∧ k ≤ 7 ∧ 0 ≤ st ∧ st ≤ 268435455 ∧ l.length ≤ 64 ∧ k ≠ 0) ∨ (k = 0 ∧ st = 0 ∧ l.length ≤ 64) := by
  by_cases h1 : k = 0 ∧ 0 < st ∧ st ≤ 268435455 ∧ l.length ≤ 64
  · obtain ⟨rfl, h2, h3, h4⟩ := h1
    exfalso
    apply h
    unfold Lk.packErr
    rw [if_neg (by omega), if_neg (by omega), if_neg (by simp [Lk.streamFits]; omega), if_neg (by omega), if_neg (by simp [Lk.lengthFits]), if_neg (by simp [Lk.payloadFits])]
  · omega

end Go.Proofs.YtbkpdapagfjmmaaGreatDoor
