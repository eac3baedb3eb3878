import Derived.Test.YtbkpdapagfjmmaaGreatDoorMFQ
import Derived.Test.YtbkpdapagfjmmaaGreatDoorMU2PW
/-
  Walks: what is heard of an end that is fed piece by piece.
-/
namespace Go.Proofs.YtbkpdapagfjmmaaGreatDoor
open Go.RowKit

theorem side_one (b : Int) : ∃ k : Nat, k ≤ 1 ∧ bits .and .i64 b 1 = (k : Int) := by
  have h : ∀ x : BitVec 64, (x &&& 1#64).toNat = 0 ∨ (x &&& 1#64).toNat = 1 := by
    intro x
    rw [BitVec.toNat_and]
    have : (1#64).toNat = 2 ^ 1 - 1 := rfl
    rw [this, Nat.and_two_pow_sub_one_eq_mod]
    omega
  have e : bits .and .i64 b 1 = IntKind.i64.wrap (((BitVec.ofInt 64 b) &&& 1#64).toNat : Int) := rfl
  rw [e]
  rcases h (BitVec.ofInt 64 b) with h | h <;> rw [h]
  · exact ⟨0, by omega, rfl⟩
  · exact ⟨1, by omega, rfl⟩
/-- A number from 0 to 199, made of any. -/
def bndN (c : Int) : Nat := (if c.tmod 200 < 0 then c.tmod 200 + 199 + 1 else c.tmod 200).toNat
theorem bndN_le (c : Int) : bndN c ≤ 199 := by
  have b1 : c.tmod 200 < 200 := Int.tmod_lt_of_pos _ (by omega)
  unfold bndN
  split <;> omega
theorem bounded199 (c : Int) (w : World) (_h1 : -9223372036854775808 ≤ c) (_h2 : c ≤ 9223372036854775807) :
    Calls Tryz.prog 11 #[.int .i64 c, .int .i64 199] w fun r w' => r = .returned (.int .i64 (bndN c : Int)) ∧ w' = w := by
  have b1 : c.tmod 200 < 200 := Int.tmod_lt_of_pos _ (by omega)
  have b2 : -(200 : Int) < c.tmod 200 := by
    have e1 := Int.neg_tmod c 200
    have e2 := Int.tmod_lt_of_pos (-c) (show (0 : Int) < 200 by omega)
    omega
  unfold bndN
  by_cases h0 : c.tmod 200 < 0
  · rw [if_pos h0]
    go_enter Tryz.func11, Tryz.ntmps11
    go_wp2
    go_ret
    exact ⟨ret_int (by omega), rfl⟩
  · rw [if_neg h0]
    go_enter Tryz.func11, Tryz.ntmps11
    go_wp2
    go_ret
    exact ⟨ret_int (by omega), rfl⟩

/-- What heard answers. -/
def HrPost (w : World) (E0 : Lk.En) (L : Lk.Bs) (r : Ending) (w' : World) : Prop :=
  ∃ v evs, r = .returned (.tuple #[.agg #[v, .int .i64 ((E0.feed L).2.down : Int)], .string (bs (Lk.En.drain 100000 (E0.feed L).2).1)]) ∧ evs.map Prod.fst = (E0.feed L).1
    ∧ w'.ownsRow w.heap.size 116 5 v evs.length (evsV evs) ∧ (∀ p ∈ evs, w'.ownsRow w.heap.size 112 2 p.2 p.1.hs.length (hdsV p.1.hs)) ∧ Below w.heap.size w w'

end Go.Proofs.YtbkpdapagfjmmaaGreatDoor
