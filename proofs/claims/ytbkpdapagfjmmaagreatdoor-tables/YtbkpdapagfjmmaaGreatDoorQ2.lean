/-
  Walks: the same headers; a number from 0 to 200.
-/
import Derived.Test.YtbkpdapagfjmmaaGreatDoorS3
namespace Go.Proofs.YtbkpdapagfjmmaaGreatDoor
open Go.RowKit

theorem num4 (e : Int) (w : World) : Calls Tryz.prog 18 #[.int .i64 e] w fun r w' => r = .returned (.int .i64 e) ∧ w' = w := by
  go_enter Tryz.func18, Tryz.ntmps18
  go_wp2
  go_ret
  exact ⟨rfl, rfl⟩

theorem bounded4 (c : Int) (w : World) : Calls Tryz.prog 11 #[.int .i64 c, .int .i64 200] w fun r w' => (∃ n : Nat, n ≤ 200 ∧ r = .returned (.int .i64 n)) ∧ w' = w := by
  have b1 : c.tmod 201 < 201 := Int.tmod_lt_of_pos _ (by omega)
  have b2 : -201 < c.tmod 201 := by
    have e1 := Int.neg_tmod c 201
    have e2 := Int.tmod_lt_of_pos (-c) (show (0 : Int) < 201 by omega)
    omega
  by_cases h0 : c.tmod 201 < 0
  · go_enter Tryz.func11, Tryz.ntmps11
    go_wp2
    go_ret
    exact ⟨⟨(c.tmod 201 + 201).toNat, by omega, ret_int (by omega)⟩, rfl⟩
  · go_enter Tryz.func11, Tryz.ntmps11
    go_wp2
    go_ret
    exact ⟨⟨(c.tmod 201).toNat, by omega, ret_int (by omega)⟩, rfl⟩

set_option maxHeartbeats 2000000 in
set_option maxRecDepth 100000 in
theorem sameHeaders_some (Ba Bb ga gb ca cb : Nat) (l : List Lk.Hd) (w : World) (hl : l.length ≤ 1000) (owa : w.ownsRow Ba 112 2 (.slice (some ⟨ga, 0, none⟩) l.length ca) l.length (hdsV l)) (owb : w.ownsRow Bb 206 2 (.slice (some ⟨gb, 0, none⟩) l.length cb) l.length (hdsV l)) :
    Calls Tryz.prog 64 #[.slice (some ⟨ga, 0, none⟩) l.length ca, .slice (some ⟨gb, 0, none⟩) l.length cb] w fun e w' => e = .returned (.bool true) ∧ ∃ n, w' = w.drewN n := by
  have HA := hide owa
  have HB := hide owb
  clear owa owb
  go_enter Tryz.func64, Tryz.ntmps64
  go_wp2_with fail
  go_loopw [5] (fun u wr => ∃ k : Nat, u = .int .i64 k ∧ k ≤ l.length ∧ ∃ n, wr = w.drewN n) (fun u _ => l.length - (intOf u).toNat)
  case atStart => exact ⟨0, rfl, by omega, 0, rfl⟩
  case round =>
    obtain ⟨k, rfl, hk, nd, rfl⟩ := hrel
    by_cases hlt : k < l.length
    · have hlt' : (k : Int) < l.length := by omega
      obtain ⟨x, hx⟩ : ∃ x, l[k]? = some x := ⟨_, List.getElem?_eq_getElem hlt⟩
      obtain ⟨_, a0, a1⟩ := row_at2 (unhide HA) hx
      obtain ⟨_, b0, b1⟩ := row_at2 (unhide HB) hx
      clear hx
      go_wp2_with fail
      go_quiet (fail)
      go_wp2_with fail
      go_roundw
      case rel => exact ⟨k + 1, by simp, by omega, _, rfl⟩
      case measure => simp [intOf]; omega
    · have hlt' : ¬ (k : Int) < l.length := by omega
      go_wp2_with fail
      go_ret
      exact ⟨rfl, nd, rfl⟩

set_option maxHeartbeats 1000000 in
set_option maxRecDepth 100000 in
theorem sameHeaders_zero (a b : Option Addr) (ca cb : Nat) (w : World) : Calls Tryz.prog 64 #[.slice a 0 ca, .slice b 0 cb] w fun e w' => e = .returned (.bool true) ∧ ∃ n, w' = w.drewN n := by
  go_enter Tryz.func64, Tryz.ntmps64
  go_wp2_with fail
  refine wp_loop_rounds 1 ?_
  rw [rounds_succ]
  go_wp2_with fail
  go_ret
  exact ⟨rfl, 0, rfl⟩

theorem sameHeaders_any (Ba Bb : Nat) (va vb : Value) (l : List Lk.Hd) (w : World) (hl : l.length ≤ 1000) (owa : w.ownsRow Ba 112 2 va l.length (hdsV l)) (owb : w.ownsRow Bb 206 2 vb l.length (hdsV l)) :
    Calls Tryz.prog 64 #[va, vb] w fun e w' => e = .returned (.bool true) ∧ ∃ n, w' = w.drewN n := by
  rcases owned_hds owa with ⟨hl0, rfl⟩ | ⟨ga, ca, rfl, _⟩
  · rcases owned_hds owb with ⟨_, rfl⟩ | ⟨gb, cb, rfl, _⟩
    · exact sameHeaders_zero _ _ _ _ w
    · subst hl0
      exact sameHeaders_zero _ _ _ _ w
  · rcases owned_hds owb with ⟨hl0, rfl⟩ | ⟨gb, cb, rfl, _⟩
    · subst hl0
      exact sameHeaders_zero _ _ _ _ w
    · exact sameHeaders_some Ba Bb ga gb ca cb l w hl owa owb
end Go.Proofs.YtbkpdapagfjmmaaGreatDoor
