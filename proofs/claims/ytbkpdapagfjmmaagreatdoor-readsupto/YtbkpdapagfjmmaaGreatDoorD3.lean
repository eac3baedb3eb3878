/-
  Walks: are the frames the same?
-/
import Derived.Test.YtbkpdapagfjmmaaGreatDoorD2
import Derived.Test.YtbkpdapagfjmmaaGreatDoorG1
namespace Go.Proofs.YtbkpdapagfjmmaaGreatDoor
open Go.RowKit

set_option maxHeartbeats 1000000 in
set_option maxRecDepth 100000 in
theorem same_any (w : World) (fs : List Lk.Fr) (Ba Bb : Nat) (va vb : Value) (hl : fs.length ≤ 2 ^ 40) (ha : w.ownsRow Ba 79 3 va fs.length (framesV fs)) (hb : w.ownsRow Bb 66 3 vb fs.length (framesV fs)) :
    Calls Tryz.prog 57 #[va, vb] w fun e w' => e = .returned (.bool true) ∧ ∃ n, w' = w.drewN n := by
  rcases owned_frames ha with ⟨rfl, rfl⟩ | ⟨g, cap, rfl, _, _, hcap, hca⟩
  · rcases owned_frames hb with ⟨_, rfl⟩ | ⟨g', cap', rfl, _, _, hcap', hcb⟩
    all_goals
      clear ha hb
      go_enter Tryz.func57, Tryz.ntmps57
      go_wp2_with fail
      refine wp_loop_rounds 1 ?_
      rw [rounds_succ]
      go_wp2_with fail
      go_ret
      exact ⟨rfl, 0, rfl⟩
  · rcases owned_frames hb with ⟨rfl, rfl⟩ | ⟨g', cap', rfl, _, _, hcap', hcb⟩
    · clear ha hb
      go_enter Tryz.func57, Tryz.ntmps57
      go_wp2_with fail
      refine wp_loop_rounds 1 ?_
      rw [rounds_succ]
      go_wp2_with fail
      go_ret
      exact ⟨rfl, 0, rfl⟩
    · clear ha hb
      go_enter Tryz.func57, Tryz.ntmps57
      go_wp2_with fail
      go_loopw [5] (fun i wr => ∃ k n : Nat, k ≤ fs.length ∧ i = .int .i64 k ∧ wr = w.drewN n) (fun i _ => fs.length - (intOf i).toNat)
      case atStart => exact ⟨0, 0, Nat.zero_le _, rfl, rfl⟩
      case round =>
        obtain ⟨k, n, hk, rfl, rfl⟩ := hrel
        by_cases hlt : k < fs.length
        · obtain ⟨a0, a1, a2⟩ := hca k hlt
          obtain ⟨b0, b1, b2⟩ := hcb k hlt
          have hlt' : (k : Int) < fs.length := by omega
          generalize fs[k] = f at *
          obtain ⟨fk, fst, fd⟩ := f
          dsimp only at a0 a1 a2 b0 b1 b2
          clear hca hcb
          go_wp2_with fail
          go_quiet (fail)
          go_wp2_with fail
          go_roundw
          case rel => exact ⟨k + 1, _, by omega, by go_num, rfl⟩
          case measure => simp [intOf]; omega
        · have hlt' : ¬ (k : Int) < fs.length := by omega
          clear hca hcb
          go_wp2_with fail
          go_ret
          exact ⟨rfl, _, rfl⟩

end Go.Proofs.YtbkpdapagfjmmaaGreatDoor
