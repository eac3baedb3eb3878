/-
  Walks: what is asked of a stream, a length, a payload.
-/
import Derived.Test.YtbkpdapagfjmmaaGreatDoorW1
import Derived.Test.YtbkpdapagfjmmaaGreatDoorH1
namespace Go.Proofs.YtbkpdapagfjmmaaGreatDoor
open Go.RowKit

theorem want_stream (a b x y : Int) (w : World) : (Instr.field 275 (.agg #[.int .i64 a, .int .i64 b, .int .i64 x, .int .i64 y]) 0).run Tryz.prog w = .ok (.agg #[.int .i64 a, .int .i64 b]) w := by kernel_rfl
theorem want_length (a b x y : Int) (w : World) : (Instr.field 275 (.agg #[.int .i64 a, .int .i64 b, .int .i64 x, .int .i64 y]) 1).run Tryz.prog w = .ok (.agg #[.int .i64 x, .int .i64 y]) w := by kernel_rfl

theorem stream_of {k a b x y s : Int} (h : IsWant k a b x y) (h0 : 0 ≤ k) (h7 : k ≤ 7) (hs0 : 0 ≤ s) (hs : s ≤ 268435455) : Lk.streamFits k s = decide (a ≤ s ∧ s ≤ b) := by
  unfold IsWant wantOf at h
  unfold Lk.streamFits
  rcases kinds8 h0 h7 with rfl | rfl | rfl | rfl | rfl | rfl | rfl | rfl <;> simp at h <;> obtain ⟨rfl, rfl, -, -⟩ := h <;> rw [Bool.eq_iff_iff] <;> simp <;> omega

theorem length_of {k a b x y n : Int} (h : IsWant k a b x y) (h0 : 0 ≤ k) (h7 : k ≤ 7) (hs0 : 0 ≤ n) (hs : n ≤ 64) : Lk.lengthFits k n = decide (x ≤ n ∧ n ≤ y) := by
  unfold IsWant wantOf at h
  unfold Lk.lengthFits
  rcases kinds8 h0 h7 with rfl | rfl | rfl | rfl | rfl | rfl | rfl | rfl <;> simp at h <;> obtain ⟨-, -, rfl, rfl⟩ := h <;> rw [Bool.eq_iff_iff] <;> simp <;> omega

set_option maxHeartbeats 400000 in
set_option maxRecDepth 100000 in
theorem askStream_any (k s : Int) (h0 : 0 ≤ k) (h7 : k ≤ 7) (hs0 : 0 ≤ s) (hs : s ≤ 268435455) (w : World) :
    Calls Tryz.prog 135 #[.int .i64 k, .int .i64 s] w fun e w' => e = .returned (.int .i64 (Lk.streamErr k s)) ∧ Below w.heap.size w w' := by
  have f0 := want_stream
  go_enter Tryz.func135, Tryz.ntmps135
  go_wp2_with fail
  refine (wantOf_is k h0 h7 _).mono ?_
  rintro e w1 ⟨a, b, x, y, rfl, H, hb1⟩
  go_wp2_with fail
  refine (holds_any _ _ _ _).mono ?_
  rintro e w2 ⟨rfl, hb2⟩
  have hb := hb1.trans (hb2.mono hb1.size)
  have HS := hide (stream_of H h0 h7 hs0 hs)
  generalize decide (a ≤ s ∧ s ≤ b) = d at *
  cases d
  all_goals
    go_wp2_with fail
    go_ret
    exact ⟨ret_int (by rw [Lk.streamErr, unhide HS]; rfl), hb⟩

set_option maxHeartbeats 400000 in
set_option maxRecDepth 100000 in
theorem askLength_any (k n : Int) (h0 : 0 ≤ k) (h7 : k ≤ 7) (hn0 : 0 ≤ n) (w : World) :
    Calls Tryz.prog 136 #[.int .i64 k, .int .i64 n] w fun e w' => e = .returned (.int .i64 (Lk.lengthErr k n)) ∧ Below w.heap.size w w' := by
  by_cases hn : 64 < n
  · go_enter Tryz.func136, Tryz.ntmps136
    go_wp2_with fail
    go_ret
    exact ⟨ret_int (by rw [Lk.lengthErr, if_pos hn]), Below.refl _ _⟩
  have f0 := want_length
  go_enter Tryz.func136, Tryz.ntmps136
  go_wp2_with fail
  refine (wantOf_is k h0 h7 _).mono ?_
  rintro e w1 ⟨a, b, x, y, rfl, H, hb1⟩
  go_wp2_with fail
  refine (holds_any _ _ _ _).mono ?_
  rintro e w2 ⟨rfl, hb2⟩
  have hb := hb1.trans (hb2.mono hb1.size)
  have HS := hide (length_of H h0 h7 hn0 (by omega))
  generalize decide (x ≤ n ∧ n ≤ y) = d at *
  cases d
  all_goals
    go_wp2_with fail
    go_ret
    exact ⟨ret_int (by rw [Lk.lengthErr, if_neg (by omega), unhide HS]; rfl), hb⟩

end Go.Proofs.YtbkpdapagfjmmaaGreatDoor
