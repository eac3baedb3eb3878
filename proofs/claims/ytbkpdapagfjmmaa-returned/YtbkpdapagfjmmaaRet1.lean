/-
  Walks: Returned, where nothing is packed.
-/
import Derived.Test.YtbkpdapagfjmmaaRet
namespace Go.Proofs.Ytbkpdapagfjmmaa
open Go.RowKit

set_option maxHeartbeats 1000000 in
set_option maxRecDepth 100000 in
theorem returned_no (k st : Int) (s : ByteArray) (c : Int) (w : World) (hs : s.size ≤ maxLen) (hne : Lk.packErr k st s.data.toList ≠ 0) :
    Calls Try.prog 4 #[.int .i64 k, .int .i64 st, .string s, .int .i64 c] w fun e w' => e = .returned (.bool true) ∧ Below w.heap.size w w' := by
  have HP := hide (fun w => pack_any k st s w hs)
  have hps : packStr k st s.data.toList = ⟨#[]⟩ := by rw [packStr, if_neg hne]
  have hw := packErr_ne hne
  rw [← size_list] at hw
  rw [hps] at HP
  generalize Lk.packErr k st s.data.toList = pe at *
  have hpe : (pe != 0) = true := by rw [bne_iff_ne]; exact hne
  have hb0 : Below w.heap.size w (w.alloc (.cells #[.int .i64 k, .int .i64 st, .string s] 26)) := (Below.refl _ _).alloc (Nat.le_refl _) _
  clear hps hne
  rcases hw with h | ⟨h0, h⟩ | ⟨h0, h7, h⟩ | ⟨h0, h7, hs0, h⟩ | ⟨h0, h7, hs0, hs1, h⟩ | ⟨h0, h7, hs0, hs1, hl, h⟩ | ⟨rfl, rfl, hl⟩
  all_goals
    go_enter Try.func4, Try.ntmps4
    go_wp2_with fail
    refine (unhide HP _).mono ?_
    rintro e w1 ⟨rfl, hb1⟩
    have hb := hb0.trans (hb1.mono (by simp))
    clear hb1
    go_wp2_with fail
    refine (num_any pe _).mono ?_
    rintro e w4 ⟨rfl, rfl⟩
    go_wp2_with fail
    go_ret
    exact ⟨rfl, hb⟩

end Go.Proofs.Ytbkpdapagfjmmaa
