/-
  Walks: Pack, the document's.
-/
import Derived.Test.YtbkpdapagfjmmaaW9
import Derived.Test.YtbkpdapagfjmmaaW5
namespace Go.Proofs.Ytbkpdapagfjmmaa
open Go.RowKit

set_option maxHeartbeats 400000 in
set_option maxRecDepth 100000 in
theorem refPack_no (k st : Int) (s : ByteArray) (w : World) (hne : Lk.packErr k st s.data.toList ≠ 0) :
    Calls Try.prog 7 #[.agg #[.int .i64 k, .int .i64 st, .string s]] w fun e w' => e = .returned (.tuple #[.string ⟨#[]⟩, .int .i64 (Lk.packErr k st s.data.toList)]) ∧ Below w.heap.size w w' := by
  have hb0 : Below w.heap.size w (w.alloc (.cells #[.int .i64 k, .int .i64 st, .string s] 29)) := (Below.refl _ _).alloc (Nat.le_refl _) _
  have HNE := hide hne
  clear hne
  by_cases hk : k < 0 ∨ 7 < k
  · have hp : Lk.packErr k st s.data.toList = 3 := by rw [Lk.packErr, if_pos hk]
    rw [hp]
    clear hp HNE
    rcases hk with hk | hk
    all_goals
      go_enter Try.func7, Try.ntmps7
      go_wp2_with fail
      go_ret2
      exact ⟨rfl, hb0⟩
  by_cases hst : st < 0 ∨ 268435455 < st
  · have hp : Lk.packErr k st s.data.toList = 2 := by rw [Lk.packErr, if_neg hk, if_pos hst]
    rw [hp]
    have h0 : 0 ≤ k := by omega
    have h7 : k ≤ 7 := by omega
    clear hp HNE hk
    rcases hst with hst | hst
    all_goals
      go_enter Try.func7, Try.ntmps7
      go_wp2_with fail
      go_ret2
      exact ⟨rfl, hb0⟩
  have h0 : 0 ≤ k := by omega
  have h7 : k ≤ 7 := by omega
  have hs0 : 0 ≤ st := by omega
  have hs1 : st ≤ 268435455 := by omega
  by_cases hsf : Lk.streamFits k st = false
  · have hp : Lk.packErr k st s.data.toList = 4 := by rw [Lk.packErr, if_neg hk, if_neg hst, if_pos hsf]
    rw [hp]
    have HS := hide hsf
    clear hp HNE hk hst hsf
    go_enter Try.func7, Try.ntmps7
    go_wp2_with fail
    refine (streamFits_any k st _).mono ?_
    rw [unhide HS]
    rintro e w1 ⟨rfl, rfl⟩
    go_wp2_with fail
    go_ret2
    exact ⟨rfl, hb0⟩
  by_cases hL : 64 < s.data.toList.length
  · have hp : Lk.packErr k st s.data.toList = 5 := by rw [Lk.packErr, if_neg hk, if_neg hst, if_neg hsf, if_pos hL]
    rw [hp]
    simp only [Bool.not_eq_false] at hsf
    rw [← size_list] at hL
    have hL' : (64 : Int) < (s.size : Int) := by omega
    have HS := hide hsf
    clear hp HNE hk hst hsf
    go_enter Try.func7, Try.ntmps7
    go_wp2_with fail
    refine (streamFits_any k st _).mono ?_
    rw [unhide HS]
    rintro e w1 ⟨rfl, rfl⟩
    go_wp2_with fail
    go_ret2
    exact ⟨rfl, hb0⟩
  by_cases hf : Lk.lengthFits k s.data.toList.length = false
  · have hp : Lk.packErr k st s.data.toList = 6 := by rw [Lk.packErr, if_neg hk, if_neg hst, if_neg hsf, if_neg hL, if_pos hf]
    rw [hp]
    simp only [Bool.not_eq_false] at hsf
    rw [← size_list] at hL hf
    have hL' : ¬ (64 : Int) < (s.size : Int) := by omega
    have HS := hide hsf
    have HF := hide hf
    clear hp HNE hk hst hsf hf
    go_enter Try.func7, Try.ntmps7
    go_wp2_with fail
    refine (streamFits_any k st _).mono ?_
    rw [unhide HS]
    rintro e w1 ⟨rfl, rfl⟩
    go_wp2_with fail
    refine (lengthFits_any k _ _).mono ?_
    rw [unhide HF]
    rintro e w1 ⟨rfl, rfl⟩
    go_wp2_with fail
    go_ret2
    exact ⟨rfl, hb0⟩
  by_cases hg : Lk.payloadFits k s.data.toList = false
  · have hp : Lk.packErr k st s.data.toList = 6 := by rw [Lk.packErr, if_neg hk, if_neg hst, if_neg hsf, if_neg hL, if_neg hf, if_pos hg]
    rw [hp]
    simp only [Bool.not_eq_false] at hsf hf
    rw [← size_list] at hL hf
    have hL' : ¬ (64 : Int) < (s.size : Int) := by omega
    have HS := hide hsf
    have HF := hide hf
    have HG := hide hg
    clear hp HNE hk hst hsf hf hg
    go_enter Try.func7, Try.ntmps7
    go_wp2_with fail
    refine (streamFits_any k st _).mono ?_
    rw [unhide HS]
    rintro e w1 ⟨rfl, rfl⟩
    go_wp2_with fail
    refine (lengthFits_any k _ _).mono ?_
    rw [unhide HF]
    rintro e w1 ⟨rfl, rfl⟩
    go_wp2_with fail
    refine (payloadFits_any k s _ (by omega)).mono ?_
    rw [unhide HG]
    rintro e w2 ⟨rfl, hb2⟩
    have hbw2 := hb0.trans (hb2.mono (by simp))
    clear hb2 hb0
    go_wp2_with fail
    go_ret2
    exact ⟨rfl, hbw2⟩
  exact absurd (by rw [Lk.packErr, if_neg hk, if_neg hst, if_neg hsf, if_neg hL, if_neg hf, if_neg hg]) (unhide HNE)

end Go.Proofs.Ytbkpdapagfjmmaa
