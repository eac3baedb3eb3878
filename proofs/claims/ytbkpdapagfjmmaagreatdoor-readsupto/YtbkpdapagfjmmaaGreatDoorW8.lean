/-
  Walks: what is asked of a frame; Pack, the program's.
-/
import Derived.Test.YtbkpdapagfjmmaaGreatDoorW2
import Derived.Test.YtbkpdapagfjmmaaGreatDoorW6
import Derived.Test.YtbkpdapagfjmmaaGreatDoorW7
import Derived.Test.YtbkpdapagfjmmaaGreatDoorF1
namespace Go.Proofs.YtbkpdapagfjmmaaGreatDoor
open Go.RowKit

theorem Is.three {w : World} {b : Nat} {T : TypeId} {x y z : Value} (h : Is w b T [x, y, z]) : w.cell? ⟨b, 0, none⟩ = some x ∧ w.cell? ⟨b, 1, none⟩ = some y ∧ w.cell? ⟨b, 2, none⟩ = some z := ⟨h.cell 0, h.cell 1, h.cell 2⟩

set_option maxHeartbeats 400000 in
set_option maxRecDepth 100000 in
theorem askFrame_any (k st : Int) (s : ByteArray) (w : World) (hs : s.size ≤ maxLen) :
    Calls Tryz.prog 98 #[.agg #[.int .i64 k, .int .i64 st, .string s]] w fun e w' => e = .returned (.int .i64 (Lk.packErr k st s.data.toList)) ∧ Below w.heap.size w w' := by
  have hs' := hs
  unfold maxLen at hs'
  have hb0 : Below w.heap.size w (w.alloc (.cells #[.int .i64 k, .int .i64 st, .string s] 79)) := (Below.refl _ _).alloc (Nat.le_refl _) _
  have hI0 := Is.new w 79 [.int .i64 k, .int .i64 st, .string s]
  by_cases hk : k < 0 ∨ 7 < k
  · have hp : Lk.packErr k st s.data.toList = 3 := by rw [Lk.packErr, if_pos hk]
    have hke : Lk.kindErr k = 3 := by rw [Lk.kindErr, if_pos hk]
    rw [hp]
    have HK := hide hke
    clear hp hke
    go_enter Tryz.func98, Tryz.ntmps98
    go_wp2_with fail
    refine (askKind_any k _).mono ?_
    rw [unhide HK]
    rintro e w1 ⟨rfl, rfl⟩
    go_wp2_with fail
    go_ret
    exact ⟨rfl, hb0⟩
  have hke : Lk.kindErr k = 0 := by rw [Lk.kindErr, if_neg hk]
  have HK := hide hke
  have h0 : 0 ≤ k := by omega
  have h7 : k ≤ 7 := by omega
  clear hke
  by_cases hst : st < 0 ∨ 268435455 < st
  · have hp : Lk.packErr k st s.data.toList = 2 := by rw [Lk.packErr, if_neg hk, if_pos hst]
    rw [hp]
    clear hp hk
    have hnum : (decide (0 ≤ st) && decide (st ≤ 268435455)) = false := by
      rcases hst with h | h
      · rw [decide_eq_false (by omega)]; rfl
      · rw [decide_eq_false (by omega : ¬ st ≤ 268435455), Bool.and_false]
    clear hst
    go_enter Tryz.func98, Tryz.ntmps98
    go_wp2_with fail
    refine (askKind_any k _).mono ?_
    rw [unhide HK]
    rintro e w1 ⟨rfl, rfl⟩
    go_wp2_with fail
    refine (isNumber_any st _).mono ?_
    rw [hnum]
    rintro e w1 ⟨rfl, rfl⟩
    go_wp2_with fail
    go_ret
    exact ⟨rfl, hb0⟩
  have hs0 : 0 ≤ st := by omega
  have hs1 : st ≤ 268435455 := by omega
  go_enter Tryz.func98, Tryz.ntmps98
  go_wp2_with fail
  refine (askKind_any k _).mono ?_
  rw [unhide HK]
  rintro e w1 ⟨rfl, rfl⟩
  have hnum : (decide (0 ≤ st) && decide (st ≤ 268435455)) = true := by simp [hs0, hs1]
  go_wp2_with fail
  refine (isNumber_any st _).mono ?_
  rw [hnum]
  rintro e w1 ⟨rfl, rfl⟩
  clear hnum
  go_wp2_with fail
  refine (askStream_any k st h0 h7 hs0 hs1 _).mono ?_
  rintro e w1 ⟨rfl, hb1⟩
  have hbw1 := hb0.trans (hb1.mono (by simp))
  have hI1 := hI0.below hb1 (by simp)
  obtain ⟨c0, c1, c2⟩ := hI1.three
  by_cases hsf : Lk.streamFits k st = false
  · have hp : Lk.packErr k st s.data.toList = 4 := by rw [Lk.packErr, if_neg hk, if_neg hst, if_pos hsf]
    have hse : Lk.streamErr k st = 4 := by rw [Lk.streamErr, if_pos hsf]
    rw [hse]
    have HP := hide hp
    clear hp hse hsf hk hst hb0 hI0 hb1 hI1
    go_wp2_with fail
    go_ret
    exact ⟨ret_int (unhide HP).symm, hbw1⟩
  have hse : Lk.streamErr k st = 0 := by rw [Lk.streamErr, if_neg hsf]
  rw [hse]
  clear hse
  have hlen : ((s.size : Nat) : Int) = (s.data.toList.length : Int) := by rw [size_list]
  have hple : ∀ x, Lk.lengthErr k s.size = x → x ≠ 0 → Lk.packErr k st s.data.toList = x := by
    intro x hx hx0
    rw [Lk.packErr, if_neg hk, if_neg hst, if_neg hsf]
    rw [Lk.lengthErr, hlen] at hx
    by_cases hL : 64 < s.data.toList.length
    · rw [if_pos hL]
      rw [if_pos (by omega)] at hx
      exact hx
    · rw [if_neg hL]
      rw [if_neg (by omega)] at hx
      by_cases hf : Lk.lengthFits k s.data.toList.length = false
      · rw [if_pos hf]; rw [if_pos hf] at hx; exact hx
      · rw [if_neg hf] at hx; omega
  have hppe : Lk.lengthErr k s.size = 0 → Lk.packErr k st s.data.toList = Lk.payloadErr k s.data.toList := by
    intro hx
    rw [Lk.packErr, if_neg hk, if_neg hst, if_neg hsf]
    rw [Lk.lengthErr, hlen] at hx
    by_cases hL : 64 < s.data.toList.length
    · rw [if_pos (by omega)] at hx; omega
    · rw [if_neg hL]
      rw [if_neg (by omega)] at hx
      by_cases hf : Lk.lengthFits k s.data.toList.length = false
      · rw [if_pos hf] at hx; omega
      · rw [if_neg hf, Lk.payloadErr]
  have HA := hide hple
  have HB := hide hppe
  clear hple hppe hlen hsf hk hst hb0 hI0 hb1
  go_wp2_with fail
  refine (askLength_any k _ h0 h7 (by omega) _).mono ?_
  rintro e w2 ⟨rfl, hb2⟩
  have hbw2 := hbw1.trans (hb2.mono hbw1.size)
  have hI2 := hI1.below hb2 hI1.lt
  clear c0 c1 c2
  obtain ⟨c0, c1, c2⟩ := hI2.three
  generalize hle : Lk.lengthErr k s.size = le
  have HL := hide hle
  clear hle hb2 hI1 hbw1
  by_cases hz : le = 0
  · subst hz
    go_wp2_with fail
    refine (askPayload_any k s _ hs).mono ?_
    rintro e w3 ⟨rfl, hb3⟩
    have hbw3 := hbw2.trans (hb3.mono hbw2.size)
    clear hb3 c0 c1 c2
    have HE := hide (unhide HB (unhide HL))
    go_wp2_with fail
    go_ret
    exact ⟨ret_int (unhide HE).symm, hbw3⟩
  · have hne : (le != 0) = true := by rw [bne_iff_ne]; exact hz
    have HE := hide (unhide HA le (unhide HL) hz)
    clear hz
    go_wp2_with fail
    go_ret
    exact ⟨ret_int (unhide HE).symm, hbw2⟩

end Go.Proofs.YtbkpdapagfjmmaaGreatDoor
