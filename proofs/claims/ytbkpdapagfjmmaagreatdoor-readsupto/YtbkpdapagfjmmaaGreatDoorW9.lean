/-
  Walks: Pack, the program's.
-/
import Derived.Test.YtbkpdapagfjmmaaGreatDoorW8
namespace Go.Proofs.YtbkpdapagfjmmaaGreatDoor
open Go.RowKit

theorem ret_pack {a b : ByteArray} {x y : Int} (h : a = b) (h' : x = y) : Ending.returned (.tuple #[.string a, .int .i64 x]) = .returned (.tuple #[.string b, .int .i64 y]) := by rw [h, h']

theorem pack_len (m n : Nat) (s : ByteArray) : (Lk.wire n).length + (Lk.wire s.size).length + 1 + s.size = (Lk.packed m n s.data.toList).length := by
  rw [Lk.packed, Int.toNat_natCast, Int.toNat_natCast, ← size_list, List.length_cons, List.length_append, List.length_append, ← size_list]
  omega

/-- What Pack answers. -/
def packStr (k st : Int) (l : Lk.Bs) : ByteArray := if Lk.packErr k st l = 0 then ⟨(Lk.packed k st l).toArray⟩ else ⟨#[]⟩

set_option maxHeartbeats 400000 in
set_option maxRecDepth 100000 in
theorem pack_no (k st : Int) (s : ByteArray) (w : World) (hs : s.size ≤ maxLen) (hne : Lk.packErr k st s.data.toList ≠ 0) :
    Calls Tryz.prog 55 #[.agg #[.int .i64 k, .int .i64 st, .string s]] w fun e w' => e = .returned (.tuple #[.string (packStr k st s.data.toList), .int .i64 (Lk.packErr k st s.data.toList)]) ∧ Below w.heap.size w w' := by
  have hps : packStr k st s.data.toList = ⟨#[]⟩ := by rw [packStr, if_neg hne]
  have HA := hide (fun w => askFrame_any k st s w hs)
  rw [hps]
  generalize Lk.packErr k st s.data.toList = pe at *
  have hpe : (pe != 0) = true := by rw [bne_iff_ne]; exact hne
  clear hps hne
  go_enter Tryz.func55, Tryz.ntmps55
  go_wp2_with fail
  refine (unhide HA _).mono ?_
  rintro e w1 ⟨rfl, hb1⟩
  have hbw1 := ((Below.refl w.heap.size w).alloc (Nat.le_refl _) _).trans (hb1.mono (by simp))
  clear hb1
  go_wp2_with fail
  go_ret2
  exact ⟨rfl, hbw1⟩

set_option maxHeartbeats 400000 in
set_option maxRecDepth 100000 in
theorem pack_yes (k st : Int) (s : ByteArray) (w : World) (hs : s.size ≤ maxLen) (he : Lk.packErr k st s.data.toList = 0) (h0 : 0 ≤ k) (h7 : k ≤ 7) (hs0 : 0 ≤ st) (hs1 : st ≤ 268435455) (hl : s.size ≤ 64) :
    Calls Tryz.prog 55 #[.agg #[.int .i64 k, .int .i64 st, .string s]] w fun e w' => e = .returned (.tuple #[.string (packStr k st s.data.toList), .int .i64 (Lk.packErr k st s.data.toList)]) ∧ Below w.heap.size w w' := by
  have hps : packStr k st s.data.toList = ⟨(Lk.packed k st s.data.toList).toArray⟩ := by rw [packStr, if_pos he]
  have HA := hide (fun w => askFrame_any k st s w hs)
  have hI0 := Is.new w 79 [.int .i64 k, .int .i64 st, .string s]
  have hb0 : Below w.heap.size w (w.alloc (.cells #[.int .i64 k, .int .i64 st, .string s] 79)) := (Below.refl _ _).alloc (Nat.le_refl _) _
  rw [hps, he]
  rw [he] at HA
  clear hps
  have HE := hide he
  clear he
  obtain ⟨n, rfl⟩ := Int.eq_ofNat_of_zero_le hs0
  obtain ⟨m, rfl⟩ := Int.eq_ofNat_of_zero_le h0
  go_enter Tryz.func55, Tryz.ntmps55
  go_wp2_with fail
  refine (unhide HA _).mono ?_
  rintro e w1 ⟨rfl, hb1⟩
  have hI1 := hI0.below hb1 (by simp)
  have hbw1 := hb0.trans (hb1.mono (by simp))
  obtain ⟨c0, c1, c2⟩ := hI1.three
  have hz := hI1.lt
  clear hb0 hI0 hb1
  go_wp2_with fail
  refine (appendFrame_any w1.heap.size _ [] m n s _ (Nat.le_refl _) (World.ownsRow_nil _ _ _ _) (by simp) (by omega) (by omega) hl).mono ?_
  rintro e w2 ⟨v2, rfl, ho2, hb2, _⟩
  rw [List.nil_append] at ho2
  have hcv := owned_string ho2 (by simp [Lk.packed])
  have hbw2 := hbw1.trans (hb2.mono hbw1.size)
  clear hb2 ho2 c0 c1 c2
  go_wp2_with fail
  go_ret2
  exact ⟨rfl, hbw2⟩

theorem packErr_zero {k st : Int} {l : Lk.Bs} (h : Lk.packErr k st l = 0) : 0 ≤ k ∧ k ≤ 7 ∧ 0 ≤ st ∧ st ≤ 268435455 ∧ l.length ≤ 64 ∧ Lk.streamFits k st = true ∧ Lk.lengthFits k l.length = true ∧ Lk.payloadFits k l = true := by
  unfold Lk.packErr at h
  by_cases h1 : k < 0 ∨ 7 < k
  · rw [if_pos h1] at h; omega
  rw [if_neg h1] at h
  by_cases h2 : st < 0 ∨ 268435455 < st
  · rw [if_pos h2] at h; omega
  rw [if_neg h2] at h
  by_cases h3 : Lk.streamFits k st = false
  · rw [if_pos h3] at h; omega
  rw [if_neg h3] at h
  by_cases h4 : 64 < l.length
  · rw [if_pos h4] at h; omega
  rw [if_neg h4] at h
  by_cases h5 : Lk.lengthFits k l.length = false
  · rw [if_pos h5] at h; omega
  rw [if_neg h5] at h
  by_cases h6 : Lk.payloadFits k l = false
  · rw [if_pos h6] at h; omega
  simp only [Bool.not_eq_false] at h3 h5 h6
  exact ⟨by omega, by omega, by omega, by omega, by omega, h3, h5, h6⟩

theorem pack_any (k st : Int) (s : ByteArray) (w : World) (hs : s.size ≤ maxLen) :
    Calls Tryz.prog 55 #[.agg #[.int .i64 k, .int .i64 st, .string s]] w fun e w' => e = .returned (.tuple #[.string (packStr k st s.data.toList), .int .i64 (Lk.packErr k st s.data.toList)]) ∧ Below w.heap.size w w' := by
  by_cases h : Lk.packErr k st s.data.toList = 0
  · obtain ⟨h0, h7, h1, h2, h3, _⟩ := packErr_zero h
    exact pack_yes k st s w hs h h0 h7 h1 h2 (by rw [size_list]; exact h3)
  · exact pack_no k st s w hs h

end Go.Proofs.YtbkpdapagfjmmaaGreatDoor
