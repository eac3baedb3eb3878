import Derived.Test.YtbkpdapagfjmmaaGreatDoorMR2W7
import Derived.Test.YtbkpdapagfjmmaaGreatDoorMPGW3
import Derived.Test.YtbkpdapagfjmmaaGreatDoorMF1PB
import Derived.Test.YtbkpdapagfjmmaaGreatDoorMR4R5
import Derived.Test.YtbkpdapagfjmmaaGreatDoorMSpecSpec3
import Derived.Test.YtbkpdapagfjmmaaGreatDoorMM1Spec4
import Derived.Test.YtbkpdapagfjmmaaGreatDoorMSpec17W1
import Derived.BigQuiet
/-
  Walks: what is asked of a frame; Pack, the program's.
-/
namespace Go.Proofs.YtbkpdapagfjmmaaGreatDoor
open Go.RowKit

theorem Is.three {w : World} {b : Nat} {T : TypeId} {x y z : Value} (h : Is w b T [x, y, z]) : w.cell? ⟨b, 0, none⟩ = some x ∧ w.cell? ⟨b, 1, none⟩ = some y ∧ w.cell? ⟨b, 2, none⟩ = some z := ⟨h.cell 0, h.cell 1, h.cell 2⟩

set_option maxHeartbeats 400000 in
set_option maxRecDepth 100000 in
theorem askFrame_any (k st : Int) (s : ByteArray) (w : World) (hs : s.size ≤ maxLen) :
    Calls Tryz.prog 98 #[.agg #[.int .i64 k, .int .i64 st, .string s]] w fun e w' => e = .returned (.int .i64 (Lk.packErr k st s.data.toList)) ∧ Below w.heap.size w w' := by
  have hs' := hs
  unfold maxLen at hs'
  have hb0 : Below w.heap.size w (w.alloc (.cells #[.int .i64 k, .int .i64 st, .string s] 79)) := (Below.refl _ _).alloc (Nat.le_refl _) _
  have hI0 := Is.new w 79 [.int .i64 k, .int .i64 st, .string s]
  by_cases hk : k < 0 ∨ 7 < k
  · have hp : Lk.packErr k st s.data.toList = 3 := by rw [Lk.packErr, if_pos hk]
    have hke : Lk.kindErr k = 3 := by rw [Lk.kindErr, if_pos hk]
    rw [hp]
    have HK := hide hke
    clear hp hke
    go_enter Tryz.func98, Tryz.ntmps98
    go_wp2_with fail
    refine (askKind_any k _).mono ?_
    rw [unhide HK]
    rintro e w1 ⟨rfl, rfl⟩
    go_wp2_with fail
    go_ret
    exact ⟨rfl, hb0⟩
  have hke : Lk.kindErr k = 0 := by rw [Lk.kindErr, if_neg hk]
  have HK := hide hke
  have h0 : 0 ≤ k := by omega
  have h7 : k ≤ 7 := by omega
  clear hke
  by_cases hst : st < 0 ∨ 268435455 < st
  · have hp : Lk.packErr k st s.data.toList = 2 := by rw [Lk.packErr, if_neg hk, if_pos hst]
    rw [hp]
    clear hp hk
    have hnum : (decide (0 ≤ st) && decide (st ≤ 268435455)) = false := by
      rcases hst with h | h
      · rw [decide_eq_false (by omega)]; rfl
      · rw [decide_eq_false (by omega : ¬ st ≤ 268435455), Bool.and_false]
    clear hst
    go_enter Tryz.func98, Tryz.ntmps98
    go_wp2_with fail
    refine (askKind_any k _).mono ?_
    rw [unhide HK]
    rintro e w1 ⟨rfl, rfl⟩
    go_wp2_with fail
    refine (isNumber_any st _).mono ?_
    rw [hnum]
    rintro e w1 ⟨rfl, rfl⟩
    go_wp2_with fail
    go_ret
    exact ⟨rfl, hb0⟩
  have hs0 : 0 ≤ st := by omega
  have hs1 : st ≤ 268435455 := by omega
  go_enter Tryz.func98, Tryz.ntmps98
  go_wp2_with fail
  refine (askKind_any k _).mono ?_
  rw [unhide HK]
  rintro e w1 ⟨rfl, rfl⟩
  have hnum : (decide (0 ≤ st) && decide (st ≤ 268435455)) = true := by simp [hs0, hs1]
  go_wp2_with fail
  refine (isNumber_any st _).mono ?_
  rw [hnum]
  rintro e w1 ⟨rfl, rfl⟩
  clear hnum
  go_wp2_with fail
  refine (askStream_any k st h0 h7 hs0 hs1 _).mono ?_
  rintro e w1 ⟨rfl, hb1⟩
  have hbw1 := hb0.trans (hb1.mono (by simp))
  have hI1 := hI0.below hb1 (by simp)
  obtain ⟨c0, c1, c2⟩ := hI1.three
  by_cases hsf : Lk.streamFits k st = false
  · have hp : Lk.packErr k st s.data.toList = 4 := by rw [Lk.packErr, if_neg hk, if_neg hst, if_pos hsf]
    have hse : Lk.streamErr k st = 4 := by rw [Lk.streamErr, if_pos hsf]
    rw [hse]
    have HP := hide hp
    clear hp hse hsf hk hst hb0 hI0 hb1 hI1
    go_wp2_with fail
    go_ret
    exact ⟨ret_int (unhide HP).symm, hbw1⟩
  have hse : Lk.streamErr k st = 0 := by rw [Lk.streamErr, if_neg hsf]
  rw [hse]
  clear hse
  have hlen : ((s.size : Nat) : Int) = (s.data.toList.length : Int) := by rw [size_list]
  have hple : ∀ x, Lk.lengthErr k s.size = x → x ≠ 0 → Lk.packErr k st s.data.toList = x := by
    intro x hx hx0
    rw [Lk.packErr, if_neg hk, if_neg hst, if_neg hsf]
    rw [Lk.lengthErr, hlen] at hx
    by_cases hL : 64 < s.data.toList.length
    · rw [if_pos hL]
      rw [if_pos (by omega)] at hx
      exact hx
    · rw [if_neg hL]
      rw [if_neg (by omega)] at hx
      by_cases hf : Lk.lengthFits k s.data.toList.length = false
      · rw [if_pos hf]; rw [if_pos hf] at hx; exact hx
      · rw [if_neg hf] at hx; omega
  have hppe : Lk.lengthErr k s.size = 0 → Lk.packErr k st s.data.toList = Lk.payloadErr k s.data.toList := by
    intro hx
    rw [Lk.packErr, if_neg hk, if_neg hst, if_neg hsf]
    rw [Lk.lengthErr, hlen] at hx
    by_cases hL : 64 < s.data.toList.length
    · rw [if_pos (by omega)] at hx; omega
    · rw [if_neg hL]
      rw [if_neg (by omega)] at hx
      by_cases hf : Lk.lengthFits k s.data.toList.length = false
      · rw [if_pos hf] at hx; omega
      · rw [if_neg hf, Lk.payloadErr]
  have HA := hide hple
  have HB := hide hppe
  clear hple hppe hlen hsf hk hst hb0 hI0 hb1
  go_wp2_with fail
  refine (askLength_any k _ h0 h7 (by omega) _).mono ?_
  rintro e w2 ⟨rfl, hb2⟩
  have hbw2 := hbw1.trans (hb2.mono hbw1.size)
  have hI2 := hI1.below hb2 hI1.lt
  clear c0 c1 c2
  obtain ⟨c0, c1, c2⟩ := hI2.three
  generalize hle : Lk.lengthErr k s.size = le
  have HL := hide hle
  clear hle hb2 hI1 hbw1
  by_cases hz : le = 0
  · subst hz
    go_wp2_with fail
    refine (askPayload_any k s _ hs).mono ?_
    rintro e w3 ⟨rfl, hb3⟩
    have hbw3 := hbw2.trans (hb3.mono hbw2.size)
    clear hb3 c0 c1 c2
    have HE := hide (unhide HB (unhide HL))
    go_wp2_with fail
    go_ret
    exact ⟨ret_int (unhide HE).symm, hbw3⟩
  · have hne : (le != 0) = true := by rw [bne_iff_ne]; exact hz
    have HE := hide (unhide HA le (unhide HL) hz)
    clear hz
    go_wp2_with fail
    go_ret
    exact ⟨ret_int (unhide HE).symm, hbw2⟩

end Go.Proofs.YtbkpdapagfjmmaaGreatDoor

/-
  Walks: Pack, the program's.
-/
namespace Go.Proofs.YtbkpdapagfjmmaaGreatDoor
open Go.RowKit

theorem ret_pack {a b : ByteArray} {x y : Int} (h : a = b) (h' : x = y) : Ending.returned (.tuple #[.string a, .int .i64 x]) = .returned (.tuple #[.string b, .int .i64 y]) := by rw [h, h']

theorem pack_len (m n : Nat) (s : ByteArray) : (Lk.wire n).length + (Lk.wire s.size).length + 1 + s.size = (Lk.packed m n s.data.toList).length := by
  rw [Lk.packed, Int.toNat_natCast, Int.toNat_natCast, ← size_list, List.length_cons, List.length_append, List.length_append, ← size_list]
  omega

/-- What Pack answers. -/
def packStr (k st : Int) (l : Lk.Bs) : ByteArray := if Lk.packErr k st l = 0 then ⟨(Lk.packed k st l).toArray⟩ else ⟨#[]⟩

set_option maxHeartbeats 400000 in
set_option maxRecDepth 100000 in
theorem pack_no (k st : Int) (s : ByteArray) (w : World) (hs : s.size ≤ maxLen) (hne : Lk.packErr k st s.data.toList ≠ 0) :
    Calls Tryz.prog 55 #[.agg #[.int .i64 k, .int .i64 st, .string s]] w fun e w' => e = .returned (.tuple #[.string (packStr k st s.data.toList), .int .i64 (Lk.packErr k st s.data.toList)]) ∧ Below w.heap.size w w' := by
  have hps : packStr k st s.data.toList = ⟨#[]⟩ := by rw [packStr, if_neg hne]
  have HA := hide (fun w => askFrame_any k st s w hs)
  rw [hps]
  generalize Lk.packErr k st s.data.toList = pe at *
  have hpe : (pe != 0) = true := by rw [bne_iff_ne]; exact hne
  clear hps hne
  go_enter Tryz.func55, Tryz.ntmps55
  go_wp2_with fail
  refine (unhide HA _).mono ?_
  rintro e w1 ⟨rfl, hb1⟩
  have hbw1 := ((Below.refl w.heap.size w).alloc (Nat.le_refl _) _).trans (hb1.mono (by simp))
  clear hb1
  go_wp2_with fail
  go_ret2
  exact ⟨rfl, hbw1⟩

set_option maxHeartbeats 400000 in
set_option maxRecDepth 100000 in
theorem pack_yes (k st : Int) (s : ByteArray) (w : World) (hs : s.size ≤ maxLen) (he : Lk.packErr k st s.data.toList = 0) (h0 : 0 ≤ k) (h7 : k ≤ 7) (hs0 : 0 ≤ st) (hs1 : st ≤ 268435455) (hl : s.size ≤ 64) :
    Calls Tryz.prog 55 #[.agg #[.int .i64 k, .int .i64 st, .string s]] w fun e w' => e = .returned (.tuple #[.string (packStr k st s.data.toList), .int .i64 (Lk.packErr k st s.data.toList)]) ∧ Below w.heap.size w w' := by
  have hps : packStr k st s.data.toList = ⟨(Lk.packed k st s.data.toList).toArray⟩ := by rw [packStr, if_pos he]
  have HA := hide (fun w => askFrame_any k st s w hs)
  have hI0 := Is.new w 79 [.int .i64 k, .int .i64 st, .string s]
  have hb0 : Below w.heap.size w (w.alloc (.cells #[.int .i64 k, .int .i64 st, .string s] 79)) := (Below.refl _ _).alloc (Nat.le_refl _) _
  rw [hps, he]
  rw [he] at HA
  clear hps
  have HE := hide he
  clear he
  obtain ⟨n, rfl⟩ := Int.eq_ofNat_of_zero_le hs0
  obtain ⟨m, rfl⟩ := Int.eq_ofNat_of_zero_le h0
  go_enter Tryz.func55, Tryz.ntmps55
  go_wp2_with fail
  refine (unhide HA _).mono ?_
  rintro e w1 ⟨rfl, hb1⟩
  have hI1 := hI0.below hb1 (by simp)
  have hbw1 := hb0.trans (hb1.mono (by simp))
  obtain ⟨c0, c1, c2⟩ := hI1.three
  have hz := hI1.lt
  clear hb0 hI0 hb1
  go_wp2_with fail
  refine (appendFrame_any w1.heap.size _ [] m n s _ (Nat.le_refl _) (World.ownsRow_nil _ _ _ _) (by simp) (by omega) (by omega) hl).mono ?_
  rintro e w2 ⟨v2, rfl, ho2, hb2, _⟩
  rw [List.nil_append] at ho2
  have hcv := owned_string ho2 (by simp [Lk.packed])
  have hbw2 := hbw1.trans (hb2.mono hbw1.size)
  clear hb2 ho2 c0 c1 c2
  go_wp2_with fail
  go_ret2
  exact ⟨rfl, hbw2⟩

theorem packErr_zero {k st : Int} {l : Lk.Bs} (h : Lk.packErr k st l = 0) : 0 ≤ k ∧ k ≤ 7 ∧ 0 ≤ st ∧ st ≤ 268435455 ∧ l.length ≤ 64 ∧ Lk.streamFits k st = true ∧ Lk.lengthFits k l.length = true ∧ Lk.payloadFits k l = true := by
  unfold Lk.packErr at h
  by_cases h1 : k < 0 ∨ 7 < k
  · rw [if_pos h1] at h; omega
  rw [if_neg h1] at h
  by_cases h2 : st < 0 ∨ 268435455 < st
  · rw [if_pos h2] at h; omega
  rw [if_neg h2] at h
  by_cases h3 : Lk.streamFits k st = false
  · rw [if_pos h3] at h; omega
  rw [if_neg h3] at h
  by_cases h4 : 64 < l.length
  · rw [if_pos h4] at h; omega
  rw [if_neg h4] at h
  by_cases h5 : Lk.lengthFits k l.length = false
  · rw [if_pos h5] at h; omega
  rw [if_neg h5] at h
  by_cases h6 : Lk.payloadFits k l = false
  · rw [if_pos h6] at h; omega
  simp only [Bool.not_eq_false] at h3 h5 h6
  exact ⟨by omega, by omega, by omega, by omega, by omega, h3, h5, h6⟩

theorem pack_any (k st : Int) (s : ByteArray) (w : World) (hs : s.size ≤ maxLen) :
    Calls Tryz.prog 55 #[.agg #[.int .i64 k, .int .i64 st, .string s]] w fun e w' => e = .returned (.tuple #[.string (packStr k st s.data.toList), .int .i64 (Lk.packErr k st s.data.toList)]) ∧ Below w.heap.size w w' := by
  by_cases h : Lk.packErr k st s.data.toList = 0
  · obtain ⟨h0, h7, h1, h2, h3, _⟩ := packErr_zero h
    exact pack_yes k st s w hs h h0 h7 h1 h2 (by rw [size_list]; exact h3)
  · exact pack_no k st s w hs h

end Go.Proofs.YtbkpdapagfjmmaaGreatDoor

/-
  The statement Returned: its walk.
-/
namespace Go.Proofs.YtbkpdapagfjmmaaGreatDoor
open Go.RowKit

theorem num_any (e : Int) (w : World) : Calls Tryz.prog 18 #[.int .i64 e] w fun r w' => r = .returned (.int .i64 e) ∧ w' = w := by
  go_enter Tryz.func18, Tryz.ntmps18
  go_wp2
  go_ret
  exact ⟨rfl, rfl⟩

theorem newReader_any (w : World) : Calls Tryz.prog 51 #[] w fun r w' => r = .returned (.pointer (some ⟨w.heap.size, 0, none⟩)) ∧ w' = w.alloc (.cells #[.string ⟨#[]⟩, .int .i64 0, .int .i64 0] 85) := by
  go_enter Tryz.func51, Tryz.ntmps51
  go_wp2
  go_ret
  exact ⟨rfl, rfl⟩

theorem bounded_any (c : Int) (h : Nat) (w : World) (hh : h ≤ 2 ^ 40) (_h1 : -9223372036854775808 ≤ c) (_h2 : c ≤ 9223372036854775807) :
    Calls Tryz.prog 11 #[.int .i64 c, .int .i64 h] w fun r w' => (∃ n : Nat, n ≤ h ∧ r = .returned (.int .i64 n)) ∧ w' = w := by
  have b1 : c.tmod (h + 1) < h + 1 := Int.tmod_lt_of_pos _ (by omega)
  have b2 : -(h + 1 : Int) < c.tmod (h + 1) := by
    have e1 := Int.neg_tmod c (h + 1)
    have e2 := Int.tmod_lt_of_pos (-c) (show (0 : Int) < h + 1 by omega)
    omega
  by_cases h0 : c.tmod (h + 1) < 0
  · go_enter Tryz.func11, Tryz.ntmps11
    go_wp2
    go_ret
    exact ⟨⟨(c.tmod (h + 1) + h + 1).toNat, by omega, ret_int (by omega)⟩, rfl⟩
  · go_enter Tryz.func11, Tryz.ntmps11
    go_wp2
    go_ret
    exact ⟨⟨(c.tmod (h + 1)).toNat, by omega, ret_int (by omega)⟩, rfl⟩

theorem packErr_ne {k st : Int} {l : Lk.Bs} (h : Lk.packErr k st l ≠ 0) : k < 0 ∨ (0 ≤ k ∧ 7 < k) ∨ (0 ≤ k ∧ k ≤ 7 ∧ st < 0) ∨ (0 ≤ k ∧ k ≤ 7 ∧ 0 ≤ st ∧ 268435455 < st) ∨ (0 ≤ k ∧ k ≤ 7 ∧ 0 ≤ st ∧ st ≤ 268435455 ∧ 64 < l.length)
    ∨ (0 ≤ k ∧ k ≤ 7 ∧ 0 ≤ st ∧ st ≤ 268435455 ∧ l.length ≤ 64 ∧ k ≠ 0) ∨ (k = 0 ∧ st = 0 ∧ l.length ≤ 64) := by
  by_cases h1 : k = 0 ∧ 0 < st ∧ st ≤ 268435455 ∧ l.length ≤ 64
  · obtain ⟨rfl, h2, h3, h4⟩ := h1
    exfalso
    apply h
    unfold Lk.packErr
    rw [if_neg (by omega), if_neg (by omega), if_neg (by simp [Lk.streamFits]; omega), if_neg (by omega), if_neg (by simp [Lk.lengthFits]), if_neg (by simp [Lk.payloadFits])]
  · omega

end Go.Proofs.YtbkpdapagfjmmaaGreatDoor

/-
  One Feed of a reader; rows and blocks that are two.
-/
namespace Go.Proofs.YtbkpdapagfjmmaaGreatDoor
open Go.RowKit

theorem framesV_at (fs : List Lk.Fr) : ∀ (i : Nat) (h : i < fs.length), (framesV fs)[i * 3]? = some (.int .i64 (fs[i].k : Int)) ∧ (framesV fs)[i * 3 + 1]? = some (.int .i64 (fs[i].st : Int)) ∧ (framesV fs)[i * 3 + 2]? = some (.string ⟨fs[i].d.toArray⟩) := by
  induction fs with
  | nil => intro i h; simp at h
  | cons f fs ih =>
    intro i h
    cases i with
    | zero => simp [framesV]
    | succ i =>
      have := ih i (by simpa using h)
      simp only [framesV, List.flatMap_cons, List.getElem_cons_succ] at this ⊢
      have e : (i + 1) * 3 = i * 3 + 3 := by omega
      rw [e]
      simpa using this

theorem framesV_len (fs : List Lk.Fr) : (framesV fs).length = fs.length * 3 := by
  induction fs with
  | nil => rfl
  | cons f fs ih => simp only [framesV, List.flatMap_cons, List.length_append, List.length_cons, List.length_nil] at ih ⊢; omega

/-- What a slice of frames is, for the walk. -/
theorem owned_frames {w : World} {B : Nat} {T : TypeId} {v : Value} {fs : List Lk.Fr} (h : w.ownsRow B T 3 v fs.length (framesV fs)) :
    (fs = [] ∧ v = .slice none 0 0) ∨ ∃ g cap, v = .slice (some ⟨g, 0, none⟩) fs.length cap ∧ B ≤ g ∧ g < w.heap.size ∧ fs.length ≤ cap ∧ ∀ i (h : i < fs.length), w.cell? ⟨g, i * 3, none⟩ = some (.int .i64 (fs[i].k : Int)) ∧ w.cell? ⟨g, i * 3 + 1, none⟩ = some (.int .i64 (fs[i].st : Int)) ∧ w.cell? ⟨g, i * 3 + 2, none⟩ = some (.string ⟨fs[i].d.toArray⟩) := by
  rcases h.2 with ⟨rfl, h0⟩ | ⟨g, cap, cur, rfl, hB, hg, hn, hc, hs, ht⟩
  · exact .inl ⟨List.eq_nil_of_length_eq_zero h0, rfl⟩
  · have hI : Is w g T cur.toList := by unfold Is; simpa using hg
    refine .inr ⟨g, cap, rfl, hB, hI.lt, hn, fun i hi => ?_⟩
    have e := framesV_at fs i hi
    have hc : ∀ j, j < fs.length * 3 → w.cell? ⟨g, j, none⟩ = (framesV fs)[j]? := by
      intro j hj
      rw [hI.cell j, ← ht, List.getElem?_take_of_lt hj]
    rw [hc _ (by omega), hc _ (by omega), hc _ (by omega)]
    exact e

namespace Lk
theorem all_len : ∀ (l : Bs), 3 * (all l).1.length ≤ l.length := by
  intro l
  induction h : l.length using Nat.strongRecOn generalizing l with
  | _ n ih =>
    subst h
    cases hx : nx l with
    | more => rw [all_more hx]; simp
    | err e => rw [all_err hx]; simp
    | frame k st d n =>
      have hb := nx_frame_bounds hx
      have := ih (l.drop n).length (by rw [List.length_drop]; omega) (l.drop n) rfl
      rw [all_frame hx]
      simp only [List.length_cons]
      rw [List.length_drop] at this
      omega

theorem all_rest72 : ∀ (l : Bs), (all l).2.1 = 0 → (all l).2.2.length ≤ 72 := by
  intro l
  induction h : l.length using Nat.strongRecOn generalizing l with
  | _ n ih =>
    subst h
    cases hx : nx l with
    | more => rw [all_more hx]; intro _; exact nx_more_len hx
    | err e => rw [all_err hx]; simp
    | frame k st d n =>
      have hb := nx_frame_bounds hx
      have := ih (l.drop n).length (by rw [List.length_drop]; omega) (l.drop n) rfl
      rw [all_frame hx]
      exact this

/-- One Feed: of a reader that keeps l and has the error f. -/
def fedFrames (l : Bs) (f : Int) (s : Bs) : List Fr := if f = 0 then (all (l ++ s)).1 else []
def fedErr (l : Bs) (f : Int) (s : Bs) : Int := if f = 0 then ((all (l ++ s)).2.1 : Int) else f
def fedRest (l : Bs) (f : Int) (s : Bs) : Bs := if f = 0 then (all (l ++ s)).2.2 else l
end Lk

theorem feed_any {T : TypeId} {more : List Value} (b : Nat) (s t : ByteArray) (f : Int) (w : World) (hs : f = 0 → s.size ≤ 72) (ht : t.size ≤ 2 ^ 39) (hI : Is w b T (.string s :: .int .i64 0 :: .int .i64 f :: more)) :
    Calls Tryz.prog 48 #[.pointer (some ⟨b, 0, none⟩), .string t] w fun e w' =>
      ∃ v, e = .returned (.tuple #[v, .int .i64 (Lk.fedErr s.data.toList f t.data.toList)])
        ∧ w'.ownsRow w.heap.size 79 3 v (Lk.fedFrames s.data.toList f t.data.toList).length (framesV (Lk.fedFrames s.data.toList f t.data.toList))
        ∧ (∃ s' : ByteArray, Is w' b T (.string s' :: .int .i64 0 :: .int .i64 (Lk.fedErr s.data.toList f t.data.toList) :: more) ∧ (Lk.fedErr s.data.toList f t.data.toList = 0 → s'.data.toList = Lk.fedRest s.data.toList f t.data.toList ∧ s'.size ≤ 72))
        ∧ Turns b w w' := by
  unfold Lk.fedErr Lk.fedFrames Lk.fedRest
  by_cases hf : f = 0
  · subst hf
    simp only [if_true]
    refine (feed_ok b s t w (by have := hs rfl; omega) hI).mono ?_
    rintro e w' ⟨v, rfl, ho, hI', hT⟩
    refine ⟨v, rfl, ho, ⟨_, hI', fun h => ⟨rfl, ?_⟩⟩, hT⟩
    have := Lk.all_rest72 _ (by omega : (Lk.all (s.data.toList ++ t.data.toList)).2.1 = 0)
    rw [size_list]
    exact this
  · simp only [if_neg hf]
    refine (feed_bad b s t f w hf hI).mono ?_
    rintro e w' ⟨rfl, n, rfl⟩
    exact ⟨_, rfl, World.ownsRow_nil _ _ _ _, ⟨s, hI.drewN n, fun h => absurd h hf⟩, (Turns.refl _ _).drewN n⟩

end Go.Proofs.YtbkpdapagfjmmaaGreatDoor

/-
  Walks: Feed.
-/
namespace Go.Proofs.YtbkpdapagfjmmaaGreatDoor
open Go.RowKit

/-- What was told, as a list that is handed on. -/
structure Said (w : World) (B : Nat) (v : Value) (evs : List EvH) : Prop where
  row : w.ownsRow B 116 5 v evs.length (evsV evs)
  hds : ∀ p ∈ evs, w.ownsRow B 112 2 p.2 p.1.hs.length (hdsV p.1.hs)
  apart : evs.Pairwise fun p q => p.2.ownBlock = none ∨ p.2.ownBlock ≠ q.2.ownBlock
def saidFoot (v : Value) (evs : List EvH) (i : Nat) : Prop := v.ownBlock = some i ∨ ∃ p ∈ evs, p.2.ownBlock = some i
theorem Said.only {S : Nat → Prop} {w w' : World} {B : Nat} {v : Value} {evs : List EvH} (h : Said w B v evs) (k : Only S w w') (hn : ∀ i, saidFoot v evs i → ¬ S i) : Said w' B v evs :=
  ⟨own_only h.row k (fun i hi => hn i (.inl hi)), fun p hp => own_only (h.hds p hp) k (fun i hi => hn i (.inr ⟨p, hp, hi⟩)), h.apart⟩
theorem Said.lt {w : World} {B : Nat} {v : Value} {evs : List EvH} (h : Said w B v evs) : ∀ i, saidFoot v evs i → B ≤ i ∧ i < w.heap.size := by
  intro i hi
  rcases hi with hi | ⟨p, hp, hi⟩
  · exact h.row.lt i hi
  · exact (h.hds p hp).lt i hi
theorem Said.nil (w : World) (B : Nat) : Said w B (.slice none 0 0) [] := ⟨World.ownsRow_nil _ _ _ _, by simp, by simp⟩
/-- What a Feed leaves. -/
def FPost (w : World) (b : Nat) (d : PD) (e' : Lk.En) (evl : List Lk.Ev) (v : Value) (w' : World) : Prop :=
  ∃ d' evs, evs.map Prod.fst = evl ∧ PEnd w' b e' d' ∧ Said w' w.heap.size v evs ∧ (∀ i, saidFoot v evs i → ¬ foot b d' i) ∧ (∀ i, foot b d' i → foot b d i ∨ w.heap.size ≤ i) ∧ Only (foot b d) w w'

theorem Only.tight {S : Nat → Prop} {w w' : World} (h : Only (fun i => S i ∨ w.heap.size ≤ i) w w') : Only S w w' :=
  ⟨h.os, h.tape, h.output, h.size, fun i hi hn => h.block i hi (fun hx => hx.elim hn (fun h => by omega))⟩
theorem Live.again {w w' : World} {b : Nat} {e : Lk.En} {d : PD} (h : Live w b e d) {r : Lk.Bs} {x : Nat} (hr : Lk.all r = ([], 0, r)) (hI : Is w' b 101 (ecOf ((e.at r).dn x) d).cells) (hO : Only (· = b) w w') : Live w' b ((e.at r).dn x) d := by
  have hR : Rw w' b (ecOf ((e.at r).dn x) d) d.fs := h.rw.cell hI hO rfl
  have := (h.rowOp (e' := (e.at r).dn x) (rs' := d.rs) (fs' := d.fs) hR (hO.mono (fun i hi => .inl hi)) rfl rfl rfl rfl rfl h.rowe h.good ((h.wf.at hr).withDown x) (fun y hy => .inl hy)).1
  exact this

/-- A live end, what it has told, and the frames that are still to come. -/
structure Fd (w W : World) (b g : Nat) (d : PD) (fv : Value) (fs : List Lk.Fr) (R : List Lk.Ev × Nat × Lk.En) (i : Nat) (e1 : Lk.En) (d1 : PD) (v1 : Value) (evs1 : List EvH) : Prop where
  up : FS W b e1 d1 g w.heap.size v1 evs1
  len : evs1.length ≤ 2 * i
  frs : W.ownsRow w.heap.size 79 3 fv fs.length (framesV fs)
  sep : ∀ x, fv.ownBlock = some x → ¬ foot b d1 x ∧ ¬ toldFoot g v1 evs1 x
  grow : ∀ i, foot b d1 i → foot b d i ∨ w.heap.size ≤ i
  only : Only (fun i => foot b d i ∨ w.heap.size ≤ i) w W
  res : (evs1.map Prod.fst ++ (e1.run (fs.drop i)).1, (e1.run (fs.drop i)).2) = R
theorem Fd.below {w W W' : World} {b g : Nat} {d : PD} {fv : Value} {fs : List Lk.Fr} {R : List Lk.Ev × Nat × Lk.En} {i : Nat} {e1 : Lk.En} {d1 : PD} {v1 : Value} {evs1 : List EvH} (h : Fd w W b g d fv fs R i e1 d1 v1 evs1) (hb : Below W.heap.size W W') : Fd w W' b g d fv fs R i e1 d1 v1 evs1 :=
  ⟨h.up.below hb, h.len, own_only h.frs (Only.of_below hb (fun _ => False)) (fun _ _ h => h), h.sep, h.grow, h.only.below hb, h.res⟩
/-- The work of one frame is done. -/
theorem Fd.step {w W W' : World} {b g : Nat} {d : PD} {fv : Value} {fs : List Lk.Fr} {R : List Lk.Ev × Nat × Lk.En} {i : Nat} {e1 : Lk.En} {d1 : PD} {v1 : Value} {evs1 : List EvH} (h : Fd w W b g d fv fs R i e1 d1 v1 evs1) (hi : i < fs.length) (hG : GPost W b d1 g w.heap.size v1 evs1 (e1.frame fs[i]).2.2 (e1.frame fs[i]).1 W') :
    ∃ d2 v2 evs2, FS W' b (e1.frame fs[i]).2.2 d2 g w.heap.size v2 evs2 ∧ (∀ i, foot b d2 i → foot b d i ∨ w.heap.size ≤ i) ∧ Only (fun i => foot b d i ∨ w.heap.size ≤ i) w W' ∧ evs2.length ≤ 2 * (i + 1)
      ∧ ((e1.frame fs[i]).2.1 = 0 → Fd w W' b g d fv fs R (i + 1) (e1.frame fs[i]).2.2 d2 v2 evs2)
      ∧ ((e1.frame fs[i]).2.1 ≠ 0 → R = (evs2.map Prod.fst, (e1.frame fs[i]).2.1, (e1.frame fs[i]).2.2)) := by
  obtain ⟨d2, v2, news, a1, a2, a3, a4, a5⟩ := hG
  have hlen : (evs1 ++ news).length ≤ 2 * (i + 1) := by
    have h1 := Lk.En.frame_two e1 fs[i]
    rw [← a1, List.length_map] at h1
    have := h.len
    rw [List.length_append]
    omega
  have hgrow : ∀ i, foot b d2 i → foot b d i ∨ w.heap.size ≤ i := fun x hx => by
    rcases a3 x hx with h' | h'
    · exact h.grow x h'
    · exact .inr (Nat.le_trans h.only.size h')
  have honly : Only (fun i => foot b d i ∨ w.heap.size ≤ i) w W' := h.only.trans a5 (fun x hx _ => by
    rcases hx with hx | hx
    · exact h.grow x hx
    · exact .inr (h.up.toldPos x hx))
  have hd : fs.drop i = fs[i] :: fs.drop (i + 1) := List.drop_eq_getElem_cons hi
  have hres := h.res
  rw [hd, Lk.En.run] at hres
  refine ⟨d2, v2, evs1 ++ news, a2, hgrow, honly, hlen, fun h0 => ⟨a2, hlen, ?_, fun x hx => ?_, hgrow, honly, ?_⟩, fun h0 => ?_⟩
  · refine own_only h.frs a5 (fun x hx hy => ?_)
    rcases hy with hy | hy
    · exact (h.sep x hx).1 hy
    · exact (h.sep x hx).2 hy
  · have hlt := (h.frs.lt x hx).2
    refine ⟨fun hy => ?_, fun hy => ?_⟩
    · rcases a3 x hy with h' | h'
      · exact (h.sep x hx).1 h'
      · omega
    · rcases a4 x hy with h' | h'
      · exact (h.sep x hx).2 h'
      · omega
  · rw [if_neg (by rw [h0]; simp)] at hres
    rw [← hres, List.map_append, a1, List.append_assoc]
  · rw [if_pos h0] at hres
    rw [← hres, List.map_append, a1]
/-- All is worked off, and no fault is known. -/
theorem Fd.fine {w W : World} {b g : Nat} {d d2 : PD} {e2 : Lk.En} {v2 : Value} {evs2 : List EvH} (h : FS W b e2 d2 g w.heap.size v2 evs2) (hg : ∀ i, foot b d2 i → foot b d i ∨ w.heap.size ≤ i) (hO : Only (fun i => foot b d i ∨ w.heap.size ≤ i) w W) (h0 : e2.down = 0) : FPost w b d e2 (evs2.map Prod.fst) v2 W :=
  ⟨d2, evs2, rfl, .inl ⟨h.live, h0⟩, ⟨h.told.row, h.told.hds, h.told.apart⟩, fun i hi => h.sep i (hi.elim (fun h => .inr (.inl h)) (fun h => .inr (.inr h))), hg, hO.tight⟩
/-- The end came down. -/
theorem Fd.fell {w W W' : World} {b g : Nat} {d d2 : PD} {e2 e3 : Lk.En} {v2 : Value} {evs2 : List EvH} (h : FS W b e2 d2 g w.heap.size v2 evs2) (hg : ∀ i, foot b d2 i → foot b d i ∨ w.heap.size ≤ i) (hO : Only (fun i => foot b d i ∨ w.heap.size ≤ i) w W) (hP : PPost W b d2 e3 W') : FPost w b d e3 (evs2.map Prod.fst) v2 W' := by
  obtain ⟨d3, h1, h2, h3⟩ := hP
  have hT := h.told.only h3 h.sep
  refine ⟨d3, evs2, rfl, h1, ⟨hT.row, hT.hds, hT.apart⟩, fun i hi hf => ?_, fun i hi => ?_, (hO.trans h3 (fun i hi _ => hg i hi)).tight⟩
  · have hi' : toldFoot g v2 evs2 i := hi.elim (fun h => .inr (.inl h)) (fun h => .inr (.inr h))
    rcases h2 i hf with h' | h'
    · exact h.sep i hi' h'
    · have := h.told.lt i hi'
      omega
  · rcases h2 i hi with h' | h'
    · exact hg i h'
    · exact .inr (Nat.le_trans hO.size h')
end Go.Proofs.YtbkpdapagfjmmaaGreatDoor
