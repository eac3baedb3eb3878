/-
  The statement Returned: its walk where a frame is packed.
-/
import Derived.Test.YtbkpdapagfjmmaaRet1
namespace Go.Proofs.Ytbkpdapagfjmmaa
open Go.RowKit

theorem bounded_at (c hi : Int) (h : Nat) (w : World) (hh : h ≤ 2 ^ 40) (h1 : -9223372036854775808 ≤ c) (h2 : c ≤ 9223372036854775807) (e : hi = h) :
    Calls Try.prog 10 #[.int .i64 c, .int .i64 hi] w fun r w' => (∃ n : Nat, n ≤ h ∧ r = .returned (.int .i64 n)) ∧ w' = w := by
  subst e
  exact bounded_any c h w hh h1 h2

set_option maxHeartbeats 1000000 in
set_option maxRecDepth 100000 in
theorem returned_yes (m n : Nat) (s : ByteArray) (c : Int) (w : World) (hs : s.size ≤ maxLen) (hg : Lk.Good m n s.data.toList) (hc1 : -9223372036854775808 ≤ c) (hc2 : c ≤ 9223372036854775807) :
    Calls Try.prog 4 #[.int .i64 m, .int .i64 n, .string s, .int .i64 c] w fun e w' => e = .returned (.bool true) ∧ Below w.heap.size w w' := by
  have HP := hide (fun w => pack_any m n s w hs)
  have he := Lk.packErr_good hg
  have hps : packStr m n s.data.toList = ⟨(Lk.packed m n s.data.toList).toArray⟩ := by rw [packStr, if_pos he]
  rw [hps, he] at HP
  clear he hps
  have hlen : (Lk.packed m n s.data.toList).length = 1 + (Lk.wire n).length + (Lk.wire s.size).length + s.size := by rw [← pack_len m n s]; omega
  have l1 := Lk.wire_len_le4 n hg.st28
  have l2 := Lk.wire_len_le4 s.size (by have := hg.len; rw [size_list]; omega)
  have l3 := Lk.wire_len_pos n
  have hl64 : s.size ≤ 64 := by rw [size_list]; exact hg.len
  have HPART := hide (fun j hj => Lk.nx_part hg j hj)
  have HTWICE := hide (Lk.all_twice hg)
  generalize hP : Lk.packed m n s.data.toList = P at *
  clear hP
  have hP1 : 2 ≤ P.length := by omega
  have hP2 : P.length ≤ 73 := by omega
  clear hlen l1 l2 l3
  obtain ⟨ps, hps⟩ : ∃ ps : ByteArray, ps = ⟨P.toArray⟩ := ⟨_, rfl⟩
  have hpl : ps.data.toList = P := by rw [hps]
  have hpz : ps.size = P.length := by rw [size_list, hpl]
  rw [← hps] at HP
  have hpe : ps.toList.isEmpty = false := by
    rw [ByteArray.toList_eq, hpl]
    cases P with
    | nil => simp at hP1
    | cons x t => rfl
  have HPS := hide hps
  have HPL := hide hpl
  have HPZ := hide hpz
  have hz1 : 2 ≤ ps.size := by omega
  have hz2 : ps.size ≤ 73 := by omega
  clear hps hpl hpz
  have hb0 : Below w.heap.size w (w.alloc (.cells #[.int .i64 m, .int .i64 n, .string s] 26)) := (Below.refl _ _).alloc (Nat.le_refl _) _
  have hF0 := Is.new w 26 [.int .i64 m, .int .i64 n, .string s]
  go_enter Try.func4, Try.ntmps4
  go_wp2_with fail
  refine (unhide HP _).mono ?_
  rintro e w1 ⟨rfl, hb1⟩
  have hF1 := hF0.below hb1 (by simp)
  have hbw1 := hb0.trans (hb1.mono (by simp))
  clear hb0 hb1 hF0
  go_wp2_with fail
  refine (num_any 0 _).mono ?_
  rintro e w4 ⟨rfl, rfl⟩
  go_wp2_with fail
  refine (newReader_any _).mono ?_
  rintro e w2 ⟨rfl, rfl⟩
  go_wp2_with fail
  refine (bounded_at c _ (ps.size - 1) _ (by omega) hc1 hc2 (by omega)).mono ?_
  rintro e w3 ⟨⟨j, hj, rfl⟩, rfl⟩
  have hjz : (j : Int) ≤ ps.size := by omega
  have hR1 := Is.new w4 52 [.string ⟨#[]⟩, .int .i64 0, .int .i64 0]
  have hF2 := hF1.alloc (.cells #[.string ⟨#[]⟩, .int .i64 0, .int .i64 0] 52)
  have hbw2 := hbw1.alloc hbw1.size (.cells #[.string ⟨#[]⟩, .int .i64 0, .int .i64 0] 52)
  have hne : w4.heap.size ≠ w.heap.size := Nat.ne_of_gt hF1.lt
  have hle := hbw1.size
  clear hF1 hbw1
  go_wp2_with fail
  refine (feed_ok w4.heap.size ⟨#[]⟩ (ps.extract 0 j) _ (by rw [ByteArray.size_extract]; show 0 + (min j ps.size - 0) ≤ _; omega) hR1).mono ?_
  have e1 : (([] : Lk.Bs) ++ (ps.extract 0 j).data.toList) = P.take j := by rw [List.nil_append, extract_list, unhide HPL]; simp
  have e2 : Lk.all (P.take j) = ([], 0, P.take j) := Lk.all_more (unhide HPART j (by have := unhide HPZ; omega))
  rw [show (ByteArray.mk #[]).data.toList = [] from rfl, e1, e2]
  clear e1 e2
  rintro e w5 ⟨v5, rfl, ho5, hI5, hT5⟩
  have hF5 := hF2.grown hT5 (by simpa using hne.symm)
  have hbw5 := hT5.toBelow hbw2 hle hbw2.size
  clear hR1 hF2 hbw2 hT5
  dsimp only at ho5 hI5
  go_wp2_with fail
  refine (feed_ok w4.heap.size ⟨(P.take j).toArray⟩ (ps.extract j ps.size ++ ps) _ (by rw [ByteArray.size_append, ByteArray.size_extract]; have e : (ByteArray.mk (P.take j).toArray).size = (P.take j).length := by simp [ByteArray.size]
                                                                                       rw [e, List.length_take]; omega) hI5).mono ?_
  have e1 : (ByteArray.mk (P.take j).toArray).data.toList ++ (ps.extract j ps.size ++ ps).data.toList = P ++ P := by
    have a1 : (ps.extract j ps.size ++ ps).data.toList = (ps.extract j ps.size).data.toList ++ ps.data.toList := by simp
    rw [a1, extract_end, unhide HPL, ← List.append_assoc]
    congr 1
    exact List.take_append_drop j P
  rw [e1, unhide HTWICE]
  clear e1
  rintro e w6 ⟨v6, rfl, ho6, hI6, hT6⟩
  have hF6 := hF5.grown hT6 (by simpa using hne.symm)
  have hbw6 := hT6.toBelow hbw5 hle hbw5.size
  clear hF5 hbw5 hT6 hI5 hI6
  rcases ho6.2 with ⟨_, h0⟩ | ⟨g, cap, cur, rfl, hgB, hgg, hn, hcm, hcs, htk⟩
  · simp at h0
  have hG : Is w6 g 26 cur.toList := by unfold Is; simpa using hgg
  have hcell : ∀ i, i < 6 → w6.cell? ⟨g, i, none⟩ = (framesV [⟨m, n, s.data.toList⟩, ⟨m, n, s.data.toList⟩])[i]? := by
    intro i hi
    rw [hG.cell i, ← htk, List.getElem?_take_of_lt (by simpa using hi)]
  have q0 := hcell 0 (by omega)
  have q1 := hcell 1 (by omega)
  have q2 := hcell 2 (by omega)
  have q3 := hcell 3 (by omega)
  have q4 := hcell 4 (by omega)
  have q5 := hcell 5 (by omega)
  simp only [framesV, List.flatMap_cons, List.flatMap_nil, List.append_nil, List.cons_append, List.nil_append, List.getElem?_cons_zero, List.getElem?_cons_succ] at q0 q1 q2 q3 q4 q5
  obtain ⟨r0, r1, r2⟩ := hF6.three
  clear hcell hG hgg htk
  obtain ⟨a5, c5, rfl⟩ : ∃ a5 c5, v5 = .slice a5 0 c5 := by
    rcases ho5.2 with ⟨h, _⟩ | ⟨g', cap', cur', h, _⟩
    · exact ⟨_, _, h⟩
    · exact ⟨_, _, h⟩
  have heta : (⟨s.data.toList.toArray⟩ : ByteArray) = s := by cases s; simp
  rw [heta] at q2 q5
  clear heta ho6 ho5 hpe HPS HPL HPZ HTWICE HPART HP hg hs hgB hn hcm hcs
  go_wp2_with fail
  go_quiet ((go_at_call 8; exact Calls.quiet_of_same (num_any _ _)))
  go_wp2_with fail
  go_ret
  exact ⟨rfl, Below.drewN hbw6 _⟩

end Go.Proofs.Ytbkpdapagfjmmaa
