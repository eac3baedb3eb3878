/-
  Walks: other answers meanwhile; a number from 0 to 200; a list with the same headers.
-/
import Derived.Test.YtbkpdapagfjmmaaDoorV6
import Derived.Test.YtbkpdapagfjmmaaDoorS3
import Derived.Test.YtbkpdapagfjmmaaDoorS2
namespace Go.Proofs.YtbkpdapagfjmmaaDoor
open Go.RowKit

theorem num_id (e : Int) (w : World) : Calls Tryd.prog 7 #[.int .i64 e] w fun r w' => r = .returned (.int .i64 e) ∧ w' = w := by
  go_enter Tryd.func7, Tryd.ntmps7
  go_wp2
  go_ret
  exact ⟨rfl, rfl⟩

theorem bounded200 (c : Int) (w : World) : Calls Tryd.prog 5 #[.int .i64 c, .int .i64 200] w fun r w' => (∃ n : Nat, n ≤ 200 ∧ r = .returned (.int .i64 n)) ∧ w' = w := by
  have b1 : c.tmod 201 < 201 := Int.tmod_lt_of_pos _ (by omega)
  have b2 : -201 < c.tmod 201 := by
    have e1 := Int.neg_tmod c 201
    have e2 := Int.tmod_lt_of_pos (-c) (show (0 : Int) < 201 by omega)
    omega
  by_cases h0 : c.tmod 201 < 0
  · go_enter Tryd.func5, Tryd.ntmps5
    go_wp2
    go_ret
    exact ⟨⟨(c.tmod 201 + 201).toNat, by omega, ret_int (by omega)⟩, rfl⟩
  · go_enter Tryd.func5, Tryd.ntmps5
    go_wp2
    go_ret
    exact ⟨⟨(c.tmod 201).toNat, by omega, ret_int (by omega)⟩, rfl⟩

set_option maxHeartbeats 1000000 in
set_option maxRecDepth 100000 in
theorem lawClone_none (w : World) : Calls Tryd.prog 10 #[.slice none 0 0] w fun e w' => e = .returned (.slice none 0 0) ∧ w' = w := by
  go_enter Tryd.func10, Tryd.ntmps10
  go_wp2_with fail
  refine wp_loop_rounds 1 ?_
  rw [rounds_succ]
  go_wp2_with fail
  go_ret
  exact ⟨rfl, rfl⟩
theorem lawClone_any (B : Nat) (v : Value) (l : List Lk.Hd) (w : World) (hl : l.length ≤ 1000) (own : w.ownsRow B 44 2 v l.length (hdsV l)) :
    Calls Tryd.prog 10 #[v] w fun e w' => ∃ v', e = .returned v' ∧ w'.ownsRow w.heap.size 44 2 v' l.length (hdsV l) ∧ Below w.heap.size w w' := by
  rcases owned_hds own with ⟨rfl, rfl⟩ | ⟨g, cap, rfl, _⟩
  · refine (lawClone_none w).mono ?_
    rintro e w' ⟨rfl, rfl⟩
    exact ⟨_, rfl, World.ownsRow_nil _ _ _ _, Below.refl _ _⟩
  · exact lawClone_some B g cap l w hl own

theorem newTable_at (z : Int) (B : Nat) (hz : z = B) (hB : B ≤ 200) (w : World) :
    Calls Tryd.prog 6 #[.int .i64 z] w fun e w' => ∃ t, e = .returned (.tuple #[.pointer (some ⟨t, 0, none⟩), .int .i64 0]) ∧ w.heap.size ≤ t ∧ Tab w' t B [] (.slice none 0 0) ∧ Below w.heap.size w w' := by
  subst hz
  exact newTable_ok B hB w

theorem Tab.turns {w w' : World} {t u B : Nat} {L : List Lk.Hd} {v : Value} {cs : List Value} (h : Tab w t B L v) (hT : Turns u w w') (hI : Is w u 60 cs) (hne : t ≠ u) : Tab w' t B L v :=
  ⟨h.blk.grown hT (by simpa using hne), own_turns h.own hI (Nat.ne_of_beq_eq_false rfl) hT, h.le, h.hB⟩

def threeL : List Lk.Hd := [⟨[113], [49]⟩, ⟨[114], [50]⟩, ⟨[115], [51]⟩]
theorem three_row (w : World) (T : TypeId) : (w.alloc (.cells #[.string ⟨#[113]⟩, .string ⟨#[49]⟩, .string ⟨#[114]⟩, .string ⟨#[50]⟩, .string ⟨#[115]⟩, .string ⟨#[51]⟩] T)).ownsRow w.heap.size T 2 (.slice (some ⟨w.heap.size, 0, none⟩) 3 3) threeL.length (hdsV threeL) :=
  ⟨rfl, .inr ⟨w.heap.size, 3, _, rfl, Nat.le_refl _, heap_alloc_new w _, Nat.le_refl _, by unfold maxLen; omega, rfl, rfl⟩⟩
theorem three_good : (Lk.wrong threeL).1 = 0 := by decide

set_option maxHeartbeats 2000000 in
set_option maxRecDepth 100000 in
theorem elsewhere_any (w : World) (hfx : Fx w) : Calls Tryd.prog 15 #[] w fun e w' => e = .returned (.tuple #[]) ∧ Below w.heap.size w w' := by
  have h0 := hfx.1
  have HFX := hide hfx
  clear hfx
  go_enter Tryd.func15, Tryd.ntmps15
  go_wp2_with fail
  refine (newTable_at 200 200 rfl (by omega) _).mono ?_
  rintro e w1 ⟨t, rfl, ht, hT1, hb1⟩
  have HT1 := hide hT1
  clear hT1
  go_wp2_with fail
  refine (newTable_at 200 200 rfl (by omega) _).mono ?_
  rintro e w2 ⟨u, rfl, hu, hU2, hb2⟩
  have hT2 := (unhide HT1).below hb2
  have htu : t ≠ u := by have := (unhide HT1).blk.lt; omega
  have hbel2 := hb1.trans (hb2.mono hb1.size)
  have hs2 := hbel2.size
  have HT2 := hide (hT2.alloc (.cells #[.string ⟨#[113]⟩, .string ⟨#[49]⟩, .string ⟨#[114]⟩, .string ⟨#[50]⟩, .string ⟨#[115]⟩, .string ⟨#[51]⟩] 44))
  have HU2 := hide (hU2.alloc (.cells #[.string ⟨#[113]⟩, .string ⟨#[49]⟩, .string ⟨#[114]⟩, .string ⟨#[50]⟩, .string ⟨#[115]⟩, .string ⟨#[51]⟩] 44))
  have HO := hide (three_row w2 44)
  have hbel3 := hbel2.alloc hs2 (.cells #[.string ⟨#[113]⟩, .string ⟨#[49]⟩, .string ⟨#[114]⟩, .string ⟨#[50]⟩, .string ⟨#[115]⟩, .string ⟨#[51]⟩] 44)
  have hu2 := hb1.size
  clear hT2 hU2 hb1 hb2 HT1
  go_wp2_with fail
  refine (squeezeCall_ok t 200 _ [] threeL _ _ _ (unhide HT2) ((unhide HFX).below hbel3 h0) (by omega) three_good (unhide HO)).mono ?_
  rintro e w4 ⟨rfl, ⟨v4, hT4⟩, hTu4⟩
  have hU4 := (unhide HU2).turns hTu4 (unhide HT2).blk (Ne.symm htu)
  have hbel4 := Turns.toBelow hbel3 hTu4 (by omega) (by simp; omega)
  have hex := Lk.exR_squeeze 200 (by omega) threeL [] [] 6 (by decide) (by simp [Lk.weights]) (Lk.wrong_ok three_good).2
  simp only [List.nil_append, List.length_nil] at hex
  have hlen := Lk.squeeze_len 200 (by omega) threeL [] (by simp [Lk.weights]) (Lk.wrong_ok three_good).2
  generalize hS : (Lk.squeeze 200 [] threeL).1 = S at *
  have HU4 := hide hU4
  have HEX : Hid (Lk.exR 200 (bs S).data.toList 6 [] 0 = .ok threeL (Lk.squeeze 200 [] threeL).2) := by rw [bs_list]; exact hex
  have hSs : (bs S).size ≤ 2 ^ 48 := by
    rw [bs_size]
    have : threeL.length = 3 := rfl
    omega
  have hs4 := hbel4.size
  clear hT4 hTu4 hU4 hex hlen hS
  go_wp2_with fail
  refine (expand_any u 200 [] _ (bs S) _ hSs (unhide HU4) ((unhide HFX).below hbel4 h0) _ HEX).mono ?_
  rintro e w5 ⟨⟨lv, v5, rfl, _, hU5, _⟩, hTu5⟩
  have hbel5 := Turns.toBelow hbel4 hTu5 (by omega) hs4
  have HU5 := hide hU5
  clear hU5
  go_wp2_with fail
  refine (entries_any u 200 _ _ _ (unhide HU5)).mono ?_
  rintro e w6 ⟨v6, rfl, _, hb6⟩
  go_wp2_with fail
  go_end0
  exact ⟨rfl, hbel5.trans (hb6.mono hbel5.size)⟩
end Go.Proofs.YtbkpdapagfjmmaaDoor
