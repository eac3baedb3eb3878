/-
  Walks: the document's NewTable and Squeeze.
-/
import Derived.Test.YtbkpdapagfjmmaaGreatDoorL3
import Derived.Test.YtbkpdapagfjmmaaGreatDoorS1
import Derived.Test.YtbkpdapagfjmmaaGreatDoorU2
namespace Go.Proofs.YtbkpdapagfjmmaaGreatDoor
open Go.RowKit

namespace Lk
theorem wrongAt_place : ∀ (l : List Hd) (i : Nat), (wrongAt i l).1 = 0 → (wrongAt i l).2 = 0
  | [], i, _ => rfl
  | x :: l, i, h => by
    rw [wrongAt] at h ⊢
    split at h
    · rename_i hg
      rw [if_pos hg]
      exact wrongAt_place l (i + 1) h
    · cases h
theorem wrong_place {l : List Hd} (h : (wrong l).1 = 0) : (wrong l).2 = 0 := by
  unfold wrong at h ⊢
  split at h
  · cases h
  · rename_i hl
    rw [if_neg hl]
    exact wrongAt_place l 0 h
end Lk

theorem rnewTable_ok (B : Nat) (hB : B ≤ 200) (w : World) :
    Calls Tryz.prog 53 #[.int .i64 B] w fun e w' => ∃ t, e = .returned (.tuple #[.pointer (some ⟨t, 0, none⟩), .int .i64 0]) ∧ w.heap.size ≤ t ∧ RTab w' t B [] (.slice none 0 0) ∧ Below w.heap.size w w' := by
  have h1 : ¬ (B : Int) < 0 := by omega
  have h2 : ¬ 200 < (B : Int) := by omega
  go_enter Tryz.func53, Tryz.ntmps53
  go_wp2_with fail
  go_ret2
  exact ⟨_, rfl, Nat.le_refl _, ⟨Is.new w 196 [.int .i64 B, .slice none 0 0], World.ownsRow_nil _ _ _ _, by simp [Lk.weights], hB⟩, (Below.refl _ _).alloc (Nat.le_refl _) _⟩
theorem rnewTable_bad (n : Int) (hn : n < 0 ∨ 200 < n) (w : World) :
    Calls Tryz.prog 53 #[.int .i64 n] w fun e w' => e = .returned (.tuple #[.pointer none, .int .i64 1]) ∧ Below w.heap.size w w' := by
  by_cases h1 : n < 0
  · go_enter Tryz.func53, Tryz.ntmps53
    go_wp2_with fail
    go_ret2
    exact ⟨rfl, Below.refl _ _⟩
  · have h2 : 200 < n := by omega
    go_enter Tryz.func53, Tryz.ntmps53
    go_wp2_with fail
    go_ret2
    exact ⟨rfl, Below.refl _ _⟩

theorem rown_turns {w w' : World} {t B n : Nat} {v : Value} {xs cs : List Value} {T : TypeId} (h : w.ownsRow B 206 2 v n xs) (hI : Is w t T cs) (hT : T ≠ 206) (hb : Turns t w w') : w'.ownsRow B 206 2 v n xs :=
  h.kept hb (.inr (fun e => own_ne h hI hT e.symm))

theorem rsqueeze_bad (t B1 : Nat) (l : List Lk.Hd) (lv : Value) (w : World) (hw : (Lk.wrong l).1 ≠ 0) (own : w.ownsRow B1 206 2 lv l.length (hdsV l)) :
    Calls Tryz.prog 60 #[.pointer (some ⟨t, 0, none⟩), lv] w fun e w' =>
      e = .returned (.tuple #[.string ⟨#[]⟩, .int .i64 (Lk.wrong l).1, .int .i64 (Lk.wrong l).2]) ∧ Below w.heap.size w w' := by
  have HO := hide own
  clear own
  generalize hE1 : (Lk.wrong l).1 = E at hw ⊢
  have hE : ((E : Int) != 0) = true := by rw [bne_iff_ne]; omega
  have HE := hide hE1
  clear hE1
  go_enter Tryz.func60, Tryz.ntmps60
  go_wp2_with fail
  refine (refWrong_any B1 lv l _ (unhide HO)).mono ?_
  rintro e w1 ⟨he, hb⟩
  rw [unhide HE] at he
  subst he
  go_wp2_with fail
  go_ret3
  exact ⟨rfl, hb⟩

set_option maxHeartbeats 2000000 in
set_option maxRecDepth 100000 in
theorem rsqueeze_ok (t B B1 : Nat) (L l : List Lk.Hd) (v lv : Value) (w : World) (hT : RTab w t B L v) (hw : (Lk.wrong l).1 = 0) (own : w.ownsRow B1 206 2 lv l.length (hdsV l)) :
    Calls Tryz.prog 60 #[.pointer (some ⟨t, 0, none⟩), lv] w fun e w' =>
      e = .returned (.tuple #[.string (bs (Lk.squeeze B L l).1), .int .i64 0, .int .i64 0]) ∧ (∃ v', RTab w' t B (Lk.squeeze B L l).2 v') ∧ Turns t w w' := by
  have hok := Lk.wrong_ok hw
  have hl6 := hok.1
  obtain ⟨la, lcap, hlv⟩ := row_form own
  subst hlv
  have HO := hide own
  have HT := hide hT
  have HG := hide hok.2
  have hw2 : (Lk.wrong l).2 = 0 := Lk.wrong_place hw
  clear own hT hok
  generalize hS : bs (Lk.squeeze B L l).1 = S
  have HS := hide hS
  clear hS
  go_enter Tryz.func60, Tryz.ntmps60
  go_wp2_with fail
  refine (refWrong_any B1 _ l _ (unhide HO)).mono ?_
  rintro e w1 ⟨he, hb⟩
  rw [hw, hw2] at he
  subst he
  have HT1 := hide ((unhide HT).below hb)
  have HO1 := hide (own_below (unhide HO) hb)
  have hTb := Below.turns hb t
  clear hb
  go_wp2_with fail
  go_loopw [9, 10] (fun s u wr => ∃ (k : Nat) (v' : Value), u = .int .i64 k ∧ k ≤ l.length ∧ s = .string (bs (Lk.squeeze B L (l.take k)).1) ∧ RTab wr t B (Lk.squeeze B L (l.take k)).2 v' ∧ Turns t w1 wr) (fun _ u _ => l.length - (intOf u).toNat)
  case atStart => exact ⟨0, v, rfl, by omega, rfl, unhide HT1, Turns.refl _ _⟩
  case round =>
    obtain ⟨k, v', rfl, hk, rfl, hTk, hTu⟩ := hrel
    by_cases hlt : k < l.length
    · have hlt' : (k : Int) < l.length := by omega
      obtain ⟨x, hx⟩ : ∃ x, l[k]? = some x := ⟨_, List.getElem?_eq_getElem hlt⟩
      obtain ⟨g, gc, hform, _⟩ := (unhide HO1).form (by omega)
      cases hform
      obtain ⟨hg2, x0, x1⟩ := row_at2 (rown_turns (unhide HO1) (unhide HT1).blk (Nat.ne_of_beq_eq_false rfl) hTu) hx
      have hxg := Lk.good_len ((unhide HG) x (List.mem_of_getElem? hx))
      have hsl := Lk.squeeze_len B hTk.hB (l.take k) L (unhide HT).le (fun y hy => (unhide HG) y (List.mem_of_mem_take hy))
      rw [List.length_take] at hsl
      have hol := Lk.oneP_len B (Lk.squeeze B L (l.take k)).2 x (by rw [Lk.ents_len]; have := hTk.len; omega) hxg.1 hxg.2
      have e := Lk.squeeze_snoc B (l.take k) L x
      rw [take_snoc hx] at e
      have e1 := congrArg Prod.fst e
      have e2 := congrArg Prod.snd e
      simp only at e1 e2
      have s1 := bs_size (Lk.squeeze B L (l.take k)).1
      have s2 := bs_size (Lk.oneP B (Lk.squeeze B L (l.take k)).2 x).1
      have hres := bs_append (Lk.squeeze B L (l.take k)).1 (Lk.oneP B (Lk.squeeze B L (l.take k)).2 x).1
      rw [← e1] at hres
      have HC := hide (rone_any t B _ x v' wr hTk hxg.1 hxg.2 (Lk.oneP B (Lk.squeeze B L (l.take k)).2 x).1 (Lk.oneP B (Lk.squeeze B L (l.take k)).2 x).2 (hide rfl))
      rw [← e2] at HC
      generalize bs (Lk.squeeze B L (l.take k)).1 = W1 at *
      generalize bs (Lk.oneP B (Lk.squeeze B L (l.take k)).2 x).1 = W2 at *
      have hadd : W1.size + W2.size ≤ 9223372036854775807 := by omega
      have HRES := hide hres
      clear hres s1 s2 e e1 e2 hol hsl hTk hx
      go_wp2_with fail
      refine (unhide HC).mono ?_
      rintro e w2 ⟨rfl, ⟨v2, hT2, _⟩, hTu2⟩
      have HT2 := hide hT2
      clear hT2 x0 x1
      go_wp2_with fail
      go_roundw
      case rel => exact ⟨k + 1, v2, by simp, by omega, by rw [unhide HRES], unhide HT2, hTu.trans hTu2⟩
      case measure => simp [intOf]; omega
    · have hlt' : ¬ (k : Int) < l.length := by omega
      have hkl : k = l.length := by omega
      rw [hkl, List.take_length] at hTk
      have hSk : bs (Lk.squeeze B L (l.take k)).1 = S := by rw [hkl, List.take_length]; exact unhide HS
      generalize bs (Lk.squeeze B L (l.take k)).1 = S' at *
      subst hSk
      have HTk := hide hTk
      clear hTk
      go_wp2_with fail
      go_ret3
      exact ⟨rfl, ⟨v', unhide HTk⟩, hTb.trans hTu⟩
end Go.Proofs.YtbkpdapagfjmmaaGreatDoor
