/-
  Walks: Squeeze.
-/
import Derived.Test.YtbkpdapagfjmmaaGreatDoorU1
namespace Go.Proofs.YtbkpdapagfjmmaaGreatDoor
open Go.RowKit

namespace Lk
theorem good_len {h : Hd} (hg : good h = true) : h.n.length ≤ 16 ∧ h.v.length ≤ 32 := by
  simp only [good, fits, lenOk, Bool.and_eq_true, if_true, decide_eq_true_eq] at hg
  obtain ⟨⟨h1, _⟩, h2, _⟩ := hg
  simp at h2
  omega
theorem oneP_len (B : Nat) (L : List Hd) (h : Hd) (hL : (ents L).length ≤ 54) (hn : h.n.length ≤ 16) (hv : h.v.length ≤ 32) : (oneP B L h).1.length ≤ 60 := by
  have h1 := low_le (sameHd h) (ents L)
  have h2 := low_le (sameName h) (ents L)
  have w1 := wire_len_le4 (2 * low (sameHd h) (ents L)) (by omega)
  have w2 := wire_len_le4 (2 * (low (sameName h) (ents L) + 1) + 1) (by omega)
  have w3 := wire_len_le4 1 (by omega)
  have w4 := wire_len_le4 h.n.length (by omega)
  have w5 := wire_len_le4 h.v.length (by omega)
  unfold oneP text
  split
  · simp only; omega
  · split <;> simp only [List.length_append] <;> omega
theorem squeeze_len (B : Nat) (hB : B ≤ 200) : ∀ (hs L : List Hd), weights L ≤ B → (∀ h ∈ hs, good h = true) → (squeeze B L hs).1.length ≤ 60 * hs.length
  | [], L, _, _ => by simp [squeeze]
  | x :: hs, L, hL, hg => by
    have hlen := weights_len L
    have hb := good_len (hg x (by simp))
    have h1 := oneP_len B L x (by rw [ents_len]; omega) hb.1 hb.2
    have h2 := squeeze_len B hB hs (oneP B L x).2 (oneP_weights B L x hL) (fun y hy => hg y (by simp [hy]))
    simp only [squeeze, List.length_append, List.length_cons]
    omega
end Lk

theorem take_snoc {l : List Lk.Hd} {k : Nat} {x : Lk.Hd} (hx : l[k]? = some x) : l.take k ++ [x] = l.take (k + 1) := by
  rw [List.take_add_one, hx]; rfl
theorem conv_nil (w : World) : (convert 78 9 (.slice none 0 0)).run Tryz.prog w = .ok (.string ⟨#[]⟩) w := by
  rw [run_convert_bytes_nil w 78 5 Tryz.underlying78 Tryz.underlying5 0 0 9 Tryz.underlying9]; rfl
theorem own_turns {w w' : World} {t B n : Nat} {v : Value} {xs cs : List Value} {T : TypeId} (h : w.ownsRow B 112 2 v n xs) (hI : Is w t T cs) (hT : T ≠ 112) (hb : Turns t w w') : w'.ownsRow B 112 2 v n xs :=
  h.kept hb (.inr (fun e => own_ne h hI hT e.symm))

set_option maxHeartbeats 1000000 in
set_option maxRecDepth 100000 in
theorem squeeze_none (t cap : Nat) (ad : Option Addr) (w : World) :
    Calls Tryz.prog 82 #[.pointer (some ⟨t, 0, none⟩), .slice ad 0 cap] w fun e w' => e = .returned (.string ⟨#[]⟩) ∧ Below w.heap.size w w' := by
  have hcv := conv_nil w
  go_enter Tryz.func82, Tryz.ntmps82
  go_wp2_with fail
  refine wp_loop_rounds 1 ?_
  rw [rounds_succ]
  go_wp2_with fail
  go_ret
  exact ⟨rfl, Below.refl _ _⟩

set_option maxHeartbeats 2000000 in
set_option maxRecDepth 100000 in
theorem squeeze_some (t B g cap B1 : Nat) (L l : List Lk.Hd) (v : Value) (w : World) (hT : Tab w t B L v) (hfx : Fx w) (ht0 : t ≠ 0) (hl : l.length ≤ 6) (hl0 : 0 < l.length) (hgood : ∀ h ∈ l, Lk.good h = true)
    (own : w.ownsRow B1 112 2 (.slice (some ⟨g, 0, none⟩) l.length cap) l.length (hdsV l)) :
    Calls Tryz.prog 82 #[.pointer (some ⟨t, 0, none⟩), .slice (some ⟨g, 0, none⟩) l.length cap] w fun e w' =>
      e = .returned (.string (bs (Lk.squeeze B L l).1)) ∧ (∃ v', Tab w' t B (Lk.squeeze B L l).2 v' ∧ NewOr w.heap.size v v') ∧ Turns t w w' := by
  have h0 := hfx.1
  have HT := hide hT
  have HFX := hide hfx
  have HG := hide hgood
  have HO := hide own
  clear hT hfx hgood own
  generalize hS : bs (Lk.squeeze B L l).1 = S
  have HS := hide hS
  clear hS
  go_enter Tryz.func82, Tryz.ntmps82
  go_wp2_with fail
  go_loopw [5, 10] (fun u5 u wr => ∃ (k : Nat) (v' : Value), u = .int .i64 k ∧ k ≤ l.length ∧ (Tab wr t B (Lk.squeeze B L (l.take k)).2 v' ∧ NewOr w.heap.size v v') ∧ Hid (wr.ownsRow w.heap.size 5 1 u5 (Lk.squeeze B L (l.take k)).1.length (bytesV (Lk.squeeze B L (l.take k)).1)) ∧ TurnsU t w.heap.size w wr) (fun _ u _ => l.length - (intOf u).toNat)
  case atStart => exact ⟨0, v, rfl, by omega, ⟨unhide HT, .inl rfl⟩, World.ownsRow_nil _ _ _ _, TurnsU.refl _ _ _⟩
  case round =>
    obtain ⟨k, v', rfl, hk, ⟨hTk, hNk⟩, HOk, hU⟩ := hrel
    by_cases hlt : k < l.length
    · have hlt' : (k : Int) < l.length := by omega
      obtain ⟨x, hx⟩ : ∃ x, l[k]? = some x := ⟨_, List.getElem?_eq_getElem hlt⟩
      obtain ⟨hg2, x0, x1⟩ := row_at2 (own_turns (unhide HO) (unhide HT).blk (Nat.ne_of_beq_eq_false rfl) hU.toTurns) hx
      have hxg := Lk.good_len ((unhide HG) x (List.mem_of_getElem? hx))
      have hsz := hU.2.2.2.1
      have hsl := Lk.squeeze_len B hTk.hB (l.take k) L (unhide HT).le (fun y hy => (unhide HG) y (List.mem_of_mem_take hy))
      rw [List.length_take] at hsl
      have HX := hide hx
      have HTk := hide hTk
      have HU := hide hU
      clear hx hTk hU
      go_wp2_with fail
      refine (appendPart_any t B w.heap.size (Lk.squeeze B L (l.take k)).2 x v' u5 (Lk.squeeze B L (l.take k)).1 _ ((unhide HTk).alloc _) (((unhide HFX).turnsU (unhide HU) h0 (Ne.symm ht0)).below ((Below.refl _ _).alloc (Nat.le_refl _) _) (by omega)) (by simp; omega) ((unhide HOk).alloc _) (by omega) hxg.1 hxg.2).mono ?_
      rintro e w2 ⟨v2, bv2, rfl, ⟨hT2, hN2⟩, ho2, hU2⟩
      have hN3 := hNk.trans hN2 (by simp; omega)
      clear hN2
      have e := Lk.squeeze_snoc B (l.take k) L x
      rw [take_snoc (unhide HX)] at e
      have e1 := congrArg Prod.fst e
      have e2 := congrArg Prod.snd e
      simp only at e1 e2
      rw [← e2] at hT2
      rw [← e1] at ho2
      have hU3 := ((unhide HU).below ((Below.refl w.heap.size wr).alloc (by omega) _)).trans hU2
      have HO2 := hide ho2
      clear e e1 e2 ho2 hU2 x0 x1
      go_wp2_with fail
      go_roundw
      case rel => exact ⟨k + 1, v2, by simp, by omega, ⟨hT2, hN3⟩, HO2, hU3⟩
      case measure => simp [intOf]; omega
    · have hlt' : ¬ (k : Int) < l.length := by omega
      have hkl : k = l.length := by omega
      rw [hkl, List.take_length] at hTk HOk
      have hcv := owned_string (unhide HOk) (by
        rcases Nat.eq_zero_or_pos (Lk.squeeze B L l).1.length with h | h
        · have := (Lk.squeeze_nil B l L).1 (List.eq_nil_of_length_eq_zero h)
          rw [this] at hl0
          simp at hl0
        · exact h)
      rw [show (⟨(Lk.squeeze B L l).1.toArray⟩ : ByteArray) = S from unhide HS] at hcv
      have HTk := hide hTk
      have HU := hide hU
      clear hTk hU
      go_wp2_with fail
      go_ret
      exact ⟨rfl, ⟨v', unhide HTk, hNk⟩, (unhide HU).toTurns⟩
end Go.Proofs.YtbkpdapagfjmmaaGreatDoor
