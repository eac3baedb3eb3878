import Derived.Test.YtbkpdapagfjmmaaGreatDoorML1W5
import Derived.Deep.RegionHeld3
import Derived.Deep.DrawnRows
import Derived.Test.YtbkpdapagfjmmaaGreatDoorMS1S2
import Derived.Test.YtbkpdapagfjmmaaGreatDoorMU1U2
/-
  Walks: the document's part of a header.
-/
namespace Go.Proofs.YtbkpdapagfjmmaaGreatDoor
open Go.RowKit
attribute [local go_sem ↓] Go.wp_at_zero Go.wp_at_succ

theorem bs_append (a b : Lk.Bs) : bs a ++ bs b = bs (a ++ b) := by
  apply ByteArray.ext
  simp [bs]
theorem bs_toList (a : Lk.Bs) : (bs a).toList = a := by rw [ByteArray.toList_eq]; simp [bs]
theorem bs_beq (a b : Lk.Bs) : ((bs a).toList == (bs b).toList) = decide (a = b) := by
  rw [bs_toList, bs_toList, Bool.eq_iff_iff]
  simp

theorem rnumber_at (n : Nat) (z : Int) (w : World) (hz : z = n) (hn : n ≤ 268435455) : Calls Tryz.prog 99 #[.int .i64 z] w fun e w' => e = .returned (.string (bs (Lk.wire n))) ∧ Below w.heap.size w w' :=
  refNumber_any n z w hz hn

theorem wrap_num (R : Nat) (h : R ≤ 100) : IntKind.i64.wrap (IntKind.i64.wrap (2 * IntKind.i64.wrap ((R : Int) + 1)) + 1) = ((2 * (R + 1) + 1 : Nat) : Int) := by
  rw [wraps_i64 ((R : Int) + 1) (by omega) (by omega), wraps_i64 (2 * ((R : Int) + 1)) (by omega) (by omega), wraps_i64 _ (by omega) (by omega)]
  omega

set_option maxRecDepth 100000 in
theorem rtext_any (l : Lk.Bs) (w : World) (hl : l.length ≤ 300) : Calls Tryz.prog 152 #[.string (bs l)] w fun e w' => e = .returned (.string (bs (Lk.text l))) ∧ Below w.heap.size w w' := by
  have hsz := bs_size l
  have hw4 := Lk.wire_len_le4 l.length (by omega)
  have hs2 := bs_size (Lk.wire l.length)
  have hadd : (Lk.wire l.length).length + l.length ≤ 9223372036854775807 := by omega
  generalize hW : bs (Lk.wire l.length) = W at hs2
  have HW := hide hW
  clear hW
  go_enter Tryz.func152, Tryz.ntmps152
  go_wp2_with fail
  refine (rnumber_at l.length _ _ (by rfl) (by omega)).mono ?_
  rintro e w1 ⟨he, hb⟩
  rw [unhide HW] at he
  subst he
  go_wp2_with fail
  go_ret
  refine ⟨ret_string ?_, hb⟩
  rw [← unhide HW, bs_append]
  rfl

/-- What is known of the lowest name while one looks from above. -/
def Looked (h : Lk.Hd) (E : List Lk.Hd) (k : Nat) (z : Int) : Prop :=
  (z = -1 ∧ ∀ j, k ≤ j → ∀ x, E[j]? = some x → Lk.sameName h x = false) ∨
  ∃ m : Nat, z = m ∧ k ≤ m ∧ (∃ x, E[m]? = some x ∧ Lk.sameName h x = true) ∧ ∀ j, k ≤ j → j < m → ∀ x, E[j]? = some x → Lk.sameName h x = false
theorem Looked.no {h x : Lk.Hd} {E : List Lk.Hd} {k : Nat} {z : Int} (hl : Looked h E (k + 1) z) (hx : E[k]? = some x) (hq : Lk.sameName h x = false) : Looked h E k z := by
  rcases hl with ⟨h1, h2⟩ | ⟨m, h1, h2, h3, h4⟩
  · refine .inl ⟨h1, fun j hj y hy => ?_⟩
    rcases Nat.eq_or_lt_of_le hj with rfl | hj
    · rw [hx] at hy; cases hy; exact hq
    · exact h2 j hj y hy
  · refine .inr ⟨m, h1, by omega, h3, fun j hj hm y hy => ?_⟩
    rcases Nat.eq_or_lt_of_le hj with rfl | hj
    · rw [hx] at hy; cases hy; exact hq
    · exact h4 j hj hm y hy
theorem Looked.yes {h x : Lk.Hd} {E : List Lk.Hd} {k : Nat} (hx : E[k]? = some x) (hq : Lk.sameName h x = true) : Looked h E k k :=
  .inr ⟨k, rfl, Nat.le_refl _, ⟨x, hx, hq⟩, fun j h1 h2 => by omega⟩
theorem Looked.end {h : Lk.Hd} {E : List Lk.Hd} {z : Int} (hl : Looked h E 0 z) : z = if Lk.low (Lk.sameName h) E < E.length then (Lk.low (Lk.sameName h) E : Int) else -1 := by
  rcases hl with ⟨h1, h2⟩ | ⟨m, h1, h2, h3, h4⟩
  · have e : Lk.low (Lk.sameName h) E = E.length := Lk.low_of _ _ _ (fun j hj => ⟨_, List.getElem?_eq_getElem hj, h2 j (by omega) _ (List.getElem?_eq_getElem hj)⟩) (.inl rfl)
    rw [e, if_neg (by omega), h1]
  · obtain ⟨x, hx, hq⟩ := h3
    have hm := (List.getElem?_eq_some_iff.1 hx).1
    have e : Lk.low (Lk.sameName h) E = m := Lk.low_of _ _ _ (fun j hj => ⟨_, List.getElem?_eq_getElem (by omega), h4 j (by omega) hj _ (List.getElem?_eq_getElem (by omega))⟩) (.inr ⟨x, hx, hq⟩)
    rw [e, if_pos hm, h1]

set_option maxHeartbeats 6000000 in
set_option maxRecDepth 100000 in
theorem rone_any (t B : Nat) (L : List Lk.Hd) (h : Lk.Hd) (v : Value) (w : World) (hT : RTab w t B L v) (hn : h.n.length ≤ 16) (hv : h.v.length ≤ 32) (S : Lk.Bs) (L2 : List Lk.Hd) (HS : Hid (Lk.oneP B L h = (S, L2))) :
    Calls Tryz.prog 102 #[.pointer (some ⟨t, 0, none⟩), hdA h] w fun e w' => e = .returned (.string (bs S)) ∧ (∃ v', RTab w' t B L2 v' ∧ (v' = v ∨ ∀ k, v'.ownBlock = some k → w.heap.size ≤ k)) ∧ Turns t w w' := by
  have hEl := Lk.ents_len L
  have hLl := hT.len
  generalize hE : Lk.ents L = E at hEl
  have HE := hide hE
  have HEL := hide hEl
  have hN : E.length ≤ 54 := by omega
  have hN4 : 4 ≤ E.length := by omega
  have HT0 := hide (hT.alloc (.cells #[.string (bs h.n), .string (bs h.v)] 206))
  have HX0 := hide (Is.new w 206 [.string (bs h.n), .string (bs h.v)])
  have hb0 := (Below.refl w.heap.size w).alloc (Nat.le_refl _) (.cells #[.string (bs h.n), .string (bs h.v)] 206)
  have hlt0 := hT.blk.lt
  clear hE hEl hT
  go_enter Tryz.func102, Tryz.ntmps102
  go_wp2_with fail
  refine (rall_any t B L v _ (unhide HT0)).mono ?_
  rintro e w1 ⟨v1, rfl, ho1, hb1⟩
  rw [unhide HE] at ho1
  obtain ⟨g, cap, hv1, hgB, hgl⟩ := ho1.form (by omega)
  subst hv1
  have hT1 := (unhide HT0).below hb1
  have hX1 := (unhide HX0).below hb1 (by simp)
  have hbel1 := hb0.trans (hb1.mono (by simp))
  have b0 := hX1.cell 0
  have b1 := hX1.cell 1
  simp only [List.getElem?_cons_zero, List.getElem?_cons_succ] at b0 b1
  have hXl := hX1.lt
  have HT1 := hide hT1
  have HX1 := hide hX1
  have HO1 := hide ho1
  clear hT1 hX1 ho1 hb1 hb0 HT0 HX0
  generalize hNN : E.length = N at *
  have HNN := hide hNN
  clear hNN
  go_wp2_with fail
  go_loopw [6, 7] (fun s u wr => ∃ (k n : Nat) (z : Int), u = .int .i64 ((k : Int) - 1) ∧ k ≤ N ∧ s = .int .i64 z ∧ -1 ≤ z ∧ z ≤ 60 ∧ Hid (Looked h E k z) ∧ wr = w1.drewN n) (fun _ u _ => (intOf u + 1).toNat)
  case atStart =>
    refine ⟨N, 0, -1, by simp, by omega, rfl, by omega, by omega, .inl ⟨rfl, fun j hj x hx => ?_⟩, rfl⟩
    have := (List.getElem?_eq_some_iff.1 hx).1
    have h2 := unhide HNN
    omega
  case round =>
    obtain ⟨k, nd, z, rfl, hk, rfl, hz1, hz2, HLk, rfl⟩ := hrel
    cases k with
    | succ k =>
      obtain ⟨x, hx⟩ : ∃ x, E[k]? = some x := ⟨_, List.getElem?_eq_getElem (by have := unhide HNN; omega)⟩
      obtain ⟨_, x0, x1⟩ := row_at2 (unhide HO1) hx
      have hkI : (0 : Int) ≤ k := by omega
      have hkN : (k : Int) < N := by omega
      have hkz : (((k + 1 : Nat) : Int) - 1) = k := by omega
      rw [hkz]
      have hqe := bs_beq x.n h.n
      have HX := hide hx
      clear hx hkz
      cases hq : decide (x.n = h.n) with
      | false =>
        rw [hq] at hqe
        have HQ := hide (show Lk.sameName h x = false from hq)
        clear hq
        go_wp2_with fail
        go_quiet (fail)
        go_wp2_with fail
        refine ⟨⟨k, _, z, rfl, by omega, rfl, hz1, hz2, hide ((unhide HLk).no (unhide HX) (unhide HQ)), rfl⟩, ?_⟩
        simp only [intOf]
        omega
      | true =>
        rw [hq] at hqe
        have HQ := hide (show Lk.sameName h x = true from hq)
        clear hq
        go_wp2_with fail
        go_quiet (fail)
        go_wp2_with fail
        refine ⟨⟨k, _, k, rfl, by omega, rfl, by omega, by omega, hide (Looked.yes (unhide HX) (unhide HQ)), rfl⟩, ?_⟩
        simp only [intOf]
        omega
    | zero =>
      have hze := (unhide HLk).end
      rw [unhide HNN] at hze
      generalize hR2 : Lk.low (Lk.sameName h) E = R2 at hze
      have HR2 := hide hR2
      have HZE := hide hze
      clear hR2 hze
      have h00 : ((0 : Nat) : Int) - 1 = -1 := rfl
      rw [h00]
      go_wp2_with fail
      go_loopw [8] (fun u wr => ∃ (k n : Nat), u = .int .i64 k ∧ k ≤ N ∧ Hid (∀ j, j < k → ∃ x, E[j]? = some x ∧ Lk.sameHd h x = false) ∧ wr = w1.drewN n) (fun u _ => N - (intOf u).toNat)
      case atStart => exact ⟨0, nd, rfl, by omega, fun j hj => by omega, rfl⟩
      case round =>
        obtain ⟨k, nk, rfl, hk, HK, rfl⟩ := hrel
        by_cases hlt : k < N
        · have hlt' : (k : Int) < N := by omega
          obtain ⟨x, hx⟩ : ∃ x, E[k]? = some x := ⟨_, List.getElem?_eq_getElem (by have := unhide HNN; omega)⟩
          obtain ⟨_, x0, x1⟩ := row_at2 (unhide HO1) hx
          have hqe := bs_beq x.n h.n
          have hqv := bs_beq x.v h.v
          have HX := hide hx
          clear hx
          cases hq : decide (x.n = h.n) with
          | false =>
            rw [hq] at hqe
            have HQ := hide (show Lk.sameHd h x = false by unfold Lk.sameHd; rw [hq]; rfl)
            clear hq hqv
            go_wp2_with fail
            go_quiet (fail)
            go_wp2_with fail
            go_roundw
            case rel =>
              refine ⟨k + 1, _, by simp, by omega, fun j hj => ?_, rfl⟩
              rcases Nat.lt_succ_iff_lt_or_eq.1 hj with hj | rfl
              · exact unhide HK j hj
              · exact ⟨x, unhide HX, unhide HQ⟩
            case measure => simp [intOf]; omega
          | true =>
            cases hq2 : decide (x.v = h.v) with
            | false =>
              rw [hq] at hqe
              rw [hq2] at hqv
              have HQ := hide (show Lk.sameHd h x = false by unfold Lk.sameHd; rw [hq, hq2]; rfl)
              clear hq hq2
              go_wp2_with fail
              go_quiet (fail)
              go_wp2_with fail
              go_roundw
              case rel =>
                refine ⟨k + 1, _, by simp, by omega, fun j hj => ?_, rfl⟩
                rcases Nat.lt_succ_iff_lt_or_eq.1 hj with hj | rfl
                · exact unhide HK j hj
                · exact ⟨x, unhide HX, unhide HQ⟩
              case measure => simp [intOf]; omega
            | true =>
              rw [hq] at hqe
              rw [hq2] at hqv
              have hlow := Lk.low_of (Lk.sameHd h) E k (unhide HK) (.inr ⟨x, unhide HX, by unfold Lk.sameHd; rw [hq, hq2]; rfl⟩)
              have hone : (S, L2) = (Lk.wire (2 * k), L) := by
                rw [← unhide HS]
                unfold Lk.oneP
                rw [unhide HE, hlow, unhide HNN, if_pos hlt]
              cases hone
              clear hq hq2 hlow
              go_wp2_with fail
              go_quiet (fail)
              go_wp2_with fail
              refine (rnumber_at (2 * k) _ _ (by first | rfl | (simp; done) | omega) (by omega)).mono ?_
              rintro e w2 ⟨rfl, hb2⟩
              go_wp2_with fail
              go_ret
              have hb2' : Below w1.heap.size w1 w2 := ⟨hb2.os, hb2.tape, hb2.output, hb2.size, hb2.block⟩
              exact ⟨rfl, ⟨v, (unhide HT1).below hb2', .inl rfl⟩, (Below.turns hbel1 t).below hb2'⟩
        · have hlt' : ¬ (k : Int) < N := by omega
          have hkN : k = N := by omega
          have hlow := Lk.low_of (Lk.sameHd h) E k (unhide HK) (.inl (by have := unhide HNN; omega))
          have HT2 := hide (show RTab (w1.drewN nk) t B L v from ⟨(unhide HT1).blk, (unhide HT1).own, (unhide HT1).le, (unhide HT1).hB⟩)
          go_wp2_with fail
          refine (rput_any t B L h v _ (unhide HT2) (by omega) (by omega)).mono ?_
          rintro e w2 ⟨rfl, ⟨v2, hT2, hv2⟩, hTu2⟩
          have hTu2' : Turns t w1 w2 := ⟨hTu2.os, hTu2.tape, hTu2.output, hTu2.size, hTu2.block⟩
          have hX2 := (unhide HX1).grown hTu2' (fun e => (unhide HX1).ne (unhide HT1).blk (Nat.ne_of_beq_eq_false rfl) (by simpa using e))
          have b0 := hX2.cell 0
          have b1 := hX2.cell 1
          simp only [List.getElem?_cons_zero, List.getElem?_cons_succ] at b0 b1
          have hX2l := hX2.lt
          have hTT := (Below.turns hbel1 t).trans hTu2'
          have hv2' : ∀ q, v2.ownBlock = some q → w.heap.size ≤ q := fun q hq => by have := hv2 q hq; have h2 := hbel1.size; simp at this; omega
          have HT3 := hide hT2
          have HV3 := hide hv2'
          clear hT2 hv2 hTu2 hTu2' hX2 hv2' HT2
          have hwv := Lk.wire_len_le4 h.v.length (by omega)
          have htv : (Lk.text h.v).length ≤ 40 := by unfold Lk.text; rw [List.length_append]; omega
          have hwn := Lk.wire_len_le4 h.n.length (by omega)
          have htn : (Lk.text h.n).length ≤ 40 := by unfold Lk.text; rw [List.length_append]; omega
          have hze := unhide HZE
          by_cases hR : R2 < N
          · rw [if_pos hR] at hze
            have hone : (S, L2) = (Lk.wire (2 * (R2 + 1) + 1) ++ Lk.text h.v, Lk.put B L h) := by
              rw [← unhide HS]
              unfold Lk.oneP
              rw [unhide HE, hlow, unhide HNN, unhide HR2, if_neg (by omega), if_pos hR]
            cases hone
            subst hze
            have hw4 := Lk.wire_len_le4 (2 * (R2 + 1) + 1) (by omega)
            have HC1 := hide (fun z w hz => rnumber_at (2 * (R2 + 1) + 1) z w hz (by omega))
            have HC2 := hide (fun w => rtext_any h.v w (by omega))
            have s1 := bs_size (Lk.wire (2 * (R2 + 1) + 1))
            have s2 := bs_size (Lk.text h.v)
            have hres := bs_append (Lk.wire (2 * (R2 + 1) + 1)) (Lk.text h.v)
            generalize bs (Lk.wire (2 * (R2 + 1) + 1)) = W1 at *
            generalize bs (Lk.text h.v) = W2 at *
            have hadd : W1.size + W2.size ≤ 9223372036854775807 := by omega
            have HRES := hide hres
            clear s1 s2 hres hw4 hwv htv hwn htn hlow
            go_wp2_with fail
            go_region_with (first
              | (go_at_call 99; refine (unhide HC1 _ _ (wrap_num R2 (by omega))).mono ?_; rintro e wx ⟨rfl, hbx⟩; have g1 := call_keeps hbx (b := w.heap.size) (k := 1) (v := .string (bs h.v)) (by simpa using hX2l) (by simpa using b1))
              | (go_at_call 152; refine (unhide HC2 _).mono ?_; rintro e wy ⟨rfl, hby⟩))
            all_goals
              go_wp2_with fail
              go_ret
              first
                | (have hbb : Below w2.heap.size w2 wy := Below.trans ⟨hbx.os, hbx.tape, hbx.output, hbx.size, hbx.block⟩ (hby.mono hbx.size)
                   exact ⟨ret_string (unhide HRES), ⟨v2, (unhide HT3).below hbb, .inr (unhide HV3)⟩, hTT.below hbb⟩)
                | (have hbb : Below w2.heap.size w2 wx := Below.trans ⟨hby.os, hby.tape, hby.output, hby.size, hby.block⟩ (hbx.mono hby.size)
                   exact ⟨ret_string (unhide HRES), ⟨v2, (unhide HT3).below hbb, .inr (unhide HV3)⟩, hTT.below hbb⟩)
          · rw [if_neg hR] at hze
            have hone : (S, L2) = (Lk.wire 1 ++ Lk.text h.n ++ Lk.text h.v, Lk.put B L h) := by
              rw [← unhide HS]
              unfold Lk.oneP
              rw [unhide HE, hlow, unhide HNN, unhide HR2, if_neg (by omega), if_neg hR]
            cases hone
            subst hze
            have hw4 := Lk.wire_len_le4 1 (by omega)
            have HC1 := hide (fun w => rnumber_at 1 1 w rfl (by omega))
            have HC2 := hide (fun w => rtext_any h.n w (by omega))
            have HC3 := hide (fun w => rtext_any h.v w (by omega))
            have s1 := bs_size (Lk.wire 1)
            have s2 := bs_size (Lk.text h.n)
            have s3 := bs_size (Lk.text h.v)
            have hres := bs_append (Lk.wire 1 ++ Lk.text h.n) (Lk.text h.v)
            rw [← bs_append (Lk.wire 1) (Lk.text h.n)] at hres
            generalize bs (Lk.wire 1) = W1 at *
            generalize bs (Lk.text h.n) = W2 at *
            generalize bs (Lk.text h.v) = W3 at *
            have hadd : W1.size + W2.size ≤ 9223372036854775807 := by omega
            have hadd2 : W1.size + W2.size + W3.size ≤ 9223372036854775807 := by omega
            have HRES := hide hres
            clear s1 s2 s3 hres hw4 hwv htv hwn htn hlow
            go_wp2_with fail
            go_region_with (first
              | (go_at_call 99; refine (unhide HC1 _).mono ?_; rintro e wx ⟨rfl, hbx⟩; have g0 := call_keeps hbx (b := w.heap.size) (k := 0) (v := .string (bs h.n)) (by simpa using hX2l) (by simpa using b0); have g1 := call_keeps hbx (b := w.heap.size) (k := 1) (v := .string (bs h.v)) (by simpa using hX2l) (by simpa using b1); have gl := call_lt hbx (b := w.heap.size) (by simpa using hX2l))
              | (go_at_call_of 152 (Value.string (bs h.n)); refine (unhide HC2 _).mono ?_; rintro e wy ⟨rfl, hby⟩; have g2 := call_keeps hby (b := w.heap.size) (k := 1) (v := .string (bs h.v)) gl g1)
              | (go_at_call_of 152 (Value.string (bs h.v)); refine (unhide HC3 _).mono ?_; rintro e wz ⟨rfl, hbz⟩))
            all_goals
              go_wp2_with fail
              go_ret
              have hbb : Below w2.heap.size w2 wz := undrewB ((hbx.trans (hby.mono hbx.size)).trans (hbz.mono (Nat.le_trans hbx.size hby.size)))
              exact ⟨ret_string (unhide HRES), ⟨v2, (unhide HT3).below hbb, .inr (unhide HV3)⟩, hTT.below hbb⟩
end Go.Proofs.YtbkpdapagfjmmaaGreatDoor

/-
  Walks: the document's NewTable and Squeeze.
-/
namespace Go.Proofs.YtbkpdapagfjmmaaGreatDoor
open Go.RowKit

namespace Lk
theorem wrongAt_place : ∀ (l : List Hd) (i : Nat), (wrongAt i l).1 = 0 → (wrongAt i l).2 = 0
  | [], i, _ => rfl
  | x :: l, i, h => by
    rw [wrongAt] at h ⊢
    split at h
    · rename_i hg
      rw [if_pos hg]
      exact wrongAt_place l (i + 1) h
    · cases h
theorem wrong_place {l : List Hd} (h : (wrong l).1 = 0) : (wrong l).2 = 0 := by
  unfold wrong at h ⊢
  split at h
  · cases h
  · rename_i hl
    rw [if_neg hl]
    exact wrongAt_place l 0 h
end Lk

theorem rnewTable_ok (B : Nat) (hB : B ≤ 200) (w : World) :
    Calls Tryz.prog 53 #[.int .i64 B] w fun e w' => ∃ t, e = .returned (.tuple #[.pointer (some ⟨t, 0, none⟩), .int .i64 0]) ∧ w.heap.size ≤ t ∧ RTab w' t B [] (.slice none 0 0) ∧ Below w.heap.size w w' := by
  have h1 : ¬ (B : Int) < 0 := by omega
  have h2 : ¬ 200 < (B : Int) := by omega
  go_enter Tryz.func53, Tryz.ntmps53
  go_wp2_with fail
  go_ret2
  exact ⟨_, rfl, Nat.le_refl _, ⟨Is.new w 196 [.int .i64 B, .slice none 0 0], World.ownsRow_nil _ _ _ _, by simp [Lk.weights], hB⟩, (Below.refl _ _).alloc (Nat.le_refl _) _⟩
theorem rnewTable_bad (n : Int) (hn : n < 0 ∨ 200 < n) (w : World) :
    Calls Tryz.prog 53 #[.int .i64 n] w fun e w' => e = .returned (.tuple #[.pointer none, .int .i64 1]) ∧ Below w.heap.size w w' := by
  by_cases h1 : n < 0
  · go_enter Tryz.func53, Tryz.ntmps53
    go_wp2_with fail
    go_ret2
    exact ⟨rfl, Below.refl _ _⟩
  · have h2 : 200 < n := by omega
    go_enter Tryz.func53, Tryz.ntmps53
    go_wp2_with fail
    go_ret2
    exact ⟨rfl, Below.refl _ _⟩

theorem rown_turns {w w' : World} {t B n : Nat} {v : Value} {xs cs : List Value} {T : TypeId} (h : w.ownsRow B 206 2 v n xs) (hI : Is w t T cs) (hT : T ≠ 206) (hb : Turns t w w') : w'.ownsRow B 206 2 v n xs :=
  h.kept hb (.inr (fun e => own_ne h hI hT e.symm))

theorem rsqueeze_bad (t B1 : Nat) (l : List Lk.Hd) (lv : Value) (w : World) (hw : (Lk.wrong l).1 ≠ 0) (own : w.ownsRow B1 206 2 lv l.length (hdsV l)) :
    Calls Tryz.prog 60 #[.pointer (some ⟨t, 0, none⟩), lv] w fun e w' =>
      e = .returned (.tuple #[.string ⟨#[]⟩, .int .i64 (Lk.wrong l).1, .int .i64 (Lk.wrong l).2]) ∧ Below w.heap.size w w' := by
  have HO := hide own
  clear own
  generalize hE1 : (Lk.wrong l).1 = E at hw ⊢
  have hE : ((E : Int) != 0) = true := by rw [bne_iff_ne]; omega
  have HE := hide hE1
  clear hE1
  go_enter Tryz.func60, Tryz.ntmps60
  go_wp2_with fail
  refine (refWrong_any B1 lv l _ (unhide HO)).mono ?_
  rintro e w1 ⟨he, hb⟩
  rw [unhide HE] at he
  subst he
  go_wp2_with fail
  go_ret3
  exact ⟨rfl, hb⟩

set_option maxHeartbeats 2000000 in
set_option maxRecDepth 100000 in
theorem rsqueeze_ok (t B B1 : Nat) (L l : List Lk.Hd) (v lv : Value) (w : World) (hT : RTab w t B L v) (hw : (Lk.wrong l).1 = 0) (own : w.ownsRow B1 206 2 lv l.length (hdsV l)) :
    Calls Tryz.prog 60 #[.pointer (some ⟨t, 0, none⟩), lv] w fun e w' =>
      e = .returned (.tuple #[.string (bs (Lk.squeeze B L l).1), .int .i64 0, .int .i64 0]) ∧ (∃ v', RTab w' t B (Lk.squeeze B L l).2 v') ∧ Turns t w w' := by
  have hok := Lk.wrong_ok hw
  have hl6 := hok.1
  obtain ⟨la, lcap, hlv⟩ := row_form own
  subst hlv
  have HO := hide own
  have HT := hide hT
  have HG := hide hok.2
  have hw2 : (Lk.wrong l).2 = 0 := Lk.wrong_place hw
  clear own hT hok
  generalize hS : bs (Lk.squeeze B L l).1 = S
  have HS := hide hS
  clear hS
  go_enter Tryz.func60, Tryz.ntmps60
  go_wp2_with fail
  refine (refWrong_any B1 _ l _ (unhide HO)).mono ?_
  rintro e w1 ⟨he, hb⟩
  rw [hw, hw2] at he
  subst he
  have HT1 := hide ((unhide HT).below hb)
  have HO1 := hide (own_below (unhide HO) hb)
  have hTb := Below.turns hb t
  clear hb
  go_wp2_with fail
  go_loopw [9, 10] (fun s u wr => ∃ (k : Nat) (v' : Value), u = .int .i64 k ∧ k ≤ l.length ∧ s = .string (bs (Lk.squeeze B L (l.take k)).1) ∧ RTab wr t B (Lk.squeeze B L (l.take k)).2 v' ∧ Turns t w1 wr) (fun _ u _ => l.length - (intOf u).toNat)
  case atStart => exact ⟨0, v, rfl, by omega, rfl, unhide HT1, Turns.refl _ _⟩
  case round =>
    obtain ⟨k, v', rfl, hk, rfl, hTk, hTu⟩ := hrel
    by_cases hlt : k < l.length
    · have hlt' : (k : Int) < l.length := by omega
      obtain ⟨x, hx⟩ : ∃ x, l[k]? = some x := ⟨_, List.getElem?_eq_getElem hlt⟩
      obtain ⟨g, gc, hform, _⟩ := (unhide HO1).form (by omega)
      cases hform
      obtain ⟨hg2, x0, x1⟩ := row_at2 (rown_turns (unhide HO1) (unhide HT1).blk (Nat.ne_of_beq_eq_false rfl) hTu) hx
      have hxg := Lk.good_len ((unhide HG) x (List.mem_of_getElem? hx))
      have hsl := Lk.squeeze_len B hTk.hB (l.take k) L (unhide HT).le (fun y hy => (unhide HG) y (List.mem_of_mem_take hy))
      rw [List.length_take] at hsl
      have hol := Lk.oneP_len B (Lk.squeeze B L (l.take k)).2 x (by rw [Lk.ents_len]; have := hTk.len; omega) hxg.1 hxg.2
      have e := Lk.squeeze_snoc B (l.take k) L x
      rw [take_snoc hx] at e
      have e1 := congrArg Prod.fst e
      have e2 := congrArg Prod.snd e
      simp only at e1 e2
      have s1 := bs_size (Lk.squeeze B L (l.take k)).1
      have s2 := bs_size (Lk.oneP B (Lk.squeeze B L (l.take k)).2 x).1
      have hres := bs_append (Lk.squeeze B L (l.take k)).1 (Lk.oneP B (Lk.squeeze B L (l.take k)).2 x).1
      rw [← e1] at hres
      have HC := hide (rone_any t B _ x v' wr hTk hxg.1 hxg.2 (Lk.oneP B (Lk.squeeze B L (l.take k)).2 x).1 (Lk.oneP B (Lk.squeeze B L (l.take k)).2 x).2 (hide rfl))
      rw [← e2] at HC
      generalize bs (Lk.squeeze B L (l.take k)).1 = W1 at *
      generalize bs (Lk.oneP B (Lk.squeeze B L (l.take k)).2 x).1 = W2 at *
      have hadd : W1.size + W2.size ≤ 9223372036854775807 := by omega
      have HRES := hide hres
      clear hres s1 s2 e e1 e2 hol hsl hTk hx
      go_wp2_with fail
      refine (unhide HC).mono ?_
      rintro e w2 ⟨rfl, ⟨v2, hT2, _⟩, hTu2⟩
      have HT2 := hide hT2
      clear hT2 x0 x1
      go_wp2_with fail
      go_roundw
      case rel => exact ⟨k + 1, v2, by simp, by omega, by rw [unhide HRES], unhide HT2, hTu.trans hTu2⟩
      case measure => simp [intOf]; omega
    · have hlt' : ¬ (k : Int) < l.length := by omega
      have hkl : k = l.length := by omega
      rw [hkl, List.take_length] at hTk
      have hSk : bs (Lk.squeeze B L (l.take k)).1 = S := by rw [hkl, List.take_length]; exact unhide HS
      generalize bs (Lk.squeeze B L (l.take k)).1 = S' at *
      subst hSk
      have HTk := hide hTk
      clear hTk
      go_wp2_with fail
      go_ret3
      exact ⟨rfl, ⟨v', unhide HTk⟩, hTb.trans hTu⟩
end Go.Proofs.YtbkpdapagfjmmaaGreatDoor
