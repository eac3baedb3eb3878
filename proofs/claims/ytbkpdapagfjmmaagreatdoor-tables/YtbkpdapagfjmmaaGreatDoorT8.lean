/-
  Walks: the lowest entry that is as asked.
-/
import Derived.Test.YtbkpdapagfjmmaaGreatDoorT5
import Derived.Test.YtbkpdapagfjmmaaGreatDoorT7
namespace Go.Proofs.YtbkpdapagfjmmaaGreatDoor
open Go.RowKit

theorem same_any1 (x h : Lk.Hd) (b : Nat) (w : World) (hb : b < w.heap.size) (c0 : w.cell? ⟨b, 0, none⟩ = some (.string (bs h.n))) (c1 : w.cell? ⟨b, 1, none⟩ = some (.string (bs h.v))) :
    Calls Tryz.prog 168 #[hdA x, .pointer (some ⟨b, 0, none⟩)] w fun e w' => e = .returned (.bool (Lk.sameHd h x)) ∧ Below w.heap.size w w' := by
  go_enter Tryz.func168, Tryz.ntmps168
  go_wp2_with fail
  all_goals go_ret
  all_goals refine ⟨ret_bool ?_, by ((repeat' (first | exact Below.refl _ _ | assumption | apply Below.drew | apply Below.alloc | apply Below.setCell)) <;> (simp <;> omega))⟩
  all_goals simp only [ByteArray.toList_eq, bs_list, Lk.sameHd] at *
  all_goals rw [Bool.eq_iff_iff]
  all_goals simp_all
theorem same_any2 (x h : Lk.Hd) (b : Nat) (w : World) (hb : b < w.heap.size) (c0 : w.cell? ⟨b, 0, none⟩ = some (.string (bs h.n))) :
    Calls Tryz.prog 169 #[hdA x, .pointer (some ⟨b, 0, none⟩)] w fun e w' => e = .returned (.bool (Lk.sameName h x)) ∧ Below w.heap.size w w' := by
  go_enter Tryz.func169, Tryz.ntmps169
  go_wp2_with fail
  go_ret
  refine ⟨ret_bool ?_, by ((repeat' (first | exact Below.refl _ _ | assumption | apply Below.drew | apply Below.alloc | apply Below.setCell)) <;> (simp <;> omega))⟩
  simp only [ByteArray.toList_eq, bs_list, Lk.sameName]
  rw [Bool.eq_iff_iff]
  simp

theorem entry_any (b o i B0 : Nat) (L : List Lk.Hd) (v : Value) (w : World) (hb : b < w.heap.size) (hi : i ≤ 2 ^ 40) (hfx : Fx w) (hv : w.cell? ⟨b, o + 2, none⟩ = some v) (own : w.ownsRow B0 112 2 v L.length (hdsV L)) :
    Calls Tryz.prog 184 #[.pointer (some ⟨b, o, none⟩), .int .i64 i] w fun e w' =>
      e = .returned (.tuple #[hdA ((Lk.ents L)[i]?.getD zeroHd), .bool ((Lk.ents L)[i]?).isSome]) ∧ Below w.heap.size w w' := by
  by_cases h4 : i < 4
  · obtain ⟨x, hx⟩ : ∃ x, Lk.fixedL[i]? = some x := ⟨_, List.getElem?_eq_getElem (by simp [Lk.fixedL]; omega)⟩
    have e : (Lk.ents L)[i]? = some x := by unfold Lk.ents; rw [List.getElem?_append_left (by simp [Lk.fixedL]; omega)]; exact hx
    rw [e]
    exact entry_fixed b o i x w (by omega) hfx hx
  · have e : (Lk.ents L)[i]? = L[i - 4]? := by unfold Lk.ents; rw [List.getElem?_append_right (by simp [Lk.fixedL]; omega)]; rfl
    rw [e]
    rcases owned_hds own with ⟨rfl, rfl⟩ | ⟨g, cap, rfl, _, hg, _, hc⟩
    · exact entry_none b o i 0 0 none w hb (by omega) hi hv (by omega)
    · by_cases hlt : i - 4 < L.length
      · obtain ⟨x, hx⟩ : ∃ x, L[i - 4]? = some x := ⟨_, List.getElem?_eq_getElem hlt⟩
        rw [hx]
        exact entry_kept b o i x L.length cap g w hb (by omega) hi hv (by omega) hg (hc _ x hx).1 (hc _ x hx).2
      · rw [List.getElem?_eq_none (by omega)]
        exact entry_none b o i L.length cap _ w hb (by omega) hi hv (by omega)

set_option maxHeartbeats 1000000 in
set_option maxRecDepth 100000 in
theorem lowest1 (b o H B0 : Nat) (L : List Lk.Hd) (h : Lk.Hd) (v : Value) (N : Nat) (R : Nat) (w : World) (hb : b < w.heap.size) (hH : H < w.heap.size) (hfx : Hid (Fx w)) (hv : w.cell? ⟨b, o + 2, none⟩ = some v)
    (own : Hid (w.ownsRow B0 112 2 v L.length (hdsV L))) (c0 : w.cell? ⟨H, 0, none⟩ = some (.string (bs h.n))) (c1 : w.cell? ⟨H, 1, none⟩ = some (.string (bs h.v)))
    (hN : Hid ((Lk.ents L).length = N)) (hN2 : N ≤ 1000) (hR : Hid (Lk.low (Lk.sameHd h) (Lk.ents L) = R)) :
    Calls Tryz.prog 167 #[.pointer (some ⟨b, o, none⟩), .func (.func 168) #[] #[.pointer (some ⟨H, 0, none⟩)]] w fun e w' =>
      e = .returned (.tuple #[.int .i64 R, .bool (decide (R < N))]) ∧ Below w.heap.size w w' := by
  have h0 : 0 < w.heap.size := (unhide hfx).1
  go_enter Tryz.func167, Tryz.ntmps167
  go_wp2_with fail
  go_loopw [6] (fun u wr => ∃ k : Nat, u = .int .i64 k ∧ k ≤ N ∧ Hid (∀ j, j < k → ∃ x, (Lk.ents L)[j]? = some x ∧ Lk.sameHd h x = false) ∧ Below w.heap.size w wr) (fun u _ => N + 1 - (intOf u).toNat)
  case atStart => exact ⟨0, rfl, by omega, fun j hj => by omega, Below.refl _ _⟩
  case round =>
    obtain ⟨k, rfl, hk, HK, hbel⟩ := hrel
    have d2 : wr.cell? ⟨b, o + 2, none⟩ = some v := by rw [hbel.cell (p := ⟨b, o + 2, none⟩) hb]; exact hv
    have e0 : wr.cell? ⟨H, 0, none⟩ = some (.string (bs h.n)) := by rw [hbel.cell (p := ⟨H, 0, none⟩) hH]; exact c0
    have e1 : wr.cell? ⟨H, 1, none⟩ = some (.string (bs h.v)) := by rw [hbel.cell (p := ⟨H, 1, none⟩) hH]; exact c1
    have hsz := hbel.size
    go_wp2_with fail
    refine (entry_any b o k B0 L v _ (by omega) (by omega) ((unhide hfx).below hbel h0) d2 (own_belowB (unhide own) hbel (by omega))).mono ?_
    rintro e w1 ⟨rfl, hb1⟩
    have hbel1 := hbel.trans (hb1.mono (by omega))
    have e0 := call_keeps hb1 (by omega) e0
    have e1 := call_keeps hb1 (by omega) e1
    have hsz1 := hbel1.size
    clear hbel hb1 d2
    cases hx : (Lk.ents L)[k]? with
    | none =>
      have hkN : R = k ∧ ¬ R < N := by
        have : k = (Lk.ents L).length := by
          have h1 := List.getElem?_eq_none_iff.1 hx
          have h2 := unhide hN
          omega
        have h3 := Lk.low_of (Lk.sameHd h) (Lk.ents L) k (unhide HK) (.inl this)
        rw [unhide hR] at h3
        have h2 := unhide hN
        omega
      simp only [Option.getD, Option.isSome]
      clear hx
      go_wp2_with fail
      go_ret2
      obtain ⟨rfl, hlt⟩ := hkN
      exact ⟨by simp [hlt], hbel1.alloc hsz1 _⟩
    | some x =>
      have hkN : k < N := by
        have h1 := (List.getElem?_eq_some_iff.1 hx).1
        have h2 := unhide hN
        omega
      simp only [Option.getD, Option.isSome]
      have HX := hide hx
      clear hx
      generalize hq : Lk.sameHd h x = Q
      have HQ := hide hq
      clear hq
      have hH1 : H < w1.heap.size := by omega
      go_wp2_with fail
      refine (same_any1 x h H _ (by simp; omega) (Go.Lib.cell?_alloc_some _ e0) (Go.Lib.cell?_alloc_some _ e1)).mono ?_
      rintro e w2 ⟨he, hb2⟩
      rw [unhide HQ] at he
      subst he
      have hbel2 := (hbel1.alloc hsz1 (.cells #[.string (bs x.n), .string (bs x.v)] 112)).trans (hb2.mono (by simp; omega))
      clear hb2 hbel1 e0 e1
      cases Q
      · go_wp2_with fail
        go_roundw
        case rel =>
          refine ⟨k + 1, by simp, by omega, fun j hj => ?_, hbel2⟩
          rcases Nat.lt_succ_iff_lt_or_eq.1 hj with hj | rfl
          · exact unhide HK j hj
          · exact ⟨x, unhide HX, unhide HQ⟩
        case measure => simp [intOf]; omega
      · go_wp2_with fail
        go_ret2
        have h3 := Lk.low_of (Lk.sameHd h) (Lk.ents L) k (unhide HK) (.inr ⟨x, unhide HX, unhide HQ⟩)
        rw [unhide hR] at h3
        subst h3
        exact ⟨by simp [hkN], hbel2⟩

set_option maxHeartbeats 1000000 in
set_option maxRecDepth 100000 in
theorem lowest2 (b o H B0 : Nat) (L : List Lk.Hd) (h : Lk.Hd) (v : Value) (N : Nat) (R : Nat) (w : World) (hb : b < w.heap.size) (hH : H < w.heap.size) (hfx : Hid (Fx w)) (hv : w.cell? ⟨b, o + 2, none⟩ = some v)
    (own : Hid (w.ownsRow B0 112 2 v L.length (hdsV L))) (c0 : w.cell? ⟨H, 0, none⟩ = some (.string (bs h.n))) (c1 : w.cell? ⟨H, 1, none⟩ = some (.string (bs h.v)))
    (hN : Hid ((Lk.ents L).length = N)) (hN2 : N ≤ 1000) (hR : Hid (Lk.low (Lk.sameName h) (Lk.ents L) = R)) :
    Calls Tryz.prog 167 #[.pointer (some ⟨b, o, none⟩), .func (.func 169) #[] #[.pointer (some ⟨H, 0, none⟩)]] w fun e w' =>
      e = .returned (.tuple #[.int .i64 R, .bool (decide (R < N))]) ∧ Below w.heap.size w w' := by
  have h0 : 0 < w.heap.size := (unhide hfx).1
  go_enter Tryz.func167, Tryz.ntmps167
  go_wp2_with fail
  go_loopw [6] (fun u wr => ∃ k : Nat, u = .int .i64 k ∧ k ≤ N ∧ Hid (∀ j, j < k → ∃ x, (Lk.ents L)[j]? = some x ∧ Lk.sameName h x = false) ∧ Below w.heap.size w wr) (fun u _ => N + 1 - (intOf u).toNat)
  case atStart => exact ⟨0, rfl, by omega, fun j hj => by omega, Below.refl _ _⟩
  case round =>
    obtain ⟨k, rfl, hk, HK, hbel⟩ := hrel
    have d2 : wr.cell? ⟨b, o + 2, none⟩ = some v := by rw [hbel.cell (p := ⟨b, o + 2, none⟩) hb]; exact hv
    have e0 : wr.cell? ⟨H, 0, none⟩ = some (.string (bs h.n)) := by rw [hbel.cell (p := ⟨H, 0, none⟩) hH]; exact c0
    have e1 : wr.cell? ⟨H, 1, none⟩ = some (.string (bs h.v)) := by rw [hbel.cell (p := ⟨H, 1, none⟩) hH]; exact c1
    have hsz := hbel.size
    go_wp2_with fail
    refine (entry_any b o k B0 L v _ (by omega) (by omega) ((unhide hfx).below hbel h0) d2 (own_belowB (unhide own) hbel (by omega))).mono ?_
    rintro e w1 ⟨rfl, hb1⟩
    have hbel1 := hbel.trans (hb1.mono (by omega))
    have e0 := call_keeps hb1 (by omega) e0
    have e1 := call_keeps hb1 (by omega) e1
    have hsz1 := hbel1.size
    clear hbel hb1 d2
    cases hx : (Lk.ents L)[k]? with
    | none =>
      have hkN : R = k ∧ ¬ R < N := by
        have : k = (Lk.ents L).length := by
          have h1 := List.getElem?_eq_none_iff.1 hx
          have h2 := unhide hN
          omega
        have h3 := Lk.low_of (Lk.sameName h) (Lk.ents L) k (unhide HK) (.inl this)
        rw [unhide hR] at h3
        have h2 := unhide hN
        omega
      simp only [Option.getD, Option.isSome]
      clear hx
      go_wp2_with fail
      go_ret2
      obtain ⟨rfl, hlt⟩ := hkN
      exact ⟨by simp [hlt], hbel1.alloc hsz1 _⟩
    | some x =>
      have hkN : k < N := by
        have h1 := (List.getElem?_eq_some_iff.1 hx).1
        have h2 := unhide hN
        omega
      simp only [Option.getD, Option.isSome]
      have HX := hide hx
      clear hx
      generalize hq : Lk.sameName h x = Q
      have HQ := hide hq
      clear hq
      have hH1 : H < w1.heap.size := by omega
      go_wp2_with fail
      refine (same_any2 x h H _ (by simp; omega) (Go.Lib.cell?_alloc_some _ e0)).mono ?_
      rintro e w2 ⟨he, hb2⟩
      rw [unhide HQ] at he
      subst he
      have hbel2 := (hbel1.alloc hsz1 (.cells #[.string (bs x.n), .string (bs x.v)] 112)).trans (hb2.mono (by simp; omega))
      clear hb2 hbel1 e0 e1
      cases Q
      · go_wp2_with fail
        go_roundw
        case rel =>
          refine ⟨k + 1, by simp, by omega, fun j hj => ?_, hbel2⟩
          rcases Nat.lt_succ_iff_lt_or_eq.1 hj with hj | rfl
          · exact unhide HK j hj
          · exact ⟨x, unhide HX, unhide HQ⟩
        case measure => simp [intOf]; omega
      · go_wp2_with fail
        go_ret2
        have h3 := Lk.low_of (Lk.sameName h) (Lk.ents L) k (unhide HK) (.inr ⟨x, unhide HX, unhide HQ⟩)
        rw [unhide hR] at h3
        subst h3
        exact ⟨by simp [hkN], hbel2⟩

end Go.Proofs.YtbkpdapagfjmmaaGreatDoor
