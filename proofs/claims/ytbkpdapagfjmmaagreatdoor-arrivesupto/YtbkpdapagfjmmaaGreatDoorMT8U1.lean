import Derived.Test.YtbkpdapagfjmmaaGreatDoorMT5R1
import Derived.Test.YtbkpdapagfjmmaaGreatDoorMPUT7
import Derived.Test.YtbkpdapagfjmmaaGreatDoorMPGW3
/-
  Walks: the lowest entry that is as asked.
-/
namespace Go.Proofs.YtbkpdapagfjmmaaGreatDoor
open Go.RowKit

theorem same_any1 (x h : Lk.Hd) (b : Nat) (w : World) (hb : b < w.heap.size) (c0 : w.cell? ⟨b, 0, none⟩ = some (.string (bs h.n))) (c1 : w.cell? ⟨b, 1, none⟩ = some (.string (bs h.v))) :
    Calls Tryz.prog 168 #[hdA x, .pointer (some ⟨b, 0, none⟩)] w fun e w' => e = .returned (.bool (Lk.sameHd h x)) ∧ Below w.heap.size w w' := by
  go_enter Tryz.func168, Tryz.ntmps168
  go_wp2_with fail
  all_goals go_ret
  all_goals refine ⟨ret_bool ?_, by ((repeat' (first | exact Below.refl _ _ | assumption | apply Below.drew | apply Below.alloc | apply Below.setCell)) <;> (simp <;> omega))⟩
  all_goals simp only [ByteArray.toList_eq, bs_list, Lk.sameHd] at *
  all_goals rw [Bool.eq_iff_iff]
  all_goals simp_all
theorem same_any2 (x h : Lk.Hd) (b : Nat) (w : World) (hb : b < w.heap.size) (c0 : w.cell? ⟨b, 0, none⟩ = some (.string (bs h.n))) :
    Calls Tryz.prog 169 #[hdA x, .pointer (some ⟨b, 0, none⟩)] w fun e w' => e = .returned (.bool (Lk.sameName h x)) ∧ Below w.heap.size w w' := by
  go_enter Tryz.func169, Tryz.ntmps169
  go_wp2_with fail
  go_ret
  refine ⟨ret_bool ?_, by ((repeat' (first | exact Below.refl _ _ | assumption | apply Below.drew | apply Below.alloc | apply Below.setCell)) <;> (simp <;> omega))⟩
  simp only [ByteArray.toList_eq, bs_list, Lk.sameName]
  rw [Bool.eq_iff_iff]
  simp

theorem entry_any (b o i B0 : Nat) (L : List Lk.Hd) (v : Value) (w : World) (hb : b < w.heap.size) (hi : i ≤ 2 ^ 40) (hfx : Fx w) (hv : w.cell? ⟨b, o + 2, none⟩ = some v) (own : w.ownsRow B0 112 2 v L.length (hdsV L)) :
    Calls Tryz.prog 184 #[.pointer (some ⟨b, o, none⟩), .int .i64 i] w fun e w' =>
      e = .returned (.tuple #[hdA ((Lk.ents L)[i]?.getD zeroHd), .bool ((Lk.ents L)[i]?).isSome]) ∧ Below w.heap.size w w' := by
  by_cases h4 : i < 4
  · obtain ⟨x, hx⟩ : ∃ x, Lk.fixedL[i]? = some x := ⟨_, List.getElem?_eq_getElem (by simp [Lk.fixedL]; omega)⟩
    have e : (Lk.ents L)[i]? = some x := by unfold Lk.ents; rw [List.getElem?_append_left (by simp [Lk.fixedL]; omega)]; exact hx
    rw [e]
    exact entry_fixed b o i x w (by omega) hfx hx
  · have e : (Lk.ents L)[i]? = L[i - 4]? := by unfold Lk.ents; rw [List.getElem?_append_right (by simp [Lk.fixedL]; omega)]; rfl
    rw [e]
    rcases owned_hds own with ⟨rfl, rfl⟩ | ⟨g, cap, rfl, _, hg, _, hc⟩
    · exact entry_none b o i 0 0 none w hb (by omega) hi hv (by omega)
    · by_cases hlt : i - 4 < L.length
      · obtain ⟨x, hx⟩ : ∃ x, L[i - 4]? = some x := ⟨_, List.getElem?_eq_getElem hlt⟩
        rw [hx]
        exact entry_kept b o i x L.length cap g w hb (by omega) hi hv (by omega) hg (hc _ x hx).1 (hc _ x hx).2
      · rw [List.getElem?_eq_none (by omega)]
        exact entry_none b o i L.length cap _ w hb (by omega) hi hv (by omega)

set_option maxHeartbeats 1000000 in
set_option maxRecDepth 100000 in
theorem lowest1 (b o H B0 : Nat) (L : List Lk.Hd) (h : Lk.Hd) (v : Value) (N : Nat) (R : Nat) (w : World) (hb : b < w.heap.size) (hH : H < w.heap.size) (hfx : Hid (Fx w)) (hv : w.cell? ⟨b, o + 2, none⟩ = some v)
    (own : Hid (w.ownsRow B0 112 2 v L.length (hdsV L))) (c0 : w.cell? ⟨H, 0, none⟩ = some (.string (bs h.n))) (c1 : w.cell? ⟨H, 1, none⟩ = some (.string (bs h.v)))
    (hN : Hid ((Lk.ents L).length = N)) (hN2 : N ≤ 1000) (hR : Hid (Lk.low (Lk.sameHd h) (Lk.ents L) = R)) :
    Calls Tryz.prog 167 #[.pointer (some ⟨b, o, none⟩), .func (.func 168) #[] #[.pointer (some ⟨H, 0, none⟩)]] w fun e w' =>
      e = .returned (.tuple #[.int .i64 R, .bool (decide (R < N))]) ∧ Below w.heap.size w w' := by
  have h0 : 0 < w.heap.size := (unhide hfx).1
  go_enter Tryz.func167, Tryz.ntmps167
  go_wp2_with fail
  go_loopw [6] (fun u wr => ∃ k : Nat, u = .int .i64 k ∧ k ≤ N ∧ Hid (∀ j, j < k → ∃ x, (Lk.ents L)[j]? = some x ∧ Lk.sameHd h x = false) ∧ Below w.heap.size w wr) (fun u _ => N + 1 - (intOf u).toNat)
  case atStart => exact ⟨0, rfl, by omega, fun j hj => by omega, Below.refl _ _⟩
  case round =>
    obtain ⟨k, rfl, hk, HK, hbel⟩ := hrel
    have d2 : wr.cell? ⟨b, o + 2, none⟩ = some v := by rw [hbel.cell (p := ⟨b, o + 2, none⟩) hb]; exact hv
    have e0 : wr.cell? ⟨H, 0, none⟩ = some (.string (bs h.n)) := by rw [hbel.cell (p := ⟨H, 0, none⟩) hH]; exact c0
    have e1 : wr.cell? ⟨H, 1, none⟩ = some (.string (bs h.v)) := by rw [hbel.cell (p := ⟨H, 1, none⟩) hH]; exact c1
    have hsz := hbel.size
    go_wp2_with fail
    refine (entry_any b o k B0 L v _ (by omega) (by omega) ((unhide hfx).below hbel h0) d2 (own_belowB (unhide own) hbel (by omega))).mono ?_
    rintro e w1 ⟨rfl, hb1⟩
    have hbel1 := hbel.trans (hb1.mono (by omega))
    have e0 := call_keeps hb1 (by omega) e0
    have e1 := call_keeps hb1 (by omega) e1
    have hsz1 := hbel1.size
    clear hbel hb1 d2
    cases hx : (Lk.ents L)[k]? with
    | none =>
      have hkN : R = k ∧ ¬ R < N := by
        have : k = (Lk.ents L).length := by
          have h1 := List.getElem?_eq_none_iff.1 hx
          have h2 := unhide hN
          omega
        have h3 := Lk.low_of (Lk.sameHd h) (Lk.ents L) k (unhide HK) (.inl this)
        rw [unhide hR] at h3
        have h2 := unhide hN
        omega
      simp only [Option.getD, Option.isSome]
      clear hx
      go_wp2_with fail
      go_ret2
      obtain ⟨rfl, hlt⟩ := hkN
      exact ⟨by simp [hlt], hbel1.alloc hsz1 _⟩
    | some x =>
      have hkN : k < N := by
        have h1 := (List.getElem?_eq_some_iff.1 hx).1
        have h2 := unhide hN
        omega
      simp only [Option.getD, Option.isSome]
      have HX := hide hx
      clear hx
      generalize hq : Lk.sameHd h x = Q
      have HQ := hide hq
      clear hq
      have hH1 : H < w1.heap.size := by omega
      go_wp2_with fail
      refine (same_any1 x h H _ (by simp; omega) (Go.Lib.cell?_alloc_some _ e0) (Go.Lib.cell?_alloc_some _ e1)).mono ?_
      rintro e w2 ⟨he, hb2⟩
      rw [unhide HQ] at he
      subst he
      have hbel2 := (hbel1.alloc hsz1 (.cells #[.string (bs x.n), .string (bs x.v)] 112)).trans (hb2.mono (by simp; omega))
      clear hb2 hbel1 e0 e1
      cases Q
      · go_wp2_with fail
        go_roundw
        case rel =>
          refine ⟨k + 1, by simp, by omega, fun j hj => ?_, hbel2⟩
          rcases Nat.lt_succ_iff_lt_or_eq.1 hj with hj | rfl
          · exact unhide HK j hj
          · exact ⟨x, unhide HX, unhide HQ⟩
        case measure => simp [intOf]; omega
      · go_wp2_with fail
        go_ret2
        have h3 := Lk.low_of (Lk.sameHd h) (Lk.ents L) k (unhide HK) (.inr ⟨x, unhide HX, unhide HQ⟩)
        rw [unhide hR] at h3
        subst h3
        exact ⟨by simp [hkN], hbel2⟩

set_option maxHeartbeats 1000000 in
set_option maxRecDepth 100000 in
theorem lowest2 (b o H B0 : Nat) (L : List Lk.Hd) (h : Lk.Hd) (v : Value) (N : Nat) (R : Nat) (w : World) (hb : b < w.heap.size) (hH : H < w.heap.size) (hfx : Hid (Fx w)) (hv : w.cell? ⟨b, o + 2, none⟩ = some v)
    (own : Hid (w.ownsRow B0 112 2 v L.length (hdsV L))) (c0 : w.cell? ⟨H, 0, none⟩ = some (.string (bs h.n))) (c1 : w.cell? ⟨H, 1, none⟩ = some (.string (bs h.v)))
    (hN : Hid ((Lk.ents L).length = N)) (hN2 : N ≤ 1000) (hR : Hid (Lk.low (Lk.sameName h) (Lk.ents L) = R)) :
    Calls Tryz.prog 167 #[.pointer (some ⟨b, o, none⟩), .func (.func 169) #[] #[.pointer (some ⟨H, 0, none⟩)]] w fun e w' =>
      e = .returned (.tuple #[.int .i64 R, .bool (decide (R < N))]) ∧ Below w.heap.size w w' := by
  have h0 : 0 < w.heap.size := (unhide hfx).1
  go_enter Tryz.func167, Tryz.ntmps167
  go_wp2_with fail
  go_loopw [6] (fun u wr => ∃ k : Nat, u = .int .i64 k ∧ k ≤ N ∧ Hid (∀ j, j < k → ∃ x, (Lk.ents L)[j]? = some x ∧ Lk.sameName h x = false) ∧ Below w.heap.size w wr) (fun u _ => N + 1 - (intOf u).toNat)
  case atStart => exact ⟨0, rfl, by omega, fun j hj => by omega, Below.refl _ _⟩
  case round =>
    obtain ⟨k, rfl, hk, HK, hbel⟩ := hrel
    have d2 : wr.cell? ⟨b, o + 2, none⟩ = some v := by rw [hbel.cell (p := ⟨b, o + 2, none⟩) hb]; exact hv
    have e0 : wr.cell? ⟨H, 0, none⟩ = some (.string (bs h.n)) := by rw [hbel.cell (p := ⟨H, 0, none⟩) hH]; exact c0
    have e1 : wr.cell? ⟨H, 1, none⟩ = some (.string (bs h.v)) := by rw [hbel.cell (p := ⟨H, 1, none⟩) hH]; exact c1
    have hsz := hbel.size
    go_wp2_with fail
    refine (entry_any b o k B0 L v _ (by omega) (by omega) ((unhide hfx).below hbel h0) d2 (own_belowB (unhide own) hbel (by omega))).mono ?_
    rintro e w1 ⟨rfl, hb1⟩
    have hbel1 := hbel.trans (hb1.mono (by omega))
    have e0 := call_keeps hb1 (by omega) e0
    have e1 := call_keeps hb1 (by omega) e1
    have hsz1 := hbel1.size
    clear hbel hb1 d2
    cases hx : (Lk.ents L)[k]? with
    | none =>
      have hkN : R = k ∧ ¬ R < N := by
        have : k = (Lk.ents L).length := by
          have h1 := List.getElem?_eq_none_iff.1 hx
          have h2 := unhide hN
          omega
        have h3 := Lk.low_of (Lk.sameName h) (Lk.ents L) k (unhide HK) (.inl this)
        rw [unhide hR] at h3
        have h2 := unhide hN
        omega
      simp only [Option.getD, Option.isSome]
      clear hx
      go_wp2_with fail
      go_ret2
      obtain ⟨rfl, hlt⟩ := hkN
      exact ⟨by simp [hlt], hbel1.alloc hsz1 _⟩
    | some x =>
      have hkN : k < N := by
        have h1 := (List.getElem?_eq_some_iff.1 hx).1
        have h2 := unhide hN
        omega
      simp only [Option.getD, Option.isSome]
      have HX := hide hx
      clear hx
      generalize hq : Lk.sameName h x = Q
      have HQ := hide hq
      clear hq
      have hH1 : H < w1.heap.size := by omega
      go_wp2_with fail
      refine (same_any2 x h H _ (by simp; omega) (Go.Lib.cell?_alloc_some _ e0)).mono ?_
      rintro e w2 ⟨he, hb2⟩
      rw [unhide HQ] at he
      subst he
      have hbel2 := (hbel1.alloc hsz1 (.cells #[.string (bs x.n), .string (bs x.v)] 112)).trans (hb2.mono (by simp; omega))
      clear hb2 hbel1 e0 e1
      cases Q
      · go_wp2_with fail
        go_roundw
        case rel =>
          refine ⟨k + 1, by simp, by omega, fun j hj => ?_, hbel2⟩
          rcases Nat.lt_succ_iff_lt_or_eq.1 hj with hj | rfl
          · exact unhide HK j hj
          · exact ⟨x, unhide HX, unhide HQ⟩
        case measure => simp [intOf]; omega
      · go_wp2_with fail
        go_ret2
        have h3 := Lk.low_of (Lk.sameName h) (Lk.ents L) k (unhide HK) (.inr ⟨x, unhide HX, unhide HQ⟩)
        rw [unhide hR] at h3
        subst h3
        exact ⟨by simp [hkN], hbel2⟩

end Go.Proofs.YtbkpdapagfjmmaaGreatDoor

/-
  Walks: a header is cloned; a text is appended.
-/
namespace Go.Proofs.YtbkpdapagfjmmaaGreatDoor
open Go.RowKit
attribute [local go_sem ↓] Go.wp_at_zero Go.wp_at_succ

theorem cloneBs (l : Lk.Bs) (w : World) (h : l.length ≤ 1000) : Calls Tryz.prog 70 #[.string (bs l)] w fun e w' => e = .returned (.string (bs l)) ∧ Below w.heap.size w w' :=
  clone_any (bs l) w (by rw [bs_size]; exact h)

/-- Two boxes of two cells are as they were, and nothing old has turned. -/
def Kq (w0 : World) (H : Nat) (a b c d : Value) (W : World) : Prop :=
  W.cell? ⟨H, 0, none⟩ = some a ∧ W.cell? ⟨H, 1, none⟩ = some b ∧ W.cell? ⟨H + 1, 0, none⟩ = some c ∧ W.cell? ⟨H + 1, 1, none⟩ = some d ∧ W.frozen? ⟨H + 1, 0, none⟩ = false ∧ W.frozen? ⟨H + 1, 1, none⟩ = false ∧ H + 1 < W.heap.size ∧ Below w0.heap.size w0 W
theorem Kq.call {w0 W w' : World} {H : Nat} {a b c d : Value} (h : Kq w0 H a b c d W) (hb : Below W.heap.size W w') : Kq w0 H a b c d w' := by
  obtain ⟨h1, h2, h3, h4, h5, h6, h7, h8⟩ := h
  exact ⟨call_keeps hb (by omega) h1, call_keeps hb (by omega) h2, call_keeps hb h7 h3, call_keeps hb h7 h4, call_free hb h7 h5, call_free hb h7 h6, call_lt hb h7, h8.trans (hb.mono h8.size)⟩
theorem Kq.of {f : Nat} {args : Array Value} {w0 W : World} {H : Nat} {a b c d r : Value} (h : Kq w0 H a b c d W) (hc : Calls Tryz.prog f args W fun e w' => e = .returned r ∧ Below W.heap.size W w') :
    Calls Tryz.prog f args W fun e w' => e = .returned r ∧ w'.cell? ⟨H, 0, none⟩ = some a ∧ w'.cell? ⟨H, 1, none⟩ = some b ∧ w'.cell? ⟨H + 1, 0, none⟩ = some c ∧ w'.cell? ⟨H + 1, 1, none⟩ = some d ∧ w'.frozen? ⟨H + 1, 0, none⟩ = false ∧ w'.frozen? ⟨H + 1, 1, none⟩ = false ∧ H + 1 < w'.heap.size ∧ Below w0.heap.size w0 w' :=
  hc.mono fun _ _ ⟨he, hb⟩ => ⟨he, h.call hb⟩

set_option maxHeartbeats 1000000 in
set_option maxRecDepth 100000 in
theorem hclone_any (h : Lk.Hd) (w : World) (hn : h.n.length ≤ 1000) (hv : h.v.length ≤ 1000) :
    Calls Tryz.prog 172 #[hdA h] w fun e w' => e = .returned (hdA h) ∧ Below w.heap.size w w' := by
  have k3 : Below w.heap.size w ((w.alloc (.cells #[.string (bs h.n), .string (bs h.v)] 112)).alloc (.cells #[.string ⟨#[]⟩, .string ⟨#[]⟩] 112)).drew := by ((repeat' (first | exact Below.refl _ _ | assumption | apply Below.drew | apply Below.alloc | apply Below.setCell)) <;> (simp <;> omega))
  go_enter Tryz.func172, Tryz.ntmps172
  go_wp2_with fail
  go_region_with (first
      | (go_at_call_of 70 (Value.string (bs h.n)); refine (Kq.of (w0 := w) (H := w.heap.size) (a := .string (bs h.n)) (b := .string (bs h.v)) (c := .string ⟨#[]⟩) (d := .string ⟨#[]⟩) ?_ (cloneBs h.n _ (by omega))).mono ?_; (first | exact ⟨q0, q1, q2, q3, q4, q5, q6, q7⟩ | exact ⟨by simp, by simp, by simp, by simp, by simp, by simp, by simp, k3⟩); rintro e w' ⟨rfl, q0, q1, q2, q3, q4, q5, q6, q7⟩)
      | (go_at_call_of 70 (Value.string (bs h.v)); refine (Kq.of (w0 := w) (H := w.heap.size) (a := .string (bs h.n)) (b := .string (bs h.v)) (c := .string ⟨#[]⟩) (d := .string ⟨#[]⟩) ?_ (cloneBs h.v _ (by omega))).mono ?_; (first | exact ⟨q0, q1, q2, q3, q4, q5, q6, q7⟩ | exact ⟨by simp, by simp, by simp, by simp, by simp, by simp, by simp, k3⟩); rintro e w' ⟨rfl, q0, q1, q2, q3, q4, q5, q6, q7⟩))
  all_goals
    go_wp2_with fail
    exact bodyPost_ret (v := hdA h) (by simp [results, Tryz.results172, go_sem, q2, q3]) rfl ⟨rfl, (q7.setCell (by simp) _).setCell (by simp) _⟩

set_option maxHeartbeats 1000000 in
set_option maxRecDepth 100000 in
theorem appendText_any (B : Nat) (v : Value) (xs : List UInt8) (l : Lk.Bs) (w : World) (hB : B ≤ w.heap.size) (ho : w.ownsRow B 5 1 v xs.length (bytesV xs)) (hl : xs.length ≤ 900) (hll : l.length ≤ 100) :
    Calls Tryz.prog 170 #[v, .string (bs l)] w fun e w' => ∃ v', e = .returned v' ∧ w'.ownsRow B 5 1 v' (xs ++ Lk.text l).length (bytesV (xs ++ Lk.text l)) ∧ Below B w w' ∧ KeepsT 5 w w' := by
  have hsz := bs_size l
  obtain ⟨i, hi, hz0, hz1, hz2⟩ := info_parts info_u8
  go_enter Tryz.func170, Tryz.ntmps170
  go_wp2_with fail
  refine (appendNumber_T B v xs l.length (by omega) _ hB ho (by omega)).mono ?_
  rintro e w1 ⟨v1, rfl, ho1, hb1, hk1⟩
  have hs1 := hb1.size
  have hwl := Lk.wire_len_le4 l.length (by omega)
  go_wp2_with (at_builtin; refine Lib.wpList_append_own_string _ rfl _ _ 78 9 rfl B 5 i Tryz.underlying78 Tryz.underlying9 hi hz0 hz1 hz2 _ _ _ rfl ho1 (bs l) rfl ?h63 ?hby ?hba ?_)
  case h63 => unfold maxLen; simp; omega
  case hby => simp; omega
  case hba => omega
  intro v4 w4 ho4 hg4 _
  go_wp2_with fail
  go_ret
  refine ⟨_, rfl, ?_, hb1.grown hg4 (by omega) (fun k hk => (ho1.lt k hk).1), hk1.grown hg4 ho1⟩
  rw [strCells_bytes, bs_list] at ho4
  have e : xs ++ Lk.text l = (xs ++ Lk.wire l.length) ++ l := by simp [Lk.text]
  rw [e]
  simpa [bytesV, Nat.add_assoc] using ho4
end Go.Proofs.YtbkpdapagfjmmaaGreatDoor

/-
  Walks: a header is squeezed.
-/
namespace Go.Proofs.YtbkpdapagfjmmaaGreatDoor
open Go.RowKit
attribute [local go_sem ↓] Go.wp_at_zero Go.wp_at_succ

/-- A row is the old one, or new. -/
def NewOr (H : Nat) (v v' : Value) : Prop := v' = v ∨ ∀ k, v'.ownBlock = some k → H ≤ k
theorem NewOr.mono {H H' : Nat} {v v' : Value} (h : NewOr H v v') (hH : H' ≤ H) : NewOr H' v v' := h.imp id (fun h k hk => Nat.le_trans hH (h k hk))
theorem NewOr.trans {H H' : Nat} {v v' v'' : Value} (h : NewOr H v v') (k : NewOr H' v' v'') (hH : H ≤ H') : NewOr H v v'' := by
  rcases k with rfl | k
  · exact h
  · exact .inr (fun x hx => Nat.le_trans hH (k x hx))

/-- A table of the program's. -/
structure Tab (w : World) (t B : Nat) (L : List Lk.Hd) (v : Value) : Prop where
  blk : Is w t 90 [weighV, .int .i64 ((B : Int) - Lk.weights L), v]
  own : w.ownsRow 0 112 2 v L.length (hdsV L)
  le : Lk.weights L ≤ B
  hB : B ≤ 200

/-- Nothing below B has turned but block t. -/
def TurnsU (t B : Nat) (w w' : World) : Prop := w'.os = w.os ∧ w'.tape = w.tape ∧ w'.output = w.output ∧ w.heap.size ≤ w'.heap.size ∧ ∀ i, i < B → i ≠ t → w'.heap[i]? = w.heap[i]?
theorem TurnsU.refl (t B : Nat) (w : World) : TurnsU t B w w := ⟨rfl, rfl, rfl, Nat.le_refl _, fun _ _ _ => rfl⟩
theorem TurnsU.trans {t B : Nat} {a b c : World} (h : TurnsU t B a b) (k : TurnsU t B b c) : TurnsU t B a c :=
  ⟨k.1.trans h.1, k.2.1.trans h.2.1, k.2.2.1.trans h.2.2.1, Nat.le_trans h.2.2.2.1 k.2.2.2.1, fun i hi hn => (k.2.2.2.2 i hi hn).trans (h.2.2.2.2 i hi hn)⟩
theorem TurnsU.below {t B : Nat} {a b c : World} (h : TurnsU t B a b) (k : Below B b c) : TurnsU t B a c :=
  h.trans ⟨k.os, k.tape, k.output, k.size, fun i hi _ => k.block i hi⟩
theorem TurnsU.turns {t B : Nat} {a b c : World} (h : TurnsU t B a b) (k : Turns t b c) (hB : B ≤ b.heap.size) : TurnsU t B a c :=
  h.trans ⟨k.os, k.tape, k.output, k.size, fun i hi hn => k.block i (by omega) (by simpa using hn)⟩
theorem TurnsU.toTurns {t : Nat} {a b : World} (h : TurnsU t a.heap.size a b) : Turns t a b :=
  ⟨h.1, h.2.1, h.2.2.1, h.2.2.2.1, fun i hi hn => h.2.2.2.2 i hi (by simpa using hn)⟩
theorem Fx.turnsU {t B : Nat} {w w' : World} (h : Fx w) (k : TurnsU t B w w') (hB : 0 < B) (ht : 0 ≠ t) : Fx w' :=
  ⟨Nat.lt_of_lt_of_le h.1 k.2.2.2.1, fun i x hx => by
    have e : ∀ j, w'.cell? ⟨0, j, none⟩ = w.cell? ⟨0, j, none⟩ := fun j => by simp only [World.cell?]; rw [k.2.2.2.2 0 hB ht]
    rw [e, e]; exact h.2 i x hx⟩

theorem Tab.below {w w' : World} {t B : Nat} {L : List Lk.Hd} {v : Value} (h : Tab w t B L v) (hb : Below w.heap.size w w') : Tab w' t B L v :=
  ⟨h.blk.below hb h.blk.lt, own_below h.own hb, h.le, h.hB⟩
theorem Tab.alloc {w : World} {t B : Nat} {L : List Lk.Hd} {v : Value} (h : Tab w t B L v) (o : Obj) : Tab (w.alloc o) t B L v :=
  ⟨h.blk.alloc o, h.own.alloc o, h.le, h.hB⟩
theorem Tab.keeps {w w' : World} {t B : Nat} {L : List Lk.Hd} {v : Value} (h : Tab w t B L v) (hk : KeepsT 5 w w') : Tab w' t B L v :=
  ⟨hk _ _ _ (Nat.ne_of_beq_eq_false rfl) h.blk, hk.own (Nat.ne_of_beq_eq_false rfl) h.own, h.le, h.hB⟩
theorem Tab.len {w : World} {t B : Nat} {L : List Lk.Hd} {v : Value} (h : Tab w t B L v) : (Lk.ents L).length ≤ 54 := by
  have := Lk.weights_len L
  have h1 := h.le
  have h2 := h.hB
  rw [Lk.ents_len]
  omega

theorem appendNumber_at (B : Nat) (v : Value) (xs : List UInt8) (n : Nat) (z : Int) (hz : z = n) (h : n ≤ 268435455) (w : World) (hB : B ≤ w.heap.size) (ho : w.ownsRow B 5 1 v xs.length (bytesV xs)) (hl : xs.length ≤ 1000) :
    Calls Tryz.prog 72 #[v, .int .i64 z] w fun e w' => ∃ v', e = .returned v' ∧ w'.ownsRow B 5 1 v' (xs ++ Lk.wire n).length (bytesV (xs ++ Lk.wire n)) ∧ Below B w w' ∧ KeepsT 5 w w' := by
  subst hz
  exact appendNumber_T B v xs n h w hB ho (by omega)

theorem own_drew {w : World} {B : Nat} {e : TypeId} {size n : Nat} {v : Value} {xs : List Value} (h : w.ownsRow B e size v n xs) : w.drew.ownsRow B e size v n xs := h
theorem put_tab (t B : Nat) (L : List Lk.Hd) (h : Lk.Hd) (v : Value) (w : World) (hT : Tab w t B L v) (hn : h.n.length ≤ 100) (hv : h.v.length ≤ 100) :
    Calls Tryz.prog 171 #[.pointer (some ⟨t, 0, none⟩), hdA h] w fun e w' => e = .returned (.tuple #[]) ∧ (∃ v', Tab w' t B (Lk.put B L h) v' ∧ NewOr w.heap.size v v') ∧ Turns t w w' := by
  refine (put_any t 0 _ _ B 0 L h v _ w hT.blk (Nat.ne_of_beq_eq_false rfl) rfl rfl rfl hT.own hT.hB rfl hT.le (by omega) hv).mono ?_
  rintro e w' ⟨rfl, ⟨v', ho, hI⟩, hTu⟩
  exact ⟨rfl, ⟨v', ⟨hI, own_base (Nat.zero_le _) ho, Lk.put_weights B L h, hT.hB⟩, .inr (fun k hk => (ho.lt k hk).1)⟩, hTu⟩

theorem part_put {w w3 wx wy : World} {t B Bs : Nat} {L L' : List Lk.Hd} {v vy bv : Value} {ys : Lk.Bs} {h : Lk.Hd} (hT3 : Tab w3 t B L v) (ho3 : w3.ownsRow Bs 5 1 bv ys.length (bytesV ys)) (hI3 : Is w3 w.heap.size 112 [.string (bs h.n), .string (bs h.v)])
    (hU3 : TurnsU t Bs w w3) (hbx : Below w3.heap.size w3 wx) (hTy : Tab wy t B L' vy) (hty : Turns t wx wy) (hs3 : Bs ≤ w3.heap.size) (hNy : NewOr wx.heap.size v vy) :
    ∃ v', (Tab wy t B L' v' ∧ NewOr w.heap.size v v') ∧ wy.ownsRow Bs 5 1 bv ys.length (bytesV ys) ∧ Is wy w.heap.size 112 [.string (bs h.n), .string (bs h.v)] ∧ TurnsU t Bs w wy := by
  have hTx := hT3.below hbx
  have hox := own_below ho3 hbx
  have hIx := hI3.below hbx hI3.lt
  have hsx := hbx.size
  have hwx : w.heap.size ≤ wx.heap.size := by have := hU3.2.2.2.1; omega
  refine ⟨vy, ⟨hTy, hNy.mono hwx⟩, hox.kept hty (.inr (fun e => own_ne hox hTx.blk (Nat.ne_of_beq_eq_false rfl) e.symm)), hIx.grown hty ?_, (hU3.below (hbx.mono hs3)).turns hty (by omega)⟩
  intro e
  exact hIx.ne hTx.blk (Nat.ne_of_beq_eq_false rfl) (by simpa using e)

set_option maxHeartbeats 4000000 in
set_option maxRecDepth 100000 in
theorem appendPart_any (t B Bs : Nat) (L : List Lk.Hd) (h : Lk.Hd) (v bv : Value) (xs : Lk.Bs) (w : World) (hT : Tab w t B L v) (hfx : Fx w) (hBs : Bs ≤ w.heap.size)
    (ho : w.ownsRow Bs 5 1 bv xs.length (bytesV xs)) (hxs : xs.length ≤ 600) (hn : h.n.length ≤ 16) (hv : h.v.length ≤ 32) :
    Calls Tryz.prog 130 #[.pointer (some ⟨t, 0, none⟩), bv, hdA h] w fun e w' => ∃ v' bv', e = .returned bv' ∧ (Tab w' t B (Lk.oneP B L h).2 v' ∧ NewOr w.heap.size v v') ∧ w'.ownsRow Bs 5 1 bv' (xs ++ (Lk.oneP B L h).1).length (bytesV (xs ++ (Lk.oneP B L h).1)) ∧ TurnsU t Bs w w' := by
  have hN := hT.len
  generalize hNe : (Lk.ents L).length = N at hN
  generalize hR1e : Lk.low (Lk.sameHd h) (Lk.ents L) = R1
  generalize hR2e : Lk.low (Lk.sameName h) (Lk.ents L) = R2
  have HT0 := hide (hT.alloc (.cells #[.string (bs h.n), .string (bs h.v)] 112))
  have HI0 := hide (Is.new w 112 [.string (bs h.n), .string (bs h.v)])
  have HO0 := hide (ho.alloc (.cells #[.string (bs h.n), .string (bs h.v)] 112))
  have HB0 := hide ((Below.refl w.heap.size w).alloc (Nat.le_refl _) (.cells #[.string (bs h.n), .string (bs h.v)] 112))
  have HN := hide hNe
  have HR1 := hide hR1e
  have HR2 := hide hR2e
  have HFX := hide hfx
  have htl := hT.blk.lt
  clear hNe hR1e hR2e hT ho hfx
  go_enter Tryz.func130, Tryz.ntmps130
  go_wp2_with fail
  refine (lowest1 t 0 w.heap.size 0 L h v N R1 _ (by simp; omega) (by simp) (hide ((unhide HFX).below (unhide HB0) (by omega))) ((unhide HT0).blk.cell 2) (hide (unhide HT0).own) ((unhide HI0).cell 0) ((unhide HI0).cell 1) HN (by omega) HR1).mono ?_
  rintro e w1 ⟨rfl, hb1⟩
  have HT1 := hide ((unhide HT0).below hb1)
  have HI1 := hide ((unhide HI0).below hb1 (by simp))
  have HO1 := hide (own_below (unhide HO0) hb1)
  have HB1 := hide ((unhide HB0).trans (hb1.mono (by simp)))
  have hs1 : w.heap.size < w1.heap.size := (unhide HI1).lt
  clear hb1 HT0 HI0 HO0 HB0
  by_cases hR1 : R1 < N
  · have hd : decide (R1 < N) = true := by simpa using hR1
    have hone : Lk.oneP B L h = (Lk.wire (2 * R1), L) := by
      unfold Lk.oneP; rw [unhide HR1, unhide HN, if_pos hR1]
    have HONE := hide hone
    clear hone
    go_wp2_with fail
    refine (appendNumber_at Bs bv xs (2 * R1) _ (by first | rfl | (simp; done) | omega) (by omega) w1 (by omega) (unhide HO1) (by omega)).mono ?_
    rintro e w2 ⟨v2, rfl, ho2, hb2, hk2⟩
    go_wp2_with fail
    go_ret
    rw [unhide HONE]
    exact ⟨v, _, rfl, ⟨(unhide HT1).keeps hk2, .inl rfl⟩, ho2, ((TurnsU.refl t Bs w).below ((unhide HB1).mono hBs)).below hb2⟩
  · have hd : decide (R1 < N) = false := by simpa using hR1
    go_wp2_with fail
    refine (lowest2 t 0 w.heap.size 0 L h v N R2 _ (by omega) (by omega) (hide ((unhide HFX).below (unhide HB1) (by omega))) ((unhide HT1).blk.cell 2) (hide (unhide HT1).own) ((unhide HI1).cell 0) ((unhide HI1).cell 1) HN (by omega) HR2).mono ?_
    rintro e w2 ⟨rfl, hb2⟩
    have HT2 := hide ((unhide HT1).below hb2)
    have HI2 := hide ((unhide HI1).below hb2 hs1)
    have HO2 := hide (own_below (unhide HO1) hb2)
    have HB2 := hide ((unhide HB1).trans (hb2.mono (by omega)))
    have hs2 : w.heap.size < w2.heap.size := (unhide HI2).lt
    clear hb2 HT1 HI1 HO1 HB1
    by_cases hR2 : R2 < N
    · have hd2 : decide (R2 < N) = true := by simpa using hR2
      have HONE := hide (show Lk.oneP B L h = (Lk.wire (2 * (R2 + 1) + 1) ++ Lk.text h.v, Lk.put B L h) by
        unfold Lk.oneP; rw [unhide HR1, unhide HR2, unhide HN, if_neg hR1, if_pos hR2])
      go_wp2_with fail
      refine (appendNumber_at Bs bv xs (2 * (R2 + 1) + 1) _ (by first | rfl | (simp; done) | omega) (by omega) w2 (by omega) (unhide HO2) (by omega)).mono ?_
      rintro e w3 ⟨v3, rfl, ho3, hb3, hk3⟩
      have hT3 := (unhide HT2).keeps hk3
      have hI3 := hk3 _ _ _ (Nat.ne_of_beq_eq_false rfl) (unhide HI2)
      have hU3 := ((TurnsU.refl t Bs w).below ((unhide HB2).mono hBs)).below hb3
      have hw4 := Lk.wire_len_le4 (2 * (R2 + 1) + 1) (by omega)
      generalize hys : xs ++ Lk.wire (2 * (R2 + 1) + 1) = ys at ho3
      have hyl : ys.length ≤ 700 := by rw [← hys]; simp; omega
      have HE := hide (show xs ++ (Lk.oneP B L h).1 = ys ++ Lk.text h.v by rw [unhide HONE, ← hys]; simp)
      have HE2 := hide (show (Lk.oneP B L h).2 = Lk.put B L h by rw [unhide HONE])
      have c0 := hI3.cell 0
      have c1 := hI3.cell 1
      simp only [List.getElem?_cons_zero, List.getElem?_cons_succ] at c0 c1
      have hs3 : Bs ≤ w3.heap.size := by have := hU3.2.2.2.1; omega
      clear hys hb3 hk3 HT2 HI2 HO2 HB2
      go_wp2_with fail
      go_cut [] (fun wc => ∃ v', (Tab wc t B (Lk.put B L h) v' ∧ NewOr w.heap.size v v') ∧ wc.ownsRow Bs 5 1 v3 ys.length (bytesV ys) ∧ Is wc w.heap.size 112 [.string (bs h.n), .string (bs h.v)] ∧ TurnsU t Bs w wc)
      case first =>
        go_region_with (first
          | (go_at_call 172; refine (hclone_any h _ (by omega) (by omega)).mono ?_; rintro e wx ⟨rfl, hbx⟩)
          | (go_at_call 171; refine (put_tab t B L h v _ (hT3.below ⟨hbx.os, hbx.tape, hbx.output, hbx.size, hbx.block⟩) (by omega) (by omega)).mono ?_; rintro e wy ⟨rfl, ⟨vy, hTy, hNy⟩, hty⟩))
        all_goals
          go_wp2_with fail
          go_meet
          exact part_put hT3 ho3 hI3 hU3 ⟨hbx.os, hbx.tape, hbx.output, hbx.size, hbx.block⟩ hTy hty hs3 (hNy.mono (by simp))
      case rest =>
        obtain ⟨v', ⟨hT4, hN4⟩, ho4, hI4, hU4⟩ := hcut
        have c1 := hI4.cell 1
        simp only [List.getElem?_cons_zero, List.getElem?_cons_succ] at c1
        have hs4 := hU4.2.2.2.1
        go_wp2_with fail
        refine (appendText_any Bs _ ys h.v _ (by omega) ho4 (by omega) (by omega)).mono ?_
        rintro e w5 ⟨v5, rfl, ho5, hb5, hk5⟩
        go_wp2_with fail
        go_ret
        rw [unhide HE, unhide HE2]
        exact ⟨v', _, rfl, ⟨hT4.keeps hk5, hN4⟩, ho5, hU4.below hb5⟩
    · have hd2 : decide (R2 < N) = false := by simpa using hR2
      have HONE := hide (show Lk.oneP B L h = (Lk.wire 1 ++ Lk.text h.n ++ Lk.text h.v, Lk.put B L h) by
        unfold Lk.oneP; rw [unhide HR1, unhide HR2, unhide HN, if_neg hR1, if_neg hR2])
      have c0 := (unhide HI2).cell 0
      simp only [List.getElem?_cons_zero] at c0
      go_wp2_with fail
      go_cut [1] (fun u wc => ∃ ys : Lk.Bs, ys = xs ++ (Lk.wire 1 ++ Lk.text h.n) ∧ wc.ownsRow Bs 5 1 u ys.length (bytesV ys) ∧ Tab wc t B L v ∧ Is wc w.heap.size 112 [.string (bs h.n), .string (bs h.v)] ∧ TurnsU t Bs w wc)
      case first =>
        have hw1 := Lk.wire_len_le4 1 (by omega)
        have hs2b : Bs ≤ w2.heap.size := by omega
        go_region_with (first
          | (go_at_call 72; refine (appendNumber_at Bs bv xs 1 1 rfl (by omega) _ (show Bs ≤ w2.drew.heap.size from hs2b) (own_drew (unhide HO2)) (by omega)).mono ?_; rintro e wx ⟨vx, rfl, hox, hbx, hkx⟩; have gx : wx.cell? ⟨w.heap.size, 0, none⟩ = some (.string (bs h.n)) := (hkx _ _ _ (Nat.ne_of_beq_eq_false rfl) (unhide HI2).drew).cell 0)
          | (go_at_call 170; refine (appendText_any Bs vx (xs ++ Lk.wire 1) h.n _ (by have := hbx.size; simp at this; omega) hox (by simp; omega) (by omega)).mono ?_; rintro e wy ⟨vy, rfl, hoy, hby, hky⟩))
        all_goals
          go_wp2_with fail
          go_meet
          have hk2 : KeepsT 5 w2 wy := KeepsT.trans (fun i T cs hT hI => hkx i T cs hT hI.drew) hky
          refine ⟨_, rfl, by simpa using hoy, (unhide HT2).keeps hk2, hk2 _ _ _ (Nat.ne_of_beq_eq_false rfl) (unhide HI2), ?_⟩
          exact (((TurnsU.refl t Bs w).below ((unhide HB2).mono hBs)).below ⟨hbx.os, hbx.tape, hbx.output, hbx.size, hbx.block⟩).below hby
      case rest =>
      obtain ⟨ys, hys, ho3, hT3, hI3, hU3⟩ := hcut
      have hw4 := Lk.wire_len_le4 1 (by omega)
      have hw5 := Lk.wire_len_le4 h.n.length (by omega)
      have hyl : ys.length ≤ 700 := by rw [hys]; simp [Lk.text]; omega
      have HE := hide (show xs ++ (Lk.oneP B L h).1 = ys ++ Lk.text h.v by rw [unhide HONE, hys]; simp)
      have HE2 := hide (show (Lk.oneP B L h).2 = Lk.put B L h by rw [unhide HONE])
      have c0 := hI3.cell 0
      have c1 := hI3.cell 1
      simp only [List.getElem?_cons_zero, List.getElem?_cons_succ] at c0 c1
      have hs3 : Bs ≤ wc.heap.size := by have := hU3.2.2.2.1; omega
      clear hys HT2 HI2 HO2 HB2
      go_wp2_with fail
      go_cut [] (fun wc => ∃ v', (Tab wc t B (Lk.put B L h) v' ∧ NewOr w.heap.size v v') ∧ wc.ownsRow Bs 5 1 u1 ys.length (bytesV ys) ∧ Is wc w.heap.size 112 [.string (bs h.n), .string (bs h.v)] ∧ TurnsU t Bs w wc)
      case first =>
        go_region_with (first
          | (go_at_call 172; refine (hclone_any h _ (by omega) (by omega)).mono ?_; rintro e wx ⟨rfl, hbx⟩)
          | (go_at_call 171; refine (put_tab t B L h v _ (hT3.below ⟨hbx.os, hbx.tape, hbx.output, hbx.size, hbx.block⟩) (by omega) (by omega)).mono ?_; rintro e wy ⟨rfl, ⟨vy, hTy, hNy⟩, hty⟩))
        all_goals
          go_wp2_with fail
          go_meet
          exact part_put hT3 ho3 hI3 hU3 ⟨hbx.os, hbx.tape, hbx.output, hbx.size, hbx.block⟩ hTy hty hs3 (hNy.mono (by simp))
      case rest =>
        obtain ⟨v', ⟨hT4, hN4⟩, ho4, hI4, hU4⟩ := hcut
        have c1 := hI4.cell 1
        simp only [List.getElem?_cons_zero, List.getElem?_cons_succ] at c1
        have hs4 := hU4.2.2.2.1
        go_wp2_with fail
        refine (appendText_any Bs _ ys h.v _ (by omega) ho4 (by omega) (by omega)).mono ?_
        rintro e w5 ⟨v5, rfl, ho5, hb5, hk5⟩
        go_wp2_with fail
        go_ret
        rw [unhide HE, unhide HE2]
        exact ⟨v', _, rfl, ⟨hT4.keeps hk5, hN4⟩, ho5, hU4.below hb5⟩
end Go.Proofs.YtbkpdapagfjmmaaGreatDoor
