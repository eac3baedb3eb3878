import Derived.Test.YtbkpdapagfjmmaaGreatDoorA10
import Derived.Test.YtbkpdapagfjmmaaGreatDoorA14
set_option linter.unusedVariables false
set_option maxRecDepth 100000
set_option maxHeartbeats 16000000
namespace Go.Proofs.YtbkpdapagfjmmaaGreatDoor
open Go.RowKit
theorem JG (x h : Lk.Hd) (b : Nat) (w : World) (hb : b < w.heap.size) (c0 : w.cell? ⟨b, 0, none⟩ = some (.string (bs h.n))) (c1 : w.cell? ⟨b, 1, none⟩ = some (.string (bs h.v))) :
 Calls Tryz.prog 168 #[hdA x, .pointer (some ⟨b, 0, none⟩)] w fun e w' => e = .returned (.bool (Lk.gy h x)) ∧ Below w.heap.size w w' := by
 go_enter Tryz.func168, Tryz.ntmps168
 go_wp2_with fail
 all_goals go_ret
 all_goals refine ⟨aH ?_, by ((repeat' (first | exact Below.refl _ _ | assumption | apply Below.drew | apply Below.alloc | apply Below.setCell)) <;> (simp <;> omega))⟩
 all_goals simp only [ByteArray.toList_eq, fJ, Lk.gy] at *
 all_goals rw [Bool.eq_iff_iff]
 all_goals simp_all
theorem JH (x h : Lk.Hd) (b : Nat) (w : World) (hb : b < w.heap.size) (c0 : w.cell? ⟨b, 0, none⟩ = some (.string (bs h.n))) :
 Calls Tryz.prog 169 #[hdA x, .pointer (some ⟨b, 0, none⟩)] w fun e w' => e = .returned (.bool (Lk.aX h x)) ∧ Below w.heap.size w w' := by
 go_enter Tryz.func169, Tryz.ntmps169
 go_wp2_with fail
 go_ret
 refine ⟨aH ?_, by ((repeat' (first | exact Below.refl _ _ | assumption | apply Below.drew | apply Below.alloc | apply Below.setCell)) <;> (simp <;> omega))⟩
 simp only [ByteArray.toList_eq, fJ, Lk.aX]
 rw [Bool.eq_iff_iff]
 simp
theorem ou (b o i B0 : Nat) (L : List Lk.Hd) (v : Value) (w : World) (hb : b < w.heap.size) (hi : i <= 2 ^ 40) (hfx : Fx w) (hv : w.cell? ⟨b, o + 2, none⟩ = some v) (own : w.ownsRow B0 112 2 v L.length (aQ L)) :
 Calls Tryz.prog 184 #[.pointer (some ⟨b, o, none⟩), .int .i64 i] w fun e w' =>
  e = .returned (.tuple #[hdA ((Lk.fB L)[i]?.getD bF), .bool ((Lk.fB L)[i]?).isSome]) ∧ Below w.heap.size w w' := by
 by_cases h4 : i < 4
 . obtain ⟨x, hx⟩ : ∃ x, Lk.jb[i]? = some x := ⟨_, List.getElem?_eq_getElem (by simp [Lk.jb]; omega)⟩
   have e : (Lk.fB L)[i]? = some x := by unfold Lk.fB; rw [List.getElem?_append_left (by simp [Lk.jb]; omega)]; exact hx
   rw [e]
   exact BI b o i x w (by omega) hfx hx
 . have e : (Lk.fB L)[i]? = L[i - 4]? := by unfold Lk.fB; rw [List.getElem?_append_right (by simp [Lk.jb]; omega)]; rfl
   rw [e]
   rcases eP own with ⟨rfl, rfl⟩ | ⟨g, cap, rfl, _, hg, _, hc⟩
   . exact vK b o i 0 0 none w hb (by omega) hi hv (by omega)
   . by_cases hlt : i - 4 < L.length
     . obtain ⟨x, hx⟩ : ∃ x, L[i - 4]? = some x := ⟨_, List.getElem?_eq_getElem hlt⟩
       rw [hx]
       exact Fz b o i x L.length cap g w hb (by omega) hi hv (by omega) hg (hc _ x hx).1 (hc _ x hx).2
     . rw [List.getElem?_eq_none (by omega)]
       exact vK b o i L.length cap _ w hb (by omega) hi hv (by omega)
theorem PU (b o H B0 : Nat) (L : List Lk.Hd) (h : Lk.Hd) (v : Value) (N : Nat) (R : Nat) (w : World) (hb : b < w.heap.size) (hH : H < w.heap.size) (hfx : Hid (Fx w)) (hv : w.cell? ⟨b, o + 2, none⟩ = some v)
 (own : Hid (w.ownsRow B0 112 2 v L.length (aQ L))) (c0 : w.cell? ⟨H, 0, none⟩ = some (.string (bs h.n))) (c1 : w.cell? ⟨H, 1, none⟩ = some (.string (bs h.v)))
 (hN : Hid ((Lk.fB L).length = N)) (hN2 : N <= 1000) (hR : Hid (Lk.low (Lk.gy h) (Lk.fB L) = R)) :
 Calls Tryz.prog 167 #[.pointer (some ⟨b, o, none⟩), .func (.func 168) #[] #[.pointer (some ⟨H, 0, none⟩)]] w fun e w' =>
  e = .returned (.tuple #[.int .i64 R, .bool (decide (R < N))]) ∧ Below w.heap.size w w' := by
 have h0 : 0 < w.heap.size := (uh hfx).1
 go_enter Tryz.func167, Tryz.ntmps167
 go_wp2_with fail
 go_loopw [6] (fun u wr => ∃ k : Nat, u = .int .i64 k ∧ k <= N ∧ Hid (∀ j, j < k -> ∃ x, (Lk.fB L)[j]? = some x ∧ Lk.gy h x = false) ∧ Below w.heap.size w wr) (fun u _ => N + 1 - (intOf u).toNat)
 case atStart => exact ⟨0, rfl, by omega, fun j hj => by omega, Below.refl _ _⟩
 case round =>
  obtain ⟨k, rfl, hk, HK, hbel⟩ := hrel
  have d2 : wr.cell? ⟨b, o + 2, none⟩ = some v := by rw [hbel.cell (p := ⟨b, o + 2, none⟩) hb]; exact hv
  have e0 : wr.cell? ⟨H, 0, none⟩ = some (.string (bs h.n)) := by rw [hbel.cell (p := ⟨H, 0, none⟩) hH]; exact c0
  have e1 : wr.cell? ⟨H, 1, none⟩ = some (.string (bs h.v)) := by rw [hbel.cell (p := ⟨H, 1, none⟩) hH]; exact c1
  have hsz := hbel.size
  go_wp2_with fail
  refine (ou b o k B0 L v _ (by omega) (by omega) ((uh hfx).below hbel h0) d2 (jO (uh own) hbel (by omega))).mono ?_
  rintro e w1 ⟨rfl, hb1⟩
  have iL := hbel.trans (hb1.mono (by omega))
  have e0 := aK hb1 (by omega) e0
  have e1 := aK hb1 (by omega) e1
  have hsz1 := iL.size
  clear hbel hb1 d2
  cases hx : (Lk.fB L)[k]? with
  | none =>
    have hkN : R = k ∧ ¬ R < N := by
     have : k = (Lk.fB L).length := by
      have h1 := List.getElem?_eq_none_iff.1 hx
      have h2 := uh hN
      omega
     have h3 := Lk.nK (Lk.gy h) (Lk.fB L) k (uh HK) (.inl this)
     rw [uh hR] at h3
     have h2 := uh hN
     omega
    simp only [Option.getD, Option.isSome]
    clear hx
    go_wp2_with fail
    go_ret2
    obtain ⟨rfl, hlt⟩ := hkN
    exact ⟨by simp [hlt], iL.alloc hsz1 _⟩
  | some x =>
    have hkN : k < N := by
     have h1 := (List.getElem?_eq_some_iff.1 hx).1
     have h2 := uh hN
     omega
    simp only [Option.getD, Option.isSome]
    have HX := hide hx
    clear hx
    generalize hq : Lk.gy h x = Q
    have HQ := hide hq
    clear hq
    have hH1 : H < w1.heap.size := by omega
    go_wp2_with fail
    refine (JG x h H _ (by simp; omega) (Go.Lib.cell?_alloc_some _ e0) (Go.Lib.cell?_alloc_some _ e1)).mono ?_
    rintro e w2 ⟨he, hb2⟩
    rw [uh HQ] at he
    subst he
    have lH := (iL.alloc hsz1 (.cells #[.string (bs x.n), .string (bs x.v)] 112)).trans (hb2.mono (by simp; omega))
    clear hb2 iL e0 e1
    cases Q
    . go_wp2_with fail
      go_roundw
      case rel =>
       refine ⟨k + 1, by simp, by omega, fun j hj => ?_, lH⟩
       rcases Nat.lt_succ_iff_lt_or_eq.1 hj with hj | rfl
       . exact uh HK j hj
       . exact ⟨x, uh HX, uh HQ⟩
      case measure => simp [intOf]; omega
    . go_wp2_with fail
      go_ret2
      have h3 := Lk.nK (Lk.gy h) (Lk.fB L) k (uh HK) (.inr ⟨x, uh HX, uh HQ⟩)
      rw [uh hR] at h3
      subst h3
      exact ⟨by simp [hkN], lH⟩
theorem PV (b o H B0 : Nat) (L : List Lk.Hd) (h : Lk.Hd) (v : Value) (N : Nat) (R : Nat) (w : World) (hb : b < w.heap.size) (hH : H < w.heap.size) (hfx : Hid (Fx w)) (hv : w.cell? ⟨b, o + 2, none⟩ = some v)
 (own : Hid (w.ownsRow B0 112 2 v L.length (aQ L))) (c0 : w.cell? ⟨H, 0, none⟩ = some (.string (bs h.n))) (c1 : w.cell? ⟨H, 1, none⟩ = some (.string (bs h.v)))
 (hN : Hid ((Lk.fB L).length = N)) (hN2 : N <= 1000) (hR : Hid (Lk.low (Lk.aX h) (Lk.fB L) = R)) :
 Calls Tryz.prog 167 #[.pointer (some ⟨b, o, none⟩), .func (.func 169) #[] #[.pointer (some ⟨H, 0, none⟩)]] w fun e w' =>
  e = .returned (.tuple #[.int .i64 R, .bool (decide (R < N))]) ∧ Below w.heap.size w w' := by
 have h0 : 0 < w.heap.size := (uh hfx).1
 go_enter Tryz.func167, Tryz.ntmps167
 go_wp2_with fail
 go_loopw [6] (fun u wr => ∃ k : Nat, u = .int .i64 k ∧ k <= N ∧ Hid (∀ j, j < k -> ∃ x, (Lk.fB L)[j]? = some x ∧ Lk.aX h x = false) ∧ Below w.heap.size w wr) (fun u _ => N + 1 - (intOf u).toNat)
 case atStart => exact ⟨0, rfl, by omega, fun j hj => by omega, Below.refl _ _⟩
 case round =>
  obtain ⟨k, rfl, hk, HK, hbel⟩ := hrel
  have d2 : wr.cell? ⟨b, o + 2, none⟩ = some v := by rw [hbel.cell (p := ⟨b, o + 2, none⟩) hb]; exact hv
  have e0 : wr.cell? ⟨H, 0, none⟩ = some (.string (bs h.n)) := by rw [hbel.cell (p := ⟨H, 0, none⟩) hH]; exact c0
  have e1 : wr.cell? ⟨H, 1, none⟩ = some (.string (bs h.v)) := by rw [hbel.cell (p := ⟨H, 1, none⟩) hH]; exact c1
  have hsz := hbel.size
  go_wp2_with fail
  refine (ou b o k B0 L v _ (by omega) (by omega) ((uh hfx).below hbel h0) d2 (jO (uh own) hbel (by omega))).mono ?_
  rintro e w1 ⟨rfl, hb1⟩
  have iL := hbel.trans (hb1.mono (by omega))
  have e0 := aK hb1 (by omega) e0
  have e1 := aK hb1 (by omega) e1
  have hsz1 := iL.size
  clear hbel hb1 d2
  cases hx : (Lk.fB L)[k]? with
  | none =>
    have hkN : R = k ∧ ¬ R < N := by
     have : k = (Lk.fB L).length := by
      have h1 := List.getElem?_eq_none_iff.1 hx
      have h2 := uh hN
      omega
     have h3 := Lk.nK (Lk.aX h) (Lk.fB L) k (uh HK) (.inl this)
     rw [uh hR] at h3
     have h2 := uh hN
     omega
    simp only [Option.getD, Option.isSome]
    clear hx
    go_wp2_with fail
    go_ret2
    obtain ⟨rfl, hlt⟩ := hkN
    exact ⟨by simp [hlt], iL.alloc hsz1 _⟩
  | some x =>
    have hkN : k < N := by
     have h1 := (List.getElem?_eq_some_iff.1 hx).1
     have h2 := uh hN
     omega
    simp only [Option.getD, Option.isSome]
    have HX := hide hx
    clear hx
    generalize hq : Lk.aX h x = Q
    have HQ := hide hq
    clear hq
    have hH1 : H < w1.heap.size := by omega
    go_wp2_with fail
    refine (JH x h H _ (by simp; omega) (Go.Lib.cell?_alloc_some _ e0)).mono ?_
    rintro e w2 ⟨he, hb2⟩
    rw [uh HQ] at he
    subst he
    have lH := (iL.alloc hsz1 (.cells #[.string (bs x.n), .string (bs x.v)] 112)).trans (hb2.mono (by simp; omega))
    clear hb2 iL e0 e1
    cases Q
    . go_wp2_with fail
      go_roundw
      case rel =>
       refine ⟨k + 1, by simp, by omega, fun j hj => ?_, lH⟩
       rcases Nat.lt_succ_iff_lt_or_eq.1 hj with hj | rfl
       . exact uh HK j hj
       . exact ⟨x, uh HX, uh HQ⟩
      case measure => simp [intOf]; omega
    . go_wp2_with fail
      go_ret2
      have h3 := Lk.nK (Lk.aX h) (Lk.fB L) k (uh HK) (.inr ⟨x, uh HX, uh HQ⟩)
      rw [uh hR] at h3
      subst h3
      exact ⟨by simp [hkN], lH⟩
attribute [local go_sem ↓] Go.wp_at_zero Go.wp_at_succ
theorem JI (l : Lk.Bs) (w : World) (h : l.length <= 1000) : Calls Tryz.prog 70 #[.string (bs l)] w fun e w' => e = .returned (.string (bs l)) ∧ Below w.heap.size w w' :=
 clone_any (bs l) w (by rw [ax]; exact h)
def Kq (w0 : World) (H : Nat) (a b c d : Value) (W : World) : Prop :=
 W.cell? ⟨H, 0, none⟩ = some a ∧ W.cell? ⟨H, 1, none⟩ = some b ∧ W.cell? ⟨H + 1, 0, none⟩ = some c ∧ W.cell? ⟨H + 1, 1, none⟩ = some d ∧ W.frozen? ⟨H + 1, 0, none⟩ = false ∧ W.frozen? ⟨H + 1, 1, none⟩ = false ∧ H + 1 < W.heap.size ∧ Below w0.heap.size w0 W
theorem Kq.call {w0 W w' : World} {H : Nat} {a b c d : Value} (h : Kq w0 H a b c d W) (hb : Below W.heap.size W w') : Kq w0 H a b c d w' := by
 obtain ⟨h1, h2, h3, h4, h5, h6, h7, h8⟩ := h
 exact ⟨aK hb (by omega) h1, aK hb (by omega) h2, aK hb h7 h3, aK hb h7 h4, nO hb h7 h5, nO hb h7 h6, kW hb h7, h8.trans (hb.mono h8.size)⟩
theorem Kq.of {f : Nat} {args : Array Value} {w0 W : World} {H : Nat} {a b c d r : Value} (h : Kq w0 H a b c d W) (hc : Calls Tryz.prog f args W fun e w' => e = .returned r ∧ Below W.heap.size W w') :
 Calls Tryz.prog f args W fun e w' => e = .returned r ∧ w'.cell? ⟨H, 0, none⟩ = some a ∧ w'.cell? ⟨H, 1, none⟩ = some b ∧ w'.cell? ⟨H + 1, 0, none⟩ = some c ∧ w'.cell? ⟨H + 1, 1, none⟩ = some d ∧ w'.frozen? ⟨H + 1, 0, none⟩ = false ∧ w'.frozen? ⟨H + 1, 1, none⟩ = false ∧ H + 1 < w'.heap.size ∧ Below w0.heap.size w0 w' :=
 hc.mono fun _ _ ⟨he, hb⟩ => ⟨he, h.call hb⟩
theorem wO (h : Lk.Hd) (w : World) (hn : h.n.length <= 1000) (hv : h.v.length <= 1000) :
 Calls Tryz.prog 172 #[hdA h] w fun e w' => e = .returned (hdA h) ∧ Below w.heap.size w w' := by
 have k3 : Below w.heap.size w ((w.alloc (.cells #[.string (bs h.n), .string (bs h.v)] 112)).alloc (.cells #[.string ⟨#[]⟩, .string ⟨#[]⟩] 112)).drew := by ((repeat' (first | exact Below.refl _ _ | assumption | apply Below.drew | apply Below.alloc | apply Below.setCell)) <;> (simp <;> omega))
 go_enter Tryz.func172, Tryz.ntmps172
 go_wp2_with fail
 go_region_with (first
  | (go_at_call_of 70 (Value.string (bs h.n)); refine (Kq.of (w0 := w) (H := w.heap.size) (a := .string (bs h.n)) (b := .string (bs h.v)) (c := .string ⟨#[]⟩) (d := .string ⟨#[]⟩) ?_ (JI h.n _ (by omega))).mono ?_; (first | exact ⟨q0, q1, q2, q3, q4, q5, q6, q7⟩ | exact ⟨by simp, by simp, by simp, by simp, by simp, by simp, by simp, k3⟩); rintro e w' ⟨rfl, q0, q1, q2, q3, q4, q5, q6, q7⟩)
  | (go_at_call_of 70 (Value.string (bs h.v)); refine (Kq.of (w0 := w) (H := w.heap.size) (a := .string (bs h.n)) (b := .string (bs h.v)) (c := .string ⟨#[]⟩) (d := .string ⟨#[]⟩) ?_ (JI h.v _ (by omega))).mono ?_; (first | exact ⟨q0, q1, q2, q3, q4, q5, q6, q7⟩ | exact ⟨by simp, by simp, by simp, by simp, by simp, by simp, by simp, k3⟩); rintro e w' ⟨rfl, q0, q1, q2, q3, q4, q5, q6, q7⟩))
 all_goals
  go_wp2_with fail
  exact bodyPost_ret (v := hdA h) (by simp [results, Tryz.results172, go_sem, q2, q3]) rfl ⟨rfl, (q7.setCell (by simp) _).setCell (by simp) _⟩
theorem jL (B : Nat) (v : Value) (xs : List UInt8) (l : Lk.Bs) (w : World) (hB : B <= w.heap.size) (ho : w.ownsRow B 5 1 v xs.length (bytesV xs)) (hl : xs.length <= 900) (hll : l.length <= 100) :
 Calls Tryz.prog 170 #[v, .string (bs l)] w fun e w' => ∃ v', e = .returned v' ∧ w'.ownsRow B 5 1 v' (xs ++ Lk.text l).length (bytesV (xs ++ Lk.text l)) ∧ Below B w w' ∧ bZ 5 w w' := by
 have hsz := ax l
 obtain ⟨i, hi, hz0, hz1, hz2⟩ := info_parts BQ
 go_enter Tryz.func170, Tryz.ntmps170
 go_wp2_with fail
 refine (fP B v xs l.length (by omega) _ hB ho (by omega)).mono ?_
 rintro e w1 ⟨v1, rfl, ho1, hb1, hk1⟩
 have hs1 := hb1.size
 have hwl := Lk.au l.length (by omega)
 go_wp2_with (at_builtin; refine Lib.wpList_append_own_string _ rfl _ _ 78 9 rfl B 5 i Tryz.underlying78 Tryz.underlying9 hi hz0 hz1 hz2 _ _ _ rfl ho1 (bs l) rfl ?h63 ?hby ?hba ?_)
 case h63 => unfold maxLen; simp; omega
 case hby => simp; omega
 case hba => omega
 intro v4 w4 ho4 hg4 _
 go_wp2_with fail
 go_ret
 refine ⟨_, rfl, ?_, hb1.grown hg4 (by omega) (fun k hk => (ho1.lt k hk).1), hk1.grown hg4 ho1⟩
 rw [mJ, fJ] at ho4
 have e : xs ++ Lk.text l = (xs ++ Lk.wire l.length) ++ l := by simp [Lk.text]
 rw [e]
 simpa [bytesV, Nat.add_assoc] using ho4
attribute [local go_sem ↓] Go.wp_at_zero Go.wp_at_succ
def fZ (H : Nat) (v v' : Value) : Prop := v' = v ∨ ∀ k, v'.ownBlock = some k -> H <= k
theorem fZ.mono {H H' : Nat} {v v' : Value} (h : fZ H v v') (hH : H' <= H) : fZ H' v v' := h.imp id (fun h k hk => Nat.le_trans hH (h k hk))
theorem fZ.trans {H H' : Nat} {v v' v'' : Value} (h : fZ H v v') (k : fZ H' v' v'') (hH : H <= H') : fZ H v v'' := by
 rcases k with rfl | k
 . exact h
 . exact .inr (fun x hx => Nat.le_trans hH (k x hx))
structure Tab (w : World) (t B : Nat) (L : List Lk.Hd) (v : Value) : Prop where
 blk : Is w t 90 [aU, .int .i64 ((B : Int) - Lk.weights L), v]
 own : w.ownsRow 0 112 2 v L.length (aQ L)
 le : Lk.weights L <= B
 hB : B <= 200
def dV (t B : Nat) (w w' : World) : Prop := w'.os = w.os ∧ w'.tape = w.tape ∧ w'.output = w.output ∧ w.heap.size <= w'.heap.size ∧ ∀ i, i < B -> i ≠ t -> w'.heap[i]? = w.heap[i]?
theorem dV.refl (t B : Nat) (w : World) : dV t B w w := ⟨rfl, rfl, rfl, Nat.le_refl _, fun _ _ _ => rfl⟩
theorem dV.trans {t B : Nat} {a b c : World} (h : dV t B a b) (k : dV t B b c) : dV t B a c :=
 ⟨k.1.trans h.1, k.2.1.trans h.2.1, k.2.2.1.trans h.2.2.1, Nat.le_trans h.2.2.2.1 k.2.2.2.1, fun i hi hn => (k.2.2.2.2 i hi hn).trans (h.2.2.2.2 i hi hn)⟩
theorem dV.below {t B : Nat} {a b c : World} (h : dV t B a b) (k : Below B b c) : dV t B a c :=
 h.trans ⟨k.os, k.tape, k.output, k.size, fun i hi _ => k.block i hi⟩
theorem dV.turns {t B : Nat} {a b c : World} (h : dV t B a b) (k : Turns t b c) (hB : B <= b.heap.size) : dV t B a c :=
 h.trans ⟨k.os, k.tape, k.output, k.size, fun i hi hn => k.block i (by omega) (by simpa using hn)⟩
theorem dV.toTurns {t : Nat} {a b : World} (h : dV t a.heap.size a b) : Turns t a b :=
 ⟨h.1, h.2.1, h.2.2.1, h.2.2.2.1, fun i hi hn => h.2.2.2.2 i hi (by simpa using hn)⟩
theorem Fx.Rt {t B : Nat} {w w' : World} (h : Fx w) (k : dV t B w w') (hB : 0 < B) (ht : 0 ≠ t) : Fx w' :=
 ⟨Nat.lt_of_lt_of_le h.1 k.2.2.2.1, fun i x hx => by
  have e : ∀ j, w'.cell? ⟨0, j, none⟩ = w.cell? ⟨0, j, none⟩ := fun j => by simp only [World.cell?]; rw [k.2.2.2.2 0 hB ht]
  rw [e, e]; exact h.2 i x hx⟩
theorem Tab.below {w w' : World} {t B : Nat} {L : List Lk.Hd} {v : Value} (h : Tab w t B L v) (hb : Below w.heap.size w w') : Tab w' t B L v :=
 ⟨h.blk.below hb h.blk.lt, own_below h.own hb, h.le, h.hB⟩
theorem Tab.alloc {w : World} {t B : Nat} {L : List Lk.Hd} {v : Value} (h : Tab w t B L v) (o : Obj) : Tab (w.alloc o) t B L v :=
 ⟨h.blk.alloc o, h.own.alloc o, h.le, h.hB⟩
theorem Tab.keeps {w w' : World} {t B : Nat} {L : List Lk.Hd} {v : Value} (h : Tab w t B L v) (hk : bZ 5 w w') : Tab w' t B L v :=
 ⟨hk _ _ _ (nbq rfl) h.blk, hk.own (nbq rfl) h.own, h.le, h.hB⟩
theorem Tab.len {w : World} {t B : Nat} {L : List Lk.Hd} {v : Value} (h : Tab w t B L v) : (Lk.fB L).length <= 54 := by
 have := Lk.jc L
 have h1 := h.le
 have h2 := h.hB
 rw [Lk.nM]
 omega
theorem jy (B : Nat) (v : Value) (xs : List UInt8) (n : Nat) (z : Int) (hz : z = n) (h : n <= 268435455) (w : World) (hB : B <= w.heap.size) (ho : w.ownsRow B 5 1 v xs.length (bytesV xs)) (hl : xs.length <= 1000) :
 Calls Tryz.prog 72 #[v, .int .i64 z] w fun e w' => ∃ v', e = .returned v' ∧ w'.ownsRow B 5 1 v' (xs ++ Lk.wire n).length (bytesV (xs ++ Lk.wire n)) ∧ Below B w w' ∧ bZ 5 w w' := by
 subst hz
 exact fP B v xs n h w hB ho (by omega)
theorem Nh {w : World} {B : Nat} {e : TypeId} {size n : Nat} {v : Value} {xs : List Value} (h : w.ownsRow B e size v n xs) : w.drew.ownsRow B e size v n xs := h
theorem JJ (t B : Nat) (L : List Lk.Hd) (h : Lk.Hd) (v : Value) (w : World) (hT : Tab w t B L v) (hn : h.n.length <= 100) (hv : h.v.length <= 100) :
 Calls Tryz.prog 171 #[.pointer (some ⟨t, 0, none⟩), hdA h] w fun e w' => e = .returned (.tuple #[]) ∧ (∃ v', Tab w' t B (Lk.put B L h) v' ∧ fZ w.heap.size v v') ∧ Turns t w w' := by
 refine (put_any t 0 _ _ B 0 L h v _ w hT.blk (nbq rfl) rfl rfl rfl hT.own hT.hB rfl hT.le (by omega) hv).mono ?_
 rintro e w' ⟨rfl, ⟨v', ho, hI⟩, hTu⟩
 exact ⟨rfl, ⟨v', ⟨hI, own_base (Nat.zero_le _) ho, Lk.jd B L h, hT.hB⟩, .inr (fun k hk => (ho.lt k hk).1)⟩, hTu⟩
theorem EW {w w3 wx wy : World} {t B Bs : Nat} {L L' : List Lk.Hd} {v vy bv : Value} {ys : Lk.Bs} {h : Lk.Hd} (hT3 : Tab w3 t B L v) (ho3 : w3.ownsRow Bs 5 1 bv ys.length (bytesV ys)) (hI3 : Is w3 w.heap.size 112 [.string (bs h.n), .string (bs h.v)])
 (hU3 : dV t Bs w w3) (hbx : Below w3.heap.size w3 wx) (hTy : Tab wy t B L' vy) (hty : Turns t wx wy) (hs3 : Bs <= w3.heap.size) (hNy : fZ wx.heap.size v vy) :
 ∃ v', (Tab wy t B L' v' ∧ fZ w.heap.size v v') ∧ wy.ownsRow Bs 5 1 bv ys.length (bytesV ys) ∧ Is wy w.heap.size 112 [.string (bs h.n), .string (bs h.v)] ∧ dV t Bs w wy := by
 have hTx := hT3.below hbx
 have hox := own_below ho3 hbx
 have hIx := hI3.below hbx hI3.lt
 have hsx := hbx.size
 have hwx : w.heap.size <= wx.heap.size := by have := hU3.2.2.2.1; omega
 refine ⟨vy, ⟨hTy, hNy.mono hwx⟩, hox.kept hty (.inr (fun e => own_ne hox hTx.blk (nbq rfl) e.symm)), hIx.grown hty ?_, (hU3.below (hbx.mono hs3)).turns hty (by omega)⟩
 intro e
 exact hIx.ne hTx.blk (nbq rfl) (by simpa using e)
theorem uT (t B Bs : Nat) (L : List Lk.Hd) (h : Lk.Hd) (v bv : Value) (xs : Lk.Bs) (w : World) (hT : Tab w t B L v) (hfx : Fx w) (hBs : Bs <= w.heap.size)
 (ho : w.ownsRow Bs 5 1 bv xs.length (bytesV xs)) (hxs : xs.length <= 600) (hn : h.n.length <= 16) (hv : h.v.length <= 32) :
 Calls Tryz.prog 130 #[.pointer (some ⟨t, 0, none⟩), bv, hdA h] w fun e w' => ∃ v' bv', e = .returned bv' ∧ (Tab w' t B (Lk.lT B L h).2 v' ∧ fZ w.heap.size v v') ∧ w'.ownsRow Bs 5 1 bv' (xs ++ (Lk.lT B L h).1).length (bytesV (xs ++ (Lk.lT B L h).1)) ∧ dV t Bs w w' := by
 have hN := hT.len
 generalize hNe : (Lk.fB L).length = N at hN
 generalize Va : Lk.low (Lk.gy h) (Lk.fB L) = R1
 generalize Vb : Lk.low (Lk.aX h) (Lk.fB L) = R2
 have HT0 := hide (hT.alloc (.cells #[.string (bs h.n), .string (bs h.v)] 112))
 have HI0 := hide (Is.new w 112 [.string (bs h.n), .string (bs h.v)])
 have HO0 := hide (ho.alloc (.cells #[.string (bs h.n), .string (bs h.v)] 112))
 have HB0 := hide ((Below.refl w.heap.size w).alloc (Nat.le_refl _) (.cells #[.string (bs h.n), .string (bs h.v)] 112))
 have HN := hide hNe
 have HR1 := hide Va
 have HR2 := hide Vb
 have HFX := hide hfx
 have htl := hT.blk.lt
 clear hNe Va Vb hT ho hfx
 go_enter Tryz.func130, Tryz.ntmps130
 go_wp2_with fail
 refine (PU t 0 w.heap.size 0 L h v N R1 _ (by simp; omega) (by simp) (hide ((uh HFX).below (uh HB0) (by omega))) ((uh HT0).blk.cell 2) (hide (uh HT0).own) ((uh HI0).cell 0) ((uh HI0).cell 1) HN (by omega) HR1).mono ?_
 rintro e w1 ⟨rfl, hb1⟩
 have HT1 := hide ((uh HT0).below hb1)
 have HI1 := hide ((uh HI0).below hb1 (by simp))
 have HO1 := hide (own_below (uh HO0) hb1)
 have HB1 := hide ((uh HB0).trans (hb1.mono (by simp)))
 have hs1 : w.heap.size < w1.heap.size := (uh HI1).lt
 clear hb1 HT0 HI0 HO0 HB0
 by_cases hR1 : R1 < N
 . have hd : decide (R1 < N) = true := by simpa using hR1
   have hone : Lk.lT B L h = (Lk.wire (2 * R1), L) := by
    unfold Lk.lT; rw [uh HR1, uh HN, if_pos hR1]
   have PW := hide hone
   clear hone
   go_wp2_with fail
   refine (jy Bs bv xs (2 * R1) _ (by first | rfl | (simp; done) | omega) (by omega) w1 (by omega) (uh HO1) (by omega)).mono ?_
   rintro e w2 ⟨v2, rfl, ho2, hb2, hk2⟩
   go_wp2_with fail
   go_ret
   rw [uh PW]
   exact ⟨v, _, rfl, ⟨(uh HT1).keeps hk2, .inl rfl⟩, ho2, ((dV.refl t Bs w).below ((uh HB1).mono hBs)).below hb2⟩
 . have hd : decide (R1 < N) = false := by simpa using hR1
   go_wp2_with fail
   refine (PV t 0 w.heap.size 0 L h v N R2 _ (by omega) (by omega) (hide ((uh HFX).below (uh HB1) (by omega))) ((uh HT1).blk.cell 2) (hide (uh HT1).own) ((uh HI1).cell 0) ((uh HI1).cell 1) HN (by omega) HR2).mono ?_
   rintro e w2 ⟨rfl, hb2⟩
   have HT2 := hide ((uh HT1).below hb2)
   have HI2 := hide ((uh HI1).below hb2 hs1)
   have HO2 := hide (own_below (uh HO1) hb2)
   have HB2 := hide ((uh HB1).trans (hb2.mono (by omega)))
   have hs2 : w.heap.size < w2.heap.size := (uh HI2).lt
   clear hb2 HT1 HI1 HO1 HB1
   by_cases hR2 : R2 < N
   . have hd2 : decide (R2 < N) = true := by simpa using hR2
     have PW := hide (show Lk.lT B L h = (Lk.wire (2 * (R2 + 1) + 1) ++ Lk.text h.v, Lk.put B L h) by
      unfold Lk.lT; rw [uh HR1, uh HR2, uh HN, if_neg hR1, if_pos hR2])
     go_wp2_with fail
     refine (jy Bs bv xs (2 * (R2 + 1) + 1) _ (by first | rfl | (simp; done) | omega) (by omega) w2 (by omega) (uh HO2) (by omega)).mono ?_
     rintro e w3 ⟨v3, rfl, ho3, hb3, hk3⟩
     have hT3 := (uh HT2).keeps hk3
     have hI3 := hk3 _ _ _ (nbq rfl) (uh HI2)
     have hU3 := ((dV.refl t Bs w).below ((uh HB2).mono hBs)).below hb3
     have hw4 := Lk.au (2 * (R2 + 1) + 1) (by omega)
     generalize hys : xs ++ Lk.wire (2 * (R2 + 1) + 1) = ys at ho3
     have hyl : ys.length <= 700 := by rw [<- hys]; simp; omega
     have HE := hide (show xs ++ (Lk.lT B L h).1 = ys ++ Lk.text h.v by rw [uh PW, <- hys]; simp)
     have HE2 := hide (show (Lk.lT B L h).2 = Lk.put B L h by rw [uh PW])
     have c0 := hI3.cell 0
     have c1 := hI3.cell 1
     simp only [List.getElem?_cons_zero, List.getElem?_cons_succ] at c0 c1
     have hs3 : Bs <= w3.heap.size := by have := hU3.2.2.2.1; omega
     clear hys hb3 hk3 HT2 HI2 HO2 HB2
     go_wp2_with fail
     go_cut [] (fun wc => ∃ v', (Tab wc t B (Lk.put B L h) v' ∧ fZ w.heap.size v v') ∧ wc.ownsRow Bs 5 1 v3 ys.length (bytesV ys) ∧ Is wc w.heap.size 112 [.string (bs h.n), .string (bs h.v)] ∧ dV t Bs w wc)
     case first =>
      go_region_with (first
       | (go_at_call 172; refine (wO h _ (by omega) (by omega)).mono ?_; rintro e wx ⟨rfl, hbx⟩)
       | (go_at_call 171; refine (JJ t B L h v _ (hT3.below ⟨hbx.os, hbx.tape, hbx.output, hbx.size, hbx.block⟩) (by omega) (by omega)).mono ?_; rintro e wy ⟨rfl, ⟨vy, hTy, hNy⟩, hty⟩))
      all_goals
       go_wp2_with fail
       go_meet
       exact EW hT3 ho3 hI3 hU3 ⟨hbx.os, hbx.tape, hbx.output, hbx.size, hbx.block⟩ hTy hty hs3 (hNy.mono (by simp))
     case rest =>
      obtain ⟨v', ⟨hT4, hN4⟩, ho4, hI4, hU4⟩ := hcut
      have c1 := hI4.cell 1
      simp only [List.getElem?_cons_zero, List.getElem?_cons_succ] at c1
      have hs4 := hU4.2.2.2.1
      go_wp2_with fail
      refine (jL Bs _ ys h.v _ (by omega) ho4 (by omega) (by omega)).mono ?_
      rintro e w5 ⟨v5, rfl, ho5, hb5, hk5⟩
      go_wp2_with fail
      go_ret
      rw [uh HE, uh HE2]
      exact ⟨v', _, rfl, ⟨hT4.keeps hk5, hN4⟩, ho5, hU4.below hb5⟩
   . have hd2 : decide (R2 < N) = false := by simpa using hR2
     have PW := hide (show Lk.lT B L h = (Lk.wire 1 ++ Lk.text h.n ++ Lk.text h.v, Lk.put B L h) by
      unfold Lk.lT; rw [uh HR1, uh HR2, uh HN, if_neg hR1, if_neg hR2])
     have c0 := (uh HI2).cell 0
     simp only [List.getElem?_cons_zero] at c0
     go_wp2_with fail
     go_cut [1] (fun u wc => ∃ ys : Lk.Bs, ys = xs ++ (Lk.wire 1 ++ Lk.text h.n) ∧ wc.ownsRow Bs 5 1 u ys.length (bytesV ys) ∧ Tab wc t B L v ∧ Is wc w.heap.size 112 [.string (bs h.n), .string (bs h.v)] ∧ dV t Bs w wc)
     case first =>
      have hw1 := Lk.au 1 (by omega)
      have WE : Bs <= w2.heap.size := by omega
      go_region_with (first
       | (go_at_call 72; refine (jy Bs bv xs 1 1 rfl (by omega) _ (show Bs <= w2.drew.heap.size from WE) (Nh (uh HO2)) (by omega)).mono ?_; rintro e wx ⟨vx, rfl, hox, hbx, hkx⟩; have gx : wx.cell? ⟨w.heap.size, 0, none⟩ = some (.string (bs h.n)) := (hkx _ _ _ (nbq rfl) (uh HI2).drew).cell 0)
       | (go_at_call 170; refine (jL Bs vx (xs ++ Lk.wire 1) h.n _ (by have := hbx.size; simp at this; omega) hox (by simp; omega) (by omega)).mono ?_; rintro e wy ⟨vy, rfl, hoy, hby, hky⟩))
      all_goals
       go_wp2_with fail
       go_meet
       have hk2 : bZ 5 w2 wy := bZ.trans (fun i T cs hT hI => hkx i T cs hT hI.drew) hky
       refine ⟨_, rfl, by simpa using hoy, (uh HT2).keeps hk2, hk2 _ _ _ (nbq rfl) (uh HI2), ?_⟩
       exact (((dV.refl t Bs w).below ((uh HB2).mono hBs)).below ⟨hbx.os, hbx.tape, hbx.output, hbx.size, hbx.block⟩).below hby
     case rest =>
     obtain ⟨ys, hys, ho3, hT3, hI3, hU3⟩ := hcut
     have hw4 := Lk.au 1 (by omega)
     have hw5 := Lk.au h.n.length (by omega)
     have hyl : ys.length <= 700 := by rw [hys]; simp [Lk.text]; omega
     have HE := hide (show xs ++ (Lk.lT B L h).1 = ys ++ Lk.text h.v by rw [uh PW, hys]; simp)
     have HE2 := hide (show (Lk.lT B L h).2 = Lk.put B L h by rw [uh PW])
     have c0 := hI3.cell 0
     have c1 := hI3.cell 1
     simp only [List.getElem?_cons_zero, List.getElem?_cons_succ] at c0 c1
     have hs3 : Bs <= wc.heap.size := by have := hU3.2.2.2.1; omega
     clear hys HT2 HI2 HO2 HB2
     go_wp2_with fail
     go_cut [] (fun wc => ∃ v', (Tab wc t B (Lk.put B L h) v' ∧ fZ w.heap.size v v') ∧ wc.ownsRow Bs 5 1 u1 ys.length (bytesV ys) ∧ Is wc w.heap.size 112 [.string (bs h.n), .string (bs h.v)] ∧ dV t Bs w wc)
     case first =>
      go_region_with (first
       | (go_at_call 172; refine (wO h _ (by omega) (by omega)).mono ?_; rintro e wx ⟨rfl, hbx⟩)
       | (go_at_call 171; refine (JJ t B L h v _ (hT3.below ⟨hbx.os, hbx.tape, hbx.output, hbx.size, hbx.block⟩) (by omega) (by omega)).mono ?_; rintro e wy ⟨rfl, ⟨vy, hTy, hNy⟩, hty⟩))
      all_goals
       go_wp2_with fail
       go_meet
       exact EW hT3 ho3 hI3 hU3 ⟨hbx.os, hbx.tape, hbx.output, hbx.size, hbx.block⟩ hTy hty hs3 (hNy.mono (by simp))
     case rest =>
      obtain ⟨v', ⟨hT4, hN4⟩, ho4, hI4, hU4⟩ := hcut
      have c1 := hI4.cell 1
      simp only [List.getElem?_cons_zero, List.getElem?_cons_succ] at c1
      have hs4 := hU4.2.2.2.1
      go_wp2_with fail
      refine (jL Bs _ ys h.v _ (by omega) ho4 (by omega) (by omega)).mono ?_
      rintro e w5 ⟨v5, rfl, ho5, hb5, hk5⟩
      go_wp2_with fail
      go_ret
      rw [uh HE, uh HE2]
      exact ⟨v', _, rfl, ⟨hT4.keeps hk5, hN4⟩, ho5, hU4.below hb5⟩
namespace Lk
theorem yw {h : Hd} (hg : good h = true) : h.n.length <= 16 ∧ h.v.length <= 32 := by
 simp only [good, fits, jM, Bool.and_eq_true, if_true, decide_eq_true_eq] at hg
 obtain ⟨⟨h1, _⟩, h2, _⟩ := hg
 simp at h2
 omega
theorem EX (B : Nat) (L : List Hd) (h : Hd) (hL : (fB L).length <= 54) (hn : h.n.length <= 16) (hv : h.v.length <= 32) : (lT B L h).1.length <= 60 := by
 have h1 := Oi (gy h) (fB L)
 have h2 := Oi (aX h) (fB L)
 have w1 := au (2 * low (gy h) (fB L)) (by omega)
 have w2 := au (2 * (low (aX h) (fB L) + 1) + 1) (by omega)
 have w3 := au 1 (by omega)
 have w4 := au h.n.length (by omega)
 have w5 := au h.v.length (by omega)
 unfold lT text
 split
 . simp only; omega
 . split <;> simp only [List.length_append] <;> omega
theorem kF (B : Nat) (hB : B <= 200) : ∀ (hs L : List Hd), weights L <= B -> (∀ h ∈ hs, good h = true) -> (squeeze B L hs).1.length <= 60 * hs.length
 | [], L, _, _ => by simp [squeeze]
 | x :: hs, L, hL, hg => by
   have hlen := jc L
   have hb := yw (hg x (by simp))
   have h1 := EX B L x (by rw [nM]; omega) hb.1 hb.2
   have h2 := kF B hB hs (lT B L x).2 (pY B L x hL) (fun y hy => hg y (by simp [hy]))
   simp only [squeeze, List.length_append, List.length_cons]
   omega
end Lk
theorem take_snoc {l : List Lk.Hd} {k : Nat} {x : Lk.Hd} (hx : l[k]? = some x) : l.take k ++ [x] = l.take (k + 1) := by
 rw [List.take_add_one, hx]; rfl
theorem EY (w : World) : (convert 78 9 (.slice none 0 0)).run Tryz.prog w = .ok (.string ⟨#[]⟩) w := by
 rw [run_convert_bytes_nil w 78 5 Tryz.underlying78 Tryz.underlying5 0 0 9 Tryz.underlying9]; rfl
theorem iP {w w' : World} {t B n : Nat} {v : Value} {xs cs : List Value} {T : TypeId} (h : w.ownsRow B 112 2 v n xs) (hI : Is w t T cs) (hT : T ≠ 112) (hb : Turns t w w') : w'.ownsRow B 112 2 v n xs :=
 h.kept hb (.inr (fun e => own_ne h hI hT e.symm))
theorem qA (t cap : Nat) (ad : Option Addr) (w : World) :
 Calls Tryz.prog 82 #[.pointer (some ⟨t, 0, none⟩), .slice ad 0 cap] w fun e w' => e = .returned (.string ⟨#[]⟩) ∧ Below w.heap.size w w' := by
 have hcv := EY w
 go_enter Tryz.func82, Tryz.ntmps82
 go_wp2_with fail
 refine wp_loop_rounds 1 ?_
 rw [rounds_succ]
 go_wp2_with fail
 go_ret
 exact ⟨rfl, Below.refl _ _⟩
theorem Ai (t B g cap B1 : Nat) (L l : List Lk.Hd) (v : Value) (w : World) (hT : Tab w t B L v) (hfx : Fx w) (ht0 : t ≠ 0) (hl : l.length <= 6) (hl0 : 0 < l.length) (hgood : ∀ h ∈ l, Lk.good h = true)
 (own : w.ownsRow B1 112 2 (.slice (some ⟨g, 0, none⟩) l.length cap) l.length (aQ l)) :
 Calls Tryz.prog 82 #[.pointer (some ⟨t, 0, none⟩), .slice (some ⟨g, 0, none⟩) l.length cap] w fun e w' =>
  e = .returned (.string (bs (Lk.squeeze B L l).1)) ∧ (∃ v', Tab w' t B (Lk.squeeze B L l).2 v' ∧ fZ w.heap.size v v') ∧ Turns t w w' := by
 have h0 := hfx.1
 have HT := hide hT
 have HFX := hide hfx
 have HG := hide hgood
 have HO := hide own
 clear hT hfx hgood own
 generalize hS : bs (Lk.squeeze B L l).1 = S
 have HS := hide hS
 clear hS
 go_enter Tryz.func82, Tryz.ntmps82
 go_wp2_with fail
 go_loopw [5, 10] (fun u5 u wr => ∃ (k : Nat) (v' : Value), u = .int .i64 k ∧ k <= l.length ∧ (Tab wr t B (Lk.squeeze B L (l.take k)).2 v' ∧ fZ w.heap.size v v') ∧ Hid (wr.ownsRow w.heap.size 5 1 u5 (Lk.squeeze B L (l.take k)).1.length (bytesV (Lk.squeeze B L (l.take k)).1)) ∧ dV t w.heap.size w wr) (fun _ u _ => l.length - (intOf u).toNat)
 case atStart => exact ⟨0, v, rfl, by omega, ⟨uh HT, .inl rfl⟩, World.ownsRow_nil _ _ _ _, dV.refl _ _ _⟩
 case round =>
  obtain ⟨k, v', rfl, hk, ⟨hTk, hNk⟩, HOk, hU⟩ := hrel
  by_cases hlt : k < l.length
  . have hlt' : (k : Int) < l.length := by omega
    obtain ⟨x, hx⟩ : ∃ x, l[k]? = some x := ⟨_, List.getElem?_eq_getElem hlt⟩
    obtain ⟨hg2, x0, x1⟩ := jJ (iP (uh HO) (uh HT).blk (nbq rfl) hU.toTurns) hx
    have hxg := Lk.yw ((uh HG) x (List.mem_of_getElem? hx))
    have hsz := hU.2.2.2.1
    have hsl := Lk.kF B hTk.hB (l.take k) L (uh HT).le (fun y hy => (uh HG) y (List.mem_of_mem_take hy))
    rw [List.length_take] at hsl
    have HX := hide hx
    have HTk := hide hTk
    have HU := hide hU
    clear hx hTk hU
    go_wp2_with fail
    refine (uT t B w.heap.size (Lk.squeeze B L (l.take k)).2 x v' u5 (Lk.squeeze B L (l.take k)).1 _ ((uh HTk).alloc _) (((uh HFX).Rt (uh HU) h0 (Ne.symm ht0)).below ((Below.refl _ _).alloc (Nat.le_refl _) _) (by omega)) (by simp; omega) ((uh HOk).alloc _) (by omega) hxg.1 hxg.2).mono ?_
    rintro e w2 ⟨v2, bv2, rfl, ⟨hT2, hN2⟩, ho2, hU2⟩
    have hN3 := hNk.trans hN2 (by simp; omega)
    clear hN2
    have e := Lk.kV B (l.take k) L x
    rw [take_snoc (uh HX)] at e
    have e1 := congrArg Prod.fst e
    have e2 := congrArg Prod.snd e
    simp only at e1 e2
    rw [<- e2] at hT2
    rw [<- e1] at ho2
    have hU3 := ((uh HU).below ((Below.refl w.heap.size wr).alloc (by omega) _)).trans hU2
    have HO2 := hide ho2
    clear e e1 e2 ho2 hU2 x0 x1
    go_wp2_with fail
    go_roundw
    case rel => exact ⟨k + 1, v2, by simp, by omega, ⟨hT2, hN3⟩, HO2, hU3⟩
    case measure => simp [intOf]; omega
  . have hlt' : ¬ (k : Int) < l.length := by omega
    have hkl : k = l.length := by omega
    rw [hkl, List.take_length] at hTk HOk
    have hcv := jE (uh HOk) (by
     rcases Nat.eq_zero_or_pos (Lk.squeeze B L l).1.length with h | h
     . have := (Lk.BH B l L).1 (List.eq_nil_of_length_eq_zero h)
       rw [this] at hl0
       simp at hl0
     . exact h)
    rw [show (⟨(Lk.squeeze B L l).1.toArray⟩ : ByteArray) = S from uh HS] at hcv
    have HTk := hide hTk
    have HU := hide hU
    clear hTk hU
    go_wp2_with fail
    go_ret
    exact ⟨rfl, ⟨v', uh HTk, hNk⟩, (uh HU).toTurns⟩
open Go.RowKit
theorem Aj (n : Int) (w : World) : Calls Tryz.prog 125 #[.int .i64 n, aU] w fun e w' => e = .returned (.agg #[aU, .int .i64 n, .slice none 0 0]) ∧ Below w.heap.size w w' := by
 go_enter Tryz.func125, Tryz.ntmps125
 go_wp2_with fail
 exact bodyPost_ret (v := .agg #[aU, .int .i64 n, .slice none 0 0]) (by simp [results, Tryz.results125, go_sem]) rfl ⟨rfl, by ((repeat' (first | exact Below.refl _ _ | assumption | apply Below.drew | apply Below.alloc | apply Below.setCell)) <;> (simp <;> omega))⟩
theorem lI (n : Int) (w : World) : Calls Tryz.prog 78 #[.int .i64 n] w fun e w' => e = .returned (.agg #[aU, .int .i64 n, .slice none 0 0]) ∧ Below w.heap.size w w' := by
 have HX := hide (Is.new w 90 [.nilFunc, .int .i64 0, .slice none 0 0])
 have HB := hide ((Below.refl w.heap.size w).alloc (Nat.le_refl _) (.cells #[.nilFunc, .int .i64 0, .slice none 0 0] 90))
 go_enter Tryz.func78, Tryz.ntmps78
 go_wp2_with fail
 refine (Aj _ _).mono ?_
 rintro e w1 ⟨rfl, hb⟩
 have hX1 := (uh HX).below hb (by simp)
 have hbel := (uh HB).trans (hb.mono (by simp))
 have n0 := hX1.cell 0
 have n1 := hX1.cell 1
 have n2 := hX1.cell 2
 have g0 := hX1.free 0
 have g1 := hX1.free 1
 have g2 := hX1.free 2
 have hl := hX1.lt
 simp only [List.getElem?_cons_zero, List.getElem?_cons_succ] at n0 n1 n2
 clear hb hX1
 go_wp2_with fail
 exact bodyPost_ret (v := .agg #[aU, .int .i64 n, .slice none 0 0]) (by simp [results, Tryz.results78, go_sem, n0, n1, n2]) rfl ⟨rfl, ((hbel.setCell (by simp) _).setCell (by simp) _).setCell (by simp) _⟩
theorem tV (B : Nat) (hB : B <= 200) (w : World) :
 Calls Tryz.prog 52 #[.int .i64 B] w fun e w' => ∃ t, e = .returned (.tuple #[.pointer (some ⟨t, 0, none⟩), .int .i64 0]) ∧ w.heap.size <= t ∧ Tab w' t B [] (.slice none 0 0) ∧ Below w.heap.size w w' := by
 have h1 : ¬ (B : Int) < 0 := by omega
 have h2 : ¬ 200 < (B : Int) := by omega
 go_enter Tryz.func52, Tryz.ntmps52
 go_wp2_with fail
 refine (lI _ _).mono ?_
 rintro e w1 ⟨rfl, hb⟩
 have hs := hb.size
 go_wp2_with fail
 go_ret2
 exact ⟨_, rfl, hs, ⟨by simpa [Lk.weights] using Is.new w1 90 [aU, .int .i64 B, .slice none 0 0], World.ownsRow_nil _ _ _ _, by simp [Lk.weights], hB⟩, hb.alloc hs _⟩
theorem Ak (n : Int) (hn : n < 0 ∨ 200 < n) (w : World) :
 Calls Tryz.prog 52 #[.int .i64 n] w fun e w' => e = .returned (.tuple #[.pointer none, .int .i64 1]) ∧ Below w.heap.size w w' := by
 by_cases h1 : n < 0
 . go_enter Tryz.func52, Tryz.ntmps52
   go_wp2_with fail
   go_ret2
   exact ⟨rfl, Below.refl _ _⟩
 . have h2 : 200 < n := by omega
   go_enter Tryz.func52, Tryz.ntmps52
   go_wp2_with fail
   go_ret2
   exact ⟨rfl, Below.refl _ _⟩
theorem C9 (t B : Nat) (L : List Lk.Hd) (v : Value) (w : World) (hT : Tab w t B L v) :
 Calls Tryz.prog 100 #[.pointer (some ⟨t, 0, none⟩)] w fun e w' => ∃ v', e = .returned v' ∧ w'.ownsRow w.heap.size 112 2 v' L.length (aQ L) ∧ Below w.heap.size w w' := by
 have hlen := Lk.jc L
 have h1 := hT.le
 have h2 := hT.hB
 have c2 := hT.blk.cell 2
 simp only [List.getElem?_cons_zero, List.getElem?_cons_succ] at c2
 have HO := hide hT.own
 clear hT
 go_enter Tryz.func100, Tryz.ntmps100
 go_wp2_with fail
 refine (IX 0 v L _ (by omega) (uh HO)).mono ?_
 rintro e w1 ⟨v', rfl, ho, hb⟩
 go_wp2_with fail
 go_ret
 exact ⟨_, rfl, ho, hb⟩
theorem tX (t B1 : Nat) (l : List Lk.Hd) (lv : Value) (w : World) (hw : (Lk.wrong l).1 ≠ 0) (own : w.ownsRow B1 112 2 lv l.length (aQ l)) :
 Calls Tryz.prog 59 #[.pointer (some ⟨t, 0, none⟩), lv] w fun e w' =>
  e = .returned (.tuple #[.string ⟨#[]⟩, .int .i64 (Lk.wrong l).1, .int .i64 (Lk.wrong l).2]) ∧ Below w.heap.size w w' := by
 have HO := hide own
 clear own
 generalize hE1 : (Lk.wrong l).1 = E at hw ⊢
 have hE : ((E : Int) != 0) = true := by rw [bne_iff_ne]; omega
 have HE := hide hE1
 clear hE1
 go_enter Tryz.func59, Tryz.ntmps59
 go_wp2_with fail
 refine (iJ B1 lv l _ (uh HO)).mono ?_
 rintro e w1 ⟨he, hb⟩
 rw [uh HE] at he
 subst he
 go_wp2_with fail
 go_ret3
 exact ⟨rfl, hb⟩
theorem kG (t B B1 : Nat) (L l : List Lk.Hd) (v lv : Value) (w : World) (hT : Tab w t B L v) (hfx : Fx w) (ht0 : t ≠ 0) (hw : (Lk.wrong l).1 = 0) (own : w.ownsRow B1 112 2 lv l.length (aQ l)) :
 Calls Tryz.prog 82 #[.pointer (some ⟨t, 0, none⟩), lv] w fun e w' => e = .returned (.string (bs (Lk.squeeze B L l).1)) ∧ (∃ v', Tab w' t B (Lk.squeeze B L l).2 v' ∧ fZ w.heap.size v v') ∧ Turns t w w' := by
 have hlg := Lk.xy hw
 rcases eP own with ⟨rfl, rfl⟩ | ⟨g, cap, rfl, _, hg, hcap, _⟩
 . refine (qA t 0 none w).mono ?_
   rintro e w2 ⟨rfl, hb2⟩
   exact ⟨rfl, ⟨v, hT.below hb2, .inl rfl⟩, Below.turns hb2 t⟩
 . by_cases hl0 : 0 < l.length
   . exact Ai t B g cap B1 L l v w hT hfx ht0 hlg.1 hl0 hlg.2 own
   . have : l = [] := List.eq_nil_of_length_eq_zero (by omega)
     subst this
     refine (qA t cap _ w).mono ?_
     rintro e w2 ⟨rfl, hb2⟩
     exact ⟨rfl, ⟨v, hT.below hb2, .inl rfl⟩, Below.turns hb2 t⟩
end Go.Proofs.YtbkpdapagfjmmaaGreatDoor
