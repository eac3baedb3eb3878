import Derived.Test.YtbkpdapagfjmmaaGreatDoorA19
import Derived.Deep.RegionHeld3
import Derived.Deep.DrawnRows
set_option linter.unusedVariables false
set_option maxRecDepth 100000
set_option maxHeartbeats 16000000
namespace Go.Proofs.YtbkpdapagfjmmaaGreatDoor
open Go.RowKit
attribute [local go_sem ↓] Go.wp_at_zero Go.wp_at_succ
theorem fJ (l : Lk.Bs) : (bs l).data.toList = l := by simp [bs]
theorem GH (s : ByteArray) : bs s.data.toList = s := by simp [bs]
theorem nG (l : Lk.Bs) (Q : Bool) (hq : Hid (Lk.fits true l = Q)) (w : World) :
 Calls Tryz.prog 80 #[jY, .string (bs l)] w fun e w' => e = .returned (.bool Q) ∧ Below w.heap.size w w' := by
 have := Ag (bs l) w
 rw [fJ, uh hq] at this
 exact this
theorem qy (l : Lk.Bs) (Q : Bool) (hq : Hid (Lk.fits false l = Q)) (w : World) :
 Calls Tryz.prog 80 #[valueR, .string (bs l)] w fun e w' => e = .returned (.bool Q) ∧ Below w.heap.size w w' := by
 have := yu (bs l) w
 rw [fJ, uh hq] at this
 exact this
theorem Ah (w : World) (x y : Value) (T : TypeId) : (w.alloc (.cells #[x, y] T)).cell? ⟨w.heap.size, 0, none⟩ = some x ∧ (w.alloc (.cells #[x, y] T)).cell? ⟨w.heap.size, 1, none⟩ = some y :=
 ⟨(Is.new w T [x, y]).cell 0, (Is.new w T [x, y]).cell 1⟩
def Kp (w0 : World) (H : Nat) (a b : Value) (W : World) : Prop := W.cell? ⟨H, 0, none⟩ = some a ∧ W.cell? ⟨H, 1, none⟩ = some b ∧ H < W.heap.size ∧ Below w0.heap.size w0 W
theorem Kp.call {w0 W w' : World} {H : Nat} {a b : Value} (h : Kp w0 H a b W) (hb : Below W.heap.size W w') : Kp w0 H a b w' :=
 ⟨aK hb h.2.2.1 h.1, aK hb h.2.2.1 h.2.1, kW hb h.2.2.1, h.2.2.2.trans (hb.mono h.2.2.2.size)⟩
theorem Kp.of {f : Nat} {args : Array Value} {w0 W : World} {H : Nat} {a b r : Value} (h : Kp w0 H a b W) (hc : Calls Tryz.prog f args W fun e w' => e = .returned r ∧ Below W.heap.size W w') :
 Calls Tryz.prog f args W fun e w' => e = .returned r ∧ w'.cell? ⟨H, 0, none⟩ = some a ∧ w'.cell? ⟨H, 1, none⟩ = some b ∧ H < w'.heap.size ∧ Below w0.heap.size w0 w' :=
 hc.mono fun _ _ ⟨he, hb⟩ => ⟨he, h.call hb⟩
theorem tJ (B g cap : Nat) (l : List Lk.Hd) (w : World) (hl : l.length <= 6) (E P : Int) (HW : Hid ((Lk.di 0 l).1 = E ∧ (Lk.di 0 l).2 = P))
 (own : Hid (w.ownsRow B 112 2 (.slice (some ⟨g, 0, none⟩) l.length cap) l.length (aQ l))) :
 Calls Tryz.prog 43 #[.slice (some ⟨g, 0, none⟩) l.length cap] w fun e w' =>
  e = .returned (.tuple #[.int .i64 E, .int .i64 P]) ∧ Below w.heap.size w w' := by
 have hl6 : ¬ 6 < (l.length : Int) := by omega
 go_enter Tryz.func43, Tryz.ntmps43
 go_wp2_with fail
 go_loopw [11] (fun u wr => ∃ k : Nat, u = .int .i64 k ∧ k <= l.length ∧ Hid (Lk.di 0 l = Lk.di k (l.drop k)) ∧ Below w.heap.size w wr) (fun u _ => l.length - (intOf u).toNat)
 case atStart => exact ⟨0, rfl, by omega, rfl, Below.refl _ _⟩
 case round =>
  obtain ⟨k, rfl, hk, HK, hbel⟩ := hrel
  by_cases hlt : k < l.length
  . have hlt' : (k : Int) < l.length := by omega
    obtain ⟨x, hx⟩ : ∃ x, l[k]? = some x := ⟨_, List.getElem?_eq_getElem hlt⟩
    obtain ⟨hg2, x0, x1⟩ := jJ (jO (uh own) hbel (by omega)) hx
    have HX := hide hx
    have hwr := hbel.size
    have HB := hide hbel
    clear hx hbel
    go_wp2_with fail
    generalize hq1 : Lk.fits true x.n = Q1
    generalize hq2 : Lk.fits false x.v = Q2
    have HQ1 := hide hq1
    have HQ2 := hide hq2
    clear hq1 hq2
    have k0 := (Ah wr (.string (bs x.n)) (.string (bs x.v)) 112).1
    have k1 := (Ah wr (.string (bs x.n)) (.string (bs x.v)) 112).2
    have k3 : Below w.heap.size w (wr.alloc (.cells #[.string (bs x.n), .string (bs x.v)] 112)).drew := ((uh HB).alloc hwr _).drew
    go_cut [27] (fun u wc => u = .bool (!(Q1 && Q2)) ∧ Below w.heap.size w wc)
    case first =>
     cases Q1
     . first | (go_region_with (first
        | (go_at_call 79; refine (Kp.of (w0 := w) (H := wr.heap.size) (a := .string (bs x.n)) (b := .string (bs x.v)) ?_ (jG _)).mono ?_; (first | exact ⟨q0, q1, q2, q3⟩ | exact ⟨by simp, by simp, by simp, k3⟩); rintro e w' ⟨rfl, q0, q1, q2, q3⟩)
        | (go_at_call_of 80 (Value.string (bs x.n)); refine (Kp.of (w0 := w) (H := wr.heap.size) (a := .string (bs x.n)) (b := .string (bs x.v)) ?_ (nG _ _ HQ1 _)).mono ?_; (first | exact ⟨q0, q1, q2, q3⟩ | exact ⟨by simp, by simp, by simp, k3⟩); rintro e w' ⟨rfl, q0, q1, q2, q3⟩))) | fail
       all_goals
        go_wp2_with fail
        go_meet
        exact ⟨rfl, by assumption⟩
     . cases Q2
       . first | (go_region_held3 (fun w' => w'.cell? ⟨wr.heap.size, 0, none⟩ = some (.string (bs x.n)) ∧ w'.cell? ⟨wr.heap.size, 1, none⟩ = some (.string (bs x.v)) ∧ wr.heap.size < w'.heap.size ∧ Below w.heap.size w w') (go_keep) (first
          | (go_at_call 79; refine (Kp.of (w0 := w) (H := wr.heap.size) (a := .string (bs x.n)) (b := .string (bs x.v)) ?_ (jG _)).mono ?_; (first | exact ⟨q0, q1, q2, q3⟩ | exact ⟨by simp, by simp, by simp, k3⟩); rintro e w' ⟨rfl, q0, q1, q2, q3⟩)
          | (go_at_call_of 80 (Value.string (bs x.n)); refine (Kp.of (w0 := w) (H := wr.heap.size) (a := .string (bs x.n)) (b := .string (bs x.v)) ?_ (nG _ _ HQ1 _)).mono ?_; (first | exact ⟨q0, q1, q2, q3⟩ | exact ⟨by simp, by simp, by simp, k3⟩); rintro e w' ⟨rfl, q0, q1, q2, q3⟩)
          | (go_at_call 81; refine (Kp.of (w0 := w) (H := wr.heap.size) (a := .string (bs x.n)) (b := .string (bs x.v)) ?_ (kE _)).mono ?_; (first | exact ⟨q0, q1, q2, q3⟩ | exact ⟨by simp, by simp, by simp, k3⟩); rintro e w' ⟨rfl, q0, q1, q2, q3⟩)
          | (go_at_call_of 80 (Value.string (bs x.v)); refine (Kp.of (w0 := w) (H := wr.heap.size) (a := .string (bs x.n)) (b := .string (bs x.v)) ?_ (qy _ _ HQ2 _)).mono ?_; (first | exact ⟨q0, q1, q2, q3⟩ | exact ⟨by simp, by simp, by simp, k3⟩); rintro e w' ⟨rfl, q0, q1, q2, q3⟩))) | fail
         all_goals
          go_wp2_with fail
          go_meet
          exact ⟨rfl, by assumption⟩
       . first | (go_region_held3 (fun w' => w'.cell? ⟨wr.heap.size, 0, none⟩ = some (.string (bs x.n)) ∧ w'.cell? ⟨wr.heap.size, 1, none⟩ = some (.string (bs x.v)) ∧ wr.heap.size < w'.heap.size ∧ Below w.heap.size w w') (go_keep) (first
          | (go_at_call 79; refine (Kp.of (w0 := w) (H := wr.heap.size) (a := .string (bs x.n)) (b := .string (bs x.v)) ?_ (jG _)).mono ?_; (first | exact ⟨q0, q1, q2, q3⟩ | exact ⟨by simp, by simp, by simp, k3⟩); rintro e w' ⟨rfl, q0, q1, q2, q3⟩)
          | (go_at_call_of 80 (Value.string (bs x.n)); refine (Kp.of (w0 := w) (H := wr.heap.size) (a := .string (bs x.n)) (b := .string (bs x.v)) ?_ (nG _ _ HQ1 _)).mono ?_; (first | exact ⟨q0, q1, q2, q3⟩ | exact ⟨by simp, by simp, by simp, k3⟩); rintro e w' ⟨rfl, q0, q1, q2, q3⟩)
          | (go_at_call 81; refine (Kp.of (w0 := w) (H := wr.heap.size) (a := .string (bs x.n)) (b := .string (bs x.v)) ?_ (kE _)).mono ?_; (first | exact ⟨q0, q1, q2, q3⟩ | exact ⟨by simp, by simp, by simp, k3⟩); rintro e w' ⟨rfl, q0, q1, q2, q3⟩)
          | (go_at_call_of 80 (Value.string (bs x.v)); refine (Kp.of (w0 := w) (H := wr.heap.size) (a := .string (bs x.n)) (b := .string (bs x.v)) ?_ (qy _ _ HQ2 _)).mono ?_; (first | exact ⟨q0, q1, q2, q3⟩ | exact ⟨by simp, by simp, by simp, k3⟩); rintro e w' ⟨rfl, q0, q1, q2, q3⟩))) | fail
         all_goals
          go_wp2_with fail
          go_meet
          exact ⟨rfl, by assumption⟩
    obtain ⟨rfl, hb2⟩ := hcut
    have hG : Lk.good x = (Q1 && Q2) := by rw [<- uh HQ1, <- uh HQ2]; rfl
    have hdr : l.drop k = x :: l.drop (k + 1) := by
     have := uh HX
     rw [List.getElem?_eq_getElem hlt] at this
     cases this
     exact List.drop_eq_getElem_cons hlt
    generalize (Q1 && Q2) = G at *
    have HG := hide hG
    have HD := hide hdr
    clear hG hdr x0 x1 k0 k1 k3
    cases G
    . go_wp2_with fail
      go_ret2
      have e := uh HK
      rw [uh HD, Lk.di, uh HG] at e
      have e2 := uh HW
      rw [e] at e2
      obtain ⟨rfl, rfl⟩ := e2
      exact ⟨rfl, hb2⟩
    . go_wp2_with fail
      go_roundw
      case rel =>
       refine ⟨k + 1, by simp, by omega, ?_, hb2⟩
       have e := uh HK
       rw [uh HD, Lk.di, uh HG] at e
       exact e
      case measure => simp [intOf]; omega
  . have hlt' : ¬ (k : Int) < l.length := by omega
    go_wp2_with fail
    go_ret2
    have e := uh HK
    rw [List.drop_eq_nil_of_le (by omega), Lk.di] at e
    have e2 := uh HW
    rw [e] at e2
    obtain ⟨rfl, rfl⟩ := e2
    exact ⟨rfl, hbel⟩
theorem tK (l cap : Nat) (ad : Option Addr) (w : World) (hl : 6 < (l : Int)) :
 Calls Tryz.prog 43 #[.slice ad l cap] w fun e w' => e = .returned (.tuple #[.int .i64 8, .int .i64 0]) ∧ Below w.heap.size w w' := by
 go_enter Tryz.func43, Tryz.ntmps43
 go_wp2_with fail
 go_ret2
 exact ⟨rfl, Below.refl _ _⟩
theorem tN (w : World) :
 Calls Tryz.prog 43 #[.slice none 0 0] w fun e w' => e = .returned (.tuple #[.int .i64 0, .int .i64 0]) ∧ Below w.heap.size w w' := by
 go_enter Tryz.func43, Tryz.ntmps43
 go_wp2_with fail
 refine wp_loop_rounds 1 ?_
 rw [rounds_succ]
 go_wp2_with fail
 go_ret2
 exact ⟨rfl, Below.refl _ _⟩
theorem iJ (B : Nat) (v : Value) (l : List Lk.Hd) (w : World) (own : w.ownsRow B 112 2 v l.length (aQ l)) :
 Calls Tryz.prog 43 #[v] w fun e w' => e = .returned (.tuple #[.int .i64 (Lk.wrong l).1, .int .i64 (Lk.wrong l).2]) ∧ Below w.heap.size w w' := by
 rcases eP own with ⟨rfl, rfl⟩ | ⟨g, cap, rfl, _⟩
 . exact tN w
 . unfold Lk.wrong
   split
   . exact tK l.length cap _ w (by omega)
   . exact tJ B g cap l w (by omega) _ _ (hide ⟨rfl, rfl⟩) (hide own)
theorem JG (x h : Lk.Hd) (b : Nat) (w : World) (hb : b < w.heap.size) (c0 : w.cell? ⟨b, 0, none⟩ = some (.string (bs h.n))) (c1 : w.cell? ⟨b, 1, none⟩ = some (.string (bs h.v))) :
 Calls Tryz.prog 168 #[hdA x, .pointer (some ⟨b, 0, none⟩)] w fun e w' => e = .returned (.bool (Lk.gy h x)) ∧ Below w.heap.size w w' := by
 go_enter Tryz.func168, Tryz.ntmps168
 go_wp2_with fail
 all_goals go_ret
 all_goals refine ⟨aH ?_, by ((repeat' (first | exact Below.refl _ _ | assumption | apply Below.drew | apply Below.alloc | apply Below.setCell)) <;> (simp <;> omega))⟩
 all_goals simp only [ByteArray.toList_eq, fJ, Lk.gy] at *
 all_goals rw [Bool.eq_iff_iff]
 all_goals simp_all
theorem JH (x h : Lk.Hd) (b : Nat) (w : World) (hb : b < w.heap.size) (c0 : w.cell? ⟨b, 0, none⟩ = some (.string (bs h.n))) :
 Calls Tryz.prog 169 #[hdA x, .pointer (some ⟨b, 0, none⟩)] w fun e w' => e = .returned (.bool (Lk.aX h x)) ∧ Below w.heap.size w w' := by
 go_enter Tryz.func169, Tryz.ntmps169
 go_wp2_with fail
 go_ret
 refine ⟨aH ?_, by ((repeat' (first | exact Below.refl _ _ | assumption | apply Below.drew | apply Below.alloc | apply Below.setCell)) <;> (simp <;> omega))⟩
 simp only [ByteArray.toList_eq, fJ, Lk.aX]
 rw [Bool.eq_iff_iff]
 simp
theorem ou (b o i B0 : Nat) (L : List Lk.Hd) (v : Value) (w : World) (hb : b < w.heap.size) (hi : i <= 2 ^ 40) (hfx : Fx w) (hv : w.cell? ⟨b, o + 2, none⟩ = some v) (own : w.ownsRow B0 112 2 v L.length (aQ L)) :
 Calls Tryz.prog 184 #[.pointer (some ⟨b, o, none⟩), .int .i64 i] w fun e w' =>
  e = .returned (.tuple #[hdA ((Lk.fB L)[i]?.getD bF), .bool ((Lk.fB L)[i]?).isSome]) ∧ Below w.heap.size w w' := by
 by_cases h4 : i < 4
 . obtain ⟨x, hx⟩ : ∃ x, Lk.jb[i]? = some x := ⟨_, List.getElem?_eq_getElem (by simp [Lk.jb]; omega)⟩
   have e : (Lk.fB L)[i]? = some x := by unfold Lk.fB; rw [List.getElem?_append_left (by simp [Lk.jb]; omega)]; exact hx
   rw [e]
   exact BI b o i x w (by omega) hfx hx
 . have e : (Lk.fB L)[i]? = L[i - 4]? := by unfold Lk.fB; rw [List.getElem?_append_right (by simp [Lk.jb]; omega)]; rfl
   rw [e]
   rcases eP own with ⟨rfl, rfl⟩ | ⟨g, cap, rfl, _, hg, _, hc⟩
   . exact vK b o i 0 0 none w hb (by omega) hi hv (by omega)
   . by_cases hlt : i - 4 < L.length
     . obtain ⟨x, hx⟩ : ∃ x, L[i - 4]? = some x := ⟨_, List.getElem?_eq_getElem hlt⟩
       rw [hx]
       exact Fz b o i x L.length cap g w hb (by omega) hi hv (by omega) hg (hc _ x hx).1 (hc _ x hx).2
     . rw [List.getElem?_eq_none (by omega)]
       exact vK b o i L.length cap _ w hb (by omega) hi hv (by omega)
theorem PU (b o H B0 : Nat) (L : List Lk.Hd) (h : Lk.Hd) (v : Value) (N : Nat) (R : Nat) (w : World) (hb : b < w.heap.size) (hH : H < w.heap.size) (hfx : Hid (Fx w)) (hv : w.cell? ⟨b, o + 2, none⟩ = some v)
 (own : Hid (w.ownsRow B0 112 2 v L.length (aQ L))) (c0 : w.cell? ⟨H, 0, none⟩ = some (.string (bs h.n))) (c1 : w.cell? ⟨H, 1, none⟩ = some (.string (bs h.v)))
 (hN : Hid ((Lk.fB L).length = N)) (hN2 : N <= 1000) (hR : Hid (Lk.low (Lk.gy h) (Lk.fB L) = R)) :
 Calls Tryz.prog 167 #[.pointer (some ⟨b, o, none⟩), .func (.func 168) #[] #[.pointer (some ⟨H, 0, none⟩)]] w fun e w' =>
  e = .returned (.tuple #[.int .i64 R, .bool (decide (R < N))]) ∧ Below w.heap.size w w' := by
 have h0 : 0 < w.heap.size := (uh hfx).1
 go_enter Tryz.func167, Tryz.ntmps167
 go_wp2_with fail
 go_loopw [6] (fun u wr => ∃ k : Nat, u = .int .i64 k ∧ k <= N ∧ Hid (∀ j, j < k -> ∃ x, (Lk.fB L)[j]? = some x ∧ Lk.gy h x = false) ∧ Below w.heap.size w wr) (fun u _ => N + 1 - (intOf u).toNat)
 case atStart => exact ⟨0, rfl, by omega, fun j hj => by omega, Below.refl _ _⟩
 case round =>
  obtain ⟨k, rfl, hk, HK, hbel⟩ := hrel
  have d2 : wr.cell? ⟨b, o + 2, none⟩ = some v := by rw [hbel.cell (p := ⟨b, o + 2, none⟩) hb]; exact hv
  have e0 : wr.cell? ⟨H, 0, none⟩ = some (.string (bs h.n)) := by rw [hbel.cell (p := ⟨H, 0, none⟩) hH]; exact c0
  have e1 : wr.cell? ⟨H, 1, none⟩ = some (.string (bs h.v)) := by rw [hbel.cell (p := ⟨H, 1, none⟩) hH]; exact c1
  have hsz := hbel.size
  go_wp2_with fail
  refine (ou b o k B0 L v _ (by omega) (by omega) ((uh hfx).below hbel h0) d2 (jO (uh own) hbel (by omega))).mono ?_
  rintro e w1 ⟨rfl, hb1⟩
  have iL := hbel.trans (hb1.mono (by omega))
  have e0 := aK hb1 (by omega) e0
  have e1 := aK hb1 (by omega) e1
  have hsz1 := iL.size
  clear hbel hb1 d2
  cases hx : (Lk.fB L)[k]? with
  | none =>
    have hkN : R = k ∧ ¬ R < N := by
     have : k = (Lk.fB L).length := by
      have h1 := List.getElem?_eq_none_iff.1 hx
      have h2 := uh hN
      omega
     have h3 := Lk.nK (Lk.gy h) (Lk.fB L) k (uh HK) (.inl this)
     rw [uh hR] at h3
     have h2 := uh hN
     omega
    simp only [Option.getD, Option.isSome]
    clear hx
    go_wp2_with fail
    go_ret2
    obtain ⟨rfl, hlt⟩ := hkN
    exact ⟨by simp [hlt], iL.alloc hsz1 _⟩
  | some x =>
    have hkN : k < N := by
     have h1 := (List.getElem?_eq_some_iff.1 hx).1
     have h2 := uh hN
     omega
    simp only [Option.getD, Option.isSome]
    have HX := hide hx
    clear hx
    generalize hq : Lk.gy h x = Q
    have HQ := hide hq
    clear hq
    have hH1 : H < w1.heap.size := by omega
    go_wp2_with fail
    refine (JG x h H _ (by simp; omega) (Go.Lib.cell?_alloc_some _ e0) (Go.Lib.cell?_alloc_some _ e1)).mono ?_
    rintro e w2 ⟨he, hb2⟩
    rw [uh HQ] at he
    subst he
    have lH := (iL.alloc hsz1 (.cells #[.string (bs x.n), .string (bs x.v)] 112)).trans (hb2.mono (by simp; omega))
    clear hb2 iL e0 e1
    cases Q
    . go_wp2_with fail
      go_roundw
      case rel =>
       refine ⟨k + 1, by simp, by omega, fun j hj => ?_, lH⟩
       rcases Nat.lt_succ_iff_lt_or_eq.1 hj with hj | rfl
       . exact uh HK j hj
       . exact ⟨x, uh HX, uh HQ⟩
      case measure => simp [intOf]; omega
    . go_wp2_with fail
      go_ret2
      have h3 := Lk.nK (Lk.gy h) (Lk.fB L) k (uh HK) (.inr ⟨x, uh HX, uh HQ⟩)
      rw [uh hR] at h3
      subst h3
      exact ⟨by simp [hkN], lH⟩
theorem PV (b o H B0 : Nat) (L : List Lk.Hd) (h : Lk.Hd) (v : Value) (N : Nat) (R : Nat) (w : World) (hb : b < w.heap.size) (hH : H < w.heap.size) (hfx : Hid (Fx w)) (hv : w.cell? ⟨b, o + 2, none⟩ = some v)
 (own : Hid (w.ownsRow B0 112 2 v L.length (aQ L))) (c0 : w.cell? ⟨H, 0, none⟩ = some (.string (bs h.n))) (c1 : w.cell? ⟨H, 1, none⟩ = some (.string (bs h.v)))
 (hN : Hid ((Lk.fB L).length = N)) (hN2 : N <= 1000) (hR : Hid (Lk.low (Lk.aX h) (Lk.fB L) = R)) :
 Calls Tryz.prog 167 #[.pointer (some ⟨b, o, none⟩), .func (.func 169) #[] #[.pointer (some ⟨H, 0, none⟩)]] w fun e w' =>
  e = .returned (.tuple #[.int .i64 R, .bool (decide (R < N))]) ∧ Below w.heap.size w w' := by
 have h0 : 0 < w.heap.size := (uh hfx).1
 go_enter Tryz.func167, Tryz.ntmps167
 go_wp2_with fail
 go_loopw [6] (fun u wr => ∃ k : Nat, u = .int .i64 k ∧ k <= N ∧ Hid (∀ j, j < k -> ∃ x, (Lk.fB L)[j]? = some x ∧ Lk.aX h x = false) ∧ Below w.heap.size w wr) (fun u _ => N + 1 - (intOf u).toNat)
 case atStart => exact ⟨0, rfl, by omega, fun j hj => by omega, Below.refl _ _⟩
 case round =>
  obtain ⟨k, rfl, hk, HK, hbel⟩ := hrel
  have d2 : wr.cell? ⟨b, o + 2, none⟩ = some v := by rw [hbel.cell (p := ⟨b, o + 2, none⟩) hb]; exact hv
  have e0 : wr.cell? ⟨H, 0, none⟩ = some (.string (bs h.n)) := by rw [hbel.cell (p := ⟨H, 0, none⟩) hH]; exact c0
  have e1 : wr.cell? ⟨H, 1, none⟩ = some (.string (bs h.v)) := by rw [hbel.cell (p := ⟨H, 1, none⟩) hH]; exact c1
  have hsz := hbel.size
  go_wp2_with fail
  refine (ou b o k B0 L v _ (by omega) (by omega) ((uh hfx).below hbel h0) d2 (jO (uh own) hbel (by omega))).mono ?_
  rintro e w1 ⟨rfl, hb1⟩
  have iL := hbel.trans (hb1.mono (by omega))
  have e0 := aK hb1 (by omega) e0
  have e1 := aK hb1 (by omega) e1
  have hsz1 := iL.size
  clear hbel hb1 d2
  cases hx : (Lk.fB L)[k]? with
  | none =>
    have hkN : R = k ∧ ¬ R < N := by
     have : k = (Lk.fB L).length := by
      have h1 := List.getElem?_eq_none_iff.1 hx
      have h2 := uh hN
      omega
     have h3 := Lk.nK (Lk.aX h) (Lk.fB L) k (uh HK) (.inl this)
     rw [uh hR] at h3
     have h2 := uh hN
     omega
    simp only [Option.getD, Option.isSome]
    clear hx
    go_wp2_with fail
    go_ret2
    obtain ⟨rfl, hlt⟩ := hkN
    exact ⟨by simp [hlt], iL.alloc hsz1 _⟩
  | some x =>
    have hkN : k < N := by
     have h1 := (List.getElem?_eq_some_iff.1 hx).1
     have h2 := uh hN
     omega
    simp only [Option.getD, Option.isSome]
    have HX := hide hx
    clear hx
    generalize hq : Lk.aX h x = Q
    have HQ := hide hq
    clear hq
    have hH1 : H < w1.heap.size := by omega
    go_wp2_with fail
    refine (JH x h H _ (by simp; omega) (Go.Lib.cell?_alloc_some _ e0)).mono ?_
    rintro e w2 ⟨he, hb2⟩
    rw [uh HQ] at he
    subst he
    have lH := (iL.alloc hsz1 (.cells #[.string (bs x.n), .string (bs x.v)] 112)).trans (hb2.mono (by simp; omega))
    clear hb2 iL e0 e1
    cases Q
    . go_wp2_with fail
      go_roundw
      case rel =>
       refine ⟨k + 1, by simp, by omega, fun j hj => ?_, lH⟩
       rcases Nat.lt_succ_iff_lt_or_eq.1 hj with hj | rfl
       . exact uh HK j hj
       . exact ⟨x, uh HX, uh HQ⟩
      case measure => simp [intOf]; omega
    . go_wp2_with fail
      go_ret2
      have h3 := Lk.nK (Lk.aX h) (Lk.fB L) k (uh HK) (.inr ⟨x, uh HX, uh HQ⟩)
      rw [uh hR] at h3
      subst h3
      exact ⟨by simp [hkN], lH⟩
attribute [local go_sem ↓] Go.wp_at_zero Go.wp_at_succ
theorem JI (l : Lk.Bs) (w : World) (h : l.length <= 1000) : Calls Tryz.prog 70 #[.string (bs l)] w fun e w' => e = .returned (.string (bs l)) ∧ Below w.heap.size w w' :=
 clone_any (bs l) w (by rw [ax]; exact h)
def Kq (w0 : World) (H : Nat) (a b c d : Value) (W : World) : Prop :=
 W.cell? ⟨H, 0, none⟩ = some a ∧ W.cell? ⟨H, 1, none⟩ = some b ∧ W.cell? ⟨H + 1, 0, none⟩ = some c ∧ W.cell? ⟨H + 1, 1, none⟩ = some d ∧ W.frozen? ⟨H + 1, 0, none⟩ = false ∧ W.frozen? ⟨H + 1, 1, none⟩ = false ∧ H + 1 < W.heap.size ∧ Below w0.heap.size w0 W
theorem Kq.call {w0 W w' : World} {H : Nat} {a b c d : Value} (h : Kq w0 H a b c d W) (hb : Below W.heap.size W w') : Kq w0 H a b c d w' := by
 obtain ⟨h1, h2, h3, h4, h5, h6, h7, h8⟩ := h
 exact ⟨aK hb (by omega) h1, aK hb (by omega) h2, aK hb h7 h3, aK hb h7 h4, nO hb h7 h5, nO hb h7 h6, kW hb h7, h8.trans (hb.mono h8.size)⟩
theorem Kq.of {f : Nat} {args : Array Value} {w0 W : World} {H : Nat} {a b c d r : Value} (h : Kq w0 H a b c d W) (hc : Calls Tryz.prog f args W fun e w' => e = .returned r ∧ Below W.heap.size W w') :
 Calls Tryz.prog f args W fun e w' => e = .returned r ∧ w'.cell? ⟨H, 0, none⟩ = some a ∧ w'.cell? ⟨H, 1, none⟩ = some b ∧ w'.cell? ⟨H + 1, 0, none⟩ = some c ∧ w'.cell? ⟨H + 1, 1, none⟩ = some d ∧ w'.frozen? ⟨H + 1, 0, none⟩ = false ∧ w'.frozen? ⟨H + 1, 1, none⟩ = false ∧ H + 1 < w'.heap.size ∧ Below w0.heap.size w0 w' :=
 hc.mono fun _ _ ⟨he, hb⟩ => ⟨he, h.call hb⟩
theorem wO (h : Lk.Hd) (w : World) (hn : h.n.length <= 1000) (hv : h.v.length <= 1000) :
 Calls Tryz.prog 172 #[hdA h] w fun e w' => e = .returned (hdA h) ∧ Below w.heap.size w w' := by
 have k3 : Below w.heap.size w ((w.alloc (.cells #[.string (bs h.n), .string (bs h.v)] 112)).alloc (.cells #[.string ⟨#[]⟩, .string ⟨#[]⟩] 112)).drew := by ((repeat' (first | exact Below.refl _ _ | assumption | apply Below.drew | apply Below.alloc | apply Below.setCell)) <;> (simp <;> omega))
 go_enter Tryz.func172, Tryz.ntmps172
 go_wp2_with fail
 go_region_with (first
  | (go_at_call_of 70 (Value.string (bs h.n)); refine (Kq.of (w0 := w) (H := w.heap.size) (a := .string (bs h.n)) (b := .string (bs h.v)) (c := .string ⟨#[]⟩) (d := .string ⟨#[]⟩) ?_ (JI h.n _ (by omega))).mono ?_; (first | exact ⟨q0, q1, q2, q3, q4, q5, q6, q7⟩ | exact ⟨by simp, by simp, by simp, by simp, by simp, by simp, by simp, k3⟩); rintro e w' ⟨rfl, q0, q1, q2, q3, q4, q5, q6, q7⟩)
  | (go_at_call_of 70 (Value.string (bs h.v)); refine (Kq.of (w0 := w) (H := w.heap.size) (a := .string (bs h.n)) (b := .string (bs h.v)) (c := .string ⟨#[]⟩) (d := .string ⟨#[]⟩) ?_ (JI h.v _ (by omega))).mono ?_; (first | exact ⟨q0, q1, q2, q3, q4, q5, q6, q7⟩ | exact ⟨by simp, by simp, by simp, by simp, by simp, by simp, by simp, k3⟩); rintro e w' ⟨rfl, q0, q1, q2, q3, q4, q5, q6, q7⟩))
 all_goals
  go_wp2_with fail
  exact bodyPost_ret (v := hdA h) (by simp [results, Tryz.results172, go_sem, q2, q3]) rfl ⟨rfl, (q7.setCell (by simp) _).setCell (by simp) _⟩
theorem jL (B : Nat) (v : Value) (xs : List UInt8) (l : Lk.Bs) (w : World) (hB : B <= w.heap.size) (ho : w.ownsRow B 5 1 v xs.length (bytesV xs)) (hl : xs.length <= 900) (hll : l.length <= 100) :
 Calls Tryz.prog 170 #[v, .string (bs l)] w fun e w' => ∃ v', e = .returned v' ∧ w'.ownsRow B 5 1 v' (xs ++ Lk.text l).length (bytesV (xs ++ Lk.text l)) ∧ Below B w w' ∧ bZ 5 w w' := by
 have hsz := ax l
 obtain ⟨i, hi, hz0, hz1, hz2⟩ := info_parts BQ
 go_enter Tryz.func170, Tryz.ntmps170
 go_wp2_with fail
 refine (fP B v xs l.length (by omega) _ hB ho (by omega)).mono ?_
 rintro e w1 ⟨v1, rfl, ho1, hb1, hk1⟩
 have hs1 := hb1.size
 have hwl := Lk.au l.length (by omega)
 go_wp2_with (at_builtin; refine Lib.wpList_append_own_string _ rfl _ _ 78 9 rfl B 5 i Tryz.underlying78 Tryz.underlying9 hi hz0 hz1 hz2 _ _ _ rfl ho1 (bs l) rfl ?h63 ?hby ?hba ?_)
 case h63 => unfold maxLen; simp; omega
 case hby => simp; omega
 case hba => omega
 intro v4 w4 ho4 hg4 _
 go_wp2_with fail
 go_ret
 refine ⟨_, rfl, ?_, hb1.grown hg4 (by omega) (fun k hk => (ho1.lt k hk).1), hk1.grown hg4 ho1⟩
 rw [mJ, fJ] at ho4
 have e : xs ++ Lk.text l = (xs ++ Lk.wire l.length) ++ l := by simp [Lk.text]
 rw [e]
 simpa [bytesV, Nat.add_assoc] using ho4
end Go.Proofs.YtbkpdapagfjmmaaGreatDoor
