import Derived.Test.YtbkpdapagfjmmaaGreatDoorProg
import Derived.Test.YtbkpdapagfjmmaaGreatDoorA2
import Derived.Test.YtbkpdapagfjmmaaGreatDoorA4
import Derived.Test.YtbkpdapagfjmmaaGreatDoorA7
import Derived.Laws.EntriesVeiled
import Derived.Deep.RegionHeld3
import Derived.Deep.DrawnRows
set_option linter.unusedVariables false
set_option maxRecDepth 100000
set_option maxHeartbeats 16000000
namespace Go.Proofs.YtbkpdapagfjmmaaGreatDoor
open Go.RowKit
theorem dL (k s : Int) (w : World) :
 Calls Tryz.prog 85 #[.int .i64 k, .int .i64 s] w fun e w' => e = .returned (.bool (Lk.aC k s)) ∧ w' = w := by
 go_enter Tryz.func85, Tryz.ntmps85
 go_wp2
 all_goals go_ret
 all_goals refine ⟨aH ?_, rfl⟩
 all_goals unfold Lk.aC
 all_goals (repeat' split) <;> first | rfl | omega | (simp_all; done) | (exfalso; simp_all; omega)
theorem dZ (k n : Int) (w : World) :
 Calls Tryz.prog 86 #[.int .i64 k, .int .i64 n] w fun e w' => e = .returned (.bool (Lk.aA k n)) ∧ w' = w := by
 go_enter Tryz.func86, Tryz.ntmps86
 go_wp2
 all_goals go_ret
 all_goals refine ⟨aH ?_, rfl⟩
 all_goals unfold Lk.aA
 all_goals (repeat' split) <;> first | rfl | omega | (simp_all; done) | (exfalso; simp_all; omega) | (simp_all; omega)
theorem jk (k : Int) (w : World) :
 Calls Tryz.prog 132 #[.int .i64 k] w fun e w' => e = .returned (.int .i64 (Lk.jH k)) ∧ w' = w := by
 go_enter Tryz.func132, Tryz.ntmps132
 go_wp2
 all_goals go_ret
 all_goals refine ⟨je ?_, rfl⟩
 all_goals unfold Lk.jH
 all_goals first | (rw [if_pos (by omega)]; done) | (rw [if_neg (by omega)]; done)
theorem I8 {k : Int} (h0 : 0 <= k) (h7 : k <= 7) : k = 0 ∨ k = 1 ∨ k = 2 ∨ k = 3 ∨ k = 4 ∨ k = 5 ∨ k = 6 ∨ k = 7 := by omega
def qm (k : Int) : Int × Int × Int × Int :=
 if k = 0 then (1, 268435455, 0, 64) else if k = 1 then (1, 268435455, 1, 16) else if k = 2 then (1, 268435455, 0, 16) else if k = 3 then (1, 268435455, 1, 4)
 else if k = 4 then (0, 268435455, 1, 4) else if k = 5 then (0, 0, 8, 8) else if k = 6 then (0, 0, 8, 8) else (0, 0, 1, 4)
theorem FY (k : Int) (h0 : 0 <= k) (h7 : k <= 7) (w : World) :
 Calls Tryz.prog 173 #[.int .i64 k] w fun e w' => e = .returned (.agg #[.int .i64 (qm k).1, .int .i64 (qm k).2.1, .int .i64 (qm k).2.2.1, .int .i64 (qm k).2.2.2]) ∧ Below w.heap.size w w' := by
 rcases I8 h0 h7 with rfl | rfl | rfl | rfl | rfl | rfl | rfl | rfl
 all_goals
  rw [qm]
  go_enter Tryz.func173, Tryz.ntmps173
  go_wp2
  refine bodyPost_ret (v := _) (by simp [results, Tryz.results173, go_sem]) rfl ⟨rfl, ?_⟩
  ((repeat' (first | exact Below.refl _ _ | assumption | apply Below.drew | apply Below.alloc | apply Below.setCell)) <;> (simp <;> omega))
def zM (k a b x y : Int) : Prop := qm k = (a, b, x, y)
theorem zN (k : Int) (h0 : 0 <= k) (h7 : k <= 7) (w : World) :
 Calls Tryz.prog 173 #[.int .i64 k] w fun e w' => ∃ a b x y, e = .returned (.agg #[.int .i64 a, .int .i64 b, .int .i64 x, .int .i64 y]) ∧ zM k a b x y ∧ Below w.heap.size w w' := by
 refine (FY k h0 h7 w).mono ?_
 rintro e w' ⟨rfl, hb⟩
 exact ⟨_, _, _, _, rfl, rfl, hb⟩
theorem qx (c : UInt8) : Lk.aG c = ((decide ((97 : Int) <= c.toNat) && decide ((c.toNat : Int) <= 122)) || decide ((c.toNat : Int) = 45)) := by
 rw [Bool.eq_iff_iff]
 simp only [Lk.aG, Bool.or_eq_true, Bool.and_eq_true, decide_eq_true_eq, UInt8.le_iff_toNat_le]
 have e : c = 45 ↔ (c.toNat : Int) = 45 := by
  constructor
  . rintro rfl; rfl
  . intro h; exact UInt8.toNat_inj.1 (by simp; omega)
 rw [e]
 simp
 omega
theorem oq (c : UInt8) : Lk.aB c = (decide ((32 : Int) <= c.toNat) && decide ((c.toNat : Int) <= 126)) := by
 rw [Bool.eq_iff_iff]
 simp only [Lk.aB, Bool.and_eq_true, decide_eq_true_eq, UInt8.le_iff_toNat_le]
 simp
 omega
def WC (name : Bool) : Nat := if name then 127 else 129
theorem wM (c : UInt8) (w : World) : Calls Tryz.prog 127 #[.int .u8 c.toNat] w fun e w' => e = .returned (.bool (Lk.aG c)) ∧ w' = w := by
 rw [qx]
 go_enter Tryz.func127, Tryz.ntmps127
 go_wp2
 all_goals go_ret
 all_goals refine ⟨aH ?_, rfl⟩
 all_goals first | rfl | (rw [Bool.eq_iff_iff]; simp <;> omega)
theorem tH (c : UInt8) (w : World) : Calls Tryz.prog 129 #[.int .u8 c.toNat] w fun e w' => e = .returned (.bool (Lk.aB c)) ∧ w' = w := by
 rw [oq]
 go_enter Tryz.func129, Tryz.ntmps129
 go_wp2
 all_goals go_ret
 all_goals refine ⟨aH ?_, rfl⟩
 all_goals first | rfl | (rw [Bool.eq_iff_iff]; simp <;> omega)
abbrev JE (lo hi : Int) (f : Nat) : Value := .agg #[.int .i64 lo, .int .i64 hi, .func (.func f) #[] #[]]
abbrev jY : Value := JE 1 16 127
abbrev valueR : Value := JE 0 32 129
theorem jG (w : World) : Calls Tryz.prog 79 #[] w fun e w' => e = .returned jY ∧ Below w.heap.size w w' := by
 go_enter Tryz.func79, Tryz.ntmps79
 go_wp2_with fail
 exact bodyPost_ret (v := jY) (by simp [results, Tryz.results79, go_sem]) rfl ⟨rfl, by ((repeat' (first | exact Below.refl _ _ | assumption | apply Below.drew | apply Below.alloc | apply Below.setCell)) <;> (simp <;> omega))⟩
theorem kE (w : World) : Calls Tryz.prog 81 #[] w fun e w' => e = .returned valueR ∧ Below w.heap.size w w' := by
 go_enter Tryz.func81, Tryz.ntmps81
 go_wp2_with fail
 exact bodyPost_ret (v := valueR) (by simp [results, Tryz.results81, go_sem]) rfl ⟨rfl, by ((repeat' (first | exact Below.refl _ _ | assumption | apply Below.drew | apply Below.alloc | apply Below.setCell)) <;> (simp <;> omega))⟩
theorem EU (s : ByteArray) (q : UInt8 -> Bool) (h : ∀ j (hj : j < s.size), q s[j] = true) : s.data.toList.all q = true := by
 rw [List.all_eq_true]
 intro x hx
 obtain ⟨j, hj, rfl⟩ := List.getElem_of_mem hx
 exact h j (by rw [af]; exact hj)
theorem yt (s : ByteArray) (q : UInt8 -> Bool) (j : Nat) (hj : j < s.size) (h : q s[j] = false) : s.data.toList.all q = false := by
 rw [List.all_eq_false]
 refine ⟨s[j], ?_, by simp [h]⟩
 have : s[j] = s.data.toList[j]'(by rw [<- af]; exact hj) := rfl
 rw [this]
 exact List.getElem_mem _
theorem Af (lo hi : Int) (f : Nat) (s : ByteArray) (w : World) (hl : ¬ (lo <= s.size ∧ (s.size : Int) <= hi)) :
 Calls Tryz.prog 80 #[JE lo hi f, .string s] w fun e w' => e = .returned (.bool false) ∧ Below w.heap.size w w' := by
 go_enter Tryz.func80, Tryz.ntmps80
 go_wp2_with fail
 refine (gZ lo hi _ _).mono ?_
 rintro e w1 ⟨rfl, hb⟩
 have hd : decide (lo <= (s.size : Int) ∧ (s.size : Int) <= hi) = false := by simpa using hl
 go_wp2_with fail
 go_ret
 exact ⟨rfl, (((Below.refl w.heap.size w).alloc (Nat.le_refl _) _)).trans (hb.mono (by simp))⟩
theorem JF (s : ByteArray) (w : World) (hl : 1 <= (s.size : Int) ∧ (s.size : Int) <= 16) :
 Calls Tryz.prog 80 #[JE 1 16 127, .string s] w fun e w' => e = .returned (.bool (s.data.toList.all Lk.aG)) ∧ Below w.heap.size w w' := by
 have hsz : s.size <= 100 := by omega
 generalize hA : s.data.toList.all Lk.aG = A
 have HA := hide hA
 clear hA
 go_enter Tryz.func80, Tryz.ntmps80
 go_wp2_with fail
 refine (gZ 1 16 _ _).mono ?_
 rintro e w1 ⟨rfl, hb⟩
 have hd : decide (1 <= (s.size : Int) ∧ (s.size : Int) <= 16) = true := by simpa using hl
 have hbel := (((Below.refl w.heap.size w).alloc (Nat.le_refl _) (.cells #[.int .i64 1, .int .i64 16, .func (.func 127) #[] #[]] 182))).trans (hb.mono (by simp))
 have c2 : w1.cell? ⟨w.heap.size, 2, none⟩ = some (.func (.func 127) #[] #[]) := aK hb (by simp) (by simp)
 have hlt := kW hb (b := w.heap.size) (by simp)
 clear hb hl
 go_wp2_with fail
 go_loopw [14] (fun u wr => ∃ k : Nat, u = .int .i64 k ∧ k <= s.size ∧ Hid (∀ j (hj : j < s.size), j < k -> Lk.aG s[j] = true) ∧ ∃ n, wr = w1.drewN n) (fun u _ => s.size - (intOf u).toNat)
 case atStart => exact ⟨0, rfl, by omega, fun j hj h => by omega, 0, rfl⟩
 case round =>
  obtain ⟨k, rfl, hk, HK, nd, rfl⟩ := hrel
  by_cases hlt : k < s.size
  . have hlt' : (k : Int) < s.size := by omega
    have c2' : (w1.drewN nd).cell? ⟨w.heap.size, 2, none⟩ = some (.func (.func 127) #[] #[]) := c2
    go_wp2_with fail
    generalize hq : Lk.aG s[k] = Q
    have HQ := hide hq
    have hcall : ∀ w, Calls Tryz.prog 127 #[.int .u8 s[k].toNat] w fun e w' => e = .returned (.bool Q) ∧ w' = w := fun w => by rw [<- hq]; exact wM s[k] w
    clear hq
    have HC := hide hcall
    clear hcall
    go_cut [23] (fun u wc => u = .bool (!Q) ∧ ∃ n, wc = w1.drewN n)
    case first =>
     go_region_with (go_at_call 127; refine (uh HC _).mono ?_; rintro e w' ⟨rfl, rfl⟩)
     all_goals
      go_wp2_with fail
      go_meet
      exact ⟨rfl, nd + 1, rfl⟩
    obtain ⟨rfl, nd2, rfl⟩ := hcut
    cases Q
    . go_wp2_with fail
      go_ret
      refine ⟨aH ?_, Below.drewN hbel _⟩
      rw [<- uh HA]
      exact (yt s Lk.aG k hlt (uh HQ)).symm
    . go_wp2_with fail
      go_roundw
      case rel => exact ⟨k + 1, by simp, by omega, fun j hj h => (Nat.lt_succ_iff_lt_or_eq.1 h).elim (fun h => uh HK j hj h) (fun h => by subst h; exact uh HQ), _, rfl⟩
      case measure => simp [intOf]; omega
  . have hlt' : ¬ (k : Int) < s.size := by omega
    go_wp2_with fail
    go_ret
    refine ⟨aH ?_, Below.drewN hbel _⟩
    rw [<- uh HA]
    exact (EU s Lk.aG (fun j hj => (uh HK) j hj (by omega))).symm
theorem GG (s : ByteArray) (w : World) (hl : 0 <= (s.size : Int) ∧ (s.size : Int) <= 32) :
 Calls Tryz.prog 80 #[JE 0 32 129, .string s] w fun e w' => e = .returned (.bool (s.data.toList.all Lk.aB)) ∧ Below w.heap.size w w' := by
 have hsz : s.size <= 100 := by omega
 generalize hA : s.data.toList.all Lk.aB = A
 have HA := hide hA
 clear hA
 go_enter Tryz.func80, Tryz.ntmps80
 go_wp2_with fail
 refine (gZ 0 32 _ _).mono ?_
 rintro e w1 ⟨rfl, hb⟩
 have hd : decide (0 <= (s.size : Int) ∧ (s.size : Int) <= 32) = true := by simpa using hl
 have hbel := (((Below.refl w.heap.size w).alloc (Nat.le_refl _) (.cells #[.int .i64 0, .int .i64 32, .func (.func 129) #[] #[]] 182))).trans (hb.mono (by simp))
 have c2 : w1.cell? ⟨w.heap.size, 2, none⟩ = some (.func (.func 129) #[] #[]) := aK hb (by simp) (by simp)
 have hlt := kW hb (b := w.heap.size) (by simp)
 have hl2 : (s.size : Int) <= 32 := hl.2
 clear hb hl
 go_wp2_with fail
 go_loopw [14] (fun u wr => ∃ k : Nat, u = .int .i64 k ∧ k <= s.size ∧ Hid (∀ j (hj : j < s.size), j < k -> Lk.aB s[j] = true) ∧ ∃ n, wr = w1.drewN n) (fun u _ => s.size - (intOf u).toNat)
 case atStart => exact ⟨0, rfl, by omega, fun j hj h => by omega, 0, rfl⟩
 case round =>
  obtain ⟨k, rfl, hk, HK, nd, rfl⟩ := hrel
  by_cases hlt : k < s.size
  . have hlt' : (k : Int) < s.size := by omega
    have c2' : (w1.drewN nd).cell? ⟨w.heap.size, 2, none⟩ = some (.func (.func 129) #[] #[]) := c2
    go_wp2_with fail
    generalize hq : Lk.aB s[k] = Q
    have HQ := hide hq
    have hcall : ∀ w, Calls Tryz.prog 129 #[.int .u8 s[k].toNat] w fun e w' => e = .returned (.bool Q) ∧ w' = w := fun w => by rw [<- hq]; exact tH s[k] w
    clear hq
    have HC := hide hcall
    clear hcall
    go_cut [23] (fun u wc => u = .bool (!Q) ∧ ∃ n, wc = w1.drewN n)
    case first =>
     go_region_with (go_at_call 129; refine (uh HC _).mono ?_; rintro e w' ⟨rfl, rfl⟩)
     all_goals
      go_wp2_with fail
      go_meet
      exact ⟨rfl, nd + 1, rfl⟩
    obtain ⟨rfl, nd2, rfl⟩ := hcut
    cases Q
    . go_wp2_with fail
      go_ret
      refine ⟨aH ?_, Below.drewN hbel _⟩
      rw [<- uh HA]
      exact (yt s Lk.aB k hlt (uh HQ)).symm
    . go_wp2_with fail
      go_roundw
      case rel => exact ⟨k + 1, by simp, by omega, fun j hj h => (Nat.lt_succ_iff_lt_or_eq.1 h).elim (fun h => uh HK j hj h) (fun h => by subst h; exact uh HQ), _, rfl⟩
      case measure => simp [intOf]; omega
  . have hlt' : ¬ (k : Int) < s.size := by omega
    go_wp2_with fail
    go_ret
    refine ⟨aH ?_, Below.drewN hbel _⟩
    rw [<- uh HA]
    exact (EU s Lk.aB (fun j hj => (uh HK) j hj (by omega))).symm
theorem Ag (s : ByteArray) (w : World) :
 Calls Tryz.prog 80 #[jY, .string s] w fun e w' => e = .returned (.bool (Lk.fits true s.data.toList)) ∧ Below w.heap.size w w' := by
 have e := af s
 by_cases hl : 1 <= (s.size : Int) ∧ (s.size : Int) <= 16
 . refine (JF s w hl).mono ?_
   rintro e' w' ⟨rfl, hb⟩
   refine ⟨aH ?_, hb⟩
   have : Lk.jM true s.data.toList.length = true := by simp only [Lk.jM, if_true, decide_eq_true_eq]; omega
   rw [Lk.fits, this, Bool.true_and]
   rfl
 . refine (Af 1 16 _ s w hl).mono ?_
   rintro e' w' ⟨rfl, hb⟩
   refine ⟨aH ?_, hb⟩
   have : Lk.jM true s.data.toList.length = false := by simp only [Lk.jM, if_true, decide_eq_false_iff_not]; omega
   rw [Lk.fits, this, Bool.false_and]
theorem yu (s : ByteArray) (w : World) :
 Calls Tryz.prog 80 #[valueR, .string s] w fun e w' => e = .returned (.bool (Lk.fits false s.data.toList)) ∧ Below w.heap.size w w' := by
 have e := af s
 by_cases hl : 0 <= (s.size : Int) ∧ (s.size : Int) <= 32
 . refine (GG s w hl).mono ?_
   rintro e' w' ⟨rfl, hb⟩
   refine ⟨aH ?_, hb⟩
   have : Lk.jM false s.data.toList.length = true := by simp [Lk.jM]; omega
   rw [Lk.fits, this, Bool.true_and]
   rfl
 . refine (Af 0 32 _ s w hl).mono ?_
   rintro e' w' ⟨rfl, hb⟩
   refine ⟨aH ?_, hb⟩
   have : Lk.jM false s.data.toList.length = false := by simp [Lk.jM]; omega
   rw [Lk.fits, this, Bool.false_and]
attribute [local go_sem ↓] Go.wp_at_zero Go.wp_at_succ
theorem fJ (l : Lk.Bs) : (bs l).data.toList = l := by simp [bs]
theorem GH (s : ByteArray) : bs s.data.toList = s := by simp [bs]
theorem nG (l : Lk.Bs) (Q : Bool) (hq : Hid (Lk.fits true l = Q)) (w : World) :
 Calls Tryz.prog 80 #[jY, .string (bs l)] w fun e w' => e = .returned (.bool Q) ∧ Below w.heap.size w w' := by
 have := Ag (bs l) w
 rw [fJ, uh hq] at this
 exact this
theorem qy (l : Lk.Bs) (Q : Bool) (hq : Hid (Lk.fits false l = Q)) (w : World) :
 Calls Tryz.prog 80 #[valueR, .string (bs l)] w fun e w' => e = .returned (.bool Q) ∧ Below w.heap.size w w' := by
 have := yu (bs l) w
 rw [fJ, uh hq] at this
 exact this
theorem Ah (w : World) (x y : Value) (T : TypeId) : (w.alloc (.cells #[x, y] T)).cell? ⟨w.heap.size, 0, none⟩ = some x ∧ (w.alloc (.cells #[x, y] T)).cell? ⟨w.heap.size, 1, none⟩ = some y :=
 ⟨(Is.new w T [x, y]).cell 0, (Is.new w T [x, y]).cell 1⟩
def Kp (w0 : World) (H : Nat) (a b : Value) (W : World) : Prop := W.cell? ⟨H, 0, none⟩ = some a ∧ W.cell? ⟨H, 1, none⟩ = some b ∧ H < W.heap.size ∧ Below w0.heap.size w0 W
theorem Kp.call {w0 W w' : World} {H : Nat} {a b : Value} (h : Kp w0 H a b W) (hb : Below W.heap.size W w') : Kp w0 H a b w' :=
 ⟨aK hb h.2.2.1 h.1, aK hb h.2.2.1 h.2.1, kW hb h.2.2.1, h.2.2.2.trans (hb.mono h.2.2.2.size)⟩
theorem Kp.of {f : Nat} {args : Array Value} {w0 W : World} {H : Nat} {a b r : Value} (h : Kp w0 H a b W) (hc : Calls Tryz.prog f args W fun e w' => e = .returned r ∧ Below W.heap.size W w') :
 Calls Tryz.prog f args W fun e w' => e = .returned r ∧ w'.cell? ⟨H, 0, none⟩ = some a ∧ w'.cell? ⟨H, 1, none⟩ = some b ∧ H < w'.heap.size ∧ Below w0.heap.size w0 w' :=
 hc.mono fun _ _ ⟨he, hb⟩ => ⟨he, h.call hb⟩
theorem tJ (B g cap : Nat) (l : List Lk.Hd) (w : World) (hl : l.length <= 6) (E P : Int) (HW : Hid ((Lk.di 0 l).1 = E ∧ (Lk.di 0 l).2 = P))
 (own : Hid (w.ownsRow B 112 2 (.slice (some ⟨g, 0, none⟩) l.length cap) l.length (aQ l))) :
 Calls Tryz.prog 43 #[.slice (some ⟨g, 0, none⟩) l.length cap] w fun e w' =>
  e = .returned (.tuple #[.int .i64 E, .int .i64 P]) ∧ Below w.heap.size w w' := by
 have hl6 : ¬ 6 < (l.length : Int) := by omega
 go_enter Tryz.func43, Tryz.ntmps43
 go_wp2_with fail
 go_loopw [11] (fun u wr => ∃ k : Nat, u = .int .i64 k ∧ k <= l.length ∧ Hid (Lk.di 0 l = Lk.di k (l.drop k)) ∧ Below w.heap.size w wr) (fun u _ => l.length - (intOf u).toNat)
 case atStart => exact ⟨0, rfl, by omega, rfl, Below.refl _ _⟩
 case round =>
  obtain ⟨k, rfl, hk, HK, hbel⟩ := hrel
  by_cases hlt : k < l.length
  . have hlt' : (k : Int) < l.length := by omega
    obtain ⟨x, hx⟩ : ∃ x, l[k]? = some x := ⟨_, List.getElem?_eq_getElem hlt⟩
    obtain ⟨hg2, x0, x1⟩ := jJ (jO (uh own) hbel (by omega)) hx
    have HX := hide hx
    have hwr := hbel.size
    have HB := hide hbel
    clear hx hbel
    go_wp2_with fail
    generalize hq1 : Lk.fits true x.n = Q1
    generalize hq2 : Lk.fits false x.v = Q2
    have HQ1 := hide hq1
    have HQ2 := hide hq2
    clear hq1 hq2
    have k0 := (Ah wr (.string (bs x.n)) (.string (bs x.v)) 112).1
    have k1 := (Ah wr (.string (bs x.n)) (.string (bs x.v)) 112).2
    have k3 : Below w.heap.size w (wr.alloc (.cells #[.string (bs x.n), .string (bs x.v)] 112)).drew := ((uh HB).alloc hwr _).drew
    go_cut [27] (fun u wc => u = .bool (!(Q1 && Q2)) ∧ Below w.heap.size w wc)
    case first =>
     cases Q1
     . first | (go_region_with (first
        | (go_at_call 79; refine (Kp.of (w0 := w) (H := wr.heap.size) (a := .string (bs x.n)) (b := .string (bs x.v)) ?_ (jG _)).mono ?_; (first | exact ⟨q0, q1, q2, q3⟩ | exact ⟨by simp, by simp, by simp, k3⟩); rintro e w' ⟨rfl, q0, q1, q2, q3⟩)
        | (go_at_call_of 80 (Value.string (bs x.n)); refine (Kp.of (w0 := w) (H := wr.heap.size) (a := .string (bs x.n)) (b := .string (bs x.v)) ?_ (nG _ _ HQ1 _)).mono ?_; (first | exact ⟨q0, q1, q2, q3⟩ | exact ⟨by simp, by simp, by simp, k3⟩); rintro e w' ⟨rfl, q0, q1, q2, q3⟩))) | fail
       all_goals
        go_wp2_with fail
        go_meet
        exact ⟨rfl, by assumption⟩
     . cases Q2
       . first | (go_region_held3 (fun w' => w'.cell? ⟨wr.heap.size, 0, none⟩ = some (.string (bs x.n)) ∧ w'.cell? ⟨wr.heap.size, 1, none⟩ = some (.string (bs x.v)) ∧ wr.heap.size < w'.heap.size ∧ Below w.heap.size w w') (go_keep) (first
          | (go_at_call 79; refine (Kp.of (w0 := w) (H := wr.heap.size) (a := .string (bs x.n)) (b := .string (bs x.v)) ?_ (jG _)).mono ?_; (first | exact ⟨q0, q1, q2, q3⟩ | exact ⟨by simp, by simp, by simp, k3⟩); rintro e w' ⟨rfl, q0, q1, q2, q3⟩)
          | (go_at_call_of 80 (Value.string (bs x.n)); refine (Kp.of (w0 := w) (H := wr.heap.size) (a := .string (bs x.n)) (b := .string (bs x.v)) ?_ (nG _ _ HQ1 _)).mono ?_; (first | exact ⟨q0, q1, q2, q3⟩ | exact ⟨by simp, by simp, by simp, k3⟩); rintro e w' ⟨rfl, q0, q1, q2, q3⟩)
          | (go_at_call 81; refine (Kp.of (w0 := w) (H := wr.heap.size) (a := .string (bs x.n)) (b := .string (bs x.v)) ?_ (kE _)).mono ?_; (first | exact ⟨q0, q1, q2, q3⟩ | exact ⟨by simp, by simp, by simp, k3⟩); rintro e w' ⟨rfl, q0, q1, q2, q3⟩)
          | (go_at_call_of 80 (Value.string (bs x.v)); refine (Kp.of (w0 := w) (H := wr.heap.size) (a := .string (bs x.n)) (b := .string (bs x.v)) ?_ (qy _ _ HQ2 _)).mono ?_; (first | exact ⟨q0, q1, q2, q3⟩ | exact ⟨by simp, by simp, by simp, k3⟩); rintro e w' ⟨rfl, q0, q1, q2, q3⟩))) | fail
         all_goals
          go_wp2_with fail
          go_meet
          exact ⟨rfl, by assumption⟩
       . first | (go_region_held3 (fun w' => w'.cell? ⟨wr.heap.size, 0, none⟩ = some (.string (bs x.n)) ∧ w'.cell? ⟨wr.heap.size, 1, none⟩ = some (.string (bs x.v)) ∧ wr.heap.size < w'.heap.size ∧ Below w.heap.size w w') (go_keep) (first
          | (go_at_call 79; refine (Kp.of (w0 := w) (H := wr.heap.size) (a := .string (bs x.n)) (b := .string (bs x.v)) ?_ (jG _)).mono ?_; (first | exact ⟨q0, q1, q2, q3⟩ | exact ⟨by simp, by simp, by simp, k3⟩); rintro e w' ⟨rfl, q0, q1, q2, q3⟩)
          | (go_at_call_of 80 (Value.string (bs x.n)); refine (Kp.of (w0 := w) (H := wr.heap.size) (a := .string (bs x.n)) (b := .string (bs x.v)) ?_ (nG _ _ HQ1 _)).mono ?_; (first | exact ⟨q0, q1, q2, q3⟩ | exact ⟨by simp, by simp, by simp, k3⟩); rintro e w' ⟨rfl, q0, q1, q2, q3⟩)
          | (go_at_call 81; refine (Kp.of (w0 := w) (H := wr.heap.size) (a := .string (bs x.n)) (b := .string (bs x.v)) ?_ (kE _)).mono ?_; (first | exact ⟨q0, q1, q2, q3⟩ | exact ⟨by simp, by simp, by simp, k3⟩); rintro e w' ⟨rfl, q0, q1, q2, q3⟩)
          | (go_at_call_of 80 (Value.string (bs x.v)); refine (Kp.of (w0 := w) (H := wr.heap.size) (a := .string (bs x.n)) (b := .string (bs x.v)) ?_ (qy _ _ HQ2 _)).mono ?_; (first | exact ⟨q0, q1, q2, q3⟩ | exact ⟨by simp, by simp, by simp, k3⟩); rintro e w' ⟨rfl, q0, q1, q2, q3⟩))) | fail
         all_goals
          go_wp2_with fail
          go_meet
          exact ⟨rfl, by assumption⟩
    obtain ⟨rfl, hb2⟩ := hcut
    have hG : Lk.good x = (Q1 && Q2) := by rw [<- uh HQ1, <- uh HQ2]; rfl
    have hdr : l.drop k = x :: l.drop (k + 1) := by
     have := uh HX
     rw [List.getElem?_eq_getElem hlt] at this
     cases this
     exact List.drop_eq_getElem_cons hlt
    generalize (Q1 && Q2) = G at *
    have HG := hide hG
    have HD := hide hdr
    clear hG hdr x0 x1 k0 k1 k3
    cases G
    . go_wp2_with fail
      go_ret2
      have e := uh HK
      rw [uh HD, Lk.di, uh HG] at e
      have e2 := uh HW
      rw [e] at e2
      obtain ⟨rfl, rfl⟩ := e2
      exact ⟨rfl, hb2⟩
    . go_wp2_with fail
      go_roundw
      case rel =>
       refine ⟨k + 1, by simp, by omega, ?_, hb2⟩
       have e := uh HK
       rw [uh HD, Lk.di, uh HG] at e
       exact e
      case measure => simp [intOf]; omega
  . have hlt' : ¬ (k : Int) < l.length := by omega
    go_wp2_with fail
    go_ret2
    have e := uh HK
    rw [List.drop_eq_nil_of_le (by omega), Lk.di] at e
    have e2 := uh HW
    rw [e] at e2
    obtain ⟨rfl, rfl⟩ := e2
    exact ⟨rfl, hbel⟩
theorem tK (l cap : Nat) (ad : Option Addr) (w : World) (hl : 6 < (l : Int)) :
 Calls Tryz.prog 43 #[.slice ad l cap] w fun e w' => e = .returned (.tuple #[.int .i64 8, .int .i64 0]) ∧ Below w.heap.size w w' := by
 go_enter Tryz.func43, Tryz.ntmps43
 go_wp2_with fail
 go_ret2
 exact ⟨rfl, Below.refl _ _⟩
theorem tN (w : World) :
 Calls Tryz.prog 43 #[.slice none 0 0] w fun e w' => e = .returned (.tuple #[.int .i64 0, .int .i64 0]) ∧ Below w.heap.size w w' := by
 go_enter Tryz.func43, Tryz.ntmps43
 go_wp2_with fail
 refine wp_loop_rounds 1 ?_
 rw [rounds_succ]
 go_wp2_with fail
 go_ret2
 exact ⟨rfl, Below.refl _ _⟩
theorem iJ (B : Nat) (v : Value) (l : List Lk.Hd) (w : World) (own : w.ownsRow B 112 2 v l.length (aQ l)) :
 Calls Tryz.prog 43 #[v] w fun e w' => e = .returned (.tuple #[.int .i64 (Lk.wrong l).1, .int .i64 (Lk.wrong l).2]) ∧ Below w.heap.size w w' := by
 rcases eP own with ⟨rfl, rfl⟩ | ⟨g, cap, rfl, _⟩
 . exact tN w
 . unfold Lk.wrong
   split
   . exact tK l.length cap _ w (by omega)
   . exact tJ B g cap l w (by omega) _ _ (hide ⟨rfl, rfl⟩) (hide own)
end Go.Proofs.YtbkpdapagfjmmaaGreatDoor
