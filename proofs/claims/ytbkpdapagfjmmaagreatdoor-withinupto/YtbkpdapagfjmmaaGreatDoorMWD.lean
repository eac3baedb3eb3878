import Derived.Test.YtbkpdapagfjmmaaGreatDoorMWBWC
import Derived.Test.YtbkpdapagfjmmaaGreatDoorMOJ
import Derived.Test.YtbkpdapagfjmmaaGreatDoorMFR
import Derived.Test.YtbkpdapagfjmmaaGreatDoorMS3
import Derived.Laws.OwnMore
/-
  Walks: the statement on credits.
-/
set_option linter.unusedVariables false
namespace Go.Proofs.YtbkpdapagfjmmaaGreatDoor
open Go.RowKit

theorem info_int : (Tryz.prog.info? 3).map (fun i => (i.zero, i.size, i.bytes)) = some (some (.int .i64 0), 1, 8) := by kernel_rfl
theorem made_tally (n : Nat) : (madeCells (Value.int .i64 0).cells n).toList = tallyV (fun _ => 0) n := by
  have e : (Value.int .i64 0).cells = #[.int .i64 0] := rfl
  rw [e, toList_madeCells_one]
  unfold tallyV
  rw [List.map_const']
  simp

theorem Lk.len4 {st : Nat} {d : Lk.Bs} (h : Lk.Good 4 st d) : d.length ≤ 4 := by
  have hp := h.payload
  unfold Lk.payloadFits at hp
  rw [if_pos (by omega)] at hp
  unfold Lk.numberWhole at hp
  cases hx : Lk.rd 0 0 d with
  | short => rw [hx] at hp; cases hp
  | bad q => rw [hx] at hp; cases hp
  | ok n m =>
    rw [hx] at hp
    have hm : m = d.length := of_decide_eq_true hp
    have := Lk.rd_ok_le4 d 0 0 n m hx
    omega
/-- Where the walk of the frames that came stands. -/
def GS (w2 : World) (eb ib rb ab ob N : Nat) (e : Lk.En) (d : PD) (s : ByteArray) (f : Int) (A : Int) (t : Nat → Int) (B : Nat) (v : Value) (l : List Lk.Fr) (k : Nat) (w : World) : Prop :=
  WS w2 eb ib rb ab ob N e d s f (A + Lk.gainsAll (l.take k)) (fun m => t m + Lk.gainsOwn 0 (l.take k) m) w ∧ w.ownsRow B 66 3 v l.length (framesV l)
theorem GS.skip {w2 : World} {eb ib rb ab ob N : Nat} {e : Lk.En} {d : PD} {s : ByteArray} {f : Int} {A : Int} {t : Nat → Int} {B : Nat} {v : Value} {l : List Lk.Fr} {k : Nat} {w : World} (h : GS w2 eb ib rb ab ob N e d s f A t B v l k w) (hk : k < l.length) (h0 : Lk.gainAll l[k] = 0) (h1 : ∀ m, m < N → Lk.gainOwn 0 l[k] m = 0) : GS w2 eb ib rb ab ob N e d s f A t B v l (k + 1) w := by
  obtain ⟨g1, g2⟩ := gain_take l hk
  refine ⟨?_, h.2⟩
  rw [g1, h0, Int.add_zero]
  exact h.1.sameOwn _ (fun m hm => by rw [g2 m, h1 m hm, Int.add_zero])
theorem GS.all {w2 : World} {eb ib rb ab ob N : Nat} {e : Lk.En} {d : PD} {s : ByteArray} {f : Int} {A : Int} {t : Nat → Int} {B : Nat} {v : Value} {l : List Lk.Fr} {k : Nat} {w : World} (h : GS w2 eb ib rb ab ob N e d s f A t B v l k w) (hk : k < l.length) (hlo : ∀ i, v.ownBlock = some i → i ≠ ab) (h1 : ∀ m, Lk.gainOwn 0 l[k] m = 0) : GS w2 eb ib rb ab ob N e d s f A t B v l (k + 1) (w.setCell ⟨ab, 0, none⟩ (.int .i64 (A + Lk.gainsAll (l.take k) + Lk.gainAll l[k]))) := by
  obtain ⟨g1, g2⟩ := gain_take l hk
  have hO : Only (· = ab) w (w.setCell ⟨ab, 0, none⟩ (.int .i64 (A + Lk.gainsAll (l.take k) + Lk.gainAll l[k]))) := (Only.refl _ w).set ab 0 _ (fun _ => rfl)
  refine ⟨?_, own_only h.2 hO hlo⟩
  rw [g1, ← Int.add_assoc]
  exact (h.1.setAll _).sameOwn _ (fun m hm => by rw [g2 m, h1 m, Int.add_zero])
theorem GS.own {w2 : World} {eb ib rb ab ob N : Nat} {e : Lk.En} {d : PD} {s : ByteArray} {f : Int} {A : Int} {t : Nat → Int} {B : Nat} {v : Value} {l : List Lk.Fr} {k : Nat} {w : World} (h : GS w2 eb ib rb ab ob N e d s f A t B v l k w) (hk : k < l.length) (hlo : ∀ i, v.ownBlock = some i → i ≠ ob) (h0 : Lk.gainAll l[k] = 0) (m : Nat) (h1 : ∀ i, i ≠ m → Lk.gainOwn 0 l[k] i = 0) : GS w2 eb ib rb ab ob N e d s f A t B v l (k + 1) (w.setCell ⟨ob, m, none⟩ (.int .i64 (t m + Lk.gainsOwn 0 (l.take k) m + Lk.gainOwn 0 l[k] m))) := by
  obtain ⟨g1, g2⟩ := gain_take l hk
  have hO : Only (· = ob) w (w.setCell ⟨ob, m, none⟩ (.int .i64 (t m + Lk.gainsOwn 0 (l.take k) m + Lk.gainOwn 0 l[k] m))) := (Only.refl _ w).set ob m _ (fun _ => rfl)
  refine ⟨?_, own_only h.2 hO hlo⟩
  rw [g1, h0, Int.add_zero]
  have := h.1.setOwn m (fun i => t i + Lk.gainsOwn 0 (l.take (k + 1)) i) (fun i hi => by rw [g2 i, h1 i hi, Int.add_zero])
  simp only [g2] at this
  simp only [g2]
  rw [Int.add_assoc]
  exact this

/-- As it all lies at the start. -/
theorem WS.start {w w4 : World} {eb N : Nat} {E0 : Lk.En} {d0 : PD} {A v : Int} {M : Array Value} (hpe : PEnd w4 eb E0 d0) (hft : ∀ i, foot eb d0 i → w.heap.size ≤ i) (hb : Below w.heap.size w w4) (hfx : Fx w) (hM : M.toList = tallyV (fun _ => 0) N) :
    WS w eb w4.heap.size (w4.heap.size + 1) (w4.heap.size + 2) (w4.heap.size + 3) N E0 d0 ⟨#[]⟩ 0 A (fun m => if m < 0 then v else 0)
      ((((w4.alloc (.cells #[.string ⟨#[]⟩, .int .i64 0] 54)).alloc (.cells #[.string ⟨#[]⟩, .int .i64 0] 54)).alloc (.cells #[.int .i64 A] 3)).alloc (.cells M 3)) := by
  have hs := hb.size
  have b1 := (Below.refl w4.heap.size w4).alloc (Nat.le_refl _) (.cells #[.string ⟨#[]⟩, .int .i64 0] 54)
  have i1 := Is.new w4 54 [.string ⟨#[]⟩, .int .i64 0]
  have s1 : (w4.alloc (.cells #[.string ⟨#[]⟩, .int .i64 0] 54)).heap.size = w4.heap.size + 1 := by simp
  generalize hW1 : w4.alloc (.cells #[.string ⟨#[]⟩, .int .i64 0] 54) = W1 at *
  have b2 := b1.alloc (by omega) (.cells #[.string ⟨#[]⟩, .int .i64 0] 54)
  have i2 := Is.new W1 54 [.string ⟨#[]⟩, .int .i64 0]
  have j1 := i1.alloc (.cells #[.string ⟨#[]⟩, .int .i64 0] 54)
  have s2 : (W1.alloc (.cells #[.string ⟨#[]⟩, .int .i64 0] 54)).heap.size = w4.heap.size + 2 := by simp; omega
  rw [s1] at i2
  generalize hW2 : W1.alloc (.cells #[.string ⟨#[]⟩, .int .i64 0] 54) = W2 at *
  have b3 := b2.alloc (by omega) (.cells #[.int .i64 A] 3)
  have i3 := Is.new W2 3 [.int .i64 A]
  have j2 := i2.alloc (.cells #[.int .i64 A] 3)
  have k1 := j1.alloc (.cells #[.int .i64 A] 3)
  have s3 : (W2.alloc (.cells #[.int .i64 A] 3)).heap.size = w4.heap.size + 3 := by simp; omega
  rw [s2] at i3
  have b4 := b3.alloc (by omega) (.cells M 3)
  have i4 := Is.new (W2.alloc (.cells #[.int .i64 A] 3)) 3 M.toList
  rw [s3] at i4
  have eM : (.cells M.toList.toArray 3 : Obj) = .cells M 3 := by simp
  rw [eM] at i4
  have hO := Only.of_below b4 (fun _ => False)
  have hbel := hb.trans (b4.mono hs)
  refine ⟨hpe.only hO (fun _ _ x => x), k1.alloc _, j2.alloc _, i3.alloc _, ?_, by omega, by omega, fun i hi => ?_, fun i hi => ?_, (hfx.below hb hfx.1).only hO (fun x => x), hfx.1, hbel⟩
  · have e : tallyV (fun m => if m < 0 then v else 0) N = tallyV (fun _ => 0) N := by
      unfold tallyV
      exact List.map_congr_left (fun i _ => by show Value.int .i64 (if i < 0 then v else 0) = _; rw [if_neg (by omega)])
    rw [e, ← hM]
    exact i4
  · have := hpe.lt i hi
    omega
  · rcases hi with hi | hi
    · exact hft i hi
    · omega

set_option maxHeartbeats 4000000 in
set_option maxRecDepth 100000 in
theorem within_any (window : Int) (w : World) (ad : Option Addr) (len cap : Nat) (ops : Nat → Sc.OpJ) (hI1 : -9223372036854775808 ≤ window) (hI2 : window ≤ 9223372036854775807) (hlen : len ≤ 1048576) (hfx : Fx w)
    (hS : len ≠ 0 → ∃ blk off, ad = some ⟨blk, off, none⟩ ∧ Sc.ScriptJ w blk off len ops) (hsum : Sc.sumS ops len ≤ 1048576) :
    Calls Tryz.prog 8 #[.int .i64 window, .slice ad len cap] w fun e w' => e = .returned (.bool true) ∧ Below w.heap.size w w' := by
  have hw0 := hfx.1
  have hw199 := bndN_le window
  have HST := hide (Lk.WM.start (1 + bndN window) (by omega) (by omega))
  have hBND := fun W => bounded199 window W hI1 hI2
  have hcast : ((1 + bndN window : Nat) : Int) = 1 + (bndN window : Int) := by omega
  have hnew := new_ok 0 (1 + bndN window) (by omega) (by omega) (by omega) w hw0
  simp only [hcast] at hnew
  have HNEW := hide hnew
  generalize hE0 : Lk.En.new 0 (1 + bndN window) = E0 at *
  have HRS : Hid (E0.rest = []) := by rw [← hE0]; exact rfl
  generalize bndN window = win at *
  have HBND := hide hBND
  have HFX := hide hfx
  have HSC := hide hS
  obtain ⟨inf, hi, hz0, hz1, hz2⟩ := info_parts info_int
  generalize hM : madeCells (Value.int .i64 0).cells ((((len + 1 : Nat) : Int)).toNat * inf.size) = M
  have HM : Hid (M.toList = tallyV (fun _ => 0) (len + 1)) := by
    rw [← hM, hz1]
    have := made_tally (len + 1)
    have h : (madeCells (Value.int .i64 0).cells (((len + 1 : Nat) : Int).toNat * 1)).toList = tallyV (fun _ => 0) (len + 1) := by simpa using this
    exact h
  have hmake : ∀ W : World, (Instr.makeSlice 55 (.int .i64 ((len : Int) + 1)) (.int .i64 ((len : Int) + 1))).run Tryz.prog W = .ok (.slice (some ⟨W.heap.size, 0, none⟩) (len + 1) (len + 1)) (W.alloc (.cells M 3)) := by
    intro W
    have e := run_make (P := Tryz.prog) W 55 3 inf (.int .i64 0) Tryz.underlying55 hi hz0 .i64 .i64 ((len + 1 : Nat) : Int) ((len + 1 : Nat) : Int) (by omega) (by omega) (by rw [hz2]; omega) (by omega)
    rw [hM] at e
    simpa using e
  clear hE0 hcast hnew hBND hfx hS hM
  go_enter Tryz.func8, Tryz.ntmps8
  go_wp2_with fail
  refine (unhide HBND _).mono ?_
  rintro r w2 ⟨rfl, rfl⟩
  go_wp2_with fail
  refine (unhide HNEW).mono ?_
  rintro r w3 ⟨eb, d0, rfl, hpe, hft, hb3⟩
  have HR0 := hide (⟨hpe, hft, hb3⟩ : _ ∧ _ ∧ _)
  clear hpe hft hb3
  go_wp2_with (go_at_call 18; refine (num_any _ _).mono ?_; rintro e w4 ⟨rfl, rfl⟩)
  go_loopw [12] (fun u wr => ∃ i : Nat, i ≤ len + 1 ∧ u = .int .i64 i ∧ Hid (WS w2 eb w4.heap.size (w4.heap.size + 1) (w4.heap.size + 2) (w4.heap.size + 3) (len + 1) E0 d0 ⟨#[]⟩ 0 (2 * (1 + (win : Int))) (fun m => if m < i then 1 + (win : Int) else 0) wr)) (fun u _ => len + 1 - (intOf u).toNat)
  case atStart =>
    obtain ⟨hpe, hft, hb3⟩ := unhide HR0
    exact ⟨0, Nat.zero_le _, rfl, WS.start hpe hft hb3 (unhide HFX) (unhide HM)⟩
  case round =>
    obtain ⟨i, hi, rfl, HW⟩ := hrel
    have hW := unhide HW
    by_cases hlt : i < len + 1
    · have hlt' : (i : Int) < (len : Int) + 1 := by omega
      have oF := hW.own.free i
      have oc : wr.cell? ⟨w4.heap.size + 3, i, none⟩ = some (.int .i64 0) := by
        rw [hW.own.cell, tallyV_at _ hlt, if_neg (by omega)]
      have ol := hW.own.lt
      have HN : Hid (WS w2 eb w4.heap.size (w4.heap.size + 1) (w4.heap.size + 2) (w4.heap.size + 3) (len + 1) E0 d0 ⟨#[]⟩ 0 (2 * (1 + (win : Int))) (fun m => if m < i + 1 then 1 + (win : Int) else 0) (wr.setCell ⟨w4.heap.size + 3, i, none⟩ (.int .i64 (1 + (win : Int))))) := by
        have := hW.setOwn i (fun m => if m < i + 1 then 1 + (win : Int) else 0) (fun m hm => by
          by_cases h : m < i
          · rw [if_pos h, if_pos (by omega)]
          · rw [if_neg h, if_neg (by omega)])
        rw [if_pos (by omega)] at this
        exact this
      clear hW HW HR0 HSC
      go_wp2_with fail
      go_roundw
      case rel => exact ⟨i + 1, by omega, by go_num, unhide HN⟩
      case measure => simp [intOf]; omega
    · have hlt' : ¬ (i : Int) < (len : Int) + 1 := by omega
      have HW1 := hide (hW.sameOwn (fun _ => 1 + (win : Int)) (fun m hm => by rw [if_pos (by omega)]))
      clear hW HW HR0 HM hmake hi hlt
      go_wp2_with fail
      go_loopw [13] (fun u wr => ∃ (i : Nat) (e : Lk.En) (d : PD) (s : ByteArray) (A : Int) (t : Nat → Int), i ≤ len ∧ u = .int .i64 i ∧ Hid (WS w2 eb w4.heap.size (w4.heap.size + 1) (w4.heap.size + 2) (w4.heap.size + 3) (len + 1) e d s 0 A t wr ∧ Lk.WM e A t i (Sc.sumS ops i) ∧ s.data.toList = e.rest)) (fun u _ => len - (intOf u).toNat)
      case atStart =>
        refine ⟨0, E0, d0, ⟨#[]⟩, _, _, Nat.zero_le _, rfl, unhide HW1, ?_, (unhide HRS).symm⟩
        have h := unhide HST
        have e : ((1 + win : Nat) : Int) = 1 + (win : Int) := by omega
        rw [e] at h
        exact h
      case round =>
        clear HW1
        obtain ⟨i, e, d, s, A, t, hi, rfl, HW⟩ := hrel
        obtain ⟨hW, hWM, hs⟩ := unhide HW
        by_cases hlt : i < len
        · have hlt' : (i : Int) < len := by omega
          have hi60 : (i : Int) < 1152921504606846976 := by omega
          have hbel := hW.bel
          obtain ⟨blk, off, rfl, hSc⟩ := unhide HSC (by omega)
          obtain ⟨hok, hcs⟩ := hSc.2 i hlt
          have hcell : ∀ j, j < 7 → wr.cell? ⟨blk, off + i * 7 + j, none⟩ = (ops i).vals[j]? := fun j hj => (hbel.cell (p := ⟨blk, off + i * 7 + j, none⟩) hSc.1).trans (hcs j hj)
          have hstr := hok.strs.below hbel (Nat.le_refl _)
          have hs20 := hok.s
          have hh20 := hok.h
          have hoa := hok.a
          have hT1 : Sc.sumS ops (i + 1) = Sc.sumS ops i + ((ops i).s.size + 8) := rfl
          have hT2 : Sc.sumS ops (i + 1) ≤ 1048576 := Nat.le_trans (Sc.sumS_mono ops (show i + 1 ≤ len by omega)) hsum
          generalize ops i = o at *
          obtain ⟨kd, a, b, st, tt, c, ha, hl, hc, l⟩ := o
          have c0 := hcell 0 (by omega)
          have c1 := hcell 1 (by omega)
          have c2 := hcell 2 (by omega)
          have c3 := hcell 3 (by omega)
          have c4 := hcell 4 (by omega)
          have c5 := hcell 5 (by omega)
          have c6 := hcell 6 (by omega)
          simp only [Sc.OpJ.vals, List.getElem?_cons_zero, List.getElem?_cons_succ, Nat.add_zero] at c0 c1 c2 c3 c4 c5 c6
          simp only at hstr hs20 hh20 hoa hT1
          have hblk : blk < wr.heap.size := Nat.lt_of_lt_of_le hSc.1 hbel.size
          have hBx := Is.new wr 33 [.int .i64 kd, .int .i64 a, .int .i64 b, .string st, .string tt, .int .i64 c, .slice ha hl hc]
          have hbW := (Below.refl wr.heap.size wr).alloc (Nat.le_refl _) (.cells #[.int .i64 kd, .int .i64 a, .int .i64 b, .string st, .string tt, .int .i64 c, .slice ha hl hc] 33)
          have hW0 := hW.below hbW
          have hstr0 := hstr.below hbW (Nat.le_refl _)
          have hwW : wr.heap.size < (wr.alloc (.cells #[.int .i64 kd, .int .i64 a, .int .i64 b, .string st, .string tt, .int .i64 c, .slice ha hl hc] 33)).heap.size := by simp
          have hfw : ∀ i, foot eb d i → i < wr.heap.size := hW.pe.lt
          have hTT := hide (⟨hT1, hT2⟩ : _ ∧ _)
          clear hcell hcs hok hbel hSc HSC HW hW hstr hbW hT1 hT2
          generalize hWW : wr.alloc (.cells #[.int .i64 kd, .int .i64 a, .int .i64 b, .string st, .string tt, .int .i64 c, .slice ha hl hc] 33) = W at *
          have o0 : W.cell? ⟨wr.heap.size, 0, none⟩ = some (.int .i64 kd) := hBx.cell 0
          have o1 : W.cell? ⟨wr.heap.size, 1, none⟩ = some (.int .i64 a) := hBx.cell 1
          have o3 : W.cell? ⟨wr.heap.size, 3, none⟩ = some (.string st) := hBx.cell 3
          have o6 : W.cell? ⟨wr.heap.size, 6, none⟩ = some (.slice ha hl hc) := hBx.cell 6
          by_cases h9 : kd = 9
          · subst h9
            have hWd := hW0.below (below_dn (Below.refl _ W) 1)
            have HH := hide (heads_any (.slice ha hl hc) l (W.drewN 1) (by omega) (hstr0.below (below_dn (Below.refl _ W) 1) (Nat.le_refl _)))
            have hWM2 := (hWM.submit (pairs l) st.data.toList).later (Nat.le_refl _) (show Sc.sumS ops i ≤ Sc.sumS ops (i + 1) by have := unhide hTT; omega)
            obtain ⟨hsd1, hsd2, hsd3⟩ := Lk.submitC_side e (pairs l) st.data.toList
            have HCC := hide (fun (w1 : World) (lv : Value) (hpe : PEnd w1 eb e d) (hfx : Fx w1) (hlo : w1.ownsRow (W.drewN 1).heap.size 112 2 lv (pairs l).length (hdsV (pairs l))) => submit_p eb (W.drewN 1).heap.size e d (pairs l) lv st w1 hpe hfx hlo)
            generalize hR : e.submitC (pairs l) st.data.toList = R at *
            obtain ⟨⟨r1, r2, r3⟩, e'⟩ := R
            simp only at HCC hWM2 hsd3
            have HX := hide (⟨hBx.drewN 1, hWd, hWM2, hs.trans hsd3.symm, hfw⟩ : _ ∧ _ ∧ _ ∧ _ ∧ _)
            clear hW0 hWd hWM hWM2 hs hBx hstr0 hfw hR hsd1 hsd2 hsd3
            go_wp2_with fail
            go_region_with (first
              | (go_at_call 20
                 refine (unhide HH).mono ?_
                 rintro r w5 ⟨lv, rfl, hlo, hb1⟩
                 obtain ⟨la, lc, hlv⟩ := own_any hlo
                 subst hlv
                 have x3 : w5.cell? ⟨wr.heap.size, 3, none⟩ = some (.string st) := ((unhide HX).1.below hb1 hwW).cell 3
                 have xl : wr.heap.size < w5.heap.size := Nat.lt_of_lt_of_le hwW hb1.size
                 have HC := hide (unhide HCC w5 _ ((unhide HX).2.1.below hb1).pe ((unhide HX).2.1.below hb1).fx hlo)
                 have HB1 := hide hb1
                 clear hlo hb1)
              | (go_at_call 19
                 refine (unhide HC).mono ?_
                 rintro r w6 ⟨rfl, hP⟩))
            all_goals
              obtain ⟨d', h1, h2, h3⟩ := hP
              obtain ⟨hBx, hWd, hWM2, hs, hfw⟩ := unhide HX
              have HN := hide (⟨(hWd.below (unhide HB1)).call h1 h2 h3, hWM2, hs⟩ : _ ∧ _ ∧ _)
              clear hBx hWd hWM2 hs hfw h1 h2 h3 HB1 HX HCC HH
              go_wp2_with fail
              go_roundw
              case rel => exact ⟨i + 1, _, _, _, _, _, by omega, by go_num, unhide HN⟩
              case measure => simp [intOf]; omega
          by_cases h15 : kd = 15
          · subst h15
            generalize hX : Lk.all (e.rest ++ st.data.toList) = X at *
            obtain ⟨hgood, hcnt, hup, hdown⟩ := hWM.feed st.data.toList X hX
            have hstl := size_list st
            have hrest72 : e.rest.length ≤ 72 := by have h1 := hWM.wf.rest; have h2 := Lk.all_rest72 e.rest (by rw [h1]); rw [h1] at h2; exact h2
            have HRF := refFeed_any w4.heap.size s st e.rest 0 W (fun _ => ⟨hs, hrest72⟩) (by omega) hW0.inn
            have q1 : Lk.fedErr e.rest 0 st.data.toList = (X.2.1 : Int) := by unfold Lk.fedErr; rw [if_pos rfl, hX]
            have q2 : Lk.fedFrames e.rest 0 st.data.toList = X.1 := by unfold Lk.fedFrames; rw [if_pos rfl, hX]
            have q3 : Lk.fedRest e.rest 0 st.data.toList = X.2.2 := by unfold Lk.fedRest; rw [if_pos rfl, hX]
            rw [q1, q2, q3] at HRF
            have hxl : X.1.length ≤ 2000000 := by omega
            have hT := unhide hTT
            have hubA : ∀ k, k ≤ X.1.length → 0 ≤ A + Lk.gainsAll (X.1.take k) ∧ A + Lk.gainsAll (X.1.take k) ≤ 2 ^ 50 := fun k hk => by
              have h1 := Lk.gainsAll_nn (X.1.take k)
              have h2 := Lk.gainsAll_le (X.1.take k)
              have h3 := hWM.cov.nn.1
              have h4 := hWM.ubA
              rw [List.length_take] at h2
              omega
            have hubT : ∀ k m, k ≤ X.1.length → 0 ≤ t m + Lk.gainsOwn 0 (X.1.take k) m ∧ t m + Lk.gainsOwn 0 (X.1.take k) m ≤ 2 ^ 50 := fun k m hk => by
              have h1 := Lk.gainsOwn_nn 0 (X.1.take k) m
              have h2 := Lk.gainsOwn_le 0 (X.1.take k) m
              have h3 := hWM.cov.nn.2 m
              have h4 := hWM.ubT m
              rw [List.length_take] at h2
              omega
            have hmass := Lk.feed_mass2 hWM.wf st.data.toList
            have hwf2 := hWM.wf.feed st.data.toList
            have hm1 := hWM.mass
            have hm2 := hwf2.othLen
            have HFD := hide (fun (W' : World) hpe hfx => feed_p eb e d st W' hpe hfx (by omega))
            generalize (e.feed st.data.toList).2 = e' at *
            generalize (e.feed st.data.toList).1 = evl at *
            obtain ⟨fs, hfs, hfg, hfp⟩ := hdown 1000
            have hdm := Lk.drain_mass 1000 hwf2
            have HDN := hide (fun (W' : World) (d' : PD) (hpe : PEnd W' eb e' d') => drain_any eb e' d' 1000 W' hpe (by omega) (by have : (1000 : Int).toNat = 1000 := rfl; rw [this]; omega))
            have HSND := hide (fun (W' : World) h1 h2 h3 h4 => sends_any (w4.heap.size + 1) (w4.heap.size + 2) (w4.heap.size + 3) (len + 1) (bs (Lk.En.drain 1000 e').1) fs (A + Lk.gainsAll X.1) (fun m => t m + Lk.gainsOwn 0 X.1 m) W' h1 h2 h3 h4 (by omega) (by rw [bs_size]; omega) (by rw [bs_list]; exact hfs) hfg (hfp.mono (by omega)) (by have := hubA X.1.length (Nat.le_refl _); rw [List.take_length] at this; omega) (fun m => by have := hubT X.1.length m (Nat.le_refl _); rw [List.take_length] at this; omega))
            have HUP := hide (fun (h : e'.down = 0) => (⟨(hup h).1, (hup h).2.1, (hup h).2.2.later (Nat.le_refl _) (show Sc.sumS ops i + st.data.toList.length ≤ Sc.sumS ops (i + 1) by omega)⟩ : _ ∧ _ ∧ _))
            have HX0 := hide (⟨hBx, hW0, hfw⟩ : _ ∧ _ ∧ _)
            have HUB := hide (⟨hubA, hubT, hgood⟩ : _ ∧ _ ∧ _)
            have HRF2 := hide HRF
            clear hW0 hWM hs hBx hstr0 hfw hgood hcnt hup hdown hrest72 HRF q1 q2 q3 hT hubA hubT hmass hwf2 hm1 hm2 hfs hfg hfp hdm hX
            go_wp2_with fail
            refine (unhide HRF2).mono ?_
            rintro r w5 ⟨v, rfl, hrow, ⟨s', hin, hrs⟩, htu⟩
            obtain ⟨hBx, hW0, hfw⟩ := unhide HX0
            have hW1 := hW0.fed hin htu
            have HFE := hide (unhide HFD w5 hW1.pe hW1.fx)
            have hBx5 := hBx.only (Only.of_turns htu) (hBx.ne hW0.inn (Nat.ne_of_beq_eq_false rfl))
            have x3 : w5.cell? ⟨wr.heap.size, 3, none⟩ = some (.string st) := hBx5.cell 3
            have xl := hBx5.lt
            obtain ⟨va, vc, hv⟩ := own_any hrow
            subst hv
            have HX1 := hide (⟨hW1, hrow, hrs, hfw⟩ : _ ∧ _ ∧ _ ∧ _)
            clear hBx hW0 hfw hW1 hBx5 hrow hin hrs htu HX0 HRF2 HFD
            go_wp2_with fail
            refine (unhide HFE).mono ?_
            rintro r w6 ⟨v6, rfl, d', evs, f1, f2, f3, f4, f5, f6⟩
            obtain ⟨hW1, hrow, hrs, hfw⟩ := unhide HX1
            have hW2 := hW1.call f2 f5 f6
            have hrow6 := own_only hrow f6 (fun i hi hf => by have := hrow.lt i hi; have := hfw i hf; omega)
            have HG0 : Hid (GS w2 eb w4.heap.size (w4.heap.size + 1) (w4.heap.size + 2) (w4.heap.size + 3) (len + 1) e' d' s' (X.2.1 : Int) A t W.heap.size (.slice va X.1.length vc) X.1 0 w6) := by
              refine ⟨?_, hrow6⟩
              have e1 : A + Lk.gainsAll (X.1.take 0) = A := by simp [Lk.gainsAll]
              rw [e1]
              exact hW2.sameOwn _ (fun m _ => by simp [Lk.gainsOwn])
            have HRS2 := hide hrs
            clear f1 f2 f3 f4 f5 f6 hW1 hrow hrs hfw hW2 hrow6 HX1 HFE x3 xl
            go_wp2_with fail
            go_loopw [19] (fun u wx => ∃ k : Nat, k ≤ X.1.length ∧ u = .int .i64 k ∧ Hid (GS w2 eb w4.heap.size (w4.heap.size + 1) (w4.heap.size + 2) (w4.heap.size + 3) (len + 1) e' d' s' (X.2.1 : Int) A t W.heap.size (.slice va X.1.length vc) X.1 k wx)) (fun u _ => X.1.length - (intOf u).toNat)
            case atStart => exact ⟨0, Nat.zero_le _, rfl, unhide HG0⟩
            case round =>
              clear HG0
              obtain ⟨k, hk, rfl, HG⟩ := hrel
              by_cases hkl : k < X.1.length
              · have hkl' : (k : Int) < X.1.length := by omega
                have hG := unhide HG
                rcases owned_frames hG.2 with ⟨h0, _⟩ | ⟨gl, cap', hv, hgB, hgl, hcap, hcell⟩
                · rw [h0] at hkl; simp at hkl
                obtain ⟨rfl, rfl⟩ : va = some ⟨gl, 0, none⟩ ∧ vc = cap' := by
                  injection hv with h1 h2 h3
                  exact ⟨h1, h3⟩
                obtain ⟨z0, z1, z2⟩ := hcell k hkl
                have z2 : wr.cell? ⟨gl, k * 3 + 2, none⟩ = some (.string (bs X.1[k].d)) := z2
                obtain ⟨hubA, hubT, hgood⟩ := unhide HUB
                have hg := hgood X.1[k] (List.getElem_mem hkl)
                have hub := hubA k (by omega)
                have hglo : gl ≠ w4.heap.size + 3 := fun h => own_ne hG.2 hG.1.own (Nat.ne_of_beq_eq_false rfl) (by rw [h]; rfl)
                have hgla : gl ≠ w4.heap.size + 2 := fun h => own_ne hG.2 hG.1.all (Nat.ne_of_beq_eq_false rfl) (by rw [h]; rfl)
                by_cases hk4 : X.1[k].k = 4
                · rw [hk4] at hg z0
                  have hd4 := Lk.len4 hg
                  have hst28 := hg.st28
                  have hnum := Lk.worth_num (.inr (.inl rfl)) hg
                  have hn28 := Lk.numOf_le X.1[k].d
                  have HWO := fun W' => worth_any X.1[k].d W' hd4
                  rw [hnum] at HWO
                  have HWO2 := hide HWO
                  have HIX := hide (fun W' => index_any (X.1[k].st : Int) 0 (by omega) W' (by omega) (by omega))
                  have a0 : wr.cell? ⟨w4.heap.size + 2, 0, none⟩ = some (.int .i64 (A + Lk.gainsAll (X.1.take k))) := hG.1.all.cell 0
                  have af := hG.1.all.free 0
                  have al := hG.1.all.lt
                  by_cases hst0 : X.1[k].st = 0
                  · obtain ⟨g1, g2⟩ := gain_zero hk4 hst0
                    have HN := hide (hG.all hkl (fun i hi => by have h : i = gl := (by simpa [Value.ownBlock] using hi.symm); omega) g2)
                    rw [g1] at HN
                    have hst' : ((X.1[k].st : Int) == 0) = true := by rw [hst0]; rfl
                    generalize (X.1[k].st : Int) = ST at *
                    generalize Lk.numOf X.1[k].d = NN at *
                    generalize A + Lk.gainsAll (X.1.take k) = AK at *
                    generalize X.1[k].d = fd at *
                    clear hG HG hcell hv hgood hubA hubT hg HWO hnum hst0 g1 g2 hk4 hd4 hst28
                    go_wp2_with fail
                    refine (unhide HWO2 _).mono ?_
                    rintro r w7 ⟨rfl, rfl⟩
                    go_wp2_with fail
                    refine (unhide HIX _).mono ?_
                    rintro r w7 ⟨rfl, rfl⟩
                    go_wp2_with fail
                    go_roundw
                    case rel => exact ⟨k + 1, by omega, by go_num, unhide HN⟩
                    case measure => simp [intOf]; omega
                  · obtain ⟨g1, g2⟩ := gain_it hk4 hst0
                    have hst' : ((X.1[k].st : Int) == 0) = false := by simp; omega
                    rcases ixN_nat (st := X.1[k].st) (k := 0) with ⟨m, hm1, hm2⟩ | ⟨hm1, hm2⟩
                    · rw [hm2] at HIX
                      by_cases hmN : m < len + 1
                      · have hmN' : (m : Int) < (len : Int) + 1 := by omega
                        have hm0 : (0 : Int) ≤ m := by omega
                        have oo : wr.cell? ⟨w4.heap.size + 3, m, none⟩ = some (.int .i64 (t m + Lk.gainsOwn 0 (X.1.take k) m)) := by rw [hG.1.own.cell, tallyV_at _ hmN]
                        have oF := hG.1.own.free m
                        have ol := hG.1.own.lt
                        have hubm := hubT k m (by omega)
                        have HN := hide (hG.own hkl (fun i hi => by have h : i = gl := (by simpa [Value.ownBlock] using hi.symm); omega) g1 m (fun i hi => by rw [g2 i, if_neg (by omega)]))
                        rw [g2 m, if_pos (by omega)] at HN
                        generalize (X.1[k].st : Int) = ST at *
                        generalize Lk.numOf X.1[k].d = NN at *
                        generalize t m + Lk.gainsOwn 0 (X.1.take k) m = TM at *
                        generalize X.1[k].d = fd at *
                        clear hG HG hcell hv hgood hubA hubT hg HWO hnum hst0 g1 g2 hk4 hd4 hst28 hm1 hm2 a0 af al
                        go_wp2_with fail
                        refine (unhide HWO2 _).mono ?_
                        rintro r w7 ⟨rfl, rfl⟩
                        go_wp2_with fail
                        refine (unhide HIX _).mono ?_
                        rintro r w7 ⟨rfl, rfl⟩
                        go_wp2_with fail
                        go_roundw
                        case rel => exact ⟨k + 1, by omega, by go_num, unhide HN⟩
                        case measure => simp [intOf]; omega
                      · have hmN' : decide ((m : Int) < (len : Int) + 1) = false := by simp; omega
                        have hm0 : (0 : Int) ≤ m := by omega
                        have HN := hide (hG.skip hkl g1 (fun i hi => by rw [g2 i, if_neg (by omega)]))
                        generalize (X.1[k].st : Int) = ST at *
                        generalize Lk.numOf X.1[k].d = NN at *
                        generalize X.1[k].d = fd at *
                        clear hG HG hcell hv hgood hubA hubT hg HWO hnum hst0 g1 g2 hk4 hd4 hst28 hm1 hm2 a0 af al hmN
                        generalize (m : Int) = MM at *
                        go_wp2_with fail
                        refine (unhide HWO2 _).mono ?_
                        rintro r w7 ⟨rfl, rfl⟩
                        go_wp2_with fail
                        refine (unhide HIX _).mono ?_
                        rintro r w7 ⟨rfl, rfl⟩
                        go_wp2_with fail
                        go_roundw
                        case rel => exact ⟨k + 1, by omega, by go_num, unhide HN⟩
                        case measure => simp [intOf]; omega
                    · rw [hm2] at HIX
                      have HN := hide (hG.skip hkl g1 (fun i hi => by rw [g2 i, if_neg (fun z => hm1 i (by omega))]))
                      generalize (X.1[k].st : Int) = ST at *
                      generalize Lk.numOf X.1[k].d = NN at *
                      generalize X.1[k].d = fd at *
                      clear hG HG hcell hv hgood hubA hubT hg HWO hnum hst0 g1 g2 hk4 hd4 hst28 hm1 hm2 a0 af al
                      go_wp2_with fail
                      refine (unhide HWO2 _).mono ?_
                      rintro r w7 ⟨rfl, rfl⟩
                      go_wp2_with fail
                      refine (unhide HIX _).mono ?_
                      rintro r w7 ⟨rfl, rfl⟩
                      go_wp2_with fail
                      go_roundw
                      case rel => exact ⟨k + 1, by omega, by go_num, unhide HN⟩
                      case measure => simp [intOf]; omega
                · obtain ⟨g1, g2⟩ := gain_none hk4
                  have HN := hide (hG.skip hkl g1 (fun m _ => g2 m))
                  have k4 : ((X.1[k].k : Int) == 4) = false := by simp; omega
                  generalize (X.1[k].k : Int) = KK at *
                  clear hG HG hcell hv hgood hubA hubT hg g1 g2 hk4 z1 z2
                  go_wp2_with fail
                  go_roundw
                  case rel => exact ⟨k + 1, by omega, by go_num, unhide HN⟩
                  case measure => simp [intOf]; omega
              · have hkl' : ¬ (k : Int) < X.1.length := by omega
                have hG := unhide HG
                have hkk : k = X.1.length := by omega
                unfold GS at hG
                rw [hkk, List.take_length] at hG
                by_cases hdn : e'.down = 0
                · obtain ⟨u1, u2, u3⟩ := unhide HUP hdn
                  have hd0 : ((e'.down : Nat) : Int) = 0 := by rw [hdn]; rfl
                  have hWS := hG.1
                  rw [u1] at hWS
                  have HN := hide (⟨hWS, u3, (unhide HRS2 (by rw [u1]; rfl)).trans u2.symm⟩ : _ ∧ _ ∧ _)
                  clear hG HG hkk hWS u1 u2 u3 hdn HUP HRS2
                  go_wp2_with (go_at_call 18; refine (num_any _ _).mono ?_; rintro e w8 ⟨rfl, rfl⟩)
                  go_roundw
                  case rel => exact ⟨i + 1, _, _, _, _, _, by omega, by go_num, unhide HN⟩
                  case measure => simp [intOf]; omega
                · have hd1 : (((e'.down : Nat) : Int) != 0) = true := by simp; omega
                  have hWS := hG.1
                  have HD1 := hide (unhide HDN wr d' hWS.pe)
                  have HWS := hide hWS
                  clear hG HG hkk hWS hdn HUP HRS2 HDN
                  go_wp2_with (go_at_call 18; refine (num_any _ _).mono ?_; rintro e w8 ⟨rfl, rfl⟩)
                  refine (unhide HD1).mono ?_
                  rintro r w9 ⟨rfl, d'', h1, h2, h3⟩
                  have hW3 := (unhide HWS).call h1 h2 h3
                  have HS := hide (unhide HSND w9 hW3.out hW3.all hW3.own hW3.n2)
                  have HW3 := hide hW3
                  clear hW3 h1 h2 h3 HSND HD1 HWS
                  go_wp2_with fail
                  refine (unhide HS).mono ?_
                  rintro r w10 ⟨rfl, g1, g2, g3, g4⟩
                  have HFIN := hide ((unhide HW3).sent g1 g2 g3 g4).bel
                  clear g1 g2 g3 g4 HS HW3
                  go_wp2_with fail
                  go_ret
                  exact ⟨rfl, unhide HFIN⟩
          by_cases h14 : kd = 14
          · subst h14
            obtain ⟨fs, hfs, hgood, hpays, hWM2⟩ := hWM.drain a.toNat
            have hmass := Lk.drain_mass a.toNat hWM.wf
            have hm1 := hWM.mass
            have hm2 := hWM.wf.othLen
            have hT := unhide hTT
            have hdl : (Lk.En.drain a.toNat e).1.length ≤ 2 ^ 38 := by omega
            obtain ⟨hdr1, hdr2, hdr3⟩ := Lk.drain_side a.toNat e
            have hubA := hWM.ubA
            have hubT := hWM.ubT
            have HD := hide (drain_any eb e d a W hW0.pe hoa.2 (by omega))
            have HX := hide (⟨hBx, hW0, hWM2.later (Nat.le_refl _) (show Sc.sumS ops i ≤ Sc.sumS ops (i + 1) by omega), hs.trans hdr3.symm, hfw⟩ : _ ∧ _ ∧ _ ∧ _ ∧ _)
            have HSND := hide (fun (W' : World) h1 h2 h3 h4 => sends_any (w4.heap.size + 1) (w4.heap.size + 2) (w4.heap.size + 3) (len + 1) (bs (Lk.En.drain a.toNat e).1) fs A t W' h1 h2 h3 h4 (by omega) (by rw [bs_size]; omega) (by rw [bs_list]; exact hfs) hgood (hpays.mono (by omega)) (by omega) (fun m => by have := hubT m; omega))
            generalize (Lk.En.drain a.toNat e).1 = sent at *
            generalize (Lk.En.drain a.toNat e).2 = e' at *
            clear hW0 hWM hs hfs hgood hpays hWM2 hmass hm1 hm2 hT hdl hdr1 hdr2 hdr3 hubA hubT hBx hstr0 hfw
            go_wp2_with fail
            refine (unhide HD).mono ?_
            rintro r w5 ⟨rfl, d', h1, h2, h3⟩
            obtain ⟨hBx, hW0, hWM2, hs, hfw⟩ := unhide HX
            have hW1 := hW0.call h1 h2 h3
            have HS := hide (unhide HSND w5 hW1.out hW1.all hW1.own hW1.n2)
            have HX2 := hide (⟨hW1, hWM2, hs⟩ : _ ∧ _ ∧ _)
            clear hBx hW0 hWM2 hs hfw h1 h2 h3 hW1 HX HSND HD
            go_wp2_with fail
            refine (unhide HS).mono ?_
            rintro r w6 ⟨rfl, g1, g2, g3, g4⟩
            obtain ⟨hW1, hWM2, hs⟩ := unhide HX2
            have HN := hide (⟨hW1.sent g1 g2 g3 g4, hWM2, hs⟩ : _ ∧ _ ∧ _)
            clear hW1 hWM2 hs g1 g2 g3 g4 HS HX2
            go_wp2_with fail
            go_roundw
            case rel => exact ⟨i + 1, _, _, _, _, _, by omega, by go_num, unhide HN⟩
            case measure => simp [intOf]; omega
          · have n9 : (kd == 9) = false := by simp; omega
            have n15 : (kd == 15) = false := by simp; omega
            have n14 : (kd == 14) = false := by simp; omega
            have HN := hide (⟨hW0, hWM.later (Nat.le_succ i) (show Sc.sumS ops i ≤ Sc.sumS ops (i + 1) by have := unhide hTT; omega), hs⟩ : _ ∧ _ ∧ _)
            clear hW0 hWM hs hBx hstr0 hfw h9 h15 h14
            go_wp2_with fail
            go_roundw
            case rel => exact ⟨i + 1, _, _, _, _, _, by omega, by go_num, unhide HN⟩
            case measure => simp [intOf]; omega
        · have hlt' : ¬ (i : Int) < len := by omega
          have hbel := hW.bel
          have HSB := hide (submit_p eb 0 e d [] nilS ⟨#[]⟩ wr hW.pe hW.fx (World.ownsRow_nil _ _ _ _))
          have hpos := (Lk.submitC_own e [] []).2.2
          have HB : Hid (∀ w' , Only (foot eb d) wr w' → Below w2.heap.size w2 w') := fun w' h => hW.bel.trans (h.toBelow (fun i hi _ => hW.lo i (.inl hi)) hW.bel.size)
          have e0 : (⟨#[]⟩ : ByteArray).data.toList = [] := rfl
          rw [e0] at HSB
          generalize hR : e.submitC [] [] = R at *
          obtain ⟨⟨r1, r2, r3⟩, e'⟩ := R
          simp only at HSB hpos
          clear hW hWM hs HW hR hbel e0
          go_wp2_with fail
          refine (unhide HSB).mono ?_
          rintro r w5 ⟨rfl, d', h1, h2, h3⟩
          have HFIN := hide (unhide HB w5 h3)
          clear h1 h2 h3 HB HSB
          by_cases hr : 0 < r1
          · have hr' : (0 : Int) < r1 := by omega
            clear hpos
            go_wp2_with fail
            go_ret
            exact ⟨rfl, unhide HFIN⟩
          · have hr' : ¬ (0 : Int) < r1 := by omega
            have hr2 : ((r2 : Int) != 0) = true := by
              rcases hpos with h | h
              · exact absurd h hr
              · simp; omega
            clear hpos
            go_wp2_with (go_at_call 18; refine (num_any _ _).mono ?_; rintro e w4 ⟨rfl, rfl⟩)
            go_ret
            exact ⟨rfl, unhide HFIN⟩
end Go.Proofs.YtbkpdapagfjmmaaGreatDoor
