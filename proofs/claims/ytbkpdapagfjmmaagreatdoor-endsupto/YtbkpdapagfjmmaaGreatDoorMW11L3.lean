import Derived.Test.YtbkpdapagfjmmaaGreatDoorMW8W10
import Derived.Deep.RegionHeld
import Derived.Test.YtbkpdapagfjmmaaGreatDoorML1W2
import Derived.Deep.RegionHeld3
import Derived.Deep.DrawnRows
set_option linter.unusedVariables false
set_option maxRecDepth 100000
set_option maxHeartbeats 16000000
namespace Go.Proofs.YtbkpdapagfjmmaaGreatDoor
open Go.RowKit
theorem held_alloc {N : Nat} {m n : Int} {s : ByteArray} {w2 W : World} (h : W.cell? ⟨N, 0, none⟩ = some (.int .i64 m) ∧ W.cell? ⟨N, 1, none⟩ = some (.int .i64 n) ∧ W.cell? ⟨N, 2, none⟩ = some (.string s) ∧ Below w2.heap.size w2 W) (o : Obj) :
    (W.alloc o).cell? ⟨N, 0, none⟩ = some (.int .i64 m) ∧ (W.alloc o).cell? ⟨N, 1, none⟩ = some (.int .i64 n) ∧ (W.alloc o).cell? ⟨N, 2, none⟩ = some (.string s) ∧ Below w2.heap.size w2 (W.alloc o) := by
  obtain ⟨a, b, c, d⟩ := h
  refine ⟨?_, ?_, ?_, d.alloc d.size o⟩
  · rw [World.cell?_alloc_some _ _ _ (by rw [a]; rfl), a]
  · rw [World.cell?_alloc_some _ _ _ (by rw [b]; rfl), b]
  · rw [World.cell?_alloc_some _ _ _ (by rw [c]; rfl), c]
theorem held_below {N : Nat} {m n : Int} {s : ByteArray} {w2 W W' : World} (h : W.cell? ⟨N, 0, none⟩ = some (.int .i64 m) ∧ W.cell? ⟨N, 1, none⟩ = some (.int .i64 n) ∧ W.cell? ⟨N, 2, none⟩ = some (.string s) ∧ Below w2.heap.size w2 W) (hb : Below W.heap.size W W') :
    W'.cell? ⟨N, 0, none⟩ = some (.int .i64 m) ∧ W'.cell? ⟨N, 1, none⟩ = some (.int .i64 n) ∧ W'.cell? ⟨N, 2, none⟩ = some (.string s) ∧ Below w2.heap.size w2 W' := by
  obtain ⟨a, b, c, d⟩ := h
  have hN : N < W.heap.size := World.block_lt_of_cell? W ⟨N, 0, none⟩ a
  exact ⟨(hb.cell (p := ⟨N, 0, none⟩) hN).trans a, (hb.cell (p := ⟨N, 1, none⟩) hN).trans b, (hb.cell (p := ⟨N, 2, none⟩) hN).trans c, d.trans (hb.mono d.size)⟩
theorem held_end {N : Nat} {m n : Int} {s : ByteArray} {w2 W : World} (h : W.cell? ⟨N, 0, none⟩ = some (.int .i64 m) ∧ W.cell? ⟨N, 1, none⟩ = some (.int .i64 n) ∧ W.cell? ⟨N, 2, none⟩ = some (.string s) ∧ Below w2.heap.size w2 W) : Below w2.heap.size w2 W := h.2.2.2
theorem join3 (m n : Nat) (s : ByteArray) (ln lm : Array UInt8) (h1 : Hid ((Lk.wire n).toArray = ln)) (h2 : Hid ((Lk.wire s.size).toArray = lm)) :
    (⟨#[UInt8.ofNat m]⟩ : ByteArray) ++ ⟨ln⟩ ++ ⟨lm⟩ ++ s = ⟨(Lk.packed m n s.data.toList).toArray⟩ := by
  have e : s = ByteArray.mk s.data.toList.toArray := by simp
  have e1 := ByteArray.mk_append_mk [UInt8.ofNat m] (Lk.wire n)
  have e2 := ByteArray.mk_append_mk ([UInt8.ofNat m] ++ Lk.wire n) (Lk.wire s.size)
  have e3 := ByteArray.mk_append_mk ([UInt8.ofNat m] ++ Lk.wire n ++ Lk.wire s.size) s.data.toList
  rw [← uh h1, ← uh h2]
  calc (⟨#[UInt8.ofNat m]⟩ : ByteArray) ++ ⟨(Lk.wire n).toArray⟩ ++ ⟨(Lk.wire s.size).toArray⟩ ++ s
      = (⟨([UInt8.ofNat m] ++ Lk.wire n).toArray⟩ : ByteArray) ++ ⟨(Lk.wire s.size).toArray⟩ ++ s := congrArg (· ++ _ ++ s) e1
    _ = (⟨([UInt8.ofNat m] ++ Lk.wire n ++ Lk.wire s.size).toArray⟩ : ByteArray) ++ s := congrArg (· ++ s) e2
    _ = (⟨([UInt8.ofNat m] ++ Lk.wire n ++ Lk.wire s.size).toArray⟩ : ByteArray) ++ ⟨s.data.toList.toArray⟩ := by rw [← e]
    _ = _ := by rw [e3, Lk.packed, Int.toNat_natCast, Int.toNat_natCast, ← size_list]; simp
theorem refPack_yes (m n : Nat) (s : ByteArray) (w : World) (h7 : m ≤ 7) (hs1 : n ≤ 268435455) (hl : s.size ≤ 64)
    (hsf : Lk.streamFits m n = true) (hf : Lk.lengthFits m s.size = true) (hg : Lk.payloadFits m s.data.toList = true) :
    Calls Tryz.prog 56 #[.agg #[.int .i64 m, .int .i64 n, .string s]] w fun e w' => e = .returned (.tuple #[.string ⟨(Lk.packed m n s.data.toList).toArray⟩, .int .i64 0]) ∧ Below w.heap.size w w' := by
  have hb0 : Below w.heap.size w (w.alloc (.cells #[.int .i64 m, .int .i64 n, .string s] 66)) := (Below.refl _ _).alloc (Nat.le_refl _) _
  have hI0 := Is.new w 66 [.int .i64 m, .int .i64 n, .string s]
  have HS := hide hsf
  have HF := hide hf
  have HG := hide hg
  have hL' : ¬ (64 : Int) < (s.size : Int) := by omega
  clear hsf hf hg
  go_enter Tryz.func56, Tryz.ntmps56
  go_wp2_with fail
  refine (streamFits_any m n _).mono ?_
  rw [uh HS]
  rintro e w1 ⟨rfl, rfl⟩
  go_wp2_with fail
  refine (lengthFits_any m _ _).mono ?_
  rw [uh HF]
  rintro e w1 ⟨rfl, rfl⟩
  go_wp2_with fail
  refine (payloadFits_any m s _ (by omega)).mono ?_
  rw [uh HG]
  rintro e w2 ⟨rfl, hb2⟩
  have hbw2 := hb0.trans (hb2.mono (by simp))
  have hI2 := hI0.below hb2 (by simp)
  have hz := hI2.lt
  obtain ⟨c0, c1, c2⟩ := hI2.three
  clear hb2 hb0 hI0
  have k1 := one_string
  have hwm : IntKind.u8.wrap (m : Int) = m := wraps_u8 _ (by omega) (by omega)
  have k3 := fun W g => cell_string W g (m : Int)
  have hn4 := Lk.wire_len_le4 n hs1
  have hm4 := Lk.wire_len_le4 s.size (by omega)
  generalize hln : (Lk.wire n).toArray = ln
  generalize hlm : (Lk.wire s.size).toArray = lm
  have HLN := hide hln
  have HLM := hide hlm
  have hn5 : ln.size ≤ 4 := by rw [← hln]; simpa using hn4
  have hm5 : lm.size ≤ 4 := by rw [← hlm]; simpa using hm4
  have HN := hide (fun (x : Int) w (h : x = n) => refNumber_any n x w h hs1)
  have HM := hide (fun (x : Int) w (h : x = s.size) => refNumber_any s.size x w h (by omega))
  rw [hln] at HN
  rw [hlm] at HM
  have hz1 : 1 + ln.size ≤ 9223372036854775807 := by omega
  have hz2 : 1 + ln.size + lm.size ≤ 9223372036854775807 := by omega
  have hz3 : 1 + ln.size + lm.size + s.size ≤ 9223372036854775807 := by omega
  clear hln hlm hn4 hm4
  go_wp2_with fail
  go_region_held (fun w' => w'.cell? ⟨w.heap.size, 0, none⟩ = some (.int .i64 m) ∧ w'.cell? ⟨w.heap.size, 1, none⟩ = some (.int .i64 n) ∧ w'.cell? ⟨w.heap.size, 2, none⟩ = some (.string s) ∧ Below w2.heap.size w2 w')
    (first | exact ⟨c0, c1, c2, (Below.refl _ _).drew⟩ | exact held_alloc (by assumption) _ | exact held_below (by assumption) hbn | exact held_below (by assumption) hbm | assumption)
    (first
      | (go_at_call_of 99 (Value.int IntKind.i64 (n : Int)); refine (uh HN _ _ rfl).mono ?_; rintro e wn ⟨rfl, hbn⟩
         have q1 := fun h => cell_later (a := ⟨w2.heap.size, 0, none⟩) (v := .int .u8 (m : Int)) hbn h
         try simp [*, go_sem] at q1
         try (have q2 := fun h => cell_later (a := ⟨wm.heap.size, 0, none⟩) (v := .int .u8 (m : Int)) hbn h
              simp [*, go_sem] at q2))
      | (go_at_call_of 99 (Value.int IntKind.i64 (s.size : Int)); refine (uh HM _ _ rfl).mono ?_; rintro e wm ⟨rfl, hbm⟩
         have q3 := fun h => cell_later (a := ⟨w2.heap.size, 0, none⟩) (v := .int .u8 (m : Int)) hbm h
         try simp [*, go_sem] at q3
         try (have q4 := fun h => cell_later (a := ⟨wn.heap.size, 0, none⟩) (v := .int .u8 (m : Int)) hbm h
              simp [*, go_sem] at q4)))
  all_goals go_wp2_with fail
  all_goals go_ret2
  all_goals exact ⟨ret_pack (join3 m n s ln lm HLN HLM) rfl, hbw2.trans ((held_end (N := w.heap.size) (m := m) (n := n) (s := s) (w2 := w2) (by assumption)).mono hbw2.size)⟩
end Go.Proofs.YtbkpdapagfjmmaaGreatDoor

namespace Go.Proofs.YtbkpdapagfjmmaaGreatDoor
open Go.RowKit
namespace Lk
theorem put_none (B : Nat) (L : List Hd) (h : Hd) (hB : B < h.weight) : put B L h = [] := by
  unfold put
  rw [fit, if_neg (by omega)]
theorem put_take (B : Nat) (L : List Hd) (h : Hd) (k : Nat) (hk : k ≤ L.length) (h1 : weights ((h :: L).take (k + 1)) ≤ B) (h2 : k = L.length ∨ B < weights ((h :: L).take (k + 2))) : put B L h = (h :: L).take (k + 1) :=
  fit_take (h :: L) B (k + 1) (by simpa using hk) h1 (by simpa using h2)
theorem weights_step {l : List Hd} {m : Nat} {x : Hd} (hx : l[m]? = some x) : weights (l.take (m + 1)) = weights (l.take m) + x.weight := by
  rw [List.take_add_one, hx]
  simp [weights_append, weights]
end Lk
structure Putting (w wr : World) (t B : Nat) (L : List Lk.Hd) (h : Lk.Hd) (v m : Value) (k : Nat) : Prop where
  tab : RTab wr t B L v
  box : Is wr w.heap.size 206 [.string (bs h.n), .string (bs h.v)]
  own : wr.ownsRow (w.heap.size + 1) 206 2 m (k + 1) (hdsV ((h :: L).take (k + 1)))
  bel : Below w.heap.size w wr
theorem Putting.drewN {w wr : World} {t B : Nat} {L : List Lk.Hd} {h : Lk.Hd} {v m : Value} {k : Nat} (p : Putting w wr t B L h v m k) (n : Nat) : Putting w (wr.drewN n) t B L h v m k :=
  ⟨⟨p.tab.blk, p.tab.own, p.tab.le, p.tab.hB⟩, p.box, p.own, ⟨p.bel.os, p.bel.tape, p.bel.output, p.bel.size, p.bel.block⟩⟩
def RPut (w : World) (t B : Nat) (L : List Lk.Hd) (h : Lk.Hd) (w' : World) : Prop :=
  (∃ v', RTab w' t B (Lk.put B L h) v' ∧ ∀ k, v'.ownBlock = some k → w.heap.size ≤ k) ∧ Turns t w w'
theorem Putting.done {w wr : World} {t B : Nat} {L : List Lk.Hd} {h : Lk.Hd} {v m : Value} {k : Nat} (p : Putting w wr t B L h v m k) (hp : Lk.put B L h = (h :: L).take (k + 1)) (hk : k ≤ L.length) :
    RPut w t B L h (wr.setCell ⟨t, 1, none⟩ m) := by
  have ho := p.own.kept (grownBy_set wr t 1 m) (.inr (fun e => own_ne p.own p.tab.blk (nbq rfl) e.symm))
  refine ⟨⟨m, ⟨p.tab.blk.set 1 m, ?_, by rw [hp]; have := Lk.put_weights B L h; rw [hp] at this; exact this, p.tab.hB⟩, fun q hq => by have := (p.own.lt q hq).1; omega⟩, ((Turns.refl t w).below p.bel).set 1 m⟩
  rw [hp]
  have e : ((h :: L).take (k + 1)).length = k + 1 := by rw [List.length_take]; simp; omega
  rw [e]
  exact own_base0 ho
theorem Putting.nil' {w wr : World} {t B : Nat} {L : List Lk.Hd} {h : Lk.Hd} {v m : Value} {k : Nat} (p : Putting w wr t B L h v m k) (hp : Lk.put B L h = []) :
    RPut w t B L h (wr.setCell ⟨t, 1, none⟩ (.slice none 0 0)) := by
  refine ⟨⟨.slice none 0 0, ⟨p.tab.blk.set 1 _, by rw [hp]; exact World.ownsRow_nil _ _ _ _, by rw [hp]; simp [Lk.weights], p.tab.hB⟩, fun q hq => by simp [Value.ownBlock] at hq⟩, ((Turns.refl t w).below p.bel).set 1 _⟩
theorem Putting.step {w wr w' : World} {t B k n : Nat} {L : List Lk.Hd} {h x : Lk.Hd} {v m v' : Value} (p : Putting w wr t B L h v m k) (hx : L[k]? = some x)
    (hg : ((wr.drewN n).alloc (.cells #[.string (bs x.n), .string (bs x.v)] 206)).grownBy w' m.ownBlock) (ho : w'.ownsRow (w.heap.size + 1) 206 2 v' (k + 1 + 1) (hdsV ((h :: L).take (k + 1)) ++ hdV x)) (hv : v.ownBlock = none ∨ v.ownBlock ≠ m.ownBlock := by assumption) : Putting w w' t B L h v v' (k + 1) := by
  have q := p.drewN n
  have hs := q.bel.size
  have hg1 : ∀ j, m.ownBlock = some j → w.heap.size + 1 ≤ j := fun j hj => (p.own.lt j hj).1
  have hT := q.tab.alloc (.cells #[.string (bs x.n), .string (bs x.v)] 206)
  have hO := q.own.alloc (.cells #[.string (bs x.n), .string (bs x.v)] 206)
  refine ⟨⟨hT.blk.grown hg (own_ne hO hT.blk (nbq rfl)), hT.own.kept hg hv, hT.le, hT.hB⟩, (q.box.alloc _).grown hg (fun e => by have := hg1 _ e.symm; omega), ?_, (q.bel.alloc hs _).grown hg (by have := p.bel.size; simp; omega) (fun j hj => by have := hg1 j hj; omega)⟩
  have e : (h :: L).take (k + 1 + 1) = (h :: L).take (k + 1) ++ [x] := by
    rw [List.take_add_one]
    simp [hx]
  rw [e, hdsV_append]
  simpa [hdsV] using ho
theorem rput_any (t B : Nat) (L : List Lk.Hd) (h : Lk.Hd) (v : Value) (w : World) (hT : RTab w t B L v) (hn : h.n.length ≤ 300) (hv : h.v.length ≤ 300) :
    Calls Tryz.prog 151 #[.pointer (some ⟨t, 0, none⟩), hdA h] w fun e w' => e = .returned (.tuple #[]) ∧ RPut w t B L h w' := by
  obtain ⟨i, hi, hz0, hz1, hz2⟩ := info_parts info_rh
  have hL := hT.len
  have hB := hT.hB
  obtain ⟨a, cap, hvf⟩ := hT.form
  subst hvf
  have zn := bs_size h.n
  have zv := bs_size h.v
  have hwh : h.weight = h.n.length + h.v.length + 4 := rfl
  have hwL := hT.le
  have HWH := hide hwh
  have hP0 : Putting w ((w.alloc (.cells #[.string (bs h.n), .string (bs h.v)] 206)).alloc (.cells #[.string (bs h.n), .string (bs h.v)] 206)) t B L h (.slice a L.length cap) (.slice (some ⟨w.heap.size + 1, 0, none⟩) 1 1) 0 := by
    refine ⟨(hT.alloc _).alloc _, (Is.new w _ _).alloc _, ?_, ((Below.refl _ _).alloc (Nat.le_refl _) _).alloc (by simp) _⟩
    have := built_h1 (w.alloc (.cells #[.string (bs h.n), .string (bs h.v)] 206)) 206 h
    simpa [hdsV] using this
  have HP0 := hide hP0
  have HV := hide (fun q (hq : (Value.slice a L.length cap).ownBlock = some q) => (hT.own.lt q hq).2)
  clear hT hP0 hwh
  go_enter Tryz.func151, Tryz.ntmps151
  go_wp2_with fail
  go_loopw [4, 5, 6] (fun m s u wr => ∃ k : Nat, u = .int .i64 k ∧ k ≤ L.length ∧ s = .int .i64 (Lk.weights ((h :: L).take (k + 1)) : Nat) ∧ (k = 0 ∨ Lk.weights ((h :: L).take (k + 1)) ≤ B) ∧ Putting w wr t B L h (.slice a L.length cap) m k) (fun _ _ u _ => L.length - (intOf u).toNat)
  case atStart =>
    refine ⟨0, rfl, by omega, ?_, .inl rfl, uh HP0⟩
    have := uh HWH
    simp [Lk.weights]
    omega
  case round =>
    obtain ⟨k, rfl, hk, rfl, hok, hP⟩ := hrel
    obtain ⟨ma, mc, hm⟩ := row_form hP.own
    have HVM := hide (show (Value.slice a L.length cap).ownBlock = Option.none ∨ (Value.slice a L.length cap).ownBlock ≠ u4.ownBlock from by
      cases hv : (Value.slice a L.length cap).ownBlock with
      | none => exact .inl rfl
      | some q =>
        right
        intro e
        have h1 := (uh HV) q hv
        have h2 := (hP.own.lt q e.symm).1
        omega)
    subst hm
    have hsz := hP.bel.size
    have t0 := hP.tab.blk.cell 0
    have t1 := hP.tab.blk.cell 1
    have tf := hP.tab.blk.free 1
    have b0 := hP.box.cell 0
    have b1 := hP.box.cell 1
    simp only [List.getElem?_cons_zero, List.getElem?_cons_succ] at t0 t1 b0 b1
    have htl := hP.tab.blk.lt
    have hbl := hP.box.lt
    have hws : Lk.weights ((h :: L).take (k + 1)) ≤ 1000 := by
      have h1 := Lk.weights_take_le (h :: L) (k + 1)
      have h2 := uh HWH
      simp only [Lk.weights] at h1
      omega
    by_cases hlt : k < L.length
    · have hlt' : (k : Int) < L.length := by omega
      obtain ⟨x, hx⟩ : ∃ x, L[k]? = some x := ⟨_, List.getElem?_eq_getElem hlt⟩
      obtain ⟨g, cap', hform, hg, a0, a1⟩ := hP.tab.at' hx
      cases hform
      have zx := bs_size x.n
      have zy := bs_size x.v
      have hxw := Lk.weights_mem (List.mem_of_getElem? hx)
      have hxe : x.weight = x.n.length + x.v.length + 4 := rfl
      have hst := Lk.weights_step (l := h :: L) (m := k + 1) (x := x) (by simpa using hx)
      have hxn : x.n.length ≤ 300 := by omega
      have hxv : x.v.length ≤ 300 := by omega
      have HST := hide (show ((Lk.weights ((h :: L).take (k + 1)) : Nat) : Int) + x.n.length + x.v.length + 4 = (Lk.weights ((h :: L).take (k + 2)) : Nat) by rw [hst]; omega)
      have HX := hide hx
      have HP := hide hP
      have HOK := hide hok
      clear hx hxw hxe hst hP hok
      generalize hW1 : Lk.weights ((h :: L).take (k + 1)) = W1 at *
      have HW1 := hide hW1
      clear hW1
      by_cases hgt : (B : Int) < (W1 : Int) + x.n.length + x.v.length + 4
      · go_wp2_with fail
        go_quiet (fail)
        by_cases hhw : (B : Int) < h.n.length + h.v.length + 4
        · go_wp2_with fail
          go_quiet (fail)
          go_wp2_with fail
          go_end0
          exact ⟨rfl, Putting.nil' ((uh HP).drewN _) (Lk.put_none B L h (by have := uh HWH; omega))⟩
        · go_wp2_with fail
          go_quiet (fail)
          go_wp2_with fail
          go_end0
          refine ⟨rfl, Putting.done ((uh HP).drewN _) (Lk.put_take B L h k hk ?_ ?_) hk⟩
          · have hwh := uh HWH
            rcases uh HOK with h0 | h0
            · subst h0
              simp [Lk.weights]
              omega
            · rw [uh HW1]; exact h0
          · right; have := uh HST; have h2 := uh HW1; omega
      · go_wp2_with fail
        go_quiet (fail)
        go_wp2_with (at_builtin; refine wpList_append_own _ rfl _ _ 154 rfl (w.heap.size + 1) 206 i _ 2 32 Tryz.underlying154 hi hz0 hz1 hz2 rfl (by decide) _ (k + 1) (hdsV ((h :: L).take (k + 1))) rfl (((uh HP).drewN _).own.alloc _) ⟨wr.heap.size, 0, none⟩ 1 1 (hdV x) rfl rfl ?hnews ?h1 ?h63 ?hby ?hba ?_)
        case hnews => exact row_cells (built_h1 _ _ x)
        case h1 => simp [hdV, Value.oneCell']
        case h63 => unfold maxLen; omega
        case hby => omega
        case hba => first | omega | (simp; omega)
        intro v' w' ho' hg' hn'
        have hP2 : Putting w w' t B L h (.slice (some ⟨g, 0, none⟩) L.length cap) v' (k + 1) := Putting.step (uh HP) (uh HX) hg' ho' (uh HVM)
        have HP2 := hide hP2
        clear hP2 ho' hg'
        go_wp2_with fail
        go_roundw
        case rel =>
          have e2 : ((W1 : Nat) : Int) + x.n.length + x.v.length + 4 = (Lk.weights ((h :: L).take (k + 1 + 1)) : Nat) := uh HST
          refine ⟨k + 1, by simp, by omega, ?_, .inr ?_, uh HP2⟩
          · simp only [Value.int.injEq, true_and]
            omega
          · omega
        case measure => simp [intOf]; omega
    · have hlt' : ¬ (k : Int) < L.length := by omega
      have HP := hide hP
      have HOK := hide hok
      clear hP hok
      generalize hW1 : Lk.weights ((h :: L).take (k + 1)) = W1 at *
      have HW1 := hide hW1
      clear hW1
      by_cases hhw : (B : Int) < h.n.length + h.v.length + 4
      · go_wp2_with fail
        go_quiet (fail)
        go_wp2_with fail
        go_end0
        exact ⟨rfl, Putting.nil' ((uh HP).drewN _) (Lk.put_none B L h (by have := uh HWH; omega))⟩
      · go_wp2_with fail
        go_quiet (fail)
        go_wp2_with fail
        go_end0
        refine ⟨rfl, Putting.done ((uh HP).drewN _) (Lk.put_take B L h k hk ?_ ?_) hk⟩
        · have hwh := uh HWH
          rcases uh HOK with h0 | h0
          · subst h0
            simp [Lk.weights]
            omega
          · rw [uh HW1]; exact h0
        · left; omega
end Go.Proofs.YtbkpdapagfjmmaaGreatDoor

namespace Go.Proofs.YtbkpdapagfjmmaaGreatDoor
open Go.RowKit
attribute [local go_sem ↓] Go.wp_at_zero Go.wp_at_succ
theorem bs_append (a b : Lk.Bs) : bs a ++ bs b = bs (a ++ b) := by
  apply ByteArray.ext
  simp [bs]
theorem bs_toList (a : Lk.Bs) : (bs a).toList = a := by rw [ByteArray.toList_eq]; simp [bs]
theorem bs_beq (a b : Lk.Bs) : ((bs a).toList == (bs b).toList) = decide (a = b) := by
  rw [bs_toList, bs_toList, Bool.eq_iff_iff]
  simp
theorem rnumber_at (n : Nat) (z : Int) (w : World) (hz : z = n) (hn : n ≤ 268435455) : Calls Tryz.prog 99 #[.int .i64 z] w fun e w' => e = .returned (.string (bs (Lk.wire n))) ∧ Below w.heap.size w w' :=
  refNumber_any n z w hz hn
theorem wrap_num (R : Nat) (h : R ≤ 100) : IntKind.i64.wrap (IntKind.i64.wrap (2 * IntKind.i64.wrap ((R : Int) + 1)) + 1) = ((2 * (R + 1) + 1 : Nat) : Int) := by
  rw [wraps_i64 ((R : Int) + 1) (by omega) (by omega), wraps_i64 (2 * ((R : Int) + 1)) (by omega) (by omega), wraps_i64 _ (by omega) (by omega)]
  omega
theorem rtext_any (l : Lk.Bs) (w : World) (hl : l.length ≤ 300) : Calls Tryz.prog 152 #[.string (bs l)] w fun e w' => e = .returned (.string (bs (Lk.text l))) ∧ Below w.heap.size w w' := by
  have hsz := bs_size l
  have hw4 := Lk.wire_len_le4 l.length (by omega)
  have hs2 := bs_size (Lk.wire l.length)
  have hadd : (Lk.wire l.length).length + l.length ≤ 9223372036854775807 := by omega
  generalize hW : bs (Lk.wire l.length) = W at hs2
  have HW := hide hW
  clear hW
  go_enter Tryz.func152, Tryz.ntmps152
  go_wp2_with fail
  refine (rnumber_at l.length _ _ (by rfl) (by omega)).mono ?_
  rintro e w1 ⟨he, hb⟩
  rw [uh HW] at he
  subst he
  go_wp2_with fail
  go_ret
  refine ⟨ret_string ?_, hb⟩
  rw [← uh HW, bs_append]
  rfl
def Looked (h : Lk.Hd) (E : List Lk.Hd) (k : Nat) (z : Int) : Prop :=
  (z = -1 ∧ ∀ j, k ≤ j → ∀ x, E[j]? = some x → Lk.sameName h x = false) ∨
  ∃ m : Nat, z = m ∧ k ≤ m ∧ (∃ x, E[m]? = some x ∧ Lk.sameName h x = true) ∧ ∀ j, k ≤ j → j < m → ∀ x, E[j]? = some x → Lk.sameName h x = false
theorem Looked.no {h x : Lk.Hd} {E : List Lk.Hd} {k : Nat} {z : Int} (hl : Looked h E (k + 1) z) (hx : E[k]? = some x) (hq : Lk.sameName h x = false) : Looked h E k z := by
  rcases hl with ⟨h1, h2⟩ | ⟨m, h1, h2, h3, h4⟩
  · refine .inl ⟨h1, fun j hj y hy => ?_⟩
    rcases Nat.eq_or_lt_of_le hj with rfl | hj
    · rw [hx] at hy; cases hy; exact hq
    · exact h2 j hj y hy
  · refine .inr ⟨m, h1, by omega, h3, fun j hj hm y hy => ?_⟩
    rcases Nat.eq_or_lt_of_le hj with rfl | hj
    · rw [hx] at hy; cases hy; exact hq
    · exact h4 j hj hm y hy
theorem Looked.yes {h x : Lk.Hd} {E : List Lk.Hd} {k : Nat} (hx : E[k]? = some x) (hq : Lk.sameName h x = true) : Looked h E k k :=
  .inr ⟨k, rfl, Nat.le_refl _, ⟨x, hx, hq⟩, fun j h1 h2 => by omega⟩
theorem Looked.end {h : Lk.Hd} {E : List Lk.Hd} {z : Int} (hl : Looked h E 0 z) : z = if Lk.low (Lk.sameName h) E < E.length then (Lk.low (Lk.sameName h) E : Int) else -1 := by
  rcases hl with ⟨h1, h2⟩ | ⟨m, h1, h2, h3, h4⟩
  · have e : Lk.low (Lk.sameName h) E = E.length := Lk.low_of _ _ _ (fun j hj => ⟨_, List.getElem?_eq_getElem hj, h2 j (by omega) _ (List.getElem?_eq_getElem hj)⟩) (.inl rfl)
    rw [e, if_neg (by omega), h1]
  · obtain ⟨x, hx, hq⟩ := h3
    have hm := (List.getElem?_eq_some_iff.1 hx).1
    have e : Lk.low (Lk.sameName h) E = m := Lk.low_of _ _ _ (fun j hj => ⟨_, List.getElem?_eq_getElem (by omega), h4 j (by omega) hj _ (List.getElem?_eq_getElem (by omega))⟩) (.inr ⟨x, hx, hq⟩)
    rw [e, if_pos hm, h1]
theorem rone_any (t B : Nat) (L : List Lk.Hd) (h : Lk.Hd) (v : Value) (w : World) (hT : RTab w t B L v) (hn : h.n.length ≤ 16) (hv : h.v.length ≤ 32) (S : Lk.Bs) (L2 : List Lk.Hd) (HS : Hid (Lk.oneP B L h = (S, L2))) :
    Calls Tryz.prog 102 #[.pointer (some ⟨t, 0, none⟩), hdA h] w fun e w' => e = .returned (.string (bs S)) ∧ (∃ v', RTab w' t B L2 v' ∧ (v' = v ∨ ∀ k, v'.ownBlock = some k → w.heap.size ≤ k)) ∧ Turns t w w' := by
  have hEl := Lk.ents_len L
  have hLl := hT.len
  generalize hE : Lk.ents L = E at hEl
  have HE := hide hE
  have HEL := hide hEl
  have hN : E.length ≤ 54 := by omega
  have hN4 : 4 ≤ E.length := by omega
  have HT0 := hide (hT.alloc (.cells #[.string (bs h.n), .string (bs h.v)] 206))
  have HX0 := hide (Is.new w 206 [.string (bs h.n), .string (bs h.v)])
  have hb0 := (Below.refl w.heap.size w).alloc (Nat.le_refl _) (.cells #[.string (bs h.n), .string (bs h.v)] 206)
  have hlt0 := hT.blk.lt
  clear hE hEl hT
  go_enter Tryz.func102, Tryz.ntmps102
  go_wp2_with fail
  refine (rall_any t B L v _ (uh HT0)).mono ?_
  rintro e w1 ⟨v1, rfl, ho1, hb1⟩
  rw [uh HE] at ho1
  obtain ⟨g, cap, hv1, hgB, hgl⟩ := ho1.form (by omega)
  subst hv1
  have hT1 := (uh HT0).below hb1
  have hX1 := (uh HX0).below hb1 (by simp)
  have hbel1 := hb0.trans (hb1.mono (by simp))
  have b0 := hX1.cell 0
  have b1 := hX1.cell 1
  simp only [List.getElem?_cons_zero, List.getElem?_cons_succ] at b0 b1
  have hXl := hX1.lt
  have HT1 := hide hT1
  have HX1 := hide hX1
  have HO1 := hide ho1
  clear hT1 hX1 ho1 hb1 hb0 HT0 HX0
  generalize hNN : E.length = N at *
  have HNN := hide hNN
  clear hNN
  go_wp2_with fail
  go_loopw [6, 7] (fun s u wr => ∃ (k n : Nat) (z : Int), u = .int .i64 ((k : Int) - 1) ∧ k ≤ N ∧ s = .int .i64 z ∧ -1 ≤ z ∧ z ≤ 60 ∧ Hid (Looked h E k z) ∧ wr = w1.drewN n) (fun _ u _ => (intOf u + 1).toNat)
  case atStart =>
    refine ⟨N, 0, -1, by simp, by omega, rfl, by omega, by omega, .inl ⟨rfl, fun j hj x hx => ?_⟩, rfl⟩
    have := (List.getElem?_eq_some_iff.1 hx).1
    have h2 := uh HNN
    omega
  case round =>
    obtain ⟨k, nd, z, rfl, hk, rfl, hz1, hz2, HLk, rfl⟩ := hrel
    cases k with
    | succ k =>
      obtain ⟨x, hx⟩ : ∃ x, E[k]? = some x := ⟨_, List.getElem?_eq_getElem (by have := uh HNN; omega)⟩
      obtain ⟨_, x0, x1⟩ := row_at2 (uh HO1) hx
      have hkI : (0 : Int) ≤ k := by omega
      have hkN : (k : Int) < N := by omega
      have hkz : (((k + 1 : Nat) : Int) - 1) = k := by omega
      rw [hkz]
      have hqe := bs_beq x.n h.n
      have HX := hide hx
      clear hx hkz
      cases hq : decide (x.n = h.n) with
      | false =>
        rw [hq] at hqe
        have HQ := hide (show Lk.sameName h x = false from hq)
        clear hq
        go_wp2_with fail
        go_quiet (fail)
        go_wp2_with fail
        refine ⟨⟨k, _, z, rfl, by omega, rfl, hz1, hz2, hide ((uh HLk).no (uh HX) (uh HQ)), rfl⟩, ?_⟩
        simp only [intOf]
        omega
      | true =>
        rw [hq] at hqe
        have HQ := hide (show Lk.sameName h x = true from hq)
        clear hq
        go_wp2_with fail
        go_quiet (fail)
        go_wp2_with fail
        refine ⟨⟨k, _, k, rfl, by omega, rfl, by omega, by omega, hide (Looked.yes (uh HX) (uh HQ)), rfl⟩, ?_⟩
        simp only [intOf]
        omega
    | zero =>
      have hze := (uh HLk).end
      rw [uh HNN] at hze
      generalize hR2 : Lk.low (Lk.sameName h) E = R2 at hze
      have HR2 := hide hR2
      have HZE := hide hze
      clear hR2 hze
      have h00 : ((0 : Nat) : Int) - 1 = -1 := rfl
      rw [h00]
      go_wp2_with fail
      go_loopw [8] (fun u wr => ∃ (k n : Nat), u = .int .i64 k ∧ k ≤ N ∧ Hid (∀ j, j < k → ∃ x, E[j]? = some x ∧ Lk.sameHd h x = false) ∧ wr = w1.drewN n) (fun u _ => N - (intOf u).toNat)
      case atStart => exact ⟨0, nd, rfl, by omega, fun j hj => by omega, rfl⟩
      case round =>
        obtain ⟨k, nk, rfl, hk, HK, rfl⟩ := hrel
        by_cases hlt : k < N
        · have hlt' : (k : Int) < N := by omega
          obtain ⟨x, hx⟩ : ∃ x, E[k]? = some x := ⟨_, List.getElem?_eq_getElem (by have := uh HNN; omega)⟩
          obtain ⟨_, x0, x1⟩ := row_at2 (uh HO1) hx
          have hqe := bs_beq x.n h.n
          have hqv := bs_beq x.v h.v
          have HX := hide hx
          clear hx
          cases hq : decide (x.n = h.n) with
          | false =>
            rw [hq] at hqe
            have HQ := hide (show Lk.sameHd h x = false by unfold Lk.sameHd; rw [hq]; rfl)
            clear hq hqv
            go_wp2_with fail
            go_quiet (fail)
            go_wp2_with fail
            go_roundw
            case rel =>
              refine ⟨k + 1, _, by simp, by omega, fun j hj => ?_, rfl⟩
              rcases Nat.lt_succ_iff_lt_or_eq.1 hj with hj | rfl
              · exact uh HK j hj
              · exact ⟨x, uh HX, uh HQ⟩
            case measure => simp [intOf]; omega
          | true =>
            cases hq2 : decide (x.v = h.v) with
            | false =>
              rw [hq] at hqe
              rw [hq2] at hqv
              have HQ := hide (show Lk.sameHd h x = false by unfold Lk.sameHd; rw [hq, hq2]; rfl)
              clear hq hq2
              go_wp2_with fail
              go_quiet (fail)
              go_wp2_with fail
              go_roundw
              case rel =>
                refine ⟨k + 1, _, by simp, by omega, fun j hj => ?_, rfl⟩
                rcases Nat.lt_succ_iff_lt_or_eq.1 hj with hj | rfl
                · exact uh HK j hj
                · exact ⟨x, uh HX, uh HQ⟩
              case measure => simp [intOf]; omega
            | true =>
              rw [hq] at hqe
              rw [hq2] at hqv
              have hlow := Lk.low_of (Lk.sameHd h) E k (uh HK) (.inr ⟨x, uh HX, by unfold Lk.sameHd; rw [hq, hq2]; rfl⟩)
              have hone : (S, L2) = (Lk.wire (2 * k), L) := by
                rw [← uh HS]
                unfold Lk.oneP
                rw [uh HE, hlow, uh HNN, if_pos hlt]
              cases hone
              clear hq hq2 hlow
              go_wp2_with fail
              go_quiet (fail)
              go_wp2_with fail
              refine (rnumber_at (2 * k) _ _ (by first | rfl | (simp; done) | omega) (by omega)).mono ?_
              rintro e w2 ⟨rfl, hb2⟩
              go_wp2_with fail
              go_ret
              have hb2' : Below w1.heap.size w1 w2 := ⟨hb2.os, hb2.tape, hb2.output, hb2.size, hb2.block⟩
              exact ⟨rfl, ⟨v, (uh HT1).below hb2', .inl rfl⟩, (Below.turns hbel1 t).below hb2'⟩
        · have hlt' : ¬ (k : Int) < N := by omega
          have hkN : k = N := by omega
          have hlow := Lk.low_of (Lk.sameHd h) E k (uh HK) (.inl (by have := uh HNN; omega))
          have HT2 := hide (show RTab (w1.drewN nk) t B L v from ⟨(uh HT1).blk, (uh HT1).own, (uh HT1).le, (uh HT1).hB⟩)
          go_wp2_with fail
          refine (rput_any t B L h v _ (uh HT2) (by omega) (by omega)).mono ?_
          rintro e w2 ⟨rfl, ⟨v2, hT2, hv2⟩, hTu2⟩
          have hTu2' : Turns t w1 w2 := ⟨hTu2.os, hTu2.tape, hTu2.output, hTu2.size, hTu2.block⟩
          have hX2 := (uh HX1).grown hTu2' (fun e => (uh HX1).ne (uh HT1).blk (nbq rfl) (by simpa using e))
          have b0 := hX2.cell 0
          have b1 := hX2.cell 1
          simp only [List.getElem?_cons_zero, List.getElem?_cons_succ] at b0 b1
          have hX2l := hX2.lt
          have hTT := (Below.turns hbel1 t).trans hTu2'
          have hv2' : ∀ q, v2.ownBlock = some q → w.heap.size ≤ q := fun q hq => by have := hv2 q hq; have h2 := hbel1.size; simp at this; omega
          have HT3 := hide hT2
          have HV3 := hide hv2'
          clear hT2 hv2 hTu2 hTu2' hX2 hv2' HT2
          have hwv := Lk.wire_len_le4 h.v.length (by omega)
          have htv : (Lk.text h.v).length ≤ 40 := by unfold Lk.text; rw [List.length_append]; omega
          have hwn := Lk.wire_len_le4 h.n.length (by omega)
          have htn : (Lk.text h.n).length ≤ 40 := by unfold Lk.text; rw [List.length_append]; omega
          have hze := uh HZE
          by_cases hR : R2 < N
          · rw [if_pos hR] at hze
            have hone : (S, L2) = (Lk.wire (2 * (R2 + 1) + 1) ++ Lk.text h.v, Lk.put B L h) := by
              rw [← uh HS]
              unfold Lk.oneP
              rw [uh HE, hlow, uh HNN, uh HR2, if_neg (by omega), if_pos hR]
            cases hone
            subst hze
            have hw4 := Lk.wire_len_le4 (2 * (R2 + 1) + 1) (by omega)
            have HC1 := hide (fun z w hz => rnumber_at (2 * (R2 + 1) + 1) z w hz (by omega))
            have HC2 := hide (fun w => rtext_any h.v w (by omega))
            have s1 := bs_size (Lk.wire (2 * (R2 + 1) + 1))
            have s2 := bs_size (Lk.text h.v)
            have hres := bs_append (Lk.wire (2 * (R2 + 1) + 1)) (Lk.text h.v)
            generalize bs (Lk.wire (2 * (R2 + 1) + 1)) = W1 at *
            generalize bs (Lk.text h.v) = W2 at *
            have hadd : W1.size + W2.size ≤ 9223372036854775807 := by omega
            have HRES := hide hres
            clear s1 s2 hres hw4 hwv htv hwn htn hlow
            go_wp2_with fail
            go_region_with (first
              | (go_at_call 99; refine (uh HC1 _ _ (wrap_num R2 (by omega))).mono ?_; rintro e wx ⟨rfl, hbx⟩; have g1 := call_keeps hbx (b := w.heap.size) (k := 1) (v := .string (bs h.v)) (by simpa using hX2l) (by simpa using b1))
              | (go_at_call 152; refine (uh HC2 _).mono ?_; rintro e wy ⟨rfl, hby⟩))
            all_goals
              go_wp2_with fail
              go_ret
              first
                | (have hbb : Below w2.heap.size w2 wy := Below.trans ⟨hbx.os, hbx.tape, hbx.output, hbx.size, hbx.block⟩ (hby.mono hbx.size)
                   exact ⟨ret_string (uh HRES), ⟨v2, (uh HT3).below hbb, .inr (uh HV3)⟩, hTT.below hbb⟩)
                | (have hbb : Below w2.heap.size w2 wx := Below.trans ⟨hby.os, hby.tape, hby.output, hby.size, hby.block⟩ (hbx.mono hby.size)
                   exact ⟨ret_string (uh HRES), ⟨v2, (uh HT3).below hbb, .inr (uh HV3)⟩, hTT.below hbb⟩)
          · rw [if_neg hR] at hze
            have hone : (S, L2) = (Lk.wire 1 ++ Lk.text h.n ++ Lk.text h.v, Lk.put B L h) := by
              rw [← uh HS]
              unfold Lk.oneP
              rw [uh HE, hlow, uh HNN, uh HR2, if_neg (by omega), if_neg hR]
            cases hone
            subst hze
            have hw4 := Lk.wire_len_le4 1 (by omega)
            have HC1 := hide (fun w => rnumber_at 1 1 w rfl (by omega))
            have HC2 := hide (fun w => rtext_any h.n w (by omega))
            have HC3 := hide (fun w => rtext_any h.v w (by omega))
            have s1 := bs_size (Lk.wire 1)
            have s2 := bs_size (Lk.text h.n)
            have s3 := bs_size (Lk.text h.v)
            have hres := bs_append (Lk.wire 1 ++ Lk.text h.n) (Lk.text h.v)
            rw [← bs_append (Lk.wire 1) (Lk.text h.n)] at hres
            generalize bs (Lk.wire 1) = W1 at *
            generalize bs (Lk.text h.n) = W2 at *
            generalize bs (Lk.text h.v) = W3 at *
            have hadd : W1.size + W2.size ≤ 9223372036854775807 := by omega
            have hadd2 : W1.size + W2.size + W3.size ≤ 9223372036854775807 := by omega
            have HRES := hide hres
            clear s1 s2 s3 hres hw4 hwv htv hwn htn hlow
            go_wp2_with fail
            go_region_with (first
              | (go_at_call 99; refine (uh HC1 _).mono ?_; rintro e wx ⟨rfl, hbx⟩; have g0 := call_keeps hbx (b := w.heap.size) (k := 0) (v := .string (bs h.n)) (by simpa using hX2l) (by simpa using b0); have g1 := call_keeps hbx (b := w.heap.size) (k := 1) (v := .string (bs h.v)) (by simpa using hX2l) (by simpa using b1); have gl := call_lt hbx (b := w.heap.size) (by simpa using hX2l))
              | (go_at_call_of 152 (Value.string (bs h.n)); refine (uh HC2 _).mono ?_; rintro e wy ⟨rfl, hby⟩; have g2 := call_keeps hby (b := w.heap.size) (k := 1) (v := .string (bs h.v)) gl g1)
              | (go_at_call_of 152 (Value.string (bs h.v)); refine (uh HC3 _).mono ?_; rintro e wz ⟨rfl, hbz⟩))
            all_goals
              go_wp2_with fail
              go_ret
              have hbb : Below w2.heap.size w2 wz := undrewB ((hbx.trans (hby.mono hbx.size)).trans (hbz.mono (Nat.le_trans hbx.size hby.size)))
              exact ⟨ret_string (uh HRES), ⟨v2, (uh HT3).below hbb, .inr (uh HV3)⟩, hTT.below hbb⟩
end Go.Proofs.YtbkpdapagfjmmaaGreatDoor
