/-
  Walks: the document's put.
-/
import Derived.Test.YtbkpdapagfjmmaaGreatDoorL1
namespace Go.Proofs.YtbkpdapagfjmmaaGreatDoor
open Go.RowKit

namespace Lk
theorem put_none (B : Nat) (L : List Hd) (h : Hd) (hB : B < h.weight) : put B L h = [] := by
  unfold put
  rw [fit, if_neg (by omega)]
theorem put_take (B : Nat) (L : List Hd) (h : Hd) (k : Nat) (hk : k ≤ L.length) (h1 : weights ((h :: L).take (k + 1)) ≤ B) (h2 : k = L.length ∨ B < weights ((h :: L).take (k + 2))) : put B L h = (h :: L).take (k + 1) :=
  fit_take (h :: L) B (k + 1) (by simpa using hk) h1 (by simpa using h2)
theorem weights_step {l : List Hd} {m : Nat} {x : Hd} (hx : l[m]? = some x) : weights (l.take (m + 1)) = weights (l.take m) + x.weight := by
  rw [List.take_add_one, hx]
  simp [weights_append, weights]
end Lk

/-- While the document puts in: so far k of the others have come behind it. -/
structure Putting (w wr : World) (t B : Nat) (L : List Lk.Hd) (h : Lk.Hd) (v m : Value) (k : Nat) : Prop where
  tab : RTab wr t B L v
  box : Is wr w.heap.size 206 [.string (bs h.n), .string (bs h.v)]
  own : wr.ownsRow (w.heap.size + 1) 206 2 m (k + 1) (hdsV ((h :: L).take (k + 1)))
  bel : Below w.heap.size w wr

theorem Putting.drewN {w wr : World} {t B : Nat} {L : List Lk.Hd} {h : Lk.Hd} {v m : Value} {k : Nat} (p : Putting w wr t B L h v m k) (n : Nat) : Putting w (wr.drewN n) t B L h v m k :=
  ⟨⟨p.tab.blk, p.tab.own, p.tab.le, p.tab.hB⟩, p.box, p.own, ⟨p.bel.os, p.bel.tape, p.bel.output, p.bel.size, p.bel.block⟩⟩

/-- What is left behind it. -/
def RPut (w : World) (t B : Nat) (L : List Lk.Hd) (h : Lk.Hd) (w' : World) : Prop :=
  (∃ v', RTab w' t B (Lk.put B L h) v' ∧ ∀ k, v'.ownBlock = some k → w.heap.size ≤ k) ∧ Turns t w w'

theorem Putting.done {w wr : World} {t B : Nat} {L : List Lk.Hd} {h : Lk.Hd} {v m : Value} {k : Nat} (p : Putting w wr t B L h v m k) (hp : Lk.put B L h = (h :: L).take (k + 1)) (hk : k ≤ L.length) :
    RPut w t B L h (wr.setCell ⟨t, 1, none⟩ m) := by
  have ho := p.own.kept (grownBy_set wr t 1 m) (.inr (fun e => own_ne p.own p.tab.blk (Nat.ne_of_beq_eq_false rfl) e.symm))
  refine ⟨⟨m, ⟨p.tab.blk.set 1 m, ?_, by rw [hp]; have := Lk.put_weights B L h; rw [hp] at this; exact this, p.tab.hB⟩, fun q hq => by have := (p.own.lt q hq).1; omega⟩, ((Turns.refl t w).below p.bel).set 1 m⟩
  rw [hp]
  have e : ((h :: L).take (k + 1)).length = k + 1 := by rw [List.length_take]; simp; omega
  rw [e]
  exact own_base0 ho
theorem Putting.nil' {w wr : World} {t B : Nat} {L : List Lk.Hd} {h : Lk.Hd} {v m : Value} {k : Nat} (p : Putting w wr t B L h v m k) (hp : Lk.put B L h = []) :
    RPut w t B L h (wr.setCell ⟨t, 1, none⟩ (.slice none 0 0)) := by
  refine ⟨⟨.slice none 0 0, ⟨p.tab.blk.set 1 _, by rw [hp]; exact World.ownsRow_nil _ _ _ _, by rw [hp]; simp [Lk.weights], p.tab.hB⟩, fun q hq => by simp [Value.ownBlock] at hq⟩, ((Turns.refl t w).below p.bel).set 1 _⟩

theorem Putting.step {w wr w' : World} {t B k n : Nat} {L : List Lk.Hd} {h x : Lk.Hd} {v m v' : Value} (p : Putting w wr t B L h v m k) (hx : L[k]? = some x)
    (hg : ((wr.drewN n).alloc (.cells #[.string (bs x.n), .string (bs x.v)] 206)).grownBy w' m.ownBlock) (ho : w'.ownsRow (w.heap.size + 1) 206 2 v' (k + 1 + 1) (hdsV ((h :: L).take (k + 1)) ++ hdV x)) (hv : v.ownBlock = none ∨ v.ownBlock ≠ m.ownBlock := by assumption) : Putting w w' t B L h v v' (k + 1) := by
  have q := p.drewN n
  have hs := q.bel.size
  have hg1 : ∀ j, m.ownBlock = some j → w.heap.size + 1 ≤ j := fun j hj => (p.own.lt j hj).1
  have hT := q.tab.alloc (.cells #[.string (bs x.n), .string (bs x.v)] 206)
  have hO := q.own.alloc (.cells #[.string (bs x.n), .string (bs x.v)] 206)
  refine ⟨⟨hT.blk.grown hg (own_ne hO hT.blk (Nat.ne_of_beq_eq_false rfl)), hT.own.kept hg hv, hT.le, hT.hB⟩, (q.box.alloc _).grown hg (fun e => by have := hg1 _ e.symm; omega), ?_, (q.bel.alloc hs _).grown hg (by have := p.bel.size; simp; omega) (fun j hj => by have := hg1 j hj; omega)⟩
  have e : (h :: L).take (k + 1 + 1) = (h :: L).take (k + 1) ++ [x] := by
    rw [List.take_add_one]
    simp [hx]
  rw [e, hdsV_append]
  simpa [hdsV] using ho

set_option maxHeartbeats 4000000 in
set_option maxRecDepth 100000 in
theorem rput_any (t B : Nat) (L : List Lk.Hd) (h : Lk.Hd) (v : Value) (w : World) (hT : RTab w t B L v) (hn : h.n.length ≤ 300) (hv : h.v.length ≤ 300) :
    Calls Tryz.prog 151 #[.pointer (some ⟨t, 0, none⟩), hdA h] w fun e w' => e = .returned (.tuple #[]) ∧ RPut w t B L h w' := by
  obtain ⟨i, hi, hz0, hz1, hz2⟩ := info_parts info_rh
  have hL := hT.len
  have hB := hT.hB
  obtain ⟨a, cap, hvf⟩ := hT.form
  subst hvf
  have zn := bs_size h.n
  have zv := bs_size h.v
  have hwh : h.weight = h.n.length + h.v.length + 4 := rfl
  have hwL := hT.le
  have HWH := hide hwh
  have hP0 : Putting w ((w.alloc (.cells #[.string (bs h.n), .string (bs h.v)] 206)).alloc (.cells #[.string (bs h.n), .string (bs h.v)] 206)) t B L h (.slice a L.length cap) (.slice (some ⟨w.heap.size + 1, 0, none⟩) 1 1) 0 := by
    refine ⟨(hT.alloc _).alloc _, (Is.new w _ _).alloc _, ?_, ((Below.refl _ _).alloc (Nat.le_refl _) _).alloc (by simp) _⟩
    have := built_h1 (w.alloc (.cells #[.string (bs h.n), .string (bs h.v)] 206)) 206 h
    simpa [hdsV] using this
  have HP0 := hide hP0
  have HV := hide (fun q (hq : (Value.slice a L.length cap).ownBlock = some q) => (hT.own.lt q hq).2)
  clear hT hP0 hwh
  go_enter Tryz.func151, Tryz.ntmps151
  go_wp2_with fail
  go_loopw [4, 5, 6] (fun m s u wr => ∃ k : Nat, u = .int .i64 k ∧ k ≤ L.length ∧ s = .int .i64 (Lk.weights ((h :: L).take (k + 1)) : Nat) ∧ (k = 0 ∨ Lk.weights ((h :: L).take (k + 1)) ≤ B) ∧ Putting w wr t B L h (.slice a L.length cap) m k) (fun _ _ u _ => L.length - (intOf u).toNat)
  case atStart =>
    refine ⟨0, rfl, by omega, ?_, .inl rfl, unhide HP0⟩
    have := unhide HWH
    simp [Lk.weights]
    omega
  case round =>
    obtain ⟨k, rfl, hk, rfl, hok, hP⟩ := hrel
    obtain ⟨ma, mc, hm⟩ := row_form hP.own
    have HVM := hide (show (Value.slice a L.length cap).ownBlock = Option.none ∨ (Value.slice a L.length cap).ownBlock ≠ u4.ownBlock from by
      cases hv : (Value.slice a L.length cap).ownBlock with
      | none => exact .inl rfl
      | some q =>
        right
        intro e
        have h1 := (unhide HV) q hv
        have h2 := (hP.own.lt q e.symm).1
        omega)
    subst hm
    have hsz := hP.bel.size
    have t0 := hP.tab.blk.cell 0
    have t1 := hP.tab.blk.cell 1
    have tf := hP.tab.blk.free 1
    have b0 := hP.box.cell 0
    have b1 := hP.box.cell 1
    simp only [List.getElem?_cons_zero, List.getElem?_cons_succ] at t0 t1 b0 b1
    have htl := hP.tab.blk.lt
    have hbl := hP.box.lt
    have hws : Lk.weights ((h :: L).take (k + 1)) ≤ 1000 := by
      have h1 := Lk.weights_take_le (h :: L) (k + 1)
      have h2 := unhide HWH
      simp only [Lk.weights] at h1
      omega
    by_cases hlt : k < L.length
    · have hlt' : (k : Int) < L.length := by omega
      obtain ⟨x, hx⟩ : ∃ x, L[k]? = some x := ⟨_, List.getElem?_eq_getElem hlt⟩
      obtain ⟨g, cap', hform, hg, a0, a1⟩ := hP.tab.at' hx
      cases hform
      have zx := bs_size x.n
      have zy := bs_size x.v
      have hxw := Lk.weights_mem (List.mem_of_getElem? hx)
      have hxe : x.weight = x.n.length + x.v.length + 4 := rfl
      have hst := Lk.weights_step (l := h :: L) (m := k + 1) (x := x) (by simpa using hx)
      have hxn : x.n.length ≤ 300 := by omega
      have hxv : x.v.length ≤ 300 := by omega
      have HST := hide (show ((Lk.weights ((h :: L).take (k + 1)) : Nat) : Int) + x.n.length + x.v.length + 4 = (Lk.weights ((h :: L).take (k + 2)) : Nat) by rw [hst]; omega)
      have HX := hide hx
      have HP := hide hP
      have HOK := hide hok
      clear hx hxw hxe hst hP hok
      generalize hW1 : Lk.weights ((h :: L).take (k + 1)) = W1 at *
      have HW1 := hide hW1
      clear hW1
      by_cases hgt : (B : Int) < (W1 : Int) + x.n.length + x.v.length + 4
      · go_wp2_with fail
        go_quiet (fail)
        by_cases hhw : (B : Int) < h.n.length + h.v.length + 4
        · go_wp2_with fail
          go_quiet (fail)
          go_wp2_with fail
          go_end0
          exact ⟨rfl, Putting.nil' ((unhide HP).drewN _) (Lk.put_none B L h (by have := unhide HWH; omega))⟩
        · go_wp2_with fail
          go_quiet (fail)
          go_wp2_with fail
          go_end0
          refine ⟨rfl, Putting.done ((unhide HP).drewN _) (Lk.put_take B L h k hk ?_ ?_) hk⟩
          · have hwh := unhide HWH
            rcases unhide HOK with h0 | h0
            · subst h0
              simp [Lk.weights]
              omega
            · rw [unhide HW1]; exact h0
          · right; have := unhide HST; have h2 := unhide HW1; omega

      · go_wp2_with fail
        go_quiet (fail)
        go_wp2_with (at_builtin; refine wpList_append_own _ rfl _ _ 154 rfl (w.heap.size + 1) 206 i _ 2 32 Tryz.underlying154 hi hz0 hz1 hz2 rfl (by decide) _ (k + 1) (hdsV ((h :: L).take (k + 1))) rfl (((unhide HP).drewN _).own.alloc _) ⟨wr.heap.size, 0, none⟩ 1 1 (hdV x) rfl rfl ?hnews ?h1 ?h63 ?hby ?hba ?_)
        case hnews => exact row_cells (built_h1 _ _ x)
        case h1 => simp [hdV, Value.oneCell']
        case h63 => unfold maxLen; omega
        case hby => omega
        case hba => first | omega | (simp; omega)
        intro v' w' ho' hg' hn'
        have hP2 : Putting w w' t B L h (.slice (some ⟨g, 0, none⟩) L.length cap) v' (k + 1) := Putting.step (unhide HP) (unhide HX) hg' ho' (unhide HVM)
        have HP2 := hide hP2
        clear hP2 ho' hg'
        go_wp2_with fail
        go_roundw
        case rel =>
          have e2 : ((W1 : Nat) : Int) + x.n.length + x.v.length + 4 = (Lk.weights ((h :: L).take (k + 1 + 1)) : Nat) := unhide HST
          refine ⟨k + 1, by simp, by omega, ?_, .inr ?_, unhide HP2⟩
          · simp only [Value.int.injEq, true_and]
            omega
          · omega
        case measure => simp [intOf]; omega
    · have hlt' : ¬ (k : Int) < L.length := by omega
      have HP := hide hP
      have HOK := hide hok
      clear hP hok
      generalize hW1 : Lk.weights ((h :: L).take (k + 1)) = W1 at *
      have HW1 := hide hW1
      clear hW1
      by_cases hhw : (B : Int) < h.n.length + h.v.length + 4
      · go_wp2_with fail
        go_quiet (fail)
        go_wp2_with fail
        go_end0
        exact ⟨rfl, Putting.nil' ((unhide HP).drewN _) (Lk.put_none B L h (by have := unhide HWH; omega))⟩
      · go_wp2_with fail
        go_quiet (fail)
        go_wp2_with fail
        go_end0
        refine ⟨rfl, Putting.done ((unhide HP).drewN _) (Lk.put_take B L h k hk ?_ ?_) hk⟩
        · have hwh := unhide HWH
          rcases unhide HOK with h0 | h0
          · subst h0
            simp [Lk.weights]
            omega
          · rw [unhide HW1]; exact h0
        · left; omega

end Go.Proofs.YtbkpdapagfjmmaaGreatDoor
