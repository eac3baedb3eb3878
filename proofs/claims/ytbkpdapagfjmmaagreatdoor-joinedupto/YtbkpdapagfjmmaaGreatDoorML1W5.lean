import Derived.Test.YtbkpdapagfjmmaaGreatDoorMPHT3
import Derived.Test.YtbkpdapagfjmmaaGreatDoorMT1M1
import Derived.Test.YtbkpdapagfjmmaaGreatDoorMP3W3
/-
  Walks: the document's tables: their entries.
-/
namespace Go.Proofs.YtbkpdapagfjmmaaGreatDoor
open Go.RowKit

theorem info_rh : (Tryz.prog.info? 206).map (fun i => (i.zero, i.size, i.bytes)) = some (some (.agg #[.string ⟨#[]⟩, .string ⟨#[]⟩]), 2, 32) := by kernel_rfl

/-- A table of the document's. -/
structure RTab (w : World) (t B : Nat) (L : List Lk.Hd) (v : Value) : Prop where
  blk : Is w t 196 [.int .i64 B, v]
  own : w.ownsRow 0 206 2 v L.length (hdsV L)
  le : Lk.weights L ≤ B
  hB : B ≤ 200

theorem RTab.below {w w' : World} {t B : Nat} {L : List Lk.Hd} {v : Value} (h : RTab w t B L v) (hb : Below w.heap.size w w') : RTab w' t B L v :=
  ⟨h.blk.below hb h.blk.lt, own_below h.own hb, h.le, h.hB⟩
theorem RTab.alloc {w : World} {t B : Nat} {L : List Lk.Hd} {v : Value} (h : RTab w t B L v) (o : Obj) : RTab (w.alloc o) t B L v :=
  ⟨h.blk.alloc o, h.own.alloc o, h.le, h.hB⟩
theorem RTab.len {w : World} {t B : Nat} {L : List Lk.Hd} {v : Value} (h : RTab w t B L v) : L.length ≤ 50 := by
  have := Lk.weights_len L
  have h1 := h.le
  have h2 := h.hB
  omega
theorem RTab.form {w : World} {t B : Nat} {L : List Lk.Hd} {v : Value} (h : RTab w t B L v) : ∃ a cap, v = .slice a L.length cap := by
  rcases h.own.2 with ⟨rfl, h0⟩ | ⟨g, cap, cur, rfl, _⟩
  · exact ⟨_, _, by rw [h0]⟩
  · exact ⟨_, _, rfl⟩
theorem RTab.at' {w : World} {t B i : Nat} {L : List Lk.Hd} {v : Value} {x : Lk.Hd} (h : RTab w t B L v) (hx : L[i]? = some x) :
    ∃ g cap, v = .slice (some ⟨g, 0, none⟩) L.length cap ∧ g < w.heap.size ∧ w.cell? ⟨g, i * 2, none⟩ = some (.string (bs x.n)) ∧ w.cell? ⟨g, i * 2 + 1, none⟩ = some (.string (bs x.v)) := by
  rcases owned_hds h.own with ⟨rfl, _⟩ | ⟨g, cap, rfl, _, hg, _, hc⟩
  · simp at hx
  · exact ⟨g, cap, rfl, hg, hc i x hx⟩

theorem own_base0 {w : World} {B : Nat} {e : TypeId} {size n : Nat} {v : Value} {xs : List Value} (h : w.ownsRow B e size v n xs) : w.ownsRow 0 e size v n xs := by
  refine ⟨h.1, ?_⟩
  rcases h.2 with h | ⟨g, cap, cur, h0, h1, h2⟩
  · exact .inl h
  · exact .inr ⟨g, cap, cur, h0, by omega, h2⟩

theorem row_form {w : World} {B : Nat} {e : TypeId} {size n : Nat} {v : Value} {xs : List Value} (h : w.ownsRow B e size v n xs) : ∃ a cap, v = .slice a n cap := by
  rcases h.2 with ⟨rfl, rfl⟩ | ⟨g, cap, cur, rfl, _⟩
  · exact ⟨_, _, rfl⟩
  · exact ⟨_, _, rfl⟩

theorem built_h1 (w : World) (T : TypeId) (x : Lk.Hd) : (w.alloc (.cells #[.string (bs x.n), .string (bs x.v)] T)).ownsRow w.heap.size T 2 (.slice (some ⟨w.heap.size, 0, none⟩) 1 1) 1 (hdV x) :=
  ⟨rfl, .inr ⟨w.heap.size, 1, _, rfl, Nat.le_refl _, heap_alloc_new w _, Nat.le_refl _, by unfold maxLen; omega, rfl, rfl⟩⟩

set_option maxRecDepth 100000 in
theorem rfixed_any (w : World) : Calls Tryz.prog 177 #[] w fun e w' => ∃ v', e = .returned v' ∧ w'.ownsRow w.heap.size 206 2 v' 4 (hdsV Lk.fixedL) ∧ Below w.heap.size w w' := by
  go_enter Tryz.func177, Tryz.ntmps177
  go_wp2_with fail
  go_ret
  exact ⟨_, rfl, ⟨rfl, .inr ⟨w.heap.size, 4, _, rfl, Nat.le_refl _, heap_alloc_new w _, Nat.le_refl _, by unfold maxLen; omega, rfl, rfl⟩⟩, (Below.refl _ _).alloc (Nat.le_refl _) _⟩

set_option maxHeartbeats 2000000 in
set_option maxRecDepth 100000 in
theorem rall_any (t B : Nat) (L : List Lk.Hd) (v : Value) (w : World) (hT : RTab w t B L v) :
    Calls Tryz.prog 150 #[.pointer (some ⟨t, 0, none⟩)] w fun e w' => ∃ v', e = .returned v' ∧ w'.ownsRow w.heap.size 206 2 v' (Lk.ents L).length (hdsV (Lk.ents L)) ∧ Below w.heap.size w w' := by
  obtain ⟨i, hi, hz0, hz1, hz2⟩ := info_parts info_rh
  have hL := hT.len
  obtain ⟨a, cap, hv⟩ := hT.form
  subst hv
  have HT := hide hT
  have htl := hT.blk.lt
  have hE := Lk.ents_len L
  generalize hEn : Lk.ents L = E at *
  have HEn := hide hEn
  have HE := hide hE
  clear hT hEn hE
  go_enter Tryz.func150, Tryz.ntmps150
  go_wp2_with fail
  refine (rfixed_any _).mono ?_
  rintro e w1 ⟨v1, rfl, ho1, hb1⟩
  have HO1 := hide ho1
  clear ho1
  go_wp2_with fail
  go_loopw [3, 4] (fun m u wr => ∃ k : Nat, u = .int .i64 k ∧ k ≤ L.length ∧ wr.ownsRow w.heap.size 206 2 m (4 + k) (hdsV (E.take (4 + k))) ∧ Below w.heap.size w wr) (fun _ u _ => L.length - (intOf u).toNat)
  case atStart =>
    refine ⟨0, rfl, by omega, ?_, hb1⟩
    have e : E.take (4 + 0) = Lk.fixedL := by rw [← unhide HEn]; rfl
    rw [e]
    exact unhide HO1
  case round =>
    obtain ⟨k, rfl, hk, hown, hbel⟩ := hrel
    have hsz := hbel.size
    have d1 := ((unhide HT).blk.below hbel htl).cell 1
    simp only [List.getElem?_cons_zero, List.getElem?_cons_succ] at d1
    have htr : t < wr.heap.size := by omega
    by_cases hlt : k < L.length
    · have hlt' : (k : Int) < L.length := by omega
      obtain ⟨x, hx⟩ : ∃ x, L[k]? = some x := ⟨_, List.getElem?_eq_getElem hlt⟩
      obtain ⟨g, cap', hform, hg, a0, a1⟩ := (unhide HT).at' hx
      cases hform
      have a0 : wr.cell? ⟨g, k * 2, none⟩ = some (.string (bs x.n)) := by rw [hbel.cell (p := ⟨g, k * 2, none⟩) hg]; exact a0
      have a1 : wr.cell? ⟨g, k * 2 + 1, none⟩ = some (.string (bs x.v)) := by rw [hbel.cell (p := ⟨g, k * 2 + 1, none⟩) hg]; exact a1
      have hgr : g < wr.heap.size := by omega
      have HX := hide hx
      clear hx
      go_wp2_with (at_builtin; refine wpList_append_own _ rfl _ _ 154 rfl w.heap.size 206 i _ 2 32 Tryz.underlying154 hi hz0 hz1 hz2 rfl (by decide) _ (4 + k) (hdsV (E.take (4 + k))) rfl (hown.alloc _) ⟨wr.heap.size, 0, none⟩ 1 1 (hdV x) rfl rfl ?hnews ?h1 ?h63 ?hby ?hba ?_)
      case hnews => exact row_cells (built_h1 wr _ x)
      case h1 => simp [hdV, Value.oneCell']
      case h63 => unfold maxLen; omega
      case hby => omega
      case hba => simp; omega
      intro v' w' ho' hg' hn'
      have hb' := (hbel.alloc hsz _).grown hg' (by simp; omega) (fun k hk => (hown.lt k hk).1)
      have ho2 : w'.ownsRow w.heap.size 206 2 v' (4 + (k + 1)) (hdsV (E.take (4 + (k + 1)))) := by
        have hEx : E[4 + k]? = some x := by rw [← unhide HEn]; unfold Lk.ents; rw [List.getElem?_append_right (by simp [Lk.fixedL])]; simpa [Lk.fixedL] using unhide HX
        have e : E.take (4 + (k + 1)) = E.take (4 + k) ++ [x] := by rw [← Nat.add_assoc, List.take_add_one, hEx]; rfl
        rw [e, hdsV_append]
        simpa [hdsV, Nat.add_assoc] using ho'
      clear ho' hg' hown hbel a0 a1
      go_wp2_with fail
      go_roundw
      case rel => exact ⟨k + 1, by simp, by omega, ho2, hb'⟩
      case measure => simp [intOf]; omega
    · have hlt' : ¬ (k : Int) < L.length := by omega
      have ho2 : wr.ownsRow w.heap.size 206 2 u3 E.length (hdsV E) := by
        have e : 4 + k = E.length := by have := unhide HE; omega
        rw [e, List.take_length] at hown
        exact hown
      clear hown
      go_wp2_with fail
      go_ret
      exact ⟨_, rfl, ho2, hbel⟩

set_option maxHeartbeats 2000000 in
set_option maxRecDepth 100000 in
theorem rcopied_any (t B : Nat) (L : List Lk.Hd) (v : Value) (w : World) (hT : RTab w t B L v) :
    Calls Tryz.prog 104 #[.pointer (some ⟨t, 0, none⟩)] w fun e w' => ∃ u, e = .returned (.pointer (some ⟨u, 0, none⟩)) ∧ w.heap.size ≤ u ∧ (∃ v', RTab w' u B L v' ∧ ∀ k, v'.ownBlock = some k → w.heap.size ≤ k) ∧ Below w.heap.size w w' := by
  obtain ⟨i, hi, hz0, hz1, hz2⟩ := info_parts info_rh
  have hL := hT.len
  obtain ⟨a, cap, hv⟩ := hT.form
  subst hv
  have HT := hide hT
  have htl := hT.blk.lt
  clear hT
  go_enter Tryz.func104, Tryz.ntmps104
  go_wp2_with fail
  go_loopw [3, 4] (fun m u wr => ∃ k : Nat, u = .int .i64 k ∧ k ≤ L.length ∧ wr.ownsRow w.heap.size 206 2 m k (hdsV (L.take k)) ∧ Below w.heap.size w wr) (fun _ u _ => L.length - (intOf u).toNat)
  case atStart => exact ⟨0, rfl, by omega, World.ownsRow_nil _ _ _ _, Below.refl _ _⟩
  case round =>
    obtain ⟨k, rfl, hk, hown, hbel⟩ := hrel
    have hsz := hbel.size
    have d0 := ((unhide HT).blk.below hbel htl).cell 0
    have d1 := ((unhide HT).blk.below hbel htl).cell 1
    simp only [List.getElem?_cons_zero, List.getElem?_cons_succ] at d0 d1
    have htr : t < wr.heap.size := by omega
    by_cases hlt : k < L.length
    · have hlt' : (k : Int) < L.length := by omega
      obtain ⟨x, hx⟩ : ∃ x, L[k]? = some x := ⟨_, List.getElem?_eq_getElem hlt⟩
      obtain ⟨g, cap', hform, hg, a0, a1⟩ := (unhide HT).at' hx
      cases hform
      have a0 : wr.cell? ⟨g, k * 2, none⟩ = some (.string (bs x.n)) := by rw [hbel.cell (p := ⟨g, k * 2, none⟩) hg]; exact a0
      have a1 : wr.cell? ⟨g, k * 2 + 1, none⟩ = some (.string (bs x.v)) := by rw [hbel.cell (p := ⟨g, k * 2 + 1, none⟩) hg]; exact a1
      have hgr : g < wr.heap.size := by omega
      have HX := hide hx
      clear hx
      go_wp2_with (at_builtin; refine wpList_append_own _ rfl _ _ 154 rfl w.heap.size 206 i _ 2 32 Tryz.underlying154 hi hz0 hz1 hz2 rfl (by decide) _ k (hdsV (L.take k)) rfl (hown.alloc _) ⟨wr.heap.size, 0, none⟩ 1 1 (hdV x) rfl rfl ?hnews ?h1 ?h63 ?hby ?hba ?_)
      case hnews => exact row_cells (built_h1 wr _ x)
      case h1 => simp [hdV, Value.oneCell']
      case h63 => unfold maxLen; omega
      case hby => omega
      case hba => simp; omega
      intro v' w' ho' hg' hn'
      have hb' := (hbel.alloc hsz _).grown hg' (by simp; omega) (fun k hk => (hown.lt k hk).1)
      have ho2 : w'.ownsRow w.heap.size 206 2 v' (k + 1) (hdsV (L.take (k + 1))) := by
        have e : L.take (k + 1) = L.take k ++ [x] := by rw [List.take_add_one, unhide HX]; rfl
        rw [e, hdsV_append]
        simpa [hdsV] using ho'
      clear ho' hg' hown hbel a0 a1
      go_wp2_with fail
      go_roundw
      case rel => exact ⟨k + 1, by simp, by omega, ho2, hb'⟩
      case measure => simp [intOf]; omega
    · have hlt' : ¬ (k : Int) < L.length := by omega
      have ho2 : wr.ownsRow w.heap.size 206 2 u3 L.length (hdsV L) := by
        have e : k = L.length := by omega
        rw [e, List.take_length] at hown
        exact hown
      obtain ⟨a3, c3, h3⟩ := row_form ho2
      subst h3
      have HO2 := hide ho2
      clear hown ho2
      go_wp2_with fail
      go_ret
      refine ⟨_, rfl, hsz, ⟨.slice a3 L.length c3, ⟨Is.new wr 196 [.int .i64 B, .slice a3 L.length c3], own_base0 ((unhide HO2).alloc _), (unhide HT).le, (unhide HT).hB⟩, fun q hq => ((unhide HO2).lt q hq).1⟩, hbel.alloc hsz _⟩
end Go.Proofs.YtbkpdapagfjmmaaGreatDoor

/-
  Walks: the document's put.
-/
namespace Go.Proofs.YtbkpdapagfjmmaaGreatDoor
open Go.RowKit

namespace Lk
theorem put_none (B : Nat) (L : List Hd) (h : Hd) (hB : B < h.weight) : put B L h = [] := by
  unfold put
  rw [fit, if_neg (by omega)]
theorem put_take (B : Nat) (L : List Hd) (h : Hd) (k : Nat) (hk : k ≤ L.length) (h1 : weights ((h :: L).take (k + 1)) ≤ B) (h2 : k = L.length ∨ B < weights ((h :: L).take (k + 2))) : put B L h = (h :: L).take (k + 1) :=
  fit_take (h :: L) B (k + 1) (by simpa using hk) h1 (by simpa using h2)
theorem weights_step {l : List Hd} {m : Nat} {x : Hd} (hx : l[m]? = some x) : weights (l.take (m + 1)) = weights (l.take m) + x.weight := by
  rw [List.take_add_one, hx]
  simp [weights_append, weights]
end Lk

/-- While the document puts in: so far k of the others have come behind it. -/
structure Putting (w wr : World) (t B : Nat) (L : List Lk.Hd) (h : Lk.Hd) (v m : Value) (k : Nat) : Prop where
  tab : RTab wr t B L v
  box : Is wr w.heap.size 206 [.string (bs h.n), .string (bs h.v)]
  own : wr.ownsRow (w.heap.size + 1) 206 2 m (k + 1) (hdsV ((h :: L).take (k + 1)))
  bel : Below w.heap.size w wr

theorem Putting.drewN {w wr : World} {t B : Nat} {L : List Lk.Hd} {h : Lk.Hd} {v m : Value} {k : Nat} (p : Putting w wr t B L h v m k) (n : Nat) : Putting w (wr.drewN n) t B L h v m k :=
  ⟨⟨p.tab.blk, p.tab.own, p.tab.le, p.tab.hB⟩, p.box, p.own, ⟨p.bel.os, p.bel.tape, p.bel.output, p.bel.size, p.bel.block⟩⟩

/-- What is left behind it. -/
def RPut (w : World) (t B : Nat) (L : List Lk.Hd) (h : Lk.Hd) (w' : World) : Prop :=
  (∃ v', RTab w' t B (Lk.put B L h) v' ∧ ∀ k, v'.ownBlock = some k → w.heap.size ≤ k) ∧ Turns t w w'

theorem Putting.done {w wr : World} {t B : Nat} {L : List Lk.Hd} {h : Lk.Hd} {v m : Value} {k : Nat} (p : Putting w wr t B L h v m k) (hp : Lk.put B L h = (h :: L).take (k + 1)) (hk : k ≤ L.length) :
    RPut w t B L h (wr.setCell ⟨t, 1, none⟩ m) := by
  have ho := p.own.kept (grownBy_set wr t 1 m) (.inr (fun e => own_ne p.own p.tab.blk (Nat.ne_of_beq_eq_false rfl) e.symm))
  refine ⟨⟨m, ⟨p.tab.blk.set 1 m, ?_, by rw [hp]; have := Lk.put_weights B L h; rw [hp] at this; exact this, p.tab.hB⟩, fun q hq => by have := (p.own.lt q hq).1; omega⟩, ((Turns.refl t w).below p.bel).set 1 m⟩
  rw [hp]
  have e : ((h :: L).take (k + 1)).length = k + 1 := by rw [List.length_take]; simp; omega
  rw [e]
  exact own_base0 ho
theorem Putting.nil' {w wr : World} {t B : Nat} {L : List Lk.Hd} {h : Lk.Hd} {v m : Value} {k : Nat} (p : Putting w wr t B L h v m k) (hp : Lk.put B L h = []) :
    RPut w t B L h (wr.setCell ⟨t, 1, none⟩ (.slice none 0 0)) := by
  refine ⟨⟨.slice none 0 0, ⟨p.tab.blk.set 1 _, by rw [hp]; exact World.ownsRow_nil _ _ _ _, by rw [hp]; simp [Lk.weights], p.tab.hB⟩, fun q hq => by simp [Value.ownBlock] at hq⟩, ((Turns.refl t w).below p.bel).set 1 _⟩

theorem Putting.step {w wr w' : World} {t B k n : Nat} {L : List Lk.Hd} {h x : Lk.Hd} {v m v' : Value} (p : Putting w wr t B L h v m k) (hx : L[k]? = some x)
    (hg : ((wr.drewN n).alloc (.cells #[.string (bs x.n), .string (bs x.v)] 206)).grownBy w' m.ownBlock) (ho : w'.ownsRow (w.heap.size + 1) 206 2 v' (k + 1 + 1) (hdsV ((h :: L).take (k + 1)) ++ hdV x)) (hv : v.ownBlock = none ∨ v.ownBlock ≠ m.ownBlock := by assumption) : Putting w w' t B L h v v' (k + 1) := by
  have q := p.drewN n
  have hs := q.bel.size
  have hg1 : ∀ j, m.ownBlock = some j → w.heap.size + 1 ≤ j := fun j hj => (p.own.lt j hj).1
  have hT := q.tab.alloc (.cells #[.string (bs x.n), .string (bs x.v)] 206)
  have hO := q.own.alloc (.cells #[.string (bs x.n), .string (bs x.v)] 206)
  refine ⟨⟨hT.blk.grown hg (own_ne hO hT.blk (Nat.ne_of_beq_eq_false rfl)), hT.own.kept hg hv, hT.le, hT.hB⟩, (q.box.alloc _).grown hg (fun e => by have := hg1 _ e.symm; omega), ?_, (q.bel.alloc hs _).grown hg (by have := p.bel.size; simp; omega) (fun j hj => by have := hg1 j hj; omega)⟩
  have e : (h :: L).take (k + 1 + 1) = (h :: L).take (k + 1) ++ [x] := by
    rw [List.take_add_one]
    simp [hx]
  rw [e, hdsV_append]
  simpa [hdsV] using ho

set_option maxHeartbeats 4000000 in
set_option maxRecDepth 100000 in
theorem rput_any (t B : Nat) (L : List Lk.Hd) (h : Lk.Hd) (v : Value) (w : World) (hT : RTab w t B L v) (hn : h.n.length ≤ 300) (hv : h.v.length ≤ 300) :
    Calls Tryz.prog 151 #[.pointer (some ⟨t, 0, none⟩), hdA h] w fun e w' => e = .returned (.tuple #[]) ∧ RPut w t B L h w' := by
  obtain ⟨i, hi, hz0, hz1, hz2⟩ := info_parts info_rh
  have hL := hT.len
  have hB := hT.hB
  obtain ⟨a, cap, hvf⟩ := hT.form
  subst hvf
  have zn := bs_size h.n
  have zv := bs_size h.v
  have hwh : h.weight = h.n.length + h.v.length + 4 := rfl
  have hwL := hT.le
  have HWH := hide hwh
  have hP0 : Putting w ((w.alloc (.cells #[.string (bs h.n), .string (bs h.v)] 206)).alloc (.cells #[.string (bs h.n), .string (bs h.v)] 206)) t B L h (.slice a L.length cap) (.slice (some ⟨w.heap.size + 1, 0, none⟩) 1 1) 0 := by
    refine ⟨(hT.alloc _).alloc _, (Is.new w _ _).alloc _, ?_, ((Below.refl _ _).alloc (Nat.le_refl _) _).alloc (by simp) _⟩
    have := built_h1 (w.alloc (.cells #[.string (bs h.n), .string (bs h.v)] 206)) 206 h
    simpa [hdsV] using this
  have HP0 := hide hP0
  have HV := hide (fun q (hq : (Value.slice a L.length cap).ownBlock = some q) => (hT.own.lt q hq).2)
  clear hT hP0 hwh
  go_enter Tryz.func151, Tryz.ntmps151
  go_wp2_with fail
  go_loopw [4, 5, 6] (fun m s u wr => ∃ k : Nat, u = .int .i64 k ∧ k ≤ L.length ∧ s = .int .i64 (Lk.weights ((h :: L).take (k + 1)) : Nat) ∧ (k = 0 ∨ Lk.weights ((h :: L).take (k + 1)) ≤ B) ∧ Putting w wr t B L h (.slice a L.length cap) m k) (fun _ _ u _ => L.length - (intOf u).toNat)
  case atStart =>
    refine ⟨0, rfl, by omega, ?_, .inl rfl, unhide HP0⟩
    have := unhide HWH
    simp [Lk.weights]
    omega
  case round =>
    obtain ⟨k, rfl, hk, rfl, hok, hP⟩ := hrel
    obtain ⟨ma, mc, hm⟩ := row_form hP.own
    have HVM := hide (show (Value.slice a L.length cap).ownBlock = Option.none ∨ (Value.slice a L.length cap).ownBlock ≠ u4.ownBlock from by
      cases hv : (Value.slice a L.length cap).ownBlock with
      | none => exact .inl rfl
      | some q =>
        right
        intro e
        have h1 := (unhide HV) q hv
        have h2 := (hP.own.lt q e.symm).1
        omega)
    subst hm
    have hsz := hP.bel.size
    have t0 := hP.tab.blk.cell 0
    have t1 := hP.tab.blk.cell 1
    have tf := hP.tab.blk.free 1
    have b0 := hP.box.cell 0
    have b1 := hP.box.cell 1
    simp only [List.getElem?_cons_zero, List.getElem?_cons_succ] at t0 t1 b0 b1
    have htl := hP.tab.blk.lt
    have hbl := hP.box.lt
    have hws : Lk.weights ((h :: L).take (k + 1)) ≤ 1000 := by
      have h1 := Lk.weights_take_le (h :: L) (k + 1)
      have h2 := unhide HWH
      simp only [Lk.weights] at h1
      omega
    by_cases hlt : k < L.length
    · have hlt' : (k : Int) < L.length := by omega
      obtain ⟨x, hx⟩ : ∃ x, L[k]? = some x := ⟨_, List.getElem?_eq_getElem hlt⟩
      obtain ⟨g, cap', hform, hg, a0, a1⟩ := hP.tab.at' hx
      cases hform
      have zx := bs_size x.n
      have zy := bs_size x.v
      have hxw := Lk.weights_mem (List.mem_of_getElem? hx)
      have hxe : x.weight = x.n.length + x.v.length + 4 := rfl
      have hst := Lk.weights_step (l := h :: L) (m := k + 1) (x := x) (by simpa using hx)
      have hxn : x.n.length ≤ 300 := by omega
      have hxv : x.v.length ≤ 300 := by omega
      have HST := hide (show ((Lk.weights ((h :: L).take (k + 1)) : Nat) : Int) + x.n.length + x.v.length + 4 = (Lk.weights ((h :: L).take (k + 2)) : Nat) by rw [hst]; omega)
      have HX := hide hx
      have HP := hide hP
      have HOK := hide hok
      clear hx hxw hxe hst hP hok
      generalize hW1 : Lk.weights ((h :: L).take (k + 1)) = W1 at *
      have HW1 := hide hW1
      clear hW1
      by_cases hgt : (B : Int) < (W1 : Int) + x.n.length + x.v.length + 4
      · go_wp2_with fail
        go_quiet (fail)
        by_cases hhw : (B : Int) < h.n.length + h.v.length + 4
        · go_wp2_with fail
          go_quiet (fail)
          go_wp2_with fail
          go_end0
          exact ⟨rfl, Putting.nil' ((unhide HP).drewN _) (Lk.put_none B L h (by have := unhide HWH; omega))⟩
        · go_wp2_with fail
          go_quiet (fail)
          go_wp2_with fail
          go_end0
          refine ⟨rfl, Putting.done ((unhide HP).drewN _) (Lk.put_take B L h k hk ?_ ?_) hk⟩
          · have hwh := unhide HWH
            rcases unhide HOK with h0 | h0
            · subst h0
              simp [Lk.weights]
              omega
            · rw [unhide HW1]; exact h0
          · right; have := unhide HST; have h2 := unhide HW1; omega

      · go_wp2_with fail
        go_quiet (fail)
        go_wp2_with (at_builtin; refine wpList_append_own _ rfl _ _ 154 rfl (w.heap.size + 1) 206 i _ 2 32 Tryz.underlying154 hi hz0 hz1 hz2 rfl (by decide) _ (k + 1) (hdsV ((h :: L).take (k + 1))) rfl (((unhide HP).drewN _).own.alloc _) ⟨wr.heap.size, 0, none⟩ 1 1 (hdV x) rfl rfl ?hnews ?h1 ?h63 ?hby ?hba ?_)
        case hnews => exact row_cells (built_h1 _ _ x)
        case h1 => simp [hdV, Value.oneCell']
        case h63 => unfold maxLen; omega
        case hby => omega
        case hba => first | omega | (simp; omega)
        intro v' w' ho' hg' hn'
        have hP2 : Putting w w' t B L h (.slice (some ⟨g, 0, none⟩) L.length cap) v' (k + 1) := Putting.step (unhide HP) (unhide HX) hg' ho' (unhide HVM)
        have HP2 := hide hP2
        clear hP2 ho' hg'
        go_wp2_with fail
        go_roundw
        case rel =>
          have e2 : ((W1 : Nat) : Int) + x.n.length + x.v.length + 4 = (Lk.weights ((h :: L).take (k + 1 + 1)) : Nat) := unhide HST
          refine ⟨k + 1, by simp, by omega, ?_, .inr ?_, unhide HP2⟩
          · simp only [Value.int.injEq, true_and]
            omega
          · omega
        case measure => simp [intOf]; omega
    · have hlt' : ¬ (k : Int) < L.length := by omega
      have HP := hide hP
      have HOK := hide hok
      clear hP hok
      generalize hW1 : Lk.weights ((h :: L).take (k + 1)) = W1 at *
      have HW1 := hide hW1
      clear hW1
      by_cases hhw : (B : Int) < h.n.length + h.v.length + 4
      · go_wp2_with fail
        go_quiet (fail)
        go_wp2_with fail
        go_end0
        exact ⟨rfl, Putting.nil' ((unhide HP).drewN _) (Lk.put_none B L h (by have := unhide HWH; omega))⟩
      · go_wp2_with fail
        go_quiet (fail)
        go_wp2_with fail
        go_end0
        refine ⟨rfl, Putting.done ((unhide HP).drewN _) (Lk.put_take B L h k hk ?_ ?_) hk⟩
        · have hwh := unhide HWH
          rcases unhide HOK with h0 | h0
          · subst h0
            simp [Lk.weights]
            omega
          · rw [unhide HW1]; exact h0
        · left; omega

end Go.Proofs.YtbkpdapagfjmmaaGreatDoor

/-
  Walks: a number is written (both sides).
-/
namespace Go.Proofs.YtbkpdapagfjmmaaGreatDoor
open Go.RowKit

set_option maxHeartbeats 400000 in
set_option maxRecDepth 100000 in
theorem refNumber_small (n : Nat) (h : n < 128) (w : World) :
    Calls Tryz.prog 99 #[.int .i64 n] w fun e w' => e = .returned (.string ⟨(Lk.wire n).toArray⟩) ∧ Below w.heap.size w w' := by
  have k1 := one_string
  go_enter Tryz.func99, Tryz.ntmps99
  go_wp2_with fail
  go_ret
  exact ⟨ret_string (by rw [Lk.wire_small n h]), (Below.refl _ _).alloc (Nat.le_refl _) _⟩

theorem join1 (n : Nat) (k : UInt8) (l : Array UInt8) (hk : k = UInt8.ofNat (128 + n % 128)) (h : 128 ≤ n) (hl : Hid ((Lk.wire (n / 128)).toArray = l)) : (⟨#[k]⟩ : ByteArray) ++ ⟨l⟩ = ⟨(Lk.wire n).toArray⟩ := by
  rw [← unhide hl, Lk.wire_big n (by omega), hk]
  exact ByteArray.mk_append_mk [_] _

set_option maxHeartbeats 400000 in
set_option maxRecDepth 100000 in
theorem refNumber_big (n : Nat) (h : 128 ≤ n) (hn : n ≤ 268435455) (w : World) (ih : Hid (∀ (m : Int) w, m = ((n / 128 : Nat) : Int) → Calls Tryz.prog 99 #[.int .i64 m] w fun e w' => e = .returned (.string ⟨(Lk.wire (n / 128)).toArray⟩) ∧ Below w.heap.size w w')) :
    Calls Tryz.prog 99 #[.int .i64 n] w fun e w' => e = .returned (.string ⟨(Lk.wire n).toArray⟩) ∧ Below w.heap.size w w' := by
  have k1 := one_string
  have k2 := fun W => cell_string W w.heap.size (IntKind.u8.wrap (IntKind.i64.wrap (128 + (n : Int).tmod 128)))
  have hn' : ¬ (n : Int) < 128 := by omega
  have hsz := Lk.wire_len_le4 (n / 128) (by omega)
  generalize hl : (Lk.wire (n / 128)).toArray = l at ih
  have hl4 : l.size ≤ 4 := by rw [← hl]; simpa using hsz
  have hl4' : 1 + l.size ≤ 9223372036854775807 := by omega
  clear hsz
  have HL := hide hl
  clear hl
  go_enter Tryz.func99, Tryz.ntmps99
  go_wp2_with fail
  go_region_with (go_at_call 99; refine (unhide ih _ _ ?_).mono ?_; (simp [IntKind.wrap_i64]; omega); rintro e w1 ⟨rfl, hb⟩; obtain ⟨hc, hf⟩ := bcell hb)
  all_goals go_wp2_with fail
  all_goals go_ret
  · exact ⟨ret_string (join1 n _ l (by first | rfl | (congr 1; omega) | simp) h HL), (((Below.refl _ _).alloc (Nat.le_refl _) _).drew).trans (hb.mono (by simp))⟩
  · exact ⟨ret_string (join1 n _ l (by first | rfl | (congr 1; omega) | simp) h HL), (((Below.refl _ _).alloc (Nat.le_refl _) _).drew).trans (hb.mono (by simp))⟩
  · refine ⟨ret_string (join1 n _ l (by first | rfl | (congr 1; omega) | simp) h HL), ?_⟩
    have hb0 := (Below.refl w.heap.size w).drew.trans hb
    exact hb0.alloc hb0.size _

theorem refNumber_any : ∀ (n : Nat) (m : Int) (w : World), m = (n : Int) → n ≤ 268435455 →
    Calls Tryz.prog 99 #[.int .i64 m] w fun e w' => e = .returned (.string ⟨(Lk.wire n).toArray⟩) ∧ Below w.heap.size w w' := by
  intro n
  induction n using Nat.strongRecOn with
  | _ n ih =>
    intro m w hm hn
    subst hm
    by_cases h : n < 128
    · exact refNumber_small n h w
    · exact refNumber_big n (by omega) hn w (hide fun m w hm => ih (n / 128) (by omega) m w hm (by omega))

end Go.Proofs.YtbkpdapagfjmmaaGreatDoor
