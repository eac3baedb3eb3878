import Derived.Test.YtbkpdapagfjmmaaGreatDoorA13
import Derived.Deep.RegionHeld3
import Derived.Deep.DrawnRows
set_option linter.unusedVariables false
set_option maxRecDepth 100000
set_option maxHeartbeats 16000000
namespace Go.Proofs.YtbkpdapagfjmmaaGreatDoor
open Go.RowKit
theorem xK : (Tryz.prog.info? 206).map (fun i => (i.zero, i.size, i.bytes)) = some (some (.agg #[.string ⟨#[]⟩, .string ⟨#[]⟩]), 2, 32) := by kernel_rfl
structure RTab (w : World) (t B : Nat) (L : List Lk.Hd) (v : Value) : Prop where
 blk : Is w t 196 [.int .i64 B, v]
 own : w.ownsRow 0 206 2 v L.length (aQ L)
 le : Lk.weights L <= B
 hB : B <= 200
theorem RTab.below {w w' : World} {t B : Nat} {L : List Lk.Hd} {v : Value} (h : RTab w t B L v) (hb : Below w.heap.size w w') : RTab w' t B L v :=
 ⟨h.blk.below hb h.blk.lt, own_below h.own hb, h.le, h.hB⟩
theorem RTab.alloc {w : World} {t B : Nat} {L : List Lk.Hd} {v : Value} (h : RTab w t B L v) (o : Obj) : RTab (w.alloc o) t B L v :=
 ⟨h.blk.alloc o, h.own.alloc o, h.le, h.hB⟩
theorem RTab.len {w : World} {t B : Nat} {L : List Lk.Hd} {v : Value} (h : RTab w t B L v) : L.length <= 50 := by
 have := Lk.jc L
 have h1 := h.le
 have h2 := h.hB
 omega
theorem RTab.form {w : World} {t B : Nat} {L : List Lk.Hd} {v : Value} (h : RTab w t B L v) : ∃ a cap, v = .slice a L.length cap := by
 rcases h.own.2 with ⟨rfl, h0⟩ | ⟨g, cap, cur, rfl, _⟩
 . exact ⟨_, _, by rw [h0]⟩
 . exact ⟨_, _, rfl⟩
theorem RTab.at' {w : World} {t B i : Nat} {L : List Lk.Hd} {v : Value} {x : Lk.Hd} (h : RTab w t B L v) (hx : L[i]? = some x) :
 ∃ g cap, v = .slice (some ⟨g, 0, none⟩) L.length cap ∧ g < w.heap.size ∧ w.cell? ⟨g, i * 2, none⟩ = some (.string (bs x.n)) ∧ w.cell? ⟨g, i * 2 + 1, none⟩ = some (.string (bs x.v)) := by
 rcases eP h.own with ⟨rfl, _⟩ | ⟨g, cap, rfl, _, hg, _, hc⟩
 . simp at hx
 . exact ⟨g, cap, rfl, hg, hc i x hx⟩
theorem zL {w : World} {B : Nat} {e : TypeId} {size n : Nat} {v : Value} {xs : List Value} (h : w.ownsRow B e size v n xs) : w.ownsRow 0 e size v n xs := by
 refine ⟨h.1, ?_⟩
 rcases h.2 with h | ⟨g, cap, cur, h0, h1, h2⟩
 . exact .inl h
 . exact .inr ⟨g, cap, cur, h0, by omega, h2⟩
theorem aJ {w : World} {B : Nat} {e : TypeId} {size n : Nat} {v : Value} {xs : List Value} (h : w.ownsRow B e size v n xs) : ∃ a cap, v = .slice a n cap := by
 rcases h.2 with ⟨rfl, rfl⟩ | ⟨g, cap, cur, rfl, _⟩
 . exact ⟨_, _, rfl⟩
 . exact ⟨_, _, rfl⟩
theorem nS (w : World) (T : TypeId) (x : Lk.Hd) : (w.alloc (.cells #[.string (bs x.n), .string (bs x.v)] T)).ownsRow w.heap.size T 2 (.slice (some ⟨w.heap.size, 0, none⟩) 1 1) 1 (hdV x) :=
 ⟨rfl, .inr ⟨w.heap.size, 1, _, rfl, Nat.le_refl _, heap_alloc_new w _, Nat.le_refl _, by unfold maxLen; omega, rfl, rfl⟩⟩
theorem FV (w : World) : Calls Tryz.prog 177 #[] w fun e w' => ∃ v', e = .returned v' ∧ w'.ownsRow w.heap.size 206 2 v' 4 (aQ Lk.jb) ∧ Below w.heap.size w w' := by
 go_enter Tryz.func177, Tryz.ntmps177
 go_wp2_with fail
 go_ret
 exact ⟨_, rfl, ⟨rfl, .inr ⟨w.heap.size, 4, _, rfl, Nat.le_refl _, heap_alloc_new w _, Nat.le_refl _, by unfold maxLen; omega, rfl, rfl⟩⟩, (Below.refl _ _).alloc (Nat.le_refl _) _⟩
theorem lV (t B : Nat) (L : List Lk.Hd) (v : Value) (w : World) (hT : RTab w t B L v) :
 Calls Tryz.prog 150 #[.pointer (some ⟨t, 0, none⟩)] w fun e w' => ∃ v', e = .returned v' ∧ w'.ownsRow w.heap.size 206 2 v' (Lk.fB L).length (aQ (Lk.fB L)) ∧ Below w.heap.size w w' := by
 obtain ⟨i, hi, hz0, hz1, hz2⟩ := info_parts xK
 have hL := hT.len
 obtain ⟨a, cap, hv⟩ := hT.form
 subst hv
 have HT := hide hT
 have htl := hT.blk.lt
 have hE := Lk.nM L
 generalize hEn : Lk.fB L = E at *
 have HEn := hide hEn
 have HE := hide hE
 clear hT hEn hE
 go_enter Tryz.func150, Tryz.ntmps150
 go_wp2_with fail
 refine (FV _).mono ?_
 rintro e w1 ⟨v1, rfl, ho1, hb1⟩
 have HO1 := hide ho1
 clear ho1
 go_wp2_with fail
 go_loopw [3, 4] (fun m u wr => ∃ k : Nat, u = .int .i64 k ∧ k <= L.length ∧ wr.ownsRow w.heap.size 206 2 m (4 + k) (aQ (E.take (4 + k))) ∧ Below w.heap.size w wr) (fun _ u _ => L.length - (intOf u).toNat)
 case atStart =>
  refine ⟨0, rfl, by omega, ?_, hb1⟩
  have e : E.take (4 + 0) = Lk.jb := by rw [<- uh HEn]; rfl
  rw [e]
  exact uh HO1
 case round =>
  obtain ⟨k, rfl, hk, hown, hbel⟩ := hrel
  have hsz := hbel.size
  have d1 := ((uh HT).blk.below hbel htl).cell 1
  simp only [List.getElem?_cons_zero, List.getElem?_cons_succ] at d1
  have htr : t < wr.heap.size := by omega
  by_cases hlt : k < L.length
  . have hlt' : (k : Int) < L.length := by omega
    obtain ⟨x, hx⟩ : ∃ x, L[k]? = some x := ⟨_, List.getElem?_eq_getElem hlt⟩
    obtain ⟨g, cap', hform, hg, a0, a1⟩ := (uh HT).at' hx
    cases hform
    have a0 : wr.cell? ⟨g, k * 2, none⟩ = some (.string (bs x.n)) := by rw [hbel.cell (p := ⟨g, k * 2, none⟩) hg]; exact a0
    have a1 : wr.cell? ⟨g, k * 2 + 1, none⟩ = some (.string (bs x.v)) := by rw [hbel.cell (p := ⟨g, k * 2 + 1, none⟩) hg]; exact a1
    have hgr : g < wr.heap.size := by omega
    have HX := hide hx
    clear hx
    go_wp2_with (at_builtin; refine wpList_append_own _ rfl _ _ 154 rfl w.heap.size 206 i _ 2 32 Tryz.underlying154 hi hz0 hz1 hz2 rfl (by decide) _ (4 + k) (aQ (E.take (4 + k))) rfl (hown.alloc _) ⟨wr.heap.size, 0, none⟩ 1 1 (hdV x) rfl rfl ?hnews ?h1 ?h63 ?hby ?hba ?_)
    case hnews => exact iK (nS wr _ x)
    case h1 => simp [hdV, Value.oneCell']
    case h63 => unfold maxLen; omega
    case hby => omega
    case hba => simp; omega
    intro v' w' ho' hg' hn'
    have hb' := (hbel.alloc hsz _).grown hg' (by simp; omega) (fun k hk => (hown.lt k hk).1)
    have ho2 : w'.ownsRow w.heap.size 206 2 v' (4 + (k + 1)) (aQ (E.take (4 + (k + 1)))) := by
     have hEx : E[4 + k]? = some x := by rw [<- uh HEn]; unfold Lk.fB; rw [List.getElem?_append_right (by simp [Lk.jb])]; simpa [Lk.jb] using uh HX
     have e : E.take (4 + (k + 1)) = E.take (4 + k) ++ [x] := by rw [<- Nat.add_assoc, List.take_add_one, hEx]; rfl
     rw [e, dJ]
     simpa [aQ, Nat.add_assoc] using ho'
    clear ho' hg' hown hbel a0 a1
    go_wp2_with fail
    go_roundw
    case rel => exact ⟨k + 1, by simp, by omega, ho2, hb'⟩
    case measure => simp [intOf]; omega
  . have hlt' : ¬ (k : Int) < L.length := by omega
    have ho2 : wr.ownsRow w.heap.size 206 2 u3 E.length (aQ E) := by
     have e : 4 + k = E.length := by have := uh HE; omega
     rw [e, List.take_length] at hown
     exact hown
    clear hown
    go_wp2_with fail
    go_ret
    exact ⟨_, rfl, ho2, hbel⟩
theorem sD (t B : Nat) (L : List Lk.Hd) (v : Value) (w : World) (hT : RTab w t B L v) :
 Calls Tryz.prog 104 #[.pointer (some ⟨t, 0, none⟩)] w fun e w' => ∃ u, e = .returned (.pointer (some ⟨u, 0, none⟩)) ∧ w.heap.size <= u ∧ (∃ v', RTab w' u B L v' ∧ ∀ k, v'.ownBlock = some k -> w.heap.size <= k) ∧ Below w.heap.size w w' := by
 obtain ⟨i, hi, hz0, hz1, hz2⟩ := info_parts xK
 have hL := hT.len
 obtain ⟨a, cap, hv⟩ := hT.form
 subst hv
 have HT := hide hT
 have htl := hT.blk.lt
 clear hT
 go_enter Tryz.func104, Tryz.ntmps104
 go_wp2_with fail
 go_loopw [3, 4] (fun m u wr => ∃ k : Nat, u = .int .i64 k ∧ k <= L.length ∧ wr.ownsRow w.heap.size 206 2 m k (aQ (L.take k)) ∧ Below w.heap.size w wr) (fun _ u _ => L.length - (intOf u).toNat)
 case atStart => exact ⟨0, rfl, by omega, World.ownsRow_nil _ _ _ _, Below.refl _ _⟩
 case round =>
  obtain ⟨k, rfl, hk, hown, hbel⟩ := hrel
  have hsz := hbel.size
  have d0 := ((uh HT).blk.below hbel htl).cell 0
  have d1 := ((uh HT).blk.below hbel htl).cell 1
  simp only [List.getElem?_cons_zero, List.getElem?_cons_succ] at d0 d1
  have htr : t < wr.heap.size := by omega
  by_cases hlt : k < L.length
  . have hlt' : (k : Int) < L.length := by omega
    obtain ⟨x, hx⟩ : ∃ x, L[k]? = some x := ⟨_, List.getElem?_eq_getElem hlt⟩
    obtain ⟨g, cap', hform, hg, a0, a1⟩ := (uh HT).at' hx
    cases hform
    have a0 : wr.cell? ⟨g, k * 2, none⟩ = some (.string (bs x.n)) := by rw [hbel.cell (p := ⟨g, k * 2, none⟩) hg]; exact a0
    have a1 : wr.cell? ⟨g, k * 2 + 1, none⟩ = some (.string (bs x.v)) := by rw [hbel.cell (p := ⟨g, k * 2 + 1, none⟩) hg]; exact a1
    have hgr : g < wr.heap.size := by omega
    have HX := hide hx
    clear hx
    go_wp2_with (at_builtin; refine wpList_append_own _ rfl _ _ 154 rfl w.heap.size 206 i _ 2 32 Tryz.underlying154 hi hz0 hz1 hz2 rfl (by decide) _ k (aQ (L.take k)) rfl (hown.alloc _) ⟨wr.heap.size, 0, none⟩ 1 1 (hdV x) rfl rfl ?hnews ?h1 ?h63 ?hby ?hba ?_)
    case hnews => exact iK (nS wr _ x)
    case h1 => simp [hdV, Value.oneCell']
    case h63 => unfold maxLen; omega
    case hby => omega
    case hba => simp; omega
    intro v' w' ho' hg' hn'
    have hb' := (hbel.alloc hsz _).grown hg' (by simp; omega) (fun k hk => (hown.lt k hk).1)
    have ho2 : w'.ownsRow w.heap.size 206 2 v' (k + 1) (aQ (L.take (k + 1))) := by
     have e : L.take (k + 1) = L.take k ++ [x] := by rw [List.take_add_one, uh HX]; rfl
     rw [e, dJ]
     simpa [aQ] using ho'
    clear ho' hg' hown hbel a0 a1
    go_wp2_with fail
    go_roundw
    case rel => exact ⟨k + 1, by simp, by omega, ho2, hb'⟩
    case measure => simp [intOf]; omega
  . have hlt' : ¬ (k : Int) < L.length := by omega
    have ho2 : wr.ownsRow w.heap.size 206 2 u3 L.length (aQ L) := by
     have e : k = L.length := by omega
     rw [e, List.take_length] at hown
     exact hown
    obtain ⟨a3, c3, h3⟩ := aJ ho2
    subst h3
    have HO2 := hide ho2
    clear hown ho2
    go_wp2_with fail
    go_ret
    refine ⟨_, rfl, hsz, ⟨.slice a3 L.length c3, ⟨Is.new wr 196 [.int .i64 B, .slice a3 L.length c3], zL ((uh HO2).alloc _), (uh HT).le, (uh HT).hB⟩, fun q hq => ((uh HO2).lt q hq).1⟩, hbel.alloc hsz _⟩
namespace Lk
theorem Eu (B : Nat) (L : List Hd) (h : Hd) (hB : B < h.weight) : put B L h = [] := by
 unfold put
 rw [fit, if_neg (by omega)]
theorem Ew (B : Nat) (L : List Hd) (h : Hd) (k : Nat) (hk : k <= L.length) (h1 : weights ((h :: L).take (k + 1)) <= B) (h2 : k = L.length ∨ B < weights ((h :: L).take (k + 2))) : put B L h = (h :: L).take (k + 1) :=
 xx (h :: L) B (k + 1) (by simpa using hk) h1 (by simpa using h2)
theorem zV {l : List Hd} {m : Nat} {x : Hd} (hx : l[m]? = some x) : weights (l.take (m + 1)) = weights (l.take m) + x.weight := by
 rw [List.take_add_one, hx]
 simp [jI, weights]
end Lk
structure eF (w wr : World) (t B : Nat) (L : List Lk.Hd) (h : Lk.Hd) (v m : Value) (k : Nat) : Prop where
 tab : RTab wr t B L v
 box : Is wr w.heap.size 206 [.string (bs h.n), .string (bs h.v)]
 own : wr.ownsRow (w.heap.size + 1) 206 2 m (k + 1) (aQ ((h :: L).take (k + 1)))
 bel : Below w.heap.size w wr
theorem eF.drewN {w wr : World} {t B : Nat} {L : List Lk.Hd} {h : Lk.Hd} {v m : Value} {k : Nat} (p : eF w wr t B L h v m k) (n : Nat) : eF w (wr.drewN n) t B L h v m k :=
 ⟨⟨p.tab.blk, p.tab.own, p.tab.le, p.tab.hB⟩, p.box, p.own, ⟨p.bel.os, p.bel.tape, p.bel.output, p.bel.size, p.bel.block⟩⟩
def TR (w : World) (t B : Nat) (L : List Lk.Hd) (h : Lk.Hd) (w' : World) : Prop :=
 (∃ v', RTab w' t B (Lk.put B L h) v' ∧ ∀ k, v'.ownBlock = some k -> w.heap.size <= k) ∧ Turns t w w'
theorem eF.done {w wr : World} {t B : Nat} {L : List Lk.Hd} {h : Lk.Hd} {v m : Value} {k : Nat} (p : eF w wr t B L h v m k) (hp : Lk.put B L h = (h :: L).take (k + 1)) (hk : k <= L.length) :
 TR w t B L h (wr.setCell ⟨t, 1, none⟩ m) := by
 have ho := p.own.kept (grownBy_set wr t 1 m) (.inr (fun e => own_ne p.own p.tab.blk (nbq rfl) e.symm))
 refine ⟨⟨m, ⟨p.tab.blk.set 1 m, ?_, by rw [hp]; have := Lk.jd B L h; rw [hp] at this; exact this, p.tab.hB⟩, fun q hq => by have := (p.own.lt q hq).1; omega⟩, ((Turns.refl t w).below p.bel).set 1 m⟩
 rw [hp]
 have e : ((h :: L).take (k + 1)).length = k + 1 := by rw [List.length_take]; simp; omega
 rw [e]
 exact zL ho
theorem eF.nil' {w wr : World} {t B : Nat} {L : List Lk.Hd} {h : Lk.Hd} {v m : Value} {k : Nat} (p : eF w wr t B L h v m k) (hp : Lk.put B L h = []) :
 TR w t B L h (wr.setCell ⟨t, 1, none⟩ (.slice none 0 0)) := by
 refine ⟨⟨.slice none 0 0, ⟨p.tab.blk.set 1 _, by rw [hp]; exact World.ownsRow_nil _ _ _ _, by rw [hp]; simp [Lk.weights], p.tab.hB⟩, fun q hq => by simp [Value.ownBlock] at hq⟩, ((Turns.refl t w).below p.bel).set 1 _⟩
theorem eF.step {w wr w' : World} {t B k n : Nat} {L : List Lk.Hd} {h x : Lk.Hd} {v m v' : Value} (p : eF w wr t B L h v m k) (hx : L[k]? = some x)
 (hg : ((wr.drewN n).alloc (.cells #[.string (bs x.n), .string (bs x.v)] 206)).grownBy w' m.ownBlock) (ho : w'.ownsRow (w.heap.size + 1) 206 2 v' (k + 1 + 1) (aQ ((h :: L).take (k + 1)) ++ hdV x)) (hv : v.ownBlock = none ∨ v.ownBlock ≠ m.ownBlock := by assumption) : eF w w' t B L h v v' (k + 1) := by
 have q := p.drewN n
 have hs := q.bel.size
 have hg1 : ∀ j, m.ownBlock = some j -> w.heap.size + 1 <= j := fun j hj => (p.own.lt j hj).1
 have hT := q.tab.alloc (.cells #[.string (bs x.n), .string (bs x.v)] 206)
 have hO := q.own.alloc (.cells #[.string (bs x.n), .string (bs x.v)] 206)
 refine ⟨⟨hT.blk.grown hg (own_ne hO hT.blk (nbq rfl)), hT.own.kept hg hv, hT.le, hT.hB⟩, (q.box.alloc _).grown hg (fun e => by have := hg1 _ e.symm; omega), ?_, (q.bel.alloc hs _).grown hg (by have := p.bel.size; simp; omega) (fun j hj => by have := hg1 j hj; omega)⟩
 have e : (h :: L).take (k + 1 + 1) = (h :: L).take (k + 1) ++ [x] := by
  rw [List.take_add_one]
  simp [hx]
 rw [e, dJ]
 simpa [aQ] using ho
theorem xR (t B : Nat) (L : List Lk.Hd) (h : Lk.Hd) (v : Value) (w : World) (hT : RTab w t B L v) (hn : h.n.length <= 300) (hv : h.v.length <= 300) :
 Calls Tryz.prog 151 #[.pointer (some ⟨t, 0, none⟩), hdA h] w fun e w' => e = .returned (.tuple #[]) ∧ TR w t B L h w' := by
 obtain ⟨i, hi, hz0, hz1, hz2⟩ := info_parts xK
 have hL := hT.len
 have hB := hT.hB
 obtain ⟨a, cap, hvf⟩ := hT.form
 subst hvf
 have zn := ax h.n
 have zv := ax h.v
 have hwh : h.weight = h.n.length + h.v.length + 4 := rfl
 have hwL := hT.le
 have HWH := hide hwh
 have hP0 : eF w ((w.alloc (.cells #[.string (bs h.n), .string (bs h.v)] 206)).alloc (.cells #[.string (bs h.n), .string (bs h.v)] 206)) t B L h (.slice a L.length cap) (.slice (some ⟨w.heap.size + 1, 0, none⟩) 1 1) 0 := by
  refine ⟨(hT.alloc _).alloc _, (Is.new w _ _).alloc _, ?_, ((Below.refl _ _).alloc (Nat.le_refl _) _).alloc (by simp) _⟩
  have := nS (w.alloc (.cells #[.string (bs h.n), .string (bs h.v)] 206)) 206 h
  simpa [aQ] using this
 have HP0 := hide hP0
 have HV := hide (fun q (hq : (Value.slice a L.length cap).ownBlock = some q) => (hT.own.lt q hq).2)
 clear hT hP0 hwh
 go_enter Tryz.func151, Tryz.ntmps151
 go_wp2_with fail
 go_loopw [4, 5, 6] (fun m s u wr => ∃ k : Nat, u = .int .i64 k ∧ k <= L.length ∧ s = .int .i64 (Lk.weights ((h :: L).take (k + 1)) : Nat) ∧ (k = 0 ∨ Lk.weights ((h :: L).take (k + 1)) <= B) ∧ eF w wr t B L h (.slice a L.length cap) m k) (fun _ _ u _ => L.length - (intOf u).toNat)
 case atStart =>
  refine ⟨0, rfl, by omega, ?_, .inl rfl, uh HP0⟩
  have := uh HWH
  simp [Lk.weights]
  omega
 case round =>
  obtain ⟨k, rfl, hk, rfl, hok, hP⟩ := hrel
  obtain ⟨ma, mc, hm⟩ := aJ hP.own
  have HVM := hide (show (Value.slice a L.length cap).ownBlock = Option.none ∨ (Value.slice a L.length cap).ownBlock ≠ u4.ownBlock from by
   cases hv : (Value.slice a L.length cap).ownBlock with
   | none => exact .inl rfl
   | some q =>
     right
     intro e
     have h1 := (uh HV) q hv
     have h2 := (hP.own.lt q e.symm).1
     omega)
  subst hm
  have hsz := hP.bel.size
  have t0 := hP.tab.blk.cell 0
  have t1 := hP.tab.blk.cell 1
  have tf := hP.tab.blk.free 1
  have b0 := hP.box.cell 0
  have b1 := hP.box.cell 1
  simp only [List.getElem?_cons_zero, List.getElem?_cons_succ] at t0 t1 b0 b1
  have htl := hP.tab.blk.lt
  have hbl := hP.box.lt
  have hws : Lk.weights ((h :: L).take (k + 1)) <= 1000 := by
   have h1 := Lk.rD (h :: L) (k + 1)
   have h2 := uh HWH
   simp only [Lk.weights] at h1
   omega
  by_cases hlt : k < L.length
  . have hlt' : (k : Int) < L.length := by omega
    obtain ⟨x, hx⟩ : ∃ x, L[k]? = some x := ⟨_, List.getElem?_eq_getElem hlt⟩
    obtain ⟨g, cap', hform, hg, a0, a1⟩ := hP.tab.at' hx
    cases hform
    have zx := ax x.n
    have zy := ax x.v
    have hxw := Lk.jX (List.mem_of_getElem? hx)
    have hxe : x.weight = x.n.length + x.v.length + 4 := rfl
    have hst := Lk.zV (l := h :: L) (m := k + 1) (x := x) (by simpa using hx)
    have hxn : x.n.length <= 300 := by omega
    have hxv : x.v.length <= 300 := by omega
    have HST := hide (show ((Lk.weights ((h :: L).take (k + 1)) : Nat) : Int) + x.n.length + x.v.length + 4 = (Lk.weights ((h :: L).take (k + 2)) : Nat) by rw [hst]; omega)
    have HX := hide hx
    have HP := hide hP
    have HOK := hide hok
    clear hx hxw hxe hst hP hok
    generalize hW1 : Lk.weights ((h :: L).take (k + 1)) = W1 at *
    have HW1 := hide hW1
    clear hW1
    by_cases hgt : (B : Int) < (W1 : Int) + x.n.length + x.v.length + 4
    . go_wp2_with fail
      go_quiet (fail)
      by_cases hhw : (B : Int) < h.n.length + h.v.length + 4
      . go_wp2_with fail
        go_quiet (fail)
        go_wp2_with fail
        go_end0
        exact ⟨rfl, eF.nil' ((uh HP).drewN _) (Lk.Eu B L h (by have := uh HWH; omega))⟩
      . go_wp2_with fail
        go_quiet (fail)
        go_wp2_with fail
        go_end0
        refine ⟨rfl, eF.done ((uh HP).drewN _) (Lk.Ew B L h k hk ?_ ?_) hk⟩
        . have hwh := uh HWH
          rcases uh HOK with h0 | h0
          . subst h0
            simp [Lk.weights]
            omega
          . rw [uh HW1]; exact h0
        . right; have := uh HST; have h2 := uh HW1; omega
    . go_wp2_with fail
      go_quiet (fail)
      go_wp2_with (at_builtin; refine wpList_append_own _ rfl _ _ 154 rfl (w.heap.size + 1) 206 i _ 2 32 Tryz.underlying154 hi hz0 hz1 hz2 rfl (by decide) _ (k + 1) (aQ ((h :: L).take (k + 1))) rfl (((uh HP).drewN _).own.alloc _) ⟨wr.heap.size, 0, none⟩ 1 1 (hdV x) rfl rfl ?hnews ?h1 ?h63 ?hby ?hba ?_)
      case hnews => exact iK (nS _ _ x)
      case h1 => simp [hdV, Value.oneCell']
      case h63 => unfold maxLen; omega
      case hby => omega
      case hba => first | omega | (simp; omega)
      intro v' w' ho' hg' hn'
      have hP2 : eF w w' t B L h (.slice (some ⟨g, 0, none⟩) L.length cap) v' (k + 1) := eF.step (uh HP) (uh HX) hg' ho' (uh HVM)
      have HP2 := hide hP2
      clear hP2 ho' hg'
      go_wp2_with fail
      go_roundw
      case rel =>
       have e2 : ((W1 : Nat) : Int) + x.n.length + x.v.length + 4 = (Lk.weights ((h :: L).take (k + 1 + 1)) : Nat) := uh HST
       refine ⟨k + 1, by simp, by omega, ?_, .inr ?_, uh HP2⟩
       . simp only [Value.int.injEq, true_and]
         omega
       . omega
      case measure => simp [intOf]; omega
  . have hlt' : ¬ (k : Int) < L.length := by omega
    have HP := hide hP
    have HOK := hide hok
    clear hP hok
    generalize hW1 : Lk.weights ((h :: L).take (k + 1)) = W1 at *
    have HW1 := hide hW1
    clear hW1
    by_cases hhw : (B : Int) < h.n.length + h.v.length + 4
    . go_wp2_with fail
      go_quiet (fail)
      go_wp2_with fail
      go_end0
      exact ⟨rfl, eF.nil' ((uh HP).drewN _) (Lk.Eu B L h (by have := uh HWH; omega))⟩
    . go_wp2_with fail
      go_quiet (fail)
      go_wp2_with fail
      go_end0
      refine ⟨rfl, eF.done ((uh HP).drewN _) (Lk.Ew B L h k hk ?_ ?_) hk⟩
      . have hwh := uh HWH
        rcases uh HOK with h0 | h0
        . subst h0
          simp [Lk.weights]
          omega
        . rw [uh HW1]; exact h0
      . left; omega
open Go.RowKit
attribute [local go_sem ↓] Go.wp_at_zero Go.wp_at_succ
theorem lq (a b : Lk.Bs) : bs a ++ bs b = bs (a ++ b) := by
 apply ByteArray.ext
 simp [bs]
theorem sS (a : Lk.Bs) : (bs a).toList = a := by rw [ByteArray.toList_eq]; simp [bs]
theorem Jk (a b : Lk.Bs) : ((bs a).toList == (bs b).toList) = decide (a = b) := by
 rw [sS, sS, Bool.eq_iff_iff]
 simp
theorem eu (n : Nat) (z : Int) (w : World) (hz : z = n) (hn : n <= 268435455) : Calls Tryz.prog 99 #[.int .i64 z] w fun e w' => e = .returned (.string (bs (Lk.wire n))) ∧ Below w.heap.size w w' :=
 kD n z w hz hn
theorem Me (R : Nat) (h : R <= 100) : IntKind.i64.wrap (IntKind.i64.wrap (2 * IntKind.i64.wrap ((R : Int) + 1)) + 1) = ((2 * (R + 1) + 1 : Nat) : Int) := by
 rw [kZ ((R : Int) + 1) (by omega) (by omega), kZ (2 * ((R : Int) + 1)) (by omega) (by omega), kZ _ (by omega) (by omega)]
 omega
theorem sU (l : Lk.Bs) (w : World) (hl : l.length <= 300) : Calls Tryz.prog 152 #[.string (bs l)] w fun e w' => e = .returned (.string (bs (Lk.text l))) ∧ Below w.heap.size w w' := by
 have hsz := ax l
 have hw4 := Lk.au l.length (by omega)
 have hs2 := ax (Lk.wire l.length)
 have hadd : (Lk.wire l.length).length + l.length <= 9223372036854775807 := by omega
 generalize hW : bs (Lk.wire l.length) = W at hs2
 have HW := hide hW
 clear hW
 go_enter Tryz.func152, Tryz.ntmps152
 go_wp2_with fail
 refine (eu l.length _ _ (by rfl) (by omega)).mono ?_
 rintro e w1 ⟨he, hb⟩
 rw [uh HW] at he
 subst he
 go_wp2_with fail
 go_ret
 refine ⟨dY ?_, hb⟩
 rw [<- uh HW, lq]
 rfl
def nZ (h : Lk.Hd) (E : List Lk.Hd) (k : Nat) (z : Int) : Prop :=
 (z = -1 ∧ ∀ j, k <= j -> ∀ x, E[j]? = some x -> Lk.aX h x = false) ∨
 ∃ m : Nat, z = m ∧ k <= m ∧ (∃ x, E[m]? = some x ∧ Lk.aX h x = true) ∧ ∀ j, k <= j -> j < m -> ∀ x, E[j]? = some x -> Lk.aX h x = false
theorem nZ.no {h x : Lk.Hd} {E : List Lk.Hd} {k : Nat} {z : Int} (hl : nZ h E (k + 1) z) (hx : E[k]? = some x) (hq : Lk.aX h x = false) : nZ h E k z := by
 rcases hl with ⟨h1, h2⟩ | ⟨m, h1, h2, h3, h4⟩
 . refine .inl ⟨h1, fun j hj y hy => ?_⟩
   rcases Nat.eq_or_lt_of_le hj with rfl | hj
   . rw [hx] at hy; cases hy; exact hq
   . exact h2 j hj y hy
 . refine .inr ⟨m, h1, by omega, h3, fun j hj hm y hy => ?_⟩
   rcases Nat.eq_or_lt_of_le hj with rfl | hj
   . rw [hx] at hy; cases hy; exact hq
   . exact h4 j hj hm y hy
theorem nZ.yes {h x : Lk.Hd} {E : List Lk.Hd} {k : Nat} (hx : E[k]? = some x) (hq : Lk.aX h x = true) : nZ h E k k :=
 .inr ⟨k, rfl, Nat.le_refl _, ⟨x, hx, hq⟩, fun j h1 h2 => by omega⟩
theorem nZ.end {h : Lk.Hd} {E : List Lk.Hd} {z : Int} (hl : nZ h E 0 z) : z = if Lk.low (Lk.aX h) E < E.length then (Lk.low (Lk.aX h) E : Int) else -1 := by
 rcases hl with ⟨h1, h2⟩ | ⟨m, h1, h2, h3, h4⟩
 . have e : Lk.low (Lk.aX h) E = E.length := Lk.nK _ _ _ (fun j hj => ⟨_, List.getElem?_eq_getElem hj, h2 j (by omega) _ (List.getElem?_eq_getElem hj)⟩) (.inl rfl)
   rw [e, if_neg (by omega), h1]
 . obtain ⟨x, hx, hq⟩ := h3
   have hm := (List.getElem?_eq_some_iff.1 hx).1
   have e : Lk.low (Lk.aX h) E = m := Lk.nK _ _ _ (fun j hj => ⟨_, List.getElem?_eq_getElem (by omega), h4 j (by omega) hj _ (List.getElem?_eq_getElem (by omega))⟩) (.inr ⟨x, hx, hq⟩)
   rw [e, if_pos hm, h1]
theorem MB (t B : Nat) (L : List Lk.Hd) (h : Lk.Hd) (v : Value) (w : World) (hT : RTab w t B L v) (hn : h.n.length <= 16) (hv : h.v.length <= 32) (S : Lk.Bs) (L2 : List Lk.Hd) (HS : Hid (Lk.lT B L h = (S, L2))) :
 Calls Tryz.prog 102 #[.pointer (some ⟨t, 0, none⟩), hdA h] w fun e w' => e = .returned (.string (bs S)) ∧ (∃ v', RTab w' t B L2 v' ∧ (v' = v ∨ ∀ k, v'.ownBlock = some k -> w.heap.size <= k)) ∧ Turns t w w' := by
 have hEl := Lk.nM L
 have hLl := hT.len
 generalize hE : Lk.fB L = E at hEl
 have HE := hide hE
 have HEL := hide hEl
 have hN : E.length <= 54 := by omega
 have hN4 : 4 <= E.length := by omega
 have HT0 := hide (hT.alloc (.cells #[.string (bs h.n), .string (bs h.v)] 206))
 have HX0 := hide (Is.new w 206 [.string (bs h.n), .string (bs h.v)])
 have hb0 := (Below.refl w.heap.size w).alloc (Nat.le_refl _) (.cells #[.string (bs h.n), .string (bs h.v)] 206)
 have hlt0 := hT.blk.lt
 clear hE hEl hT
 go_enter Tryz.func102, Tryz.ntmps102
 go_wp2_with fail
 refine (lV t B L v _ (uh HT0)).mono ?_
 rintro e w1 ⟨v1, rfl, ho1, hb1⟩
 rw [uh HE] at ho1
 obtain ⟨g, cap, hv1, hgB, hgl⟩ := ho1.form (by omega)
 subst hv1
 have hT1 := (uh HT0).below hb1
 have hX1 := (uh HX0).below hb1 (by simp)
 have iL := hb0.trans (hb1.mono (by simp))
 have b0 := hX1.cell 0
 have b1 := hX1.cell 1
 simp only [List.getElem?_cons_zero, List.getElem?_cons_succ] at b0 b1
 have hXl := hX1.lt
 have HT1 := hide hT1
 have HX1 := hide hX1
 have HO1 := hide ho1
 clear hT1 hX1 ho1 hb1 hb0 HT0 HX0
 generalize hNN : E.length = N at *
 have HNN := hide hNN
 clear hNN
 go_wp2_with fail
 go_loopw [6, 7] (fun s u wr => ∃ (k n : Nat) (z : Int), u = .int .i64 ((k : Int) - 1) ∧ k <= N ∧ s = .int .i64 z ∧ -1 <= z ∧ z <= 60 ∧ Hid (nZ h E k z) ∧ wr = w1.drewN n) (fun _ u _ => (intOf u + 1).toNat)
 case atStart =>
  refine ⟨N, 0, -1, by simp, by omega, rfl, by omega, by omega, .inl ⟨rfl, fun j hj x hx => ?_⟩, rfl⟩
  have := (List.getElem?_eq_some_iff.1 hx).1
  have h2 := uh HNN
  omega
 case round =>
  obtain ⟨k, nd, z, rfl, hk, rfl, hz1, hz2, HLk, rfl⟩ := hrel
  cases k with
  | succ k =>
    obtain ⟨x, hx⟩ : ∃ x, E[k]? = some x := ⟨_, List.getElem?_eq_getElem (by have := uh HNN; omega)⟩
    obtain ⟨_, x0, x1⟩ := jJ (uh HO1) hx
    have hkI : (0 : Int) <= k := by omega
    have hkN : (k : Int) < N := by omega
    have hkz : (((k + 1 : Nat) : Int) - 1) = k := by omega
    rw [hkz]
    have hqe := Jk x.n h.n
    have HX := hide hx
    clear hx hkz
    cases hq : decide (x.n = h.n) with
    | false =>
      rw [hq] at hqe
      have HQ := hide (show Lk.aX h x = false from hq)
      clear hq
      go_wp2_with fail
      go_quiet (fail)
      go_wp2_with fail
      refine ⟨⟨k, _, z, rfl, by omega, rfl, hz1, hz2, hide ((uh HLk).no (uh HX) (uh HQ)), rfl⟩, ?_⟩
      simp only [intOf]
      omega
    | true =>
      rw [hq] at hqe
      have HQ := hide (show Lk.aX h x = true from hq)
      clear hq
      go_wp2_with fail
      go_quiet (fail)
      go_wp2_with fail
      refine ⟨⟨k, _, k, rfl, by omega, rfl, by omega, by omega, hide (nZ.yes (uh HX) (uh HQ)), rfl⟩, ?_⟩
      simp only [intOf]
      omega
  | zero =>
    have hze := (uh HLk).end
    rw [uh HNN] at hze
    generalize hR2 : Lk.low (Lk.aX h) E = R2 at hze
    have HR2 := hide hR2
    have HZE := hide hze
    clear hR2 hze
    have h00 : ((0 : Nat) : Int) - 1 = -1 := rfl
    rw [h00]
    go_wp2_with fail
    go_loopw [8] (fun u wr => ∃ (k n : Nat), u = .int .i64 k ∧ k <= N ∧ Hid (∀ j, j < k -> ∃ x, E[j]? = some x ∧ Lk.gy h x = false) ∧ wr = w1.drewN n) (fun u _ => N - (intOf u).toNat)
    case atStart => exact ⟨0, nd, rfl, by omega, fun j hj => by omega, rfl⟩
    case round =>
     obtain ⟨k, nk, rfl, hk, HK, rfl⟩ := hrel
     by_cases hlt : k < N
     . have hlt' : (k : Int) < N := by omega
       obtain ⟨x, hx⟩ : ∃ x, E[k]? = some x := ⟨_, List.getElem?_eq_getElem (by have := uh HNN; omega)⟩
       obtain ⟨_, x0, x1⟩ := jJ (uh HO1) hx
       have hqe := Jk x.n h.n
       have hqv := Jk x.v h.v
       have HX := hide hx
       clear hx
       cases hq : decide (x.n = h.n) with
       | false =>
         rw [hq] at hqe
         have HQ := hide (show Lk.gy h x = false by unfold Lk.gy; rw [hq]; rfl)
         clear hq hqv
         go_wp2_with fail
         go_quiet (fail)
         go_wp2_with fail
         go_roundw
         case rel =>
          refine ⟨k + 1, _, by simp, by omega, fun j hj => ?_, rfl⟩
          rcases Nat.lt_succ_iff_lt_or_eq.1 hj with hj | rfl
          . exact uh HK j hj
          . exact ⟨x, uh HX, uh HQ⟩
         case measure => simp [intOf]; omega
       | true =>
         cases hq2 : decide (x.v = h.v) with
         | false =>
           rw [hq] at hqe
           rw [hq2] at hqv
           have HQ := hide (show Lk.gy h x = false by unfold Lk.gy; rw [hq, hq2]; rfl)
           clear hq hq2
           go_wp2_with fail
           go_quiet (fail)
           go_wp2_with fail
           go_roundw
           case rel =>
            refine ⟨k + 1, _, by simp, by omega, fun j hj => ?_, rfl⟩
            rcases Nat.lt_succ_iff_lt_or_eq.1 hj with hj | rfl
            . exact uh HK j hj
            . exact ⟨x, uh HX, uh HQ⟩
           case measure => simp [intOf]; omega
         | true =>
           rw [hq] at hqe
           rw [hq2] at hqv
           have hlow := Lk.nK (Lk.gy h) E k (uh HK) (.inr ⟨x, uh HX, by unfold Lk.gy; rw [hq, hq2]; rfl⟩)
           have hone : (S, L2) = (Lk.wire (2 * k), L) := by
            rw [<- uh HS]
            unfold Lk.lT
            rw [uh HE, hlow, uh HNN, if_pos hlt]
           cases hone
           clear hq hq2 hlow
           go_wp2_with fail
           go_quiet (fail)
           go_wp2_with fail
           refine (eu (2 * k) _ _ (by first | rfl | (simp; done) | omega) (by omega)).mono ?_
           rintro e w2 ⟨rfl, hb2⟩
           go_wp2_with fail
           go_ret
           have hb2' : Below w1.heap.size w1 w2 := ⟨hb2.os, hb2.tape, hb2.output, hb2.size, hb2.block⟩
           exact ⟨rfl, ⟨v, (uh HT1).below hb2', .inl rfl⟩, (Below.turns iL t).below hb2'⟩
     . have hlt' : ¬ (k : Int) < N := by omega
       have hkN : k = N := by omega
       have hlow := Lk.nK (Lk.gy h) E k (uh HK) (.inl (by have := uh HNN; omega))
       have HT2 := hide (show RTab (w1.drewN nk) t B L v from ⟨(uh HT1).blk, (uh HT1).own, (uh HT1).le, (uh HT1).hB⟩)
       go_wp2_with fail
       refine (xR t B L h v _ (uh HT2) (by omega) (by omega)).mono ?_
       rintro e w2 ⟨rfl, ⟨v2, hT2, hv2⟩, Om⟩
       have Pq : Turns t w1 w2 := ⟨Om.os, Om.tape, Om.output, Om.size, Om.block⟩
       have hX2 := (uh HX1).grown Pq (fun e => (uh HX1).ne (uh HT1).blk (nbq rfl) (by simpa using e))
       have b0 := hX2.cell 0
       have b1 := hX2.cell 1
       simp only [List.getElem?_cons_zero, List.getElem?_cons_succ] at b0 b1
       have S9 := hX2.lt
       have hTT := (Below.turns iL t).trans Pq
       have U4 : ∀ q, v2.ownBlock = some q -> w.heap.size <= q := fun q hq => by have := hv2 q hq; have h2 := iL.size; simp at this; omega
       have HT3 := hide hT2
       have HV3 := hide U4
       clear hT2 hv2 Om Pq hX2 U4 HT2
       have hwv := Lk.au h.v.length (by omega)
       have htv : (Lk.text h.v).length <= 40 := by unfold Lk.text; rw [List.length_append]; omega
       have hwn := Lk.au h.n.length (by omega)
       have htn : (Lk.text h.n).length <= 40 := by unfold Lk.text; rw [List.length_append]; omega
       have hze := uh HZE
       by_cases hR : R2 < N
       . rw [if_pos hR] at hze
         have hone : (S, L2) = (Lk.wire (2 * (R2 + 1) + 1) ++ Lk.text h.v, Lk.put B L h) := by
          rw [<- uh HS]
          unfold Lk.lT
          rw [uh HE, hlow, uh HNN, uh HR2, if_neg (by omega), if_pos hR]
         cases hone
         subst hze
         have hw4 := Lk.au (2 * (R2 + 1) + 1) (by omega)
         have HC1 := hide (fun z w hz => eu (2 * (R2 + 1) + 1) z w hz (by omega))
         have HC2 := hide (fun w => sU h.v w (by omega))
         have s1 := ax (Lk.wire (2 * (R2 + 1) + 1))
         have s2 := ax (Lk.text h.v)
         have hres := lq (Lk.wire (2 * (R2 + 1) + 1)) (Lk.text h.v)
         generalize bs (Lk.wire (2 * (R2 + 1) + 1)) = W1 at *
         generalize bs (Lk.text h.v) = W2 at *
         have hadd : W1.size + W2.size <= 9223372036854775807 := by omega
         have Oo := hide hres
         clear s1 s2 hres hw4 hwv htv hwn htn hlow
         go_wp2_with fail
         go_region_with (first
          | (go_at_call 99; refine (uh HC1 _ _ (Me R2 (by omega))).mono ?_; rintro e wx ⟨rfl, hbx⟩; have g1 := aK hbx (b := w.heap.size) (k := 1) (v := .string (bs h.v)) (by simpa using S9) (by simpa using b1))
          | (go_at_call 152; refine (uh HC2 _).mono ?_; rintro e wy ⟨rfl, hby⟩))
         all_goals
          go_wp2_with fail
          go_ret
          first
           | (have hbb : Below w2.heap.size w2 wy := Below.trans ⟨hbx.os, hbx.tape, hbx.output, hbx.size, hbx.block⟩ (hby.mono hbx.size)
              exact ⟨dY (uh Oo), ⟨v2, (uh HT3).below hbb, .inr (uh HV3)⟩, hTT.below hbb⟩)
           | (have hbb : Below w2.heap.size w2 wx := Below.trans ⟨hby.os, hby.tape, hby.output, hby.size, hby.block⟩ (hbx.mono hby.size)
              exact ⟨dY (uh Oo), ⟨v2, (uh HT3).below hbb, .inr (uh HV3)⟩, hTT.below hbb⟩)
       . rw [if_neg hR] at hze
         have hone : (S, L2) = (Lk.wire 1 ++ Lk.text h.n ++ Lk.text h.v, Lk.put B L h) := by
          rw [<- uh HS]
          unfold Lk.lT
          rw [uh HE, hlow, uh HNN, uh HR2, if_neg (by omega), if_neg hR]
         cases hone
         subst hze
         have hw4 := Lk.au 1 (by omega)
         have HC1 := hide (fun w => eu 1 1 w rfl (by omega))
         have HC2 := hide (fun w => sU h.n w (by omega))
         have HC3 := hide (fun w => sU h.v w (by omega))
         have s1 := ax (Lk.wire 1)
         have s2 := ax (Lk.text h.n)
         have s3 := ax (Lk.text h.v)
         have hres := lq (Lk.wire 1 ++ Lk.text h.n) (Lk.text h.v)
         rw [<- lq (Lk.wire 1) (Lk.text h.n)] at hres
         generalize bs (Lk.wire 1) = W1 at *
         generalize bs (Lk.text h.n) = W2 at *
         generalize bs (Lk.text h.v) = W3 at *
         have hadd : W1.size + W2.size <= 9223372036854775807 := by omega
         have Wi : W1.size + W2.size + W3.size <= 9223372036854775807 := by omega
         have Oo := hide hres
         clear s1 s2 s3 hres hw4 hwv htv hwn htn hlow
         go_wp2_with fail
         go_region_with (first
          | (go_at_call 99; refine (uh HC1 _).mono ?_; rintro e wx ⟨rfl, hbx⟩; have g0 := aK hbx (b := w.heap.size) (k := 0) (v := .string (bs h.n)) (by simpa using S9) (by simpa using b0); have g1 := aK hbx (b := w.heap.size) (k := 1) (v := .string (bs h.v)) (by simpa using S9) (by simpa using b1); have gl := kW hbx (b := w.heap.size) (by simpa using S9))
          | (go_at_call_of 152 (Value.string (bs h.n)); refine (uh HC2 _).mono ?_; rintro e wy ⟨rfl, hby⟩; have g2 := aK hby (b := w.heap.size) (k := 1) (v := .string (bs h.v)) gl g1)
          | (go_at_call_of 152 (Value.string (bs h.v)); refine (uh HC3 _).mono ?_; rintro e wz ⟨rfl, hbz⟩))
         all_goals
          go_wp2_with fail
          go_ret
          have hbb : Below w2.heap.size w2 wz := bQ ((hbx.trans (hby.mono hbx.size)).trans (hbz.mono (Nat.le_trans hbx.size hby.size)))
          exact ⟨dY (uh Oo), ⟨v2, (uh HT3).below hbb, .inr (uh HV3)⟩, hTT.below hbb⟩
end Go.Proofs.YtbkpdapagfjmmaaGreatDoor
