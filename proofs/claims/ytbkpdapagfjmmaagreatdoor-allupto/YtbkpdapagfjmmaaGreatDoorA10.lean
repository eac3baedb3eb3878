import Derived.Test.YtbkpdapagfjmmaaGreatDoorA2
import Derived.Test.YtbkpdapagfjmmaaGreatDoorA7
import Derived.Deep.RegionHeld3
import Derived.Deep.DrawnRows
set_option linter.unusedVariables false
set_option maxRecDepth 100000
set_option maxHeartbeats 16000000
namespace Go.Proofs.YtbkpdapagfjmmaaGreatDoor
open Go.RowKit
attribute [local go_sem ↓] Go.wp_at_zero Go.wp_at_succ
abbrev aU : Value := .func (.func 126) #[] #[]
def sliceLen : Value -> Nat
 | .slice _ n _ => n
 | _ => 0
theorem own_base {w : World} {B B' : Nat} {e : TypeId} {size n : Nat} {v : Value} {xs : List Value} (hB : B <= B') (h : w.ownsRow B' e size v n xs) : w.ownsRow B e size v n xs := by
 refine ⟨h.1, ?_⟩
 rcases h.2 with h | ⟨g, cap, cur, h0, h1, h2⟩
 . exact .inl h
 . exact .inr ⟨g, cap, cur, h0, by omega, h2⟩
theorem O7 {w : World} {B : Nat} {e : TypeId} {size n m : Nat} {v : Value} {xs : List Value} (hn : m = n) (h : w.ownsRow B e size v n xs) : w.ownsRow B e size v m xs := by rw [hn]; exact h
theorem uN (g m cap B : Nat) (L : List Lk.Hd) (w : World) (z1 z2 : Int) (h1 : z1 = m) (h2 : z2 = (m : Int) + 1) (hL : L.length = m + 1) (hm : m <= 1000)
 (own : w.ownsRow B 112 2 (.slice (some ⟨g, 0, none⟩) (m + 1) cap) (m + 1) (aQ L)) :
 Calls Tryz.prog 185 #[.slice (some ⟨g, 0, none⟩) (m + 1) cap, .int .i64 z1, .int .i64 z2] w fun e w' =>
  e = .returned (.slice (some ⟨g, 0, none⟩) m cap) ∧ w'.ownsRow B 112 2 (.slice (some ⟨g, 0, none⟩) m cap) m (aQ (L.take m)) ∧ w.grownBy w' (some g) := by
 subst h1; subst h2
 exact BV g m cap B L w hL hm own
theorem Q4 {w : World} {B g n cap i : Nat} {T : TypeId} {l : List Lk.Hd} {x : Lk.Hd} (h : w.ownsRow B T 2 (.slice (some ⟨g, 0, none⟩) n cap) n (aQ l)) (hx : l[i]? = some x) :
 g < w.heap.size ∧ w.cell? ⟨g, i * 2, none⟩ = some (.string (bs x.n)) ∧ w.cell? ⟨g, i * 2 + 1, none⟩ = some (.string (bs x.v)) := by
 have hn : n = l.length := by have := h.1; rw [qQ] at this; omega
 subst hn
 rcases eP h with ⟨_, h⟩ | ⟨g', cap', h, _, hg, _, hc⟩
 . cases h
 . cases h
   exact ⟨hg, hc i x hx⟩
theorem IY {h x : Lk.Hd} {L : List Lk.Hd} {m B : Nat} (hx : (h :: L)[m]? = some x) (hn : h.n.length <= 200) (hv : h.v.length <= 100) (hL : Lk.weights L <= B) (hB : B <= 200) : x.n.length <= 200 ∧ x.v.length <= 200 := by
 have hm := List.mem_of_getElem? hx
 simp only [List.mem_cons] at hm
 rcases hm with rfl | hm
 . omega
 . have := Lk.jX hm
   unfold Lk.Hd.weight at this
   omega
theorem Lk.o8 {l : List Lk.Hd} {m : Nat} {x : Lk.Hd} (hx : l[m]? = some x) : Lk.weights (l.take (m + 1)) = Lk.weights (l.take m) + x.weight := by
 rw [List.take_add_one, hx]
 simp [Lk.jI, Lk.weights]
theorem IZ (w : World) (T : TypeId) (H : Nat) (h : Lk.Hd) (hH : w.heap.size = H := by simp) : (w.alloc (.cells #[.string (bs h.n), .string (bs h.v)] T)).ownsRow H T 2 (.slice (some ⟨H, 0, none⟩) 1 1) 1 (aQ [h]) := by
 subst hH
 exact ⟨rfl, .inr ⟨w.heap.size, 1, _, rfl, Nat.le_refl _, heap_alloc_new w _, Nat.le_refl _, by unfold maxLen; omega, rfl, rfl⟩⟩
theorem rG {w w1 : World} {h : Lk.Hd} {L : List Lk.Hd} {v1 : Value} (hg : ((w.alloc (.cells #[.string (bs h.n), .string (bs h.v)] 112)).alloc (.cells #[.string (bs h.n), .string (bs h.v)] 112)).grownBy w1 (some (w.heap.size + 1)))
 (ho : w1.ownsRow (w.heap.size + 1) 112 2 v1 (1 + L.length) (aQ [h] ++ aQ L)) :
 ∃ n cap g, v1 = .slice (some ⟨g, 0, none⟩) n cap ∧ n = (h :: L).length ∧ w1.ownsRow (w.heap.size + 1) 112 2 v1 n (aQ (h :: L)) ∧ Below w.heap.size w w1 ∧ w1.cell? ⟨w.heap.size, 0, none⟩ = some (.string (bs h.n)) ∧ w1.cell? ⟨w.heap.size, 1, none⟩ = some (.string (bs h.v)) ∧ w.heap.size < w1.heap.size ∧ w.heap.size < g := by
 obtain ⟨g, cap, rfl, hgB, hgl⟩ := ho.form (by omega)
 have hI := ((Is.new w 112 [.string (bs h.n), .string (bs h.v)]).alloc (.cells #[.string (bs h.n), .string (bs h.v)] 112)).grown hg (by simp)
 refine ⟨_, cap, g, rfl, by simp; omega, ?_, ?_, hI.cell 0, hI.cell 1, hI.lt, by omega⟩
 . rw [<- dJ] at ho
   simpa using ho
 . exact (((Below.refl w.heap.size w).alloc (Nat.le_refl _) _).alloc (by simp) _).grown hg (by simp; omega) (fun k hk => by simp at hk; omega)
theorem put_any (b o : Nat) (T : TypeId) (cs : List Value) (B B0 : Nat) (L : List Lk.Hd) (h : Lk.Hd) (v : Value) (r : Int) (w : World)
 (hI : Is w b T cs) (hT : T ≠ 112) (c0 : cs[o]? = some aU) (c1 : cs[o + 1]? = some (.int .i64 r)) (c2 : cs[o + 2]? = some v)
 (own : w.ownsRow B0 112 2 v L.length (aQ L)) (hB : B <= 200) (hr : r = (B : Int) - Lk.weights L) (hL : Lk.weights L <= B) (hn : h.n.length <= 200) (hv : h.v.length <= 100) :
 Calls Tryz.prog 171 #[.pointer (some ⟨b, o, none⟩), hdA h] w fun e w' =>
  e = .returned (.tuple #[]) ∧ (∃ v', w'.ownsRow w.heap.size 112 2 v' (Lk.put B L h).length (aQ (Lk.put B L h)) ∧ Is w' b T ((cs.set (o + 1) (.int .i64 ((B : Int) - Lk.weights (Lk.put B L h)))).set (o + 2) v')) ∧ Turns b w w' := by
 obtain ⟨i, hi, hz0, hz1, hz2⟩ := info_parts rX
 have hbl := hI.lt
 have d0 : w.cell? ⟨b, o, none⟩ = some aU := by rw [hI.cell]; exact c0
 have d1 : w.cell? ⟨b, o + 1, none⟩ = some (.int .i64 r) := by rw [hI.cell]; exact c1
 have d2 : w.cell? ⟨b, o + 2, none⟩ = some v := by rw [hI.cell]; exact c2
 have f1 : w.frozen? ⟨b, o + 1, none⟩ = false := hI.free _
 have f2 : w.frozen? ⟨b, o + 2, none⟩ = false := hI.free _
 have hLl : L.length <= 50 := by have := Lk.jc L; omega
 have HI := hide hI
 clear hI
 go_enter Tryz.func171, Tryz.ntmps171
 go_wp2_with fail
 go_cut [4] (fun v1 wc => ∃ n cap g, v1 = .slice (some ⟨g, 0, none⟩) n cap ∧ n = (h :: L).length ∧ wc.ownsRow (w.heap.size + 1) 112 2 v1 n (aQ (h :: L)) ∧ Below w.heap.size w wc ∧ wc.cell? ⟨w.heap.size, 0, none⟩ = some (.string (bs h.n)) ∧ wc.cell? ⟨w.heap.size, 1, none⟩ = some (.string (bs h.v)) ∧ w.heap.size < wc.heap.size ∧ w.heap.size < g)
 case first =>
  go_region_law (first
   | (refine rZ _ rfl _ _ 42 rfl (w.heap.size + 1) 112 i (.agg #[.string ⟨#[]⟩, .string ⟨#[]⟩]) 2 32 Tryz.underlying42 hi hz0 hz1 hz2 rfl (by decide) _ 1 (aQ [h]) rfl ?_ B0 v L.length (aQ L) rfl ?_ (rY L) ?_ ?_ ?_ ?_
      exact IZ _ _ _ h
      exact (own.alloc _).alloc _
      (unfold maxLen; omega)
      omega
      (simp <;> omega)
      intro v1 w1 ho1 hg1))
  all_goals
   go_wp2_with fail
   go_meet
   exact rG ⟨hg1.os, hg1.tape, hg1.output, hg1.size, hg1.block⟩ ho1
 case rest =>
  obtain ⟨n, cap, g, rfl, hnL, hown, hbel, e0, e1, hlt, hgl⟩ := hcut
  have hIc := (uh HI).below hbel hbl
  clear d0 d1 d2 f1 f2
  have d0 : wc.cell? ⟨b, o, none⟩ = some aU := by rw [hIc.cell]; exact c0
  have d1 : wc.cell? ⟨b, o + 1, none⟩ = some (.int .i64 r) := by rw [hIc.cell]; exact c1
  have f1 : wc.frozen? ⟨b, o + 1, none⟩ = false := hIc.free _
  have hbc := hIc.lt
  have hwt : h.weight <= 304 := by unfold Lk.Hd.weight; omega
  have HB := hide hbel
  have HO := hide hown
  have HIc := hide hIc
  have HR := hide hr
  have HN := hide hnL
  have hr1 : -200 <= r := by omega
  have hr2 : r <= 200 := by omega
  have HC0 := hide c0
  have HC2 := hide c2
  clear hbel hown hIc own c0 c1 c2 hr hnL
  go_wp2_with fail
  go_cut [] (fun wd => Is wd b T (cs.set (o + 1) (.int .i64 (r - h.weight))) ∧ wd.ownsRow (w.heap.size + 1) 112 2 (.slice (some ⟨g, 0, none⟩) n cap) n (aQ (h :: L)) ∧ Turns b w wd)
  case first =>
   go_region_with (go_at_call 126; refine (vJ h _ (by omega) (by omega)).mono ?_; rintro e w' ⟨rfl, hb⟩; have g1 := nO hb (b := b) (k := o + 1) (by simpa using hbc) (by simpa using f1); have g2 := aK hb (b := b) (k := o + 1) (v := .int .i64 r) (by simpa using hbc) (by simpa using d1); have g0 := aK hb (b := b) (k := o) (v := aU) (by simpa using hbc) (by simpa using d0); have gb := kW hb (b := b) (by simpa using hbc))
   all_goals
    go_wp2_with fail
    go_meet
    exact qf (uh HIc) ⟨hb.os, hb.tape, hb.output, hb.size, hb.block⟩ (Below.turns (uh HB) b) (uh HO) hT (by rw [IntKind.wrap_i64]; congr 1; omega)
  case rest =>
   obtain ⟨hI2, hown2, hT2⟩ := hcut
   have HST := hide (show n <= L.length + 1 ∧ (n = (h :: L).length ∨ B < Lk.weights ((h :: L).take (n + 1))) ∧ r - h.weight = (B : Int) - Lk.weights ((h :: L).take n) by
    have e := uh HN
    have e2 := uh HR
    refine ⟨by rw [e]; simp, .inl e, ?_⟩
    rw [e, List.take_length, e2]
    simp only [Lk.weights]
    omega)
   have hown3 : wc.ownsRow (w.heap.size + 1) 112 2 (.slice (some ⟨g, 0, none⟩) n cap) n (aQ ((h :: L).take n)) := by
    rw [uh HN, List.take_length] at *
    exact hown2
   clear d0 d1 f1 e0 e1 hbc hown2
   go_wp2_with fail
   go_loopw [4] (fun u wr => ∃ (k : Nat) (R : Int), u = .slice (some ⟨g, 0, none⟩) k cap ∧ -1000 <= R ∧ R <= 200 ∧ Hid (k <= L.length + 1 ∧ (k = (h :: L).length ∨ B < Lk.weights ((h :: L).take (k + 1))) ∧ R = (B : Int) - Lk.weights ((h :: L).take k)) ∧ Is wr b T (cs.set (o + 1) (.int .i64 R)) ∧ wr.ownsRow (w.heap.size + 1) 112 2 u k (aQ ((h :: L).take k)) ∧ Turns b w wr) (fun u _ => sliceLen u)
   case atStart => exact ⟨n, _, rfl, by omega, by omega, HST, hI2, hown3, hT2⟩
   case round =>
    obtain ⟨k, R, rfl, hR1, hR2, HK, hIr, hown, hTr⟩ := hrel
    have hbr := hIr.lt
    have d0 : wr.cell? ⟨b, o, none⟩ = some aU := by rw [hIr.cell, List.getElem?_set_ne (by omega)]; exact uh HC0
    have d1 : wr.cell? ⟨b, o + 1, none⟩ = some (.int .i64 R) := by
     rw [hIr.cell, List.getElem?_set_self]
     have := uh HC2
     exact Nat.lt_of_succ_lt (List.getElem?_eq_some_iff.1 this).1
    have d2 : wr.cell? ⟨b, o + 2, none⟩ = some v := by rw [hIr.cell, List.getElem?_set_ne (by omega)]; exact uh HC2
    have f1 : wr.frozen? ⟨b, o + 1, none⟩ = false := hIr.free _
    have f2 : wr.frozen? ⟨b, o + 2, none⟩ = false := hIr.free _
    by_cases hneg : R < 0
    . obtain ⟨m, rfl⟩ : ∃ m, k = m + 1 := by
       have := (uh HK).2.2
       cases k with
       | zero => simp [Lk.weights] at this; omega
       | succ m => exact ⟨m, rfl⟩
      have hm : m <= 50 := by have := (uh HK).1; omega
      obtain ⟨x, hx⟩ : ∃ x, (h :: L)[m]? = some x := ⟨_, List.getElem?_eq_getElem (by have := (uh HK).1; simp; omega)⟩
      have hgr : g < wr.heap.size ∧ wr.cell? ⟨g, m * 2, none⟩ = some (.string (bs x.n)) ∧ wr.cell? ⟨g, m * 2 + 1, none⟩ = some (.string (bs x.v)) := Q4 hown (by rw [List.getElem?_take_of_lt (by omega)]; exact hx)
      obtain ⟨UX, x0, x1⟩ := hgr
      have hxw : x.n.length <= 200 ∧ x.v.length <= 200 := IY hx hn hv hL hB
      have XL := hxw.1
      have XM := hxw.2
      have hwx : x.weight <= 404 := by unfold Lk.Hd.weight; omega
      have hwk := Lk.o8 hx
      clear hxw
      go_wp2_with fail
      go_cut [] (fun wd => Is wd b T (cs.set (o + 1) (.int .i64 (R + x.weight))) ∧ wd.ownsRow (w.heap.size + 1) 112 2 (.slice (some ⟨g, 0, none⟩) (m + 1) cap) (m + 1) (aQ ((h :: L).take (m + 1))) ∧ Turns b w wd)
      case first =>
       go_region_with (go_at_call 126; refine (vJ x _ (by omega) (by omega)).mono ?_; rintro e w' ⟨rfl, hb⟩; have g1 := nO hb (b := b) (k := o + 1) (by simpa using hbr) (by simpa using f1); have g2 := aK hb (b := b) (k := o + 1) (v := .int .i64 R) (by simpa using hbr) (by simpa using d1); have g0 := aK hb (b := b) (k := o) (v := aU) (by simpa using hbr) (by simpa using d0); have gb := kW hb (b := b) (by simpa using hbr))
       all_goals
        go_wp2_with fail
        go_meet
        have hw2 := qf (k := o + 1) (x := .int .i64 (IntKind.i64.wrap (R + x.weight))) (y := .int .i64 (R + x.weight)) hIr ⟨hb.os, hb.tape, hb.output, hb.size, hb.block⟩ hTr hown hT (by rw [IntKind.wrap_i64]; congr 1; omega)
        simp only [List.set_set] at hw2
        exact hw2
      case rest =>
       obtain ⟨hI3, hown4, hT3⟩ := hcut
       have hbg : some b ≠ some g := own_ne hown4 hI3 hT
       clear x0 x1 d0 d1 d2 f1 f2 hIr hown hTr
       go_wp2_with fail
       refine (uN g m cap (w.heap.size + 1) ((h :: L).take (m + 1)) _ _ _ (by first | rfl | omega | (simp; done)) (by first | rfl | omega | (simp; done)) (by have := (uh HK).1; simp; omega) (by omega) hown4).mono ?_
       rintro e w2 ⟨rfl, hown5, hg5⟩
       rw [List.take_take, Nat.min_eq_left (by omega)] at hown5
       have hI5 := hI3.grown hg5 hbg
       have hT5 := hT3.qR hg5 (fun k hk => by cases hk; omega)
       clear hI3 hown4 hT3 hg5
       go_wp2_with fail
       go_roundw
       case rel =>
        refine ⟨m, R + x.weight, rfl, by omega, ?_, ?_, hI5, hown5, hT5⟩
        . have := (uh HK).2.2; omega
        . have := uh HK
          exact ⟨by omega, .inr (by omega), by omega⟩
       case measure => simp [sliceLen]
    . go_wp2_with fail
      go_end0
      have hk := uh HK
      have hput : Lk.put B L h = (h :: L).take k := Lk.xx (h :: L) B k (by simpa using hk.1) (by omega) hk.2.1
      rw [hput]
      refine ⟨rfl, ⟨_, own_base (by omega) (O7 (by rw [List.length_take]; simp; omega) (hown.kept (grownBy_set wr b (o + 2) _) (.inr (fun e => own_ne hown hIr hT e.symm)))), ?_⟩, hTr.set _ _⟩
      have := hIr.set (o + 2) (.slice (some ⟨g, 0, none⟩) k cap)
      rw [hk.2.2] at this
      exact this
end Go.Proofs.YtbkpdapagfjmmaaGreatDoor
