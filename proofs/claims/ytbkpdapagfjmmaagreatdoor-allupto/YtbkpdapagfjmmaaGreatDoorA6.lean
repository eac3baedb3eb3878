import Derived.Test.YtbkpdapagfjmmaaGreatDoorA5
import Derived.Deep.RegionHeld3
import Derived.Deep.DrawnRows
set_option linter.unusedVariables false
set_option maxRecDepth 100000
set_option maxHeartbeats 16000000
namespace Go.Proofs.YtbkpdapagfjmmaaGreatDoor
open Go.RowKit
attribute [local go_sem ↓] Go.wp_at_zero Go.wp_at_succ
abbrev aU : Value := .func (.func 126) #[] #[]
def sliceLen : Value -> Nat
 | .slice _ n _ => n
 | _ => 0
theorem own_base {w : World} {B B' : Nat} {e : TypeId} {size n : Nat} {v : Value} {xs : List Value} (hB : B <= B') (h : w.ownsRow B' e size v n xs) : w.ownsRow B e size v n xs := by
 refine ⟨h.1, ?_⟩
 rcases h.2 with h | ⟨g, cap, cur, h0, h1, h2⟩
 . exact .inl h
 . exact .inr ⟨g, cap, cur, h0, by omega, h2⟩
theorem O7 {w : World} {B : Nat} {e : TypeId} {size n m : Nat} {v : Value} {xs : List Value} (hn : m = n) (h : w.ownsRow B e size v n xs) : w.ownsRow B e size v m xs := by rw [hn]; exact h
theorem uN (g m cap B : Nat) (L : List Lk.Hd) (w : World) (z1 z2 : Int) (h1 : z1 = m) (h2 : z2 = (m : Int) + 1) (hL : L.length = m + 1) (hm : m <= 1000)
 (own : w.ownsRow B 112 2 (.slice (some ⟨g, 0, none⟩) (m + 1) cap) (m + 1) (aQ L)) :
 Calls Tryz.prog 185 #[.slice (some ⟨g, 0, none⟩) (m + 1) cap, .int .i64 z1, .int .i64 z2] w fun e w' =>
  e = .returned (.slice (some ⟨g, 0, none⟩) m cap) ∧ w'.ownsRow B 112 2 (.slice (some ⟨g, 0, none⟩) m cap) m (aQ (L.take m)) ∧ w.grownBy w' (some g) := by
 subst h1; subst h2
 exact BV g m cap B L w hL hm own
theorem Q4 {w : World} {B g n cap i : Nat} {T : TypeId} {l : List Lk.Hd} {x : Lk.Hd} (h : w.ownsRow B T 2 (.slice (some ⟨g, 0, none⟩) n cap) n (aQ l)) (hx : l[i]? = some x) :
 g < w.heap.size ∧ w.cell? ⟨g, i * 2, none⟩ = some (.string (bs x.n)) ∧ w.cell? ⟨g, i * 2 + 1, none⟩ = some (.string (bs x.v)) := by
 have hn : n = l.length := by have := h.1; rw [qQ] at this; omega
 subst hn
 rcases eP h with ⟨_, h⟩ | ⟨g', cap', h, _, hg, _, hc⟩
 . cases h
 . cases h
   exact ⟨hg, hc i x hx⟩
theorem IY {h x : Lk.Hd} {L : List Lk.Hd} {m B : Nat} (hx : (h :: L)[m]? = some x) (hn : h.n.length <= 200) (hv : h.v.length <= 100) (hL : Lk.weights L <= B) (hB : B <= 200) : x.n.length <= 200 ∧ x.v.length <= 200 := by
 have hm := List.mem_of_getElem? hx
 simp only [List.mem_cons] at hm
 rcases hm with rfl | hm
 . omega
 . have := Lk.jX hm
   unfold Lk.Hd.weight at this
   omega
theorem Lk.o8 {l : List Lk.Hd} {m : Nat} {x : Lk.Hd} (hx : l[m]? = some x) : Lk.weights (l.take (m + 1)) = Lk.weights (l.take m) + x.weight := by
 rw [List.take_add_one, hx]
 simp [Lk.jI, Lk.weights]
theorem IZ (w : World) (T : TypeId) (H : Nat) (h : Lk.Hd) (hH : w.heap.size = H := by simp) : (w.alloc (.cells #[.string (bs h.n), .string (bs h.v)] T)).ownsRow H T 2 (.slice (some ⟨H, 0, none⟩) 1 1) 1 (aQ [h]) := by
 subst hH
 exact ⟨rfl, .inr ⟨w.heap.size, 1, _, rfl, Nat.le_refl _, heap_alloc_new w _, Nat.le_refl _, by unfold maxLen; omega, rfl, rfl⟩⟩
theorem rG {w w1 : World} {h : Lk.Hd} {L : List Lk.Hd} {v1 : Value} (hg : ((w.alloc (.cells #[.string (bs h.n), .string (bs h.v)] 112)).alloc (.cells #[.string (bs h.n), .string (bs h.v)] 112)).grownBy w1 (some (w.heap.size + 1)))
 (ho : w1.ownsRow (w.heap.size + 1) 112 2 v1 (1 + L.length) (aQ [h] ++ aQ L)) :
 ∃ n cap g, v1 = .slice (some ⟨g, 0, none⟩) n cap ∧ n = (h :: L).length ∧ w1.ownsRow (w.heap.size + 1) 112 2 v1 n (aQ (h :: L)) ∧ Below w.heap.size w w1 ∧ w1.cell? ⟨w.heap.size, 0, none⟩ = some (.string (bs h.n)) ∧ w1.cell? ⟨w.heap.size, 1, none⟩ = some (.string (bs h.v)) ∧ w.heap.size < w1.heap.size ∧ w.heap.size < g := by
 obtain ⟨g, cap, rfl, hgB, hgl⟩ := ho.form (by omega)
 have hI := ((Is.new w 112 [.string (bs h.n), .string (bs h.v)]).alloc (.cells #[.string (bs h.n), .string (bs h.v)] 112)).grown hg (by simp)
 refine ⟨_, cap, g, rfl, by simp; omega, ?_, ?_, hI.cell 0, hI.cell 1, hI.lt, by omega⟩
 . rw [<- dJ] at ho
   simpa using ho
 . exact (((Below.refl w.heap.size w).alloc (Nat.le_refl _) _).alloc (by simp) _).grown hg (by simp; omega) (fun k hk => by simp at hk; omega)
theorem put_any (b o : Nat) (T : TypeId) (cs : List Value) (B B0 : Nat) (L : List Lk.Hd) (h : Lk.Hd) (v : Value) (r : Int) (w : World)
 (hI : Is w b T cs) (hT : T ≠ 112) (c0 : cs[o]? = some aU) (c1 : cs[o + 1]? = some (.int .i64 r)) (c2 : cs[o + 2]? = some v)
 (own : w.ownsRow B0 112 2 v L.length (aQ L)) (hB : B <= 200) (hr : r = (B : Int) - Lk.weights L) (hL : Lk.weights L <= B) (hn : h.n.length <= 200) (hv : h.v.length <= 100) :
 Calls Tryz.prog 171 #[.pointer (some ⟨b, o, none⟩), hdA h] w fun e w' =>
  e = .returned (.tuple #[]) ∧ (∃ v', w'.ownsRow w.heap.size 112 2 v' (Lk.put B L h).length (aQ (Lk.put B L h)) ∧ Is w' b T ((cs.set (o + 1) (.int .i64 ((B : Int) - Lk.weights (Lk.put B L h)))).set (o + 2) v')) ∧ Turns b w w' := by
 obtain ⟨i, hi, hz0, hz1, hz2⟩ := info_parts rX
 have hbl := hI.lt
 have d0 : w.cell? ⟨b, o, none⟩ = some aU := by rw [hI.cell]; exact c0
 have d1 : w.cell? ⟨b, o + 1, none⟩ = some (.int .i64 r) := by rw [hI.cell]; exact c1
 have d2 : w.cell? ⟨b, o + 2, none⟩ = some v := by rw [hI.cell]; exact c2
 have f1 : w.frozen? ⟨b, o + 1, none⟩ = false := hI.free _
 have f2 : w.frozen? ⟨b, o + 2, none⟩ = false := hI.free _
 have hLl : L.length <= 50 := by have := Lk.jc L; omega
 have HI := hide hI
 clear hI
 go_enter Tryz.func171, Tryz.ntmps171
 go_wp2_with fail
 go_cut [4] (fun v1 wc => ∃ n cap g, v1 = .slice (some ⟨g, 0, none⟩) n cap ∧ n = (h :: L).length ∧ wc.ownsRow (w.heap.size + 1) 112 2 v1 n (aQ (h :: L)) ∧ Below w.heap.size w wc ∧ wc.cell? ⟨w.heap.size, 0, none⟩ = some (.string (bs h.n)) ∧ wc.cell? ⟨w.heap.size, 1, none⟩ = some (.string (bs h.v)) ∧ w.heap.size < wc.heap.size ∧ w.heap.size < g)
 case first =>
  go_region_law (first
   | (refine rZ _ rfl _ _ 42 rfl (w.heap.size + 1) 112 i (.agg #[.string ⟨#[]⟩, .string ⟨#[]⟩]) 2 32 Tryz.underlying42 hi hz0 hz1 hz2 rfl (by decide) _ 1 (aQ [h]) rfl ?_ B0 v L.length (aQ L) rfl ?_ (rY L) ?_ ?_ ?_ ?_
      exact IZ _ _ _ h
      exact (own.alloc _).alloc _
      (unfold maxLen; omega)
      omega
      (simp <;> omega)
      intro v1 w1 ho1 hg1))
  all_goals
   go_wp2_with fail
   go_meet
   exact rG ⟨hg1.os, hg1.tape, hg1.output, hg1.size, hg1.block⟩ ho1
 case rest =>
  obtain ⟨n, cap, g, rfl, hnL, hown, hbel, e0, e1, hlt, hgl⟩ := hcut
  have hIc := (uh HI).below hbel hbl
  clear d0 d1 d2 f1 f2
  have d0 : wc.cell? ⟨b, o, none⟩ = some aU := by rw [hIc.cell]; exact c0
  have d1 : wc.cell? ⟨b, o + 1, none⟩ = some (.int .i64 r) := by rw [hIc.cell]; exact c1
  have f1 : wc.frozen? ⟨b, o + 1, none⟩ = false := hIc.free _
  have hbc := hIc.lt
  have hwt : h.weight <= 304 := by unfold Lk.Hd.weight; omega
  have HB := hide hbel
  have HO := hide hown
  have HIc := hide hIc
  have HR := hide hr
  have HN := hide hnL
  have hr1 : -200 <= r := by omega
  have hr2 : r <= 200 := by omega
  have HC0 := hide c0
  have HC2 := hide c2
  clear hbel hown hIc own c0 c1 c2 hr hnL
  go_wp2_with fail
  go_cut [] (fun wd => Is wd b T (cs.set (o + 1) (.int .i64 (r - h.weight))) ∧ wd.ownsRow (w.heap.size + 1) 112 2 (.slice (some ⟨g, 0, none⟩) n cap) n (aQ (h :: L)) ∧ Turns b w wd)
  case first =>
   go_region_with (go_at_call 126; refine (vJ h _ (by omega) (by omega)).mono ?_; rintro e w' ⟨rfl, hb⟩; have g1 := nO hb (b := b) (k := o + 1) (by simpa using hbc) (by simpa using f1); have g2 := aK hb (b := b) (k := o + 1) (v := .int .i64 r) (by simpa using hbc) (by simpa using d1); have g0 := aK hb (b := b) (k := o) (v := aU) (by simpa using hbc) (by simpa using d0); have gb := kW hb (b := b) (by simpa using hbc))
   all_goals
    go_wp2_with fail
    go_meet
    exact qf (uh HIc) ⟨hb.os, hb.tape, hb.output, hb.size, hb.block⟩ (Below.turns (uh HB) b) (uh HO) hT (by rw [IntKind.wrap_i64]; congr 1; omega)
  case rest =>
   obtain ⟨hI2, hown2, hT2⟩ := hcut
   have HST := hide (show n <= L.length + 1 ∧ (n = (h :: L).length ∨ B < Lk.weights ((h :: L).take (n + 1))) ∧ r - h.weight = (B : Int) - Lk.weights ((h :: L).take n) by
    have e := uh HN
    have e2 := uh HR
    refine ⟨by rw [e]; simp, .inl e, ?_⟩
    rw [e, List.take_length, e2]
    simp only [Lk.weights]
    omega)
   have hown3 : wc.ownsRow (w.heap.size + 1) 112 2 (.slice (some ⟨g, 0, none⟩) n cap) n (aQ ((h :: L).take n)) := by
    rw [uh HN, List.take_length] at *
    exact hown2
   clear d0 d1 f1 e0 e1 hbc hown2
   go_wp2_with fail
   go_loopw [4] (fun u wr => ∃ (k : Nat) (R : Int), u = .slice (some ⟨g, 0, none⟩) k cap ∧ -1000 <= R ∧ R <= 200 ∧ Hid (k <= L.length + 1 ∧ (k = (h :: L).length ∨ B < Lk.weights ((h :: L).take (k + 1))) ∧ R = (B : Int) - Lk.weights ((h :: L).take k)) ∧ Is wr b T (cs.set (o + 1) (.int .i64 R)) ∧ wr.ownsRow (w.heap.size + 1) 112 2 u k (aQ ((h :: L).take k)) ∧ Turns b w wr) (fun u _ => sliceLen u)
   case atStart => exact ⟨n, _, rfl, by omega, by omega, HST, hI2, hown3, hT2⟩
   case round =>
    obtain ⟨k, R, rfl, hR1, hR2, HK, hIr, hown, hTr⟩ := hrel
    have hbr := hIr.lt
    have d0 : wr.cell? ⟨b, o, none⟩ = some aU := by rw [hIr.cell, List.getElem?_set_ne (by omega)]; exact uh HC0
    have d1 : wr.cell? ⟨b, o + 1, none⟩ = some (.int .i64 R) := by
     rw [hIr.cell, List.getElem?_set_self]
     have := uh HC2
     exact Nat.lt_of_succ_lt (List.getElem?_eq_some_iff.1 this).1
    have d2 : wr.cell? ⟨b, o + 2, none⟩ = some v := by rw [hIr.cell, List.getElem?_set_ne (by omega)]; exact uh HC2
    have f1 : wr.frozen? ⟨b, o + 1, none⟩ = false := hIr.free _
    have f2 : wr.frozen? ⟨b, o + 2, none⟩ = false := hIr.free _
    by_cases hneg : R < 0
    . obtain ⟨m, rfl⟩ : ∃ m, k = m + 1 := by
       have := (uh HK).2.2
       cases k with
       | zero => simp [Lk.weights] at this; omega
       | succ m => exact ⟨m, rfl⟩
      have hm : m <= 50 := by have := (uh HK).1; omega
      obtain ⟨x, hx⟩ : ∃ x, (h :: L)[m]? = some x := ⟨_, List.getElem?_eq_getElem (by have := (uh HK).1; simp; omega)⟩
      have hgr : g < wr.heap.size ∧ wr.cell? ⟨g, m * 2, none⟩ = some (.string (bs x.n)) ∧ wr.cell? ⟨g, m * 2 + 1, none⟩ = some (.string (bs x.v)) := Q4 hown (by rw [List.getElem?_take_of_lt (by omega)]; exact hx)
      obtain ⟨UX, x0, x1⟩ := hgr
      have hxw : x.n.length <= 200 ∧ x.v.length <= 200 := IY hx hn hv hL hB
      have XL := hxw.1
      have XM := hxw.2
      have hwx : x.weight <= 404 := by unfold Lk.Hd.weight; omega
      have hwk := Lk.o8 hx
      clear hxw
      go_wp2_with fail
      go_cut [] (fun wd => Is wd b T (cs.set (o + 1) (.int .i64 (R + x.weight))) ∧ wd.ownsRow (w.heap.size + 1) 112 2 (.slice (some ⟨g, 0, none⟩) (m + 1) cap) (m + 1) (aQ ((h :: L).take (m + 1))) ∧ Turns b w wd)
      case first =>
       go_region_with (go_at_call 126; refine (vJ x _ (by omega) (by omega)).mono ?_; rintro e w' ⟨rfl, hb⟩; have g1 := nO hb (b := b) (k := o + 1) (by simpa using hbr) (by simpa using f1); have g2 := aK hb (b := b) (k := o + 1) (v := .int .i64 R) (by simpa using hbr) (by simpa using d1); have g0 := aK hb (b := b) (k := o) (v := aU) (by simpa using hbr) (by simpa using d0); have gb := kW hb (b := b) (by simpa using hbr))
       all_goals
        go_wp2_with fail
        go_meet
        have hw2 := qf (k := o + 1) (x := .int .i64 (IntKind.i64.wrap (R + x.weight))) (y := .int .i64 (R + x.weight)) hIr ⟨hb.os, hb.tape, hb.output, hb.size, hb.block⟩ hTr hown hT (by rw [IntKind.wrap_i64]; congr 1; omega)
        simp only [List.set_set] at hw2
        exact hw2
      case rest =>
       obtain ⟨hI3, hown4, hT3⟩ := hcut
       have hbg : some b ≠ some g := own_ne hown4 hI3 hT
       clear x0 x1 d0 d1 d2 f1 f2 hIr hown hTr
       go_wp2_with fail
       refine (uN g m cap (w.heap.size + 1) ((h :: L).take (m + 1)) _ _ _ (by first | rfl | omega | (simp; done)) (by first | rfl | omega | (simp; done)) (by have := (uh HK).1; simp; omega) (by omega) hown4).mono ?_
       rintro e w2 ⟨rfl, hown5, hg5⟩
       rw [List.take_take, Nat.min_eq_left (by omega)] at hown5
       have hI5 := hI3.grown hg5 hbg
       have hT5 := hT3.qR hg5 (fun k hk => by cases hk; omega)
       clear hI3 hown4 hT3 hg5
       go_wp2_with fail
       go_roundw
       case rel =>
        refine ⟨m, R + x.weight, rfl, by omega, ?_, ?_, hI5, hown5, hT5⟩
        . have := (uh HK).2.2; omega
        . have := uh HK
          exact ⟨by omega, .inr (by omega), by omega⟩
       case measure => simp [sliceLen]
    . go_wp2_with fail
      go_end0
      have hk := uh HK
      have hput : Lk.put B L h = (h :: L).take k := Lk.xx (h :: L) B k (by simpa using hk.1) (by omega) hk.2.1
      rw [hput]
      refine ⟨rfl, ⟨_, own_base (by omega) (O7 (by rw [List.length_take]; simp; omega) (hown.kept (grownBy_set wr b (o + 2) _) (.inr (fun e => own_ne hown hIr hT e.symm)))), ?_⟩, hTr.set _ _⟩
      have := hIr.set (o + 2) (.slice (some ⟨g, 0, none⟩) k cap)
      rw [hk.2.2] at this
      exact this
structure EC where
 txt : ByteArray
 fault : Int
 w1 : Value
 LJ : Int
 ov : Value
 win : Int
 next : Int
 sent : Int
 ocr : Int
 sv : Value
 w2 : Value
 TN : Int
 iv : Value
 kN : Int
 su : Int
 icr : Int
 mp : Value
 rs : List Nat
 bs : Bool
 bc : Bool
def EC.cells (c : EC) : List Value := [.string c.txt, .int .i64 0, .int .i64 c.fault, c.w1, .int .i64 c.LJ, c.ov, .int .i64 c.win, .int .i64 c.next, .int .i64 c.sent, .int .i64 c.ocr, c.sv, c.w2, .int .i64 c.TN, c.iv, .int .i64 c.kN, .int .i64 c.su, .int .i64 c.icr, c.mp, dW c.rs, fO c.rs, .bool c.bs, .bool c.bc]
structure Rw (w : World) (b : Nat) (c : EC) (fs : List Lk.Fr) : Prop where
 blk : Is w b 101 c.cells
 row : Chain w (dW c.rs) (fO c.rs) fs c.rs
theorem Rw.lt {w : World} {b : Nat} {c : EC} {fs : List Lk.Fr} (h : Rw w b c fs) : b < w.heap.size := h.blk.lt
theorem Rw.only {S : Nat -> Prop} {w w' : World} {b : Nat} {c : EC} {fs : List Lk.Fr} (h : Rw w b c fs) (k : Only S w w') (hb : ¬ S b) (hr : ∀ r ∈ c.rs, ¬ S r) : Rw w' b c fs := ⟨h.blk.only k hb, h.row.only k hr⟩
theorem Rw.I4 {w : World} {b : Nat} {c : EC} {fs : List Lk.Fr} (h : Rw w b c fs) : b ∉ c.rs := fun hm => by
 obtain ⟨_, _, hx⟩ := h.row.links.is b hm
 exact h.blk.ne hx (nbq rfl) rfl
theorem Rw.cell {w w' : World} {b : Nat} {c c' : EC} {fs : List Lk.Fr} (h : Rw w b c fs) (hI : Is w' b 101 c'.cells) (k : Only (· = b) w w') (hr : c'.rs = c.rs) : Rw w' b c' fs :=
 ⟨hI, by rw [hr]; exact h.row.only k (fun r hm e => h.I4 (e ▸ hm))⟩
def oN (b : Nat) : Value := .func (.func 45) #[.pointer (some ⟨b, 18, none⟩)] #[]
theorem fC (b : Nat) (c : EC) (fs : List Lk.Fr) (f : Lk.Fr) (w : World) (h : Rw w b c fs) :
 Calls Tryz.prog 45 #[.pointer (some ⟨b, 18, none⟩), frA f] w fun e w' => e = .returned (.tuple #[]) ∧ ∃ n, w.heap.size <= n ∧ Rw w' b { c with rs := c.rs ++ [n] } (fs ++ [f]) ∧ Only (fun i => i = b ∨ i ∈ c.rs) w w' := by
 refine (FQ b 18 101 c.cells f fs c.rs w h.blk (nbq rfl) rfl rfl h.row).mono ?_
 rintro e w' ⟨rfl, n, hn, hI, hC, hO⟩
 exact ⟨rfl, n, hn, ⟨hI, hC⟩, hO⟩
structure PD where
 ov : Value
 iv : Value
 sv : Value
 ps : List Nat
 rs : List Nat
 mb : Nat
 mn : Nat
 ins : Int -> Option Nat
 fs : List Lk.Fr
def gJ (e : Lk.En) : List Lk.Ow := e.own.filter fun o => !o.done
def ah (e : Lk.En) : Nat := 2 * e.oth.length + 2 - e.side
def fH (e : Lk.En) (d : PD) : EC := ⟨bs e.rest, (e.down : Int), aU, (100 : Int) - Lk.weights e.out, d.ov, e.win, e.nextId, e.turn, e.all, d.sv, aU, (100 : Int) - Lk.weights e.inn, d.iv, e.win, ah e, e.room, .map (some d.mb), d.rs, e.iH, e.oK⟩
def foot (b : Nat) (d : PD) (i : Nat) : Prop := i = b ∨ d.ov.ownBlock = some i ∨ d.iv.ownBlock = some i ∨ d.sv.ownBlock = some i ∨ i ∈ d.ps ∨ i ∈ d.rs ∨ i = d.mb ∨ ∃ k, d.ins k = some i
def inV (cr held : Int) (cut ended : Bool) : List Value := [.int .i64 cr, .int .i64 held, .bool cut, .bool ended]
def ji (w : World) (ins : Int -> Option Nat) (o : Lk.Ot) : Prop := match ins o.id with
 | some p => (o.opn || o.drp || decide (0 < o.held)) = true ∧ ∃ (cr : Int) (cut : Bool), Is w p 227 (inV cr o.held cut (!(o.opn || o.drp))) ∧ ((o.opn || o.drp) = true -> cr = o.cr ∧ cut = o.drp)
 | none => (o.opn || o.drp || decide (0 < o.held)) = false
structure Live (w : World) (b : Nat) (e : Lk.En) (d : PD) : Prop where
 rw : Rw w b (fH e d) d.fs
 o9 : e.row = d.fs.map Lk.Fr.pack
 good : ∀ f ∈ d.fs, Lk.Good f.k f.st f.d
 out : w.ownsRow 0 112 2 d.ov e.out.length (aQ e.out)
 inn : w.ownsRow 0 112 2 d.iv e.inn.length (aQ e.inn)
 sl : w.ownsRow 0 169 1 d.sv d.ps.length (d.ps.map ptr)
 outs : mF w (gJ e) d.ps
 psn : d.ps.Nodup
 ps4 : d.ps.length <= 4
 map : bW Tryz.prog 3 w d.mb d.mn d.ins
 mn : d.mn <= e.oth.length
 yZ : ∀ (i : Nat) (o : Lk.Ot), e.oth[i]? = some o -> ji w d.ins o
 none : ∀ k : Int, (∀ (i : Nat) (o : Lk.Ot), e.oth[i]? = some o -> (o.id : Int) ≠ k) -> d.ins k = none
 inj : ∀ (k k' : Int) (p : Nat), d.ins k = some p -> d.ins k' = some p -> k = k'
 wf : Lk.Wf e
 pos : ∀ i, foot b d i -> 0 < i
theorem Live.c2 {w : World} {b : Nat} {e : Lk.En} {d : PD} (h : Live w b e d) (hdn : e.down = 0) : w.cell? ⟨b, 2, .none⟩ = some (.int .i64 0) := by
 have : w.cell? ⟨b, 2, .none⟩ = some (.int .i64 (e.down : Int)) := h.rw.blk.cell 2
 rw [hdn] at this
 exact this
theorem ji.some {w : World} {ins : Int -> Option Nat} {o : Lk.Ot} (h : ji w ins o) {p : Nat} (hp : ins o.id = some p) : (o.opn || o.drp || decide (0 < o.held)) = true ∧ ∃ (cr : Int) (cut : Bool), Is w p 227 (inV cr o.held cut (!(o.opn || o.drp))) ∧ ((o.opn || o.drp) = true -> cr = o.cr ∧ cut = o.drp) := by
 unfold ji at h
 rw [hp] at h
 exact h
theorem ji.none {w : World} {ins : Int -> Option Nat} {o : Lk.Ot} (h : ji w ins o) (hp : ins o.id = .none) : (o.opn || o.drp || decide (0 < o.held)) = false := by
 unfold ji at h
 rw [hp] at h
 exact h
theorem Live.KX {w : World} {b : Nat} {e : Lk.En} {d : PD} (h : Live w b e d) {k : Int} {p : Nat} (hp : d.ins k = some p) : ∃ (i : Nat) (o : Lk.Ot) (cr : Int) (cut : Bool), e.oth[i]? = some o ∧ (o.id : Int) = k ∧ Is w p 227 (inV cr o.held cut (!(o.opn || o.drp))) ∧ ((o.opn || o.drp) = true -> cr = o.cr ∧ cut = o.drp) ∧ (o.opn || o.drp || decide (0 < o.held)) = true := by
 by_cases hx : ∃ (i : Nat) (o : Lk.Ot), e.oth[i]? = some o ∧ (o.id : Int) = k
 . obtain ⟨i, o, ho, hk⟩ := hx
   obtain ⟨h1, cr, cut, h2, h3⟩ := (h.yZ i o ho).some (by rw [hk]; exact hp)
   exact ⟨i, o, cr, cut, ho, hk, h2, h3, h1⟩
 . have := h.none k (fun i o ho hk => hx ⟨i, o, ho, hk⟩)
   rw [this] at hp
   cases hp
theorem ji.only {S : Nat -> Prop} {w w' : World} {ins : Int -> Option Nat} {o : Lk.Ot} (h : ji w ins o) (k : Only S w w') (hn : ∀ p, ins o.id = Option.some p -> ¬ S p) : ji w' ins o := by
 unfold ji at h ⊢
 cases hp : ins o.id with
 | none => rw [hp] at h; exact h
 | some p =>
   rw [hp] at h
   obtain ⟨h1, cr, cut, h2, h3⟩ := h
   exact ⟨h1, cr, cut, h2.only k (hn p hp), h3⟩
theorem Live.lt {w : World} {b : Nat} {e : Lk.En} {d : PD} (h : Live w b e d) : ∀ i, foot b d i -> i < w.heap.size := by
 intro i hi
 rcases hi with rfl | hi | hi | hi | hi | hi | rfl | ⟨k, hi⟩
 . exact h.rw.lt
 . exact (h.out.lt i hi).2
 . exact (h.inn.lt i hi).2
 . exact (h.sl.lt i hi).2
 . obtain ⟨o, hI⟩ := h.outs.mem hi; exact hI.lt
 . exact h.rw.row.lt i hi
 . exact h.map.lt
 . obtain ⟨_, _, _, _, _, _, hI, _⟩ := h.KX hi; exact hI.lt
theorem Live.only {S : Nat -> Prop} {w w' : World} {b : Nat} {e : Lk.En} {d : PD} (h : Live w b e d) (k : Only S w w') (hn : ∀ i, foot b d i -> ¬ S i) : Live w' b e d :=
 ⟨h.rw.only k (hn b (.inl rfl)) (fun r hr => hn r (.inr (.inr (.inr (.inr (.inr (.inl hr))))))), h.o9, h.good,
  ag h.out k (fun i hi => hn i (.inr (.inl hi))), ag h.inn k (fun i hi => hn i (.inr (.inr (.inl hi)))), ag h.sl k (fun i hi => hn i (.inr (.inr (.inr (.inl hi))))),
  h.outs.only k (fun p hp => hn p (.inr (.inr (.inr (.inr (.inl hp)))))), h.psn, h.ps4, h.map.only k (hn d.mb (.inr (.inr (.inr (.inr (.inr (.inr (.inl rfl)))))))), h.mn,
  fun i o ho => (h.yZ i o ho).only k (fun p hp => hn p (.inr (.inr (.inr (.inr (.inr (.inr (.inr ⟨_, hp⟩)))))))), h.none, h.inj, h.wf, h.pos⟩
theorem Live.fQ {w : World} {b : Nat} {e : Lk.En} {d : PD} (h : Live w b e d) (x : Nat) (hx : x = b ∨ x ∈ d.rs) : d.ov.ownBlock ≠ some x ∧ d.iv.ownBlock ≠ some x ∧ d.sv.ownBlock ≠ some x ∧ x ∉ d.ps ∧ x ≠ d.mb ∧ ∀ k, d.ins k ≠ some x := by
 have hI : (∃ c, Is w x 101 c) ∨ (∃ c, Is w x 167 c) := by
  rcases hx with rfl | hx
  . exact .inl ⟨_, h.rw.blk⟩
  . obtain ⟨_, _, hy⟩ := h.rw.row.links.is x hx; exact .inr ⟨_, hy⟩
 refine ⟨fun e => ?_, fun e => ?_, fun e => ?_, fun hm => ?_, fun e => ?_, fun k hk => ?_⟩
 . rcases hI with ⟨c, hI⟩ | ⟨c, hI⟩ <;> exact own_ne h.out hI (nbq rfl) e.symm
 . rcases hI with ⟨c, hI⟩ | ⟨c, hI⟩ <;> exact own_ne h.inn hI (nbq rfl) e.symm
 . rcases hI with ⟨c, hI⟩ | ⟨c, hI⟩ <;> exact own_ne h.sl hI (nbq rfl) e.symm
 . obtain ⟨o, hy⟩ := h.outs.mem hm
   rcases hI with ⟨c, hI⟩ | ⟨c, hI⟩ <;> exact hI.ne hy (nbq rfl) rfl
 . rcases hI with ⟨c, hI⟩ | ⟨c, hI⟩ <;> exact h.map.ne hI e.symm
 . obtain ⟨_, _, _, _, _, _, hy, _⟩ := h.KX hk
   rcases hI with ⟨c, hI⟩ | ⟨c, hI⟩ <;> exact hI.ne hy (nbq rfl) rfl
theorem Live.I5 {w w' : World} {b : Nat} {e e' : Lk.En} {d : PD} {c' : EC} {fs' : List Lk.Fr} {rs' : List Nat} (h : Live w b e d) (hR : Rw w' b c' fs') (hO : Only (fun i => i = b ∨ i ∈ d.rs) w w')
 (hc : c' = fH e' { d with rs := rs', fs := fs' }) (h1 : e'.own = e.own) (h2 : e'.oth = e.oth) (h3 : e'.out = e.out) (h4 : e'.inn = e.inn) (hrow : e'.row = fs'.map Lk.Fr.pack) (hg : ∀ f ∈ fs', Lk.Good f.k f.st f.d) (hw : Lk.Wf e') (hp : ∀ x ∈ rs', x ∈ d.rs ∨ w.heap.size <= x) :
 Live w' b e' { d with rs := rs', fs := fs' } ∧ (∀ i, foot b { d with rs := rs', fs := fs' } i -> foot b d i ∨ w.heap.size <= i) ∧ Only (foot b d) w w' := by
 have hs := h.fQ
 have hf : ∀ i, foot b { d with rs := rs', fs := fs' } i -> foot b d i ∨ w.heap.size <= i := by
  intro i hi
  rcases hi with hi | hi | hi | hi | hi | hi | hi | hi
  . exact .inl (.inl hi)
  . exact .inl (.inr (.inl hi))
  . exact .inl (.inr (.inr (.inl hi)))
  . exact .inl (.inr (.inr (.inr (.inl hi))))
  . exact .inl (.inr (.inr (.inr (.inr (.inl hi)))))
  . exact (hp i hi).imp (fun h => .inr (.inr (.inr (.inr (.inr (.inl h)))))) id
  . exact .inl (.inr (.inr (.inr (.inr (.inr (.inr (.inl hi)))))))
  . exact .inl (.inr (.inr (.inr (.inr (.inr (.inr (.inr hi)))))))
 refine ⟨⟨by rw [<- hc]; exact hR, hrow, hg, ?_, ?_, ?_, ?_, h.psn, h.ps4, ?_, by rw [h2]; exact h.mn, ?_, by rw [h2]; exact h.none, h.inj, hw, ?_⟩, hf, hO.mono (fun i hi => hi.imp id (fun h => .inr (.inr (.inr (.inr (.inl h))))))⟩
 . rw [h3]; exact ag h.out hO (fun i hi hx => (hs i hx).1 hi)
 . rw [h4]; exact ag h.inn hO (fun i hi hx => (hs i hx).2.1 hi)
 . exact ag h.sl hO (fun i hi hx => (hs i hx).2.2.1 hi)
 . have : gJ e' = gJ e := by unfold gJ; rw [h1]
   rw [this]
   exact h.outs.only hO (fun p hp hx => (hs p hx).2.2.2.1 hp)
 . exact h.map.only hO (fun hx => (hs _ hx).2.2.2.2.1 rfl)
 . rw [h2]
   exact fun i o ho => (h.yZ i o ho).only hO (fun p hp hx => (hs p hx).2.2.2.2.2 _ hp)
 . intro i hi
   rcases hf i hi with h' | h'
   . exact h.pos i h'
   . have := h.pos b (.inl rfl)
     have := h.rw.lt
     omega
theorem xK : (Tryz.prog.info? 206).map (fun i => (i.zero, i.size, i.bytes)) = some (some (.agg #[.string ⟨#[]⟩, .string ⟨#[]⟩]), 2, 32) := by kernel_rfl
structure RTab (w : World) (t B : Nat) (L : List Lk.Hd) (v : Value) : Prop where
 blk : Is w t 196 [.int .i64 B, v]
 own : w.ownsRow 0 206 2 v L.length (aQ L)
 le : Lk.weights L <= B
 hB : B <= 200
theorem RTab.below {w w' : World} {t B : Nat} {L : List Lk.Hd} {v : Value} (h : RTab w t B L v) (hb : Below w.heap.size w w') : RTab w' t B L v :=
 ⟨h.blk.below hb h.blk.lt, own_below h.own hb, h.le, h.hB⟩
theorem RTab.alloc {w : World} {t B : Nat} {L : List Lk.Hd} {v : Value} (h : RTab w t B L v) (o : Obj) : RTab (w.alloc o) t B L v :=
 ⟨h.blk.alloc o, h.own.alloc o, h.le, h.hB⟩
theorem RTab.len {w : World} {t B : Nat} {L : List Lk.Hd} {v : Value} (h : RTab w t B L v) : L.length <= 50 := by
 have := Lk.jc L
 have h1 := h.le
 have h2 := h.hB
 omega
theorem RTab.form {w : World} {t B : Nat} {L : List Lk.Hd} {v : Value} (h : RTab w t B L v) : ∃ a cap, v = .slice a L.length cap := by
 rcases h.own.2 with ⟨rfl, h0⟩ | ⟨g, cap, cur, rfl, _⟩
 . exact ⟨_, _, by rw [h0]⟩
 . exact ⟨_, _, rfl⟩
theorem RTab.at' {w : World} {t B i : Nat} {L : List Lk.Hd} {v : Value} {x : Lk.Hd} (h : RTab w t B L v) (hx : L[i]? = some x) :
 ∃ g cap, v = .slice (some ⟨g, 0, none⟩) L.length cap ∧ g < w.heap.size ∧ w.cell? ⟨g, i * 2, none⟩ = some (.string (bs x.n)) ∧ w.cell? ⟨g, i * 2 + 1, none⟩ = some (.string (bs x.v)) := by
 rcases eP h.own with ⟨rfl, _⟩ | ⟨g, cap, rfl, _, hg, _, hc⟩
 . simp at hx
 . exact ⟨g, cap, rfl, hg, hc i x hx⟩
theorem zL {w : World} {B : Nat} {e : TypeId} {size n : Nat} {v : Value} {xs : List Value} (h : w.ownsRow B e size v n xs) : w.ownsRow 0 e size v n xs := by
 refine ⟨h.1, ?_⟩
 rcases h.2 with h | ⟨g, cap, cur, h0, h1, h2⟩
 . exact .inl h
 . exact .inr ⟨g, cap, cur, h0, by omega, h2⟩
theorem aJ {w : World} {B : Nat} {e : TypeId} {size n : Nat} {v : Value} {xs : List Value} (h : w.ownsRow B e size v n xs) : ∃ a cap, v = .slice a n cap := by
 rcases h.2 with ⟨rfl, rfl⟩ | ⟨g, cap, cur, rfl, _⟩
 . exact ⟨_, _, rfl⟩
 . exact ⟨_, _, rfl⟩
theorem nS (w : World) (T : TypeId) (x : Lk.Hd) : (w.alloc (.cells #[.string (bs x.n), .string (bs x.v)] T)).ownsRow w.heap.size T 2 (.slice (some ⟨w.heap.size, 0, none⟩) 1 1) 1 (hdV x) :=
 ⟨rfl, .inr ⟨w.heap.size, 1, _, rfl, Nat.le_refl _, heap_alloc_new w _, Nat.le_refl _, by unfold maxLen; omega, rfl, rfl⟩⟩
theorem FV (w : World) : Calls Tryz.prog 177 #[] w fun e w' => ∃ v', e = .returned v' ∧ w'.ownsRow w.heap.size 206 2 v' 4 (aQ Lk.jb) ∧ Below w.heap.size w w' := by
 go_enter Tryz.func177, Tryz.ntmps177
 go_wp2_with fail
 go_ret
 exact ⟨_, rfl, ⟨rfl, .inr ⟨w.heap.size, 4, _, rfl, Nat.le_refl _, heap_alloc_new w _, Nat.le_refl _, by unfold maxLen; omega, rfl, rfl⟩⟩, (Below.refl _ _).alloc (Nat.le_refl _) _⟩
theorem lV (t B : Nat) (L : List Lk.Hd) (v : Value) (w : World) (hT : RTab w t B L v) :
 Calls Tryz.prog 150 #[.pointer (some ⟨t, 0, none⟩)] w fun e w' => ∃ v', e = .returned v' ∧ w'.ownsRow w.heap.size 206 2 v' (Lk.fB L).length (aQ (Lk.fB L)) ∧ Below w.heap.size w w' := by
 obtain ⟨i, hi, hz0, hz1, hz2⟩ := info_parts xK
 have hL := hT.len
 obtain ⟨a, cap, hv⟩ := hT.form
 subst hv
 have HT := hide hT
 have htl := hT.blk.lt
 have hE := Lk.nM L
 generalize hEn : Lk.fB L = E at *
 have HEn := hide hEn
 have HE := hide hE
 clear hT hEn hE
 go_enter Tryz.func150, Tryz.ntmps150
 go_wp2_with fail
 refine (FV _).mono ?_
 rintro e w1 ⟨v1, rfl, ho1, hb1⟩
 have HO1 := hide ho1
 clear ho1
 go_wp2_with fail
 go_loopw [3, 4] (fun m u wr => ∃ k : Nat, u = .int .i64 k ∧ k <= L.length ∧ wr.ownsRow w.heap.size 206 2 m (4 + k) (aQ (E.take (4 + k))) ∧ Below w.heap.size w wr) (fun _ u _ => L.length - (intOf u).toNat)
 case atStart =>
  refine ⟨0, rfl, by omega, ?_, hb1⟩
  have e : E.take (4 + 0) = Lk.jb := by rw [<- uh HEn]; rfl
  rw [e]
  exact uh HO1
 case round =>
  obtain ⟨k, rfl, hk, hown, hbel⟩ := hrel
  have hsz := hbel.size
  have d1 := ((uh HT).blk.below hbel htl).cell 1
  simp only [List.getElem?_cons_zero, List.getElem?_cons_succ] at d1
  have htr : t < wr.heap.size := by omega
  by_cases hlt : k < L.length
  . have hlt' : (k : Int) < L.length := by omega
    obtain ⟨x, hx⟩ : ∃ x, L[k]? = some x := ⟨_, List.getElem?_eq_getElem hlt⟩
    obtain ⟨g, cap', hform, hg, a0, a1⟩ := (uh HT).at' hx
    cases hform
    have a0 : wr.cell? ⟨g, k * 2, none⟩ = some (.string (bs x.n)) := by rw [hbel.cell (p := ⟨g, k * 2, none⟩) hg]; exact a0
    have a1 : wr.cell? ⟨g, k * 2 + 1, none⟩ = some (.string (bs x.v)) := by rw [hbel.cell (p := ⟨g, k * 2 + 1, none⟩) hg]; exact a1
    have hgr : g < wr.heap.size := by omega
    have HX := hide hx
    clear hx
    go_wp2_with (at_builtin; refine wpList_append_own _ rfl _ _ 154 rfl w.heap.size 206 i _ 2 32 Tryz.underlying154 hi hz0 hz1 hz2 rfl (by decide) _ (4 + k) (aQ (E.take (4 + k))) rfl (hown.alloc _) ⟨wr.heap.size, 0, none⟩ 1 1 (hdV x) rfl rfl ?hnews ?h1 ?h63 ?hby ?hba ?_)
    case hnews => exact iK (nS wr _ x)
    case h1 => simp [hdV, Value.oneCell']
    case h63 => unfold maxLen; omega
    case hby => omega
    case hba => simp; omega
    intro v' w' ho' hg' hn'
    have hb' := (hbel.alloc hsz _).grown hg' (by simp; omega) (fun k hk => (hown.lt k hk).1)
    have ho2 : w'.ownsRow w.heap.size 206 2 v' (4 + (k + 1)) (aQ (E.take (4 + (k + 1)))) := by
     have hEx : E[4 + k]? = some x := by rw [<- uh HEn]; unfold Lk.fB; rw [List.getElem?_append_right (by simp [Lk.jb])]; simpa [Lk.jb] using uh HX
     have e : E.take (4 + (k + 1)) = E.take (4 + k) ++ [x] := by rw [<- Nat.add_assoc, List.take_add_one, hEx]; rfl
     rw [e, dJ]
     simpa [aQ, Nat.add_assoc] using ho'
    clear ho' hg' hown hbel a0 a1
    go_wp2_with fail
    go_roundw
    case rel => exact ⟨k + 1, by simp, by omega, ho2, hb'⟩
    case measure => simp [intOf]; omega
  . have hlt' : ¬ (k : Int) < L.length := by omega
    have ho2 : wr.ownsRow w.heap.size 206 2 u3 E.length (aQ E) := by
     have e : 4 + k = E.length := by have := uh HE; omega
     rw [e, List.take_length] at hown
     exact hown
    clear hown
    go_wp2_with fail
    go_ret
    exact ⟨_, rfl, ho2, hbel⟩
theorem sD (t B : Nat) (L : List Lk.Hd) (v : Value) (w : World) (hT : RTab w t B L v) :
 Calls Tryz.prog 104 #[.pointer (some ⟨t, 0, none⟩)] w fun e w' => ∃ u, e = .returned (.pointer (some ⟨u, 0, none⟩)) ∧ w.heap.size <= u ∧ (∃ v', RTab w' u B L v' ∧ ∀ k, v'.ownBlock = some k -> w.heap.size <= k) ∧ Below w.heap.size w w' := by
 obtain ⟨i, hi, hz0, hz1, hz2⟩ := info_parts xK
 have hL := hT.len
 obtain ⟨a, cap, hv⟩ := hT.form
 subst hv
 have HT := hide hT
 have htl := hT.blk.lt
 clear hT
 go_enter Tryz.func104, Tryz.ntmps104
 go_wp2_with fail
 go_loopw [3, 4] (fun m u wr => ∃ k : Nat, u = .int .i64 k ∧ k <= L.length ∧ wr.ownsRow w.heap.size 206 2 m k (aQ (L.take k)) ∧ Below w.heap.size w wr) (fun _ u _ => L.length - (intOf u).toNat)
 case atStart => exact ⟨0, rfl, by omega, World.ownsRow_nil _ _ _ _, Below.refl _ _⟩
 case round =>
  obtain ⟨k, rfl, hk, hown, hbel⟩ := hrel
  have hsz := hbel.size
  have d0 := ((uh HT).blk.below hbel htl).cell 0
  have d1 := ((uh HT).blk.below hbel htl).cell 1
  simp only [List.getElem?_cons_zero, List.getElem?_cons_succ] at d0 d1
  have htr : t < wr.heap.size := by omega
  by_cases hlt : k < L.length
  . have hlt' : (k : Int) < L.length := by omega
    obtain ⟨x, hx⟩ : ∃ x, L[k]? = some x := ⟨_, List.getElem?_eq_getElem hlt⟩
    obtain ⟨g, cap', hform, hg, a0, a1⟩ := (uh HT).at' hx
    cases hform
    have a0 : wr.cell? ⟨g, k * 2, none⟩ = some (.string (bs x.n)) := by rw [hbel.cell (p := ⟨g, k * 2, none⟩) hg]; exact a0
    have a1 : wr.cell? ⟨g, k * 2 + 1, none⟩ = some (.string (bs x.v)) := by rw [hbel.cell (p := ⟨g, k * 2 + 1, none⟩) hg]; exact a1
    have hgr : g < wr.heap.size := by omega
    have HX := hide hx
    clear hx
    go_wp2_with (at_builtin; refine wpList_append_own _ rfl _ _ 154 rfl w.heap.size 206 i _ 2 32 Tryz.underlying154 hi hz0 hz1 hz2 rfl (by decide) _ k (aQ (L.take k)) rfl (hown.alloc _) ⟨wr.heap.size, 0, none⟩ 1 1 (hdV x) rfl rfl ?hnews ?h1 ?h63 ?hby ?hba ?_)
    case hnews => exact iK (nS wr _ x)
    case h1 => simp [hdV, Value.oneCell']
    case h63 => unfold maxLen; omega
    case hby => omega
    case hba => simp; omega
    intro v' w' ho' hg' hn'
    have hb' := (hbel.alloc hsz _).grown hg' (by simp; omega) (fun k hk => (hown.lt k hk).1)
    have ho2 : w'.ownsRow w.heap.size 206 2 v' (k + 1) (aQ (L.take (k + 1))) := by
     have e : L.take (k + 1) = L.take k ++ [x] := by rw [List.take_add_one, uh HX]; rfl
     rw [e, dJ]
     simpa [aQ] using ho'
    clear ho' hg' hown hbel a0 a1
    go_wp2_with fail
    go_roundw
    case rel => exact ⟨k + 1, by simp, by omega, ho2, hb'⟩
    case measure => simp [intOf]; omega
  . have hlt' : ¬ (k : Int) < L.length := by omega
    have ho2 : wr.ownsRow w.heap.size 206 2 u3 L.length (aQ L) := by
     have e : k = L.length := by omega
     rw [e, List.take_length] at hown
     exact hown
    obtain ⟨a3, c3, h3⟩ := aJ ho2
    subst h3
    have HO2 := hide ho2
    clear hown ho2
    go_wp2_with fail
    go_ret
    refine ⟨_, rfl, hsz, ⟨.slice a3 L.length c3, ⟨Is.new wr 196 [.int .i64 B, .slice a3 L.length c3], zL ((uh HO2).alloc _), (uh HT).le, (uh HT).hB⟩, fun q hq => ((uh HO2).lt q hq).1⟩, hbel.alloc hsz _⟩
end Go.Proofs.YtbkpdapagfjmmaaGreatDoor
