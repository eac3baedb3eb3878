import Derived.Test.YtbkpdapagfjmmaaGreatDoorA14
set_option linter.unusedVariables false
set_option maxRecDepth 100000
set_option maxHeartbeats 16000000
namespace Go.Proofs.YtbkpdapagfjmmaaGreatDoor
open Go.RowKit
variable {κ : Prop}
theorem og {B : Nat} {w w1 : World} (h : Below B w w1) (n : Nat) : Below B w (w1.drewN n) := ⟨h.os, h.tape, h.output, h.size, h.block⟩
theorem MM {l : Lk.Bs} (h : l = []) : bs l = ⟨#[]⟩ := by rw [h]; rfl
theorem EF (b : Nat) (e : Lk.En) (p : RP) (i : Nat) (o : Lk.Ow) (w : World) (h : aT κ w b e p) (ho : e.own[i]? = some o) :
 Calls Tryz.prog 158 #[.pointer (some ⟨b, 0, none⟩), .int .i64 (i : Int)] w fun r w' => r = .returned (.bool (e.may o)) ∧ Below w.heap.size w w' := by
 have hi : i < e.own.length := (List.getElem?_eq_some_iff.1 ho).1
 obtain ⟨g, cap, c6, hv, hgl, hcap, hbl, x0, x1, x2, x3, hfz, hgb⟩ := h.ML ho
 have c8 : w.cell? ⟨b, 8, none⟩ = some (.int .i64 (e.all : Int)) := h.blk.cell 8
 have hi' : (i : Int) < e.own.length := by omega
 have hb := (Below.refl w.heap.size w).alloc (Nat.le_refl _) (.cells #[.int .i64 (o.id : Int), .string (bs o.left), .int .i64 (o.cr : Int), .bool o.done] 258)
 have HB := hide hb
 unfold Lk.En.may
 clear h hv hfz hb
 cases hdn : o.done with
 | true =>
   rw [hdn] at x3 HB
   go_enter Tryz.func158, Tryz.ntmps158
   go_wp2_with fail
   go_ret
   exact ⟨rfl, uh HB⟩
 | false =>
   rw [hdn] at x3 HB
   by_cases hle : o.left = []
   . have hb0 := MM hle
     rw [hle]
     rw [hb0] at x1 HB
     clear hle hb0
     go_enter Tryz.func158, Tryz.ntmps158
     go_wp2_with fail
     go_ret
     exact ⟨rfl, uh HB⟩
   . have hb0 : (bs o.left).toList.isEmpty = false := by rw [ByteArray.toList_eq]; simpa [bs] using hle
     have hemp : o.left.isEmpty = false := by simpa using hle
     rw [hemp]
     by_cases h1 : 0 < o.cr
     . have h1' : (0 : Int) < o.cr := by omega
       by_cases h2 : 0 < e.all
       . have h2' : (0 : Int) < e.all := by omega
         simp only [h1, h2]
         generalize (o.cr : Int) = CR at *
         generalize (e.all : Int) = AL at *
         clear hle h1 h2
         go_enter Tryz.func158, Tryz.ntmps158
         go_wp2_with fail
         go_ret
         exact ⟨rfl, uh HB⟩
       . have h2' : ¬ (0 : Int) < e.all := by omega
         simp only [h1, h2]
         generalize (o.cr : Int) = CR at *
         generalize (e.all : Int) = AL at *
         clear hle h1 h2
         go_enter Tryz.func158, Tryz.ntmps158
         go_wp2_with fail
         go_ret
         exact ⟨rfl, uh HB⟩
     . have h1' : ¬ (0 : Int) < o.cr := by omega
       simp only [h1]
       generalize (o.cr : Int) = CR at *
       generalize (e.all : Int) = AL at *
       clear hle h1
       go_enter Tryz.func158, Tryz.ntmps158
       go_wp2_with fail
       go_ret
       exact ⟨rfl, uh HB⟩
theorem MN {e : Lk.En} {i : Nat} {o : Lk.Ow} (ho : e.own[i]? = some o) (hm : e.may o = true) (ht : e.turn < o.id) (hn : ∀ j x, j < i -> e.own[j]? = some x -> ¬ (e.may x = true ∧ e.turn < x.id)) : e.next = some i := by
 unfold Lk.En.next
 have hi : i < e.own.length := (List.getElem?_eq_some_iff.1 ho).1
 have : e.own.findIdx? (fun o => e.may o && decide (e.turn < o.id)) = some i := by
  rw [List.findIdx?_eq_some_iff_getElem]
  have e0 : e.own[i] = o := (List.getElem?_eq_some_iff.1 ho).2
  refine ⟨hi, by rw [e0]; simp [hm, ht], fun j hj => ?_⟩
  have := hn j e.own[j] hj (List.getElem?_eq_getElem (by omega))
  simpa using this
 rw [this]
theorem Gp {e : Lk.En} (hn : ∀ (j : Nat) (x : Lk.Ow), e.own[j]? = some x -> ¬ (e.may x = true ∧ e.turn < x.id)) : e.next = e.own.findIdx? e.may := by
 unfold Lk.En.next
 have : e.own.findIdx? (fun o => e.may o && decide (e.turn < o.id)) = none := by
  rw [List.findIdx?_eq_none_iff]
  intro o ho
  obtain ⟨j, hj⟩ := List.getElem?_of_mem ho
  have := hn j o hj
  simpa using this
 rw [this]
theorem Ju (b : Nat) (e : Lk.En) (p : RP) (w : World) (h : aT κ w b e p) (hw : Lk.Wf e) :
 Calls Tryz.prog 106 #[.pointer (some ⟨b, 0, none⟩)] w fun r w' => r = .returned (.int .i64 (ixO e.next)) ∧ Below w.heap.size w w' := by
 have Gl := hw.wF
 have HE := hide h
 obtain ⟨va, vc, hv⟩ := aJ h.own
 have HV := hide hv
 have HC : Hid (∀ wr, Below w.heap.size w wr -> wr.cell? ⟨b, 6, none⟩ = some (.slice va e.own.length vc) ∧ wr.cell? ⟨b, 10, none⟩ = some (.int .i64 (e.turn : Int)) ∧ b < wr.heap.size ∧ w.heap.size <= wr.heap.size) := fun wr hb => by
  have h1 := (h.below hb).blk
  have c6 : wr.cell? ⟨b, 6, none⟩ = some p.wv := h1.cell 6
  rw [hv] at c6
  exact ⟨c6, h1.cell 10, h1.lt, hb.size⟩
 clear h hw hv
 go_enter Tryz.func106, Tryz.ntmps106
 go_wp2_with fail
 go_loopw [3] (fun u wr => ∃ i : Nat, i <= e.own.length ∧ u = .int .i64 i ∧ Hid (Below w.heap.size w wr ∧ ∀ j x, j < i -> e.own[j]? = some x -> ¬ (e.may x = true ∧ e.turn < x.id))) (fun u _ => e.own.length - (intOf u).toNat)
 case atStart => exact ⟨0, Nat.zero_le _, rfl, Below.refl _ _, fun j x hj => by omega⟩
 case round =>
  obtain ⟨i, hi, rfl, HN⟩ := hrel
  obtain ⟨hbw, hn⟩ := uh HN
  obtain ⟨c6, c10, hbl, hws⟩ := uh HC wr hbw
  by_cases hlt : i < e.own.length
  . have hlt' : (i : Int) < e.own.length := by omega
    have ho : e.own[i]? = some e.own[i] := List.getElem?_eq_getElem hlt
    generalize e.own[i] = o at ho
    have HM := hide (EF b e p i o wr ((uh HE).below hbw) ho)
    have HNX : Hid (∀ i', i' = i + 1 -> ¬ (e.may o = true ∧ e.turn < o.id) -> ∀ j x, j < i' -> e.own[j]? = some x -> ¬ (e.may x = true ∧ e.turn < x.id)) := fun i' hi' hno j x hj hx => by
     by_cases hji : j = i
     . subst hji
       rw [ho] at hx
       cases hx
       exact hno
     . exact hn j x (by omega) hx
    have HF : Hid (e.may o = true -> e.turn < o.id -> e.next = some i) := fun h1 h2 => MN ho h1 h2 hn
    have HAT : Hid (∀ w1, Below w.heap.size w w1 -> ∃ g cap, va = some ⟨g, 0, none⟩ ∧ vc = cap ∧ e.own.length <= cap ∧ g < w1.heap.size ∧ w1.cell? ⟨g, i * 4, none⟩ = some (.int .i64 (o.id : Int))) := fun w1 hb1 => by
     obtain ⟨g, cap, c6, hv, hgl, hcap, _, x0, _⟩ := ((uh HE).below hb1).ML ho
     have hv2 := uh HV
     rw [hv] at hv2
     injection hv2 with k1 k2 k3
     exact ⟨g, cap, k1.symm, k3.symm, hcap, hgl, x0⟩
    have HBW := hide hbw
    generalize hmo : e.may o = mo at *
    clear hn hbw HN ho hmo
    go_wp2_with fail
    refine (uh HM).mono ?_
    rintro r w1 ⟨rfl, hb1⟩
    have hb2 := (uh HBW).trans (hb1.mono hws)
    obtain ⟨d6, d10, dbl, dws⟩ := uh HC w1 hb2
    obtain ⟨g, cap, rfl, rfl, hcap, hgl, x0⟩ := uh HAT w1 hb2
    have HB2 := hide hb2
    clear hb1 hb2 c6 c10 hbl
    cases mo with
    | false =>
      have HR := hide (uh HNX _ rfl (fun z => by cases z.1))
      go_wp2_with fail
      go_quiet (fail)
      go_wp2_with fail
      go_roundw
      case rel => exact ⟨i + 1, by omega, by go_num, og (uh HB2) _, uh HR⟩
      case measure => simp [intOf]; omega
    | true =>
      by_cases ht : e.turn < o.id
      . have ht' : (e.turn : Int) < o.id := by omega
        have HF2 := hide (uh HF rfl ht)
        generalize (e.turn : Int) = TU at *
        generalize (o.id : Int) = ID at *
        clear ht HF HNX HAT
        go_wp2_with fail
        go_quiet (fail)
        go_wp2_with fail
        go_ret
        exact ⟨by rw [uh HF2]; rfl, og (uh HB2) _⟩
      . have ht' : decide ((e.turn : Int) < o.id) = false := by simp; omega
        have HR := hide (uh HNX _ rfl (fun z => ht z.2))
        generalize (e.turn : Int) = TU at *
        generalize (o.id : Int) = ID at *
        clear ht HF HNX HAT
        go_wp2_with fail
        go_quiet (fail)
        go_wp2_with fail
        go_roundw
        case rel => exact ⟨i + 1, by omega, by go_num, og (uh HB2) _, uh HR⟩
        case measure => simp [intOf]; omega
  . have hlt' : ¬ (i : Int) < e.own.length := by omega
    have HNX := hide (Gp (fun j x hx => hn j x (by have := (List.getElem?_eq_some_iff.1 hx).1; omega) hx))
    have HB0 := hide hbw
    clear hn hbw HN
    go_wp2_with fail
    go_loopw [5] (fun u wr => ∃ i : Nat, i <= e.own.length ∧ u = .int .i64 i ∧ Hid (Below w.heap.size w wr ∧ ∀ j x, j < i -> e.own[j]? = some x -> e.may x = false)) (fun u _ => e.own.length - (intOf u).toNat)
    case atStart => exact ⟨0, Nat.zero_le _, rfl, uh HB0, fun j x hj => by omega⟩
    case round =>
     clear HB0
     obtain ⟨i, hi, rfl, HN⟩ := hrel
     obtain ⟨hbw, hn⟩ := uh HN
     obtain ⟨c6, c10, hbl, hws⟩ := uh HC wr hbw
     by_cases hlt : i < e.own.length
     . have hlt' : (i : Int) < e.own.length := by omega
       have ho : e.own[i]? = some e.own[i] := List.getElem?_eq_getElem hlt
       generalize e.own[i] = o at ho
       have HM := hide (EF b e p i o wr ((uh HE).below hbw) ho)
       have HR : Hid (e.may o = false -> ∀ j x, j < i + 1 -> e.own[j]? = some x -> e.may x = false) := fun hno j x hj hx => by
        by_cases hji : j = i
        . subst hji
          rw [ho] at hx
          cases hx
          exact hno
        . exact hn j x (by omega) hx
       have HF : Hid (e.may o = true -> e.next = some i) := fun h1 => by
        rw [uh HNX, List.findIdx?_eq_some_iff_getElem]
        have e0 : e.own[i] = o := (List.getElem?_eq_some_iff.1 ho).2
        refine ⟨hlt, by rw [e0]; exact h1, fun j hj => ?_⟩
        have := hn j e.own[j] hj (List.getElem?_eq_getElem (by omega))
        simp [this]
       have HBW := hide hbw
       generalize hmo : e.may o = mo at *
       clear hn hbw HN ho hmo
       go_wp2_with fail
       refine (uh HM).mono ?_
       rintro r w1 ⟨rfl, hb1⟩
       have HB2 := hide ((uh HBW).trans (hb1.mono hws))
       clear hb1 c6 c10 hbl
       cases mo with
       | false =>
         have HR2 := hide (uh HR rfl)
         go_wp2_with fail
         go_roundw
         case rel => exact ⟨i + 1, by omega, by go_num, uh HB2, uh HR2⟩
         case measure => simp [intOf]; omega
       | true =>
         have HF2 := hide (uh HF rfl)
         go_wp2_with fail
         go_ret
         exact ⟨by rw [uh HF2]; rfl, uh HB2⟩
     . have hlt' : ¬ (i : Int) < e.own.length := by omega
       have HF : Hid (e.next = none) := by
        have : e.next = none := by
         rw [uh HNX, List.findIdx?_eq_none_iff]
         intro o ho
         obtain ⟨j, hj⟩ := List.getElem?_of_mem ho
         exact hn j o (by have := (List.getElem?_eq_some_iff.1 hj).1; omega) hj
        exact this
       have HB0 := hide hbw
       clear hn hbw HN
       go_wp2_with fail
       go_ret
       exact ⟨by rw [uh HF]; rfl, uh HB0⟩
theorem MO (p : Lk.Bs) (n : Nat) : (bs p).extract 0 n = bs (p.take n) := by
 apply ByteArray.ext
 apply Array.toList_inj.1
 simp [bs]
theorem MP (p : Lk.Bs) (n : Nat) : (bs p).extract n p.length = bs (p.drop n) := by
 apply ByteArray.ext
 apply Array.toList_inj.1
 rw [dI, List.take_of_length_le (by simp [bs])]
 simp [bs]
theorem sW {X w9 : World} (h : Below X.drew.drew.drew.heap.size X.drew.drew.drew w9) : Below X.heap.size X w9 := ⟨h.os, h.tape, h.output, h.size, h.block⟩
theorem PG (x y : Int) (w : World) : Calls Tryz.prog 159 #[.int .i64 x, .int .i64 y] w fun r w' => r = .returned (.int .i64 (min x y)) ∧ w' = w := by
 by_cases h : x < y
 . have e : min x y = x := by omega
   rw [e]
   clear e
   go_enter Tryz.func159, Tryz.ntmps159
   go_wp2_with fail
   go_ret
   exact ⟨rfl, rfl⟩
 . have e : min x y = y := by omega
   rw [e]
   clear e
   go_enter Tryz.func159, Tryz.ntmps159
   go_wp2_with fail
   go_ret
   exact ⟨rfl, rfl⟩
theorem aT.sent {w : World} {b : Nat} {e : Lk.En} {p : RP} (h : aT κ w b e p) {i g cap n : Nat} {o : Lk.Ow} (ho : e.own[i]? = some o) (hg : p.wv = .slice (some ⟨g, 0, none⟩) e.own.length cap) (hn : n <= o.left.length) (y : Lk.Ow) (hy : y = if n = o.left.length then { o with done := true } else o) (w8 : World) (h8 : w8 = if n = o.left.length then w.setCell ⟨g, i * 4 + 3, none⟩ (.bool true) else w) :
 aT κ w8 b { e with own := e.own.set i y } p ∧ Only (aI b p) w w8 := by
 by_cases hc : n = o.left.length
 . rw [if_pos hc] at hy h8
   subst hy h8
   exact h.kL ho hg 3 (.bool true) { o with done := true } (by omega) rfl
 . rw [if_neg hc] at hy h8
   subst h8
   rw [hy]
   have : e.own.set i o = e.own := by
    obtain ⟨hi, hx⟩ := List.getElem?_eq_some_iff.1 ho
    rw [<- hx]
    exact List.set_getElem_self hi
   rw [this]
   exact ⟨h, Only.refl _ _⟩
theorem aT.TT {w8 : World} {b : Nat} {e : Lk.En} {p : RP} {i g cap n : Nat} {o y : Lk.Ow} (hi : i < e.own.length) (h : aT κ w8 b { e with own := e.own.set i y } p) (hg : p.wv = .slice (some ⟨g, 0, none⟩) e.own.length cap) (hyi : y.id = o.id) (hyl : y.left = o.left) (hyc : y.cr = o.cr) :
 aT κ ((((w8.setCell ⟨g, i * 4 + 1, none⟩ (.string (bs (o.left.drop n)))).setCell ⟨g, i * 4 + 2, none⟩ (.int .i64 ((o.cr - n : Nat) : Int))).setCell ⟨b, 8, none⟩ (.int .i64 ((e.all - n : Nat) : Int))).setCell ⟨b, 10, none⟩ (.int .i64 (o.id : Int))) b { e with own := e.own.set i ⟨o.id, o.left.drop n, o.cr - n, y.done⟩, all := e.all - n, turn := o.id } p
 ∧ Only (aI b p) w8 ((((w8.setCell ⟨g, i * 4 + 1, none⟩ (.string (bs (o.left.drop n)))).setCell ⟨g, i * 4 + 2, none⟩ (.int .i64 ((o.cr - n : Nat) : Int))).setCell ⟨b, 8, none⟩ (.int .i64 ((e.all - n : Nat) : Int))).setCell ⟨b, 10, none⟩ (.int .i64 (o.id : Int))) := by
 have g1 : p.wv = .slice (some ⟨g, 0, none⟩) (e.own.set i y).length cap := by rw [List.length_set]; exact hg
 obtain ⟨s1, t1⟩ := h.kL (i := i) (x := y) (List.getElem?_set_self hi) g1 1 (.string (bs (o.left.drop n))) { y with left := o.left.drop n } (by omega) rfl
 have g2 : p.wv = .slice (some ⟨g, 0, none⟩) ((e.own.set i y).set i { y with left := o.left.drop n }).length cap := by simp only [List.length_set]; exact hg
 obtain ⟨s2, t2⟩ := s1.kL (i := i) (x := { y with left := o.left.drop n }) (List.getElem?_set_self (by rw [List.length_set]; exact hi)) g2 2 (.int .i64 ((o.cr - n : Nat) : Int)) { y with left := o.left.drop n, cr := o.cr - n } (by omega) rfl
 have hE : ((e.own.set i y).set i { y with left := o.left.drop n }).set i { y with left := o.left.drop n, cr := o.cr - n } = e.own.set i ⟨o.id, o.left.drop n, o.cr - n, y.done⟩ := by
  simp only [List.set_set]
  rw [<- hyi]
 have s3 := s2.set (e' := { e with own := e.own.set i ⟨o.id, o.left.drop n, o.cr - n, y.done⟩, all := e.all - n }) 8 (.int .i64 ((e.all - n : Nat) : Int)) rfl rfl rfl rfl hE.symm rfl (fun x => ⟨x, rfl⟩)
 have s4 := s3.set (e' := { e with own := e.own.set i ⟨o.id, o.left.drop n, o.cr - n, y.done⟩, all := e.all - n, turn := o.id }) 10 (.int .i64 (o.id : Int)) rfl rfl rfl rfl rfl rfl (fun x => ⟨x, rfl⟩)
 exact ⟨s4, ((t1.trans t2 (fun _ x _ => x)).set b 8 _ (fun _ => .inl rfl)).set b 10 _ (fun _ => .inl rfl)⟩
theorem Jv (b : Nat) (e : Lk.En) (p : RP) (i : Nat) (o : Lk.Ow) (w : World) (h : aT κ w b e p) (hw : Lk.Wf e) (ho : e.own[i]? = some o) (hm : e.may o = true) :
 Calls Tryz.prog 107 #[.pointer (some ⟨b, 0, none⟩), .int .i64 (i : Int)] w fun r w' => r = .returned (.string (bs (e.cu i o).1)) ∧ aj κ w b p (e.cu i o).2 w' := by
 have hi : i < e.own.length := (List.getElem?_eq_some_iff.1 ho).1
 have hi' : (i : Int) < e.own.length := by omega
 have hok := hw.own i o ho
 have hml := Lk.xE e o
 have hnd : o.done = false := by
  unfold Lk.En.may at hm
  cases hd : o.done with
  | false => rfl
  | true => rw [hd] at hm; simp at hm
 have hgood := Lk.zB hm (by have := hok.id; omega) hok.oL
 have hal := hw.all
 have hcr := hok.cr
 have hll := hok.left
 have hBx := Is.new w 258 [.int .i64 (o.id : Int), .string (bs o.left), .int .i64 (o.cr : Int), .bool false]
 have hbW := (Below.refl w.heap.size w).alloc (Nat.le_refl _) (.cells #[.int .i64 (o.id : Int), .string (bs o.left), .int .i64 (o.cr : Int), .bool false] 258)
 obtain ⟨g, cap, c6, hv, hgl, hcap, hbl, x0, x1, x2, x3, hfz, hgb⟩ := h.ML ho
 have hW := h.below hbW
 rw [hnd] at x3
 have hwW : w.heap.size < (w.alloc (.cells #[.int .i64 (o.id : Int), .string (bs o.left), .int .i64 (o.cr : Int), .bool false] 258)).heap.size := by simp
 have hbn : b ≠ w.heap.size := by omega
 have hgn : g ≠ w.heap.size := by omega
 have Ri : e.most o = if o.left = [] then 0 else min (min o.left.length 16) (min o.cr e.all) := by
  unfold Lk.En.most
  by_cases hle : o.left = []
  . rw [if_pos hle, if_pos (by rw [hle]; rfl)]
  . rw [if_neg hle, if_neg (by simpa using hle)]
 have hbo : e.cu i o = (Lk.packed (e.mD o).k o.id (o.left.take (e.most o)), { e with own := e.own.set i ⟨o.id, o.left.drop (e.most o), o.cr - e.most o, o.done || decide (e.most o = o.left.length)⟩, all := e.all - e.most o, turn := o.id }) := rfl
 rw [hbo]
 have hfr : (e.mD o).k = if e.most o = o.left.length then 2 else 1 := rfl
 have hfd : (e.mD o).d = o.left.take (e.most o) := rfl
 have hfs : (e.mD o).st = o.id := rfl
 rw [hfd, hfs] at hgood
 generalize (e.mD o).k = KD at *
 generalize hN : e.most o = N at *
 have htk := MO o.left N
 have hdr := MP o.left N
 have hsz := ax o.left
 have HPK := hide (fun W => vZ KD o.id (o.left.take N) W hgood)
 have HF8 := hide (fun (nq : Nat) (y : Lk.Ow) hy (w8 : World) h8 => (hW.below (og (Below.refl _ (w.alloc (.cells #[.int .i64 (o.id : Int), .string (bs o.left), .int .i64 (o.cr : Int), .bool false] 258))) nq)).sent ho hv hml.1 y hy w8 h8)
 have HF9 := hide (fun (w8 : World) (y : Lk.Ow) (hR : aT κ w8 b { e with own := e.own.set i y } p) h1 h2 h3 => aT.TT (w8 := w8) (b := b) (y := y) (n := N) (o := o) hi hR hv h1 h2 h3)
 have o0 : (w.alloc (.cells #[.int .i64 (o.id : Int), .string (bs o.left), .int .i64 (o.cr : Int), .bool false] 258)).cell? ⟨w.heap.size, 0, none⟩ = some (.int .i64 (o.id : Int)) := hBx.cell 0
 have o1 : (w.alloc (.cells #[.int .i64 (o.id : Int), .string (bs o.left), .int .i64 (o.cr : Int), .bool false] 258)).cell? ⟨w.heap.size, 1, none⟩ = some (.string (bs o.left)) := hBx.cell 1
 have o2 : (w.alloc (.cells #[.int .i64 (o.id : Int), .string (bs o.left), .int .i64 (o.cr : Int), .bool false] 258)).cell? ⟨w.heap.size, 2, none⟩ = some (.int .i64 (o.cr : Int)) := hBx.cell 2
 have c8 : (w.alloc (.cells #[.int .i64 (o.id : Int), .string (bs o.left), .int .i64 (o.cr : Int), .bool false] 258)).cell? ⟨b, 8, none⟩ = some (.int .i64 (e.all : Int)) := hW.blk.cell 8
 have d6 : (w.alloc (.cells #[.int .i64 (o.id : Int), .string (bs o.left), .int .i64 (o.cr : Int), .bool false] 258)).cell? ⟨b, 6, none⟩ = some (.slice (some ⟨g, 0, none⟩) e.own.length cap) := by have := hW.blk.cell 6; rw [this]; show some p.wv = _; rw [hv]
 have hWb := hW.blk.lt
 have hWg : g < (w.alloc (.cells #[.int .i64 (o.id : Int), .string (bs o.left), .int .i64 (o.cr : Int), .bool false] 258)).heap.size := by omega
 have HBW := hide hbW
 have HBX := hide hBx
 have HW0 := hide hW
 have HZ : Hid ((∀ j, (w.alloc (.cells #[.int .i64 (o.id : Int), .string (bs o.left), .int .i64 (o.cr : Int), .bool false] 258)).frozen? ⟨g, j, none⟩ = false) ∧ (w.alloc (.cells #[.int .i64 (o.id : Int), .string (bs o.left), .int .i64 (o.cr : Int), .bool false] 258)).cell? ⟨g, i * 4 + 3, none⟩ = some (.bool false)) := by
  obtain ⟨g2, cap2, k1, k2, _, _, _, _, _, _, k9, k3, _⟩ := hW.ML ho
  rw [d6] at k1
  have e1 : g2 = g := by injection k1 with k1; injection k1 with k1 _ _; injection k1 with k1; injection k1 with k1 _ _; exact k1.symm
  rw [<- e1]
  rw [hnd] at k9
  exact ⟨k3, k9⟩
 have HND := hide hnd
 clear hnd
 have HMO := hide Ri
 have HPV := hide hv
 have HAL := hide hal
 have HFR := hide hfr
 have Ws : (N : Int) <= 300 := by omega
 have XU : (N : Int) <= ((bs o.left).size : Int) := by omega
 have hNn : N <= (bs o.left).size := by omega
 clear h hw ho hm hok hal hgood hW hbW hBx Ri hfr hfd hfs hbo hv hN hfz
 go_enter Tryz.func107, Tryz.ntmps107
 go_wp2_with fail
 generalize hWW : w.alloc (.cells #[.int .i64 (o.id : Int), .string (bs o.left), .int .i64 (o.cr : Int), .bool false] 258) = W at *
 clear hWW
 go_quiet ((go_at_call 159; exact Calls.quiet_of_same (PG _ _ _)))
 go_upto_if 31 with fail
 go_cut [6] (fun s6 wx => s6 = .int .i64 (N : Int) ∧ wx = W.drewN nq)
 case first =>
  have HBL : Hid ((bs o.left).toList.isEmpty = decide (o.left = [])) := by
   have : (bs o.left).toList.isEmpty = decide (o.left = []) := by
    rw [sS]
    cases o.left <;> rfl
   exact this
  generalize (bs o.left).toList.isEmpty = BL at *
  cases BL with
  | true =>
    have hle : o.left = [] := of_decide_eq_true (uh HBL).symm
    have HN0 : Hid (N = 0) := by
     have h1 := uh HMO
     rw [if_pos hle] at h1
     exact h1
    clear hle
    go_wp2_with fail
    go_meet
    exact ⟨by rw [uh HN0]; rfl, rfl⟩
  | false =>
    have hle : ¬ o.left = [] := of_decide_eq_false (uh HBL).symm
    have HN0 : Hid (min (min (o.left.length : Int) 16) (min (o.cr : Int) (e.all : Int)) = (N : Int)) := by
     have h1 := uh HMO
     rw [if_neg hle] at h1
     have h2 : min (min (o.left.length : Int) 16) (min (o.cr : Int) (e.all : Int)) = (N : Int) := by omega
     exact h2
    clear hle
    go_wp2_with fail
    go_meet
    exact ⟨congrArg _ (uh HN0), rfl⟩
 case rest =>
  obtain ⟨rfl, rfl⟩ := hcut
  clear x0 x1 x2 x3 c6
  have f1 : W.frozen? ⟨g, i * 4 + 1, none⟩ = false := (uh HZ).1 _
  have f2 : W.frozen? ⟨g, i * 4 + 2, none⟩ = false := (uh HZ).1 _
  have f3 : W.frozen? ⟨g, i * 4 + 3, none⟩ = false := (uh HZ).1 _
  have x3W : W.cell? ⟨g, i * 4 + 3, none⟩ = some (.bool false) := (uh HZ).2
  have f8 : W.frozen? ⟨b, 8, none⟩ = false := (uh HW0).blk.free 8
  have f10 : W.frozen? ⟨b, 10, none⟩ = false := (uh HW0).blk.free 10
  go_upto_if 36 with fail
  go_cut [7] (fun s7 w8 => s7 = .int .i64 (KD : Int) ∧ Hid (w8 = if N = o.left.length then (W.drewN nq).setCell ⟨g, i * 4 + 3, none⟩ (.bool true) else W.drewN nq))
  case first =>
   have HBL : Hid (((N : Int) == (o.left.length : Int)) = decide (N = o.left.length)) := by
    have : ((N : Int) == (o.left.length : Int)) = decide (N = o.left.length) := by
     by_cases h : N = o.left.length
     . rw [h]; simp
     . rw [decide_eq_false h]; simp; omega
    exact this
   generalize ((N : Int) == (o.left.length : Int)) = BL at *
   cases BL with
   | true =>
     have hle : N = o.left.length := of_decide_eq_true (uh HBL).symm
     have HK : Hid (KD = 2) := by have h1 := uh HFR; rw [if_pos hle] at h1; exact h1
     have HLE := hide hle
     clear hle
     go_wp2_with fail
     go_meet
     refine ⟨by rw [uh HK]; rfl, ?_⟩
     show _ = _
     rw [if_pos (uh HLE)]
   | false =>
     have hle : ¬ N = o.left.length := of_decide_eq_false (uh HBL).symm
     have HK : Hid (KD = 1) := by have h1 := uh HFR; rw [if_neg hle] at h1; exact h1
     have HLE := hide hle
     clear hle
     go_wp2_with fail
     go_meet
     refine ⟨by rw [uh HK]; rfl, ?_⟩
     show _ = _
     rw [if_neg (uh HLE)]
  case rest =>
   obtain ⟨rfl, HW8⟩ := hcut
   have hw8 := uh HW8
   obtain ⟨s8, t8⟩ := uh HF8 nq _ rfl wc hw8
   generalize hY : (if N = o.left.length then ({ o with done := true } : Lk.Ow) else o) = y at s8
   have hy1 : y.id = o.id ∧ y.left = o.left ∧ y.cr = o.cr ∧ y.done = (o.done || decide (N = o.left.length)) := by
    rw [<- hY]
    split
    . rename_i h; rw [decide_eq_true h]; simp
    . rename_i h; rw [decide_eq_false h]; simp
   obtain ⟨s9, t9⟩ := uh HF9 wc y s8 hy1.1 hy1.2.1 hy1.2.2.1
   have hb8 : Is wc w.heap.size 258 [.int .i64 (o.id : Int), .string (bs o.left), .int .i64 (o.cr : Int), .bool false] := by
    rw [hw8]
    split
    . exact ((uh HBX).drewN nq).other _ _ (Ne.symm hgn)
    . exact (uh HBX).drewN nq
   have ho8 : ({ e with own := e.own.set i y } : Lk.En).own[i]? = some y := List.getElem?_set_self hi
   obtain ⟨g8, U6, q6, qv, qg, Ti, qb, q0, q1, q2, q3, qz, _⟩ := s8.ML ho8
   have Rj : ({ e with own := e.own.set i y } : Lk.En).own.length = e.own.length := by simp
   rw [Rj] at q6 qv Ti
   rw [uh HPV] at qv
   obtain ⟨rfl, rfl⟩ : g8 = g ∧ U6 = cap := by
    injection qv with k1 k2 k3
    injection k1 with k1
    injection k1 with k1
    exact ⟨k1.symm, k3.symm⟩
   have r0 : wc.cell? ⟨w.heap.size, 0, none⟩ = some (.int .i64 (o.id : Int)) := hb8.cell 0
   have r1 : wc.cell? ⟨w.heap.size, 1, none⟩ = some (.string (bs o.left)) := hb8.cell 1
   have r2 : wc.cell? ⟨w.heap.size, 2, none⟩ = some (.int .i64 (o.cr : Int)) := hb8.cell 2
   have rl := hb8.lt
   have q8 : wc.cell? ⟨b, 8, none⟩ = some (.int .i64 (e.all : Int)) := s8.blk.cell 8
   have q10 : wc.cell? ⟨b, 10, none⟩ = some (.int .i64 (e.turn : Int)) := s8.blk.cell 10
   have z8 := s8.blk.free 8
   have z10 := s8.blk.free 10
   have z1 := qz (i * 4 + 1)
   have z2 := qz (i * 4 + 2)
   have e1 : (o.cr : Int) - N = ((o.cr - N : Nat) : Int) := by omega
   have e2 : (e.all : Int) - N = ((e.all - N : Nat) : Int) := by omega
   have hall := uh HAL
   have u1 : ((o.cr - N : Nat) : Int) <= 100000 := by omega
   have u2 : ((e.all - N : Nat) : Int) <= 100000 := by omega
   have u3 : (0 : Int) <= ((o.cr - N : Nat) : Int) := by omega
   have u4 : (0 : Int) <= ((e.all - N : Nat) : Int) := by omega
   have u5 : (o.cr : Int) <= 100000 := by omega
   have u6 : (e.all : Int) <= 100000 := by omega
   rw [hy1.2.2.2] at s9
   have hO8 : Only (aI b p) w wc := (Only.of_below (uh HBW) _).trans t8.CG (fun _ x _ => x)
   have jD := hide (⟨s9, hO8.trans t9 (fun _ x _ => x)⟩ : _ ∧ _)
   clear hO8
   have hgb' : b ≠ g8 := Ne.symm hgb
   have hne1 : ¬ w.heap.size = b := Ne.symm hbn
   have hne2 : ¬ w.heap.size = g8 := Ne.symm hgn
   generalize ((o.cr - N : Nat) : Int) = CN at *
   generalize ((e.all - N : Nat) : Int) = AN at *
   generalize (o.cr : Int) = CR at *
   generalize (e.all : Int) = AL at *
   clear s8 t8 s9 t9 hb8 ho8 hY hy1 hw8 HW8 qz qv q3 q0 Rj HF8 HF9 o0 o1 o2 c8 d6 f1 f2 f3 f8 f10 x3W HZ HND HMO HFR HBX
   go_wp2_with fail
   go_region
   go_wp2_with fail
   go_region
   go_wp2_with fail
   go_region_with (first | (go_at_call 56; refine (uh HPK _).mono ?_; rintro r w9 ⟨rfl, hb9⟩))
   all_goals
    have HB9 := hide hb9
    clear hb9
    go_wp2_with fail
    go_ret
    obtain ⟨s9, t9⟩ := uh jD
    exact ⟨rfl, p, s9.below (sW (uh HB9)), fun _ x => .inl x, t9.below (sW (uh HB9))⟩
theorem Jw (a b : Lk.Bs) : bs a ++ bs b = bs (a ++ b) := by
 apply ByteArray.ext
 simp [bs]
theorem nY.tail {w : World} {v : Value} {x : Lk.Bs} {l : List Lk.Bs} (h : nY w v (x :: l)) : ∃ g off cap, v = .slice (some ⟨g, off, none⟩) (l.length + 1) cap ∧ g < w.heap.size ∧ l.length + 1 <= cap ∧ cap <= maxLen ∧ w.cell? ⟨g, off, none⟩ = some (.string (bs x)) ∧ nY w (.slice (if cap = 1 then some ⟨g, off, none⟩ else some ⟨g, off + 1, none⟩) l.length (cap - 1)) l := by
 obtain ⟨g, off, cap, h1, h2, h3, h4, h5, h6⟩ := h.head
 refine ⟨g, off, cap, h1, h2, h3, h4, h5, ?_⟩
 by_cases hc : cap = 1
 . rw [if_pos hc]
   have hl : l = [] := List.eq_nil_of_length_eq_zero (by omega)
   subst hl hc
   rcases h with ⟨h0, _⟩ | ⟨g', off', cap', cur, hv, hI, _, _, k3, _⟩
   . cases h0
   . rw [hv] at h1
     injection h1 with k1 k2 k4
     injection k1 with k1
     injection k1 with k1 k5
     subst k1 k5 k4
     exact .inr ⟨g', off', 0, cur, rfl, hI, Nat.le_refl _, Nat.zero_le _, by omega, fun i y hy => by simp at hy⟩
 . rw [if_neg hc]
   exact h6
theorem aT.popRow {w : World} {b : Nat} {e : Lk.En} {p : RP} {x : Lk.Bs} {l : List Lk.Bs} (h : aT κ w b e p) (hr : e.row = x :: l) : ∃ g off cap, p.rv = .slice (some ⟨g, off, none⟩) (l.length + 1) cap ∧ g < w.heap.size ∧ l.length + 1 <= cap ∧ cap <= maxLen ∧ w.cell? ⟨g, off, none⟩ = some (.string (bs x)) ∧ aj κ w b p { e with row := l } (w.setCell ⟨b, 5, none⟩ (.slice (if cap = 1 then some ⟨g, off, none⟩ else some ⟨g, off + 1, none⟩) l.length (cap - 1))) := by
 have hq := h.row
 rw [hr] at hq
 obtain ⟨g, off, cap, h1, h2, h3, h4, h5, h6⟩ := hq.tail
 exact ⟨g, off, cap, h1, h2, h3, h4, h5, h.pushRow h6 (.inl (by rw [h1]; split <;> rfl)) (Only.refl _ w)⟩
theorem Gq {e : Lk.En} {x : Lk.Bs} {l : List Lk.Bs} (hr : e.row = x :: l) : e.bG = some (x, { e with row := l }) := by unfold Lk.En.bG; rw [hr]
theorem Aa {e : Lk.En} (hr : e.row = []) (h : e.down ≠ 0 ∨ e.next = none) : e.bG = none := by
 unfold Lk.En.bG
 rw [hr]
 simp only
 split
 . rfl
 . rename_i hd
   rcases h with h | h
   . exact absurd h hd
   . rw [h]
theorem CO {e : Lk.En} {i : Nat} {o : Lk.Ow} (hr : e.row = []) (hd : e.down = 0) (hn : e.next = some i) (ho : e.own[i]? = some o) : e.bG = some (e.cu i o) := by
 unfold Lk.En.bG
 rw [hr]
 simp only
 rw [if_neg (by rw [hd]; simp), hn]
 simp only
 rw [ho]
def RDr (κ : Prop) (w0 : World) (b : Nat) (p0 : RP) (D : Lk.Bs × Lk.En) (m : Int) (s : Lk.Bs) (e : Lk.En) (w : World) : Prop :=
 aj κ w0 b p0 e w ∧ Lk.Wf e ∧ D.1 = s ++ (Lk.En.drain m.toNat e).1 ∧ D.2 = (Lk.En.drain m.toNat e).2
theorem RDr.stop {w0 w : World} {b : Nat} {p0 : RP} {D : Lk.Bs × Lk.En} {m : Int} {s : Lk.Bs} {e : Lk.En} (h : RDr κ w0 b p0 D m s e w) (hx : m <= 0 ∨ e.bG = none) : D = (s, e) := by
 obtain ⟨_, _, h1, h2⟩ := h
 have : Lk.En.drain m.toNat e = ([], e) := by
  rcases hx with hx | hx
  . have : m.toNat = 0 := by omega
    rw [this]
    rfl
  . cases m.toNat with
    | zero => rfl
    | succ n => rw [Lk.En.drain, hx]
 rw [this] at h1 h2
 simp at h1 h2
 exact Prod.ext h1 h2
theorem RDr.go {w0 w w' : World} {b : Nat} {p0 : RP} {D : Lk.Bs × Lk.En} {m : Int} {s x : Lk.Bs} {e e' : Lk.En} (h : RDr κ w0 b p0 D m s e w) (hm : 0 < m) (hx : e.bG = some (x, e')) (hP : aj κ w0 b p0 e' w') : RDr κ w0 b p0 D (m - 1) (s ++ x) e' w' ∧ s.length + x.length <= D.1.length := by
 obtain ⟨_, hw, h1, h2⟩ := h
 obtain ⟨n, hn⟩ : ∃ n, m.toNat = n + 1 := ⟨m.toNat - 1, by omega⟩
 have hn' : (m - 1).toNat = n := by omega
 rw [hn, Lk.En.drain, hx] at h1 h2
 simp only at h1 h2
 refine ⟨⟨hP, (hw.bG hx).1, by rw [hn', List.append_assoc]; exact h1, by rw [hn']; exact h2⟩, ?_⟩
 rw [h1]
 simp only [List.length_append]
 omega
theorem Gs (b : Nat) (e : Lk.En) (p : RP) (most : Int) (w : World) (h : aT κ w b e p) (hw : Lk.Wf e) (U7 : most <= 9223372036854775807) (TV : (Lk.En.drain most.toNat e).1.length <= 2 ^ 44) :
 Calls Tryz.prog 65 #[.pointer (some ⟨b, 0, none⟩), .int .i64 most] w fun r w' => r = .returned (.string (bs (Lk.En.drain most.toNat e).1)) ∧ aj κ w b p (Lk.En.drain most.toNat e).2 w' := by
 have HS : Hid (RDr κ w b p (Lk.En.drain most.toNat e) most [] e w) := ⟨aj.same h, hw, rfl, rfl⟩
 generalize Lk.En.drain most.toNat e = D at *
 clear h hw
 go_enter Tryz.func65, Tryz.ntmps65
 go_wp2_with fail
 go_loopw [1, 5] (fun u1 u5 wr => ∃ (m : Int) (s : Lk.Bs) (e1 : Lk.En), u1 = .int .i64 m ∧ u5 = .string (bs s) ∧ m <= 9223372036854775807 ∧ Hid (RDr κ w b p D m s e1 wr)) (fun u1 _ _ => (intOf u1).toNat)
 case atStart => exact ⟨most, [], e, rfl, rfl, U7, uh HS⟩
 case round =>
  clear HS
  obtain ⟨m, s, e1, rfl, rfl, hm, HR⟩ := hrel
  have hR := uh HR
  by_cases hm0 : 0 < m
  . obtain ⟨p1, h1, f1, o1⟩ := hR.1
    have hw1 := hR.2.1
    have c5 : wr.cell? ⟨b, 5, none⟩ = some p1.rv := h1.blk.cell 5
    have hbl := h1.blk.lt
    have z5 := h1.blk.free 5
    cases hr : e1.row with
    | cons x l =>
      obtain ⟨g, off, cap, k1, k2, k3, k4, k5, k6⟩ := h1.popRow hr
      obtain ⟨hR2, hlen⟩ := hR.go hm0 (Gq hr) (aj.trans f1 o1 k6)
      rw [k1] at c5
      have U8 := Jw s x
      have hsum : ¬ (bs s).size + (bs x).size > 9223372036854775807 := by rw [ax, ax]; omega
      have hl0 : (0 : Int) < (l.length : Int) + 1 := by omega
      have hcap1 : (1 : Int) <= cap := by omega
      have HR2 := hide hR2
      generalize hLL : l.length = L at *
      clear hR HR h1 f1 o1 hw1 hr k1 k6 hR2 hlen
      go_wp2_with fail
      go_roundw
      case rel => exact ⟨m - 1, _, _, rfl, rfl, by omega, uh HR2⟩
      case measure => simp [intOf]; omega
    | nil =>
      obtain ⟨ra, rc, hrf⟩ := h1.row.form
      rw [hr] at hrf
      rw [hrf] at c5
      have c13 : wr.cell? ⟨b, 13, none⟩ = some (.int .i64 (e1.down : Int)) := h1.blk.cell 13
      by_cases hd : e1.down = 0
      . have hd' := CJ hd
        have HT := hide (Ju b e1 p1 wr h1 hw1)
        cases hn : e1.next with
        | none =>
          have hD := hR.stop (.inr (Aa hr (.inr hn)))
          have HP := hide hR.1
          have HD := hide hD
          rw [hn] at HT
          generalize (e1.down : Int) = DN at *
          clear hR HR hD h1 f1 o1 hw1 hr hrf hd hn
          go_wp2_with fail
          refine (uh HT).mono ?_
          rintro r w2 ⟨rfl, hb2⟩
          have HB := hide hb2
          clear hb2
          simp only [ixO]
          go_wp2_with fail
          go_ret
          exact ⟨congrArg (fun z => Ending.returned (.string (bs z))) (congrArg Prod.fst (uh HD)).symm, by rw [congrArg Prod.snd (uh HD)]; exact aj.after (uh HP) (uh HB)⟩
        | some i =>
          obtain ⟨o, ho, hmay⟩ := Lk.lU hn
          have hd1 := CO hr hd hn ho
          have HBD := hide (fun W (hR : aT κ W b e1 p1) => Jv b e1 p1 i o W hR hw1 ho hmay)
          have HX := hide (⟨h1, f1, o1⟩ : _ ∧ _ ∧ _)
          have HGO := hide (fun w' hP => hR.go (w' := w') hm0 (x := (e1.cu i o).1) (e' := (e1.cu i o).2) hd1 hP)
          rw [hn] at HT
          generalize hBO : e1.cu i o = BO at *
          obtain ⟨bx, be⟩ := BO
          simp only at HBD HGO
          have hi0 : ¬ (i : Int) < 0 := by omega
          generalize (e1.down : Int) = DN at *
          clear hR HR h1 f1 o1 hw1 hr hrf hd hn ho hmay hd1 hBO
          go_wp2_with fail
          refine (uh HT).mono ?_
          rintro r w2 ⟨rfl, hb2⟩
          obtain ⟨h1, f1, o1⟩ := uh HX
          have HB2 := hide (uh HBD w2 (h1.below hb2))
          have HO2 := hide (⟨f1, o1.below hb2⟩ : _ ∧ _)
          clear h1 f1 o1 hb2
          simp only [ixO]
          go_wp2_with fail
          refine (uh HB2).mono ?_
          rintro r w3 ⟨rfl, hP⟩
          obtain ⟨f1, o2⟩ := uh HO2
          obtain ⟨hR2, hlen⟩ := uh HGO w3 (aj.trans f1 o2 hP)
          have HR2 := hide hR2
          have U8 := Jw s bx
          have hsum : ¬ (bs s).size + (bs bx).size > 9223372036854775807 := by rw [ax, ax]; omega
          clear hP f1 o2 hR2 hlen
          go_wp2_with fail
          go_roundw
          case rel => exact ⟨m - 1, _, _, rfl, rfl, by omega, uh HR2⟩
          case measure => simp [intOf]; omega
      . have hd' := zY hd
        have hD := hR.stop (.inr (Aa hr (.inl hd)))
        have HP := hide hR.1
        have HD := hide hD
        generalize (e1.down : Int) = DN at *
        clear hR HR hD h1 f1 o1 hw1 hr hrf hd
        go_wp2_with fail
        go_ret
        exact ⟨congrArg (fun z => Ending.returned (.string (bs z))) (congrArg Prod.fst (uh HD)).symm, by rw [congrArg Prod.snd (uh HD)]; exact uh HP⟩
  . have XV : ¬ (0 : Int) < m := by omega
    have hD := hR.stop (.inl (by omega))
    have HP := hide hR.1
    have HD := hide hD
    clear hR HR hD
    go_wp2_with fail
    go_ret
    exact ⟨congrArg (fun z => Ending.returned (.string (bs z))) (congrArg Prod.fst (uh HD)).symm, by rw [congrArg Prod.snd (uh HD)]; exact uh HP⟩
end Go.Proofs.YtbkpdapagfjmmaaGreatDoor
