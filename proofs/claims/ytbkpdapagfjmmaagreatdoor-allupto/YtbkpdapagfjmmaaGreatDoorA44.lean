import Derived.Test.YtbkpdapagfjmmaaGreatDoorA40
import Derived.Shelf.Abstract
set_option linter.unusedVariables false
set_option maxRecDepth 100000
set_option maxHeartbeats 16000000
namespace Go.Proofs.YtbkpdapagfjmmaaGreatDoor
open Go.RowKit
theorem Bf (k : Nat) (args : Array Value) (w : World) : (callFunc (lQ k) args).run Tryz.prog w = .ok (.enter (lQ k) args) w := by
 unfold lQ
 repeat' split
 . exact Tryz.call90 args w
 . exact Tryz.call91 args w
 . exact Tryz.call92 args w
 . exact Tryz.call93 args w
 . exact Tryz.call94 args w
 . exact Tryz.call95 args w
 . exact Tryz.call96 args w
 . exact Tryz.call97 args w
theorem H8 (b n : Nat) (t : Value) (w : World) (hb : b < w.heap.size) (c2 : w.cell? ⟨b, 2, none⟩ = some (.int .i64 (n : Int))) (hn : n ≠ 0) :
 Calls Tryz.prog 22 #[.pointer (some ⟨b, 0, none⟩), t] w fun r w' => r = .returned (.tuple #[.slice none 0 0, .int .i64 (n : Int)]) ∧ ∃ k, w' = w.drewN k := by
 have HD := hide (bJ b n w hb c2)
 have hdb : ((n : Int) != 0) = true := by simp; omega
 rw [hdb] at HD
 clear hn hdb
 go_enter Tryz.func22, Tryz.ntmps22
 go_wp2_with fail
 refine (uh HD).mono ?_
 rintro r w1 ⟨rfl, rfl⟩
 go_wp2_with (go_quiet (fail))
 go_ret2
 exact ⟨rfl, _, rfl⟩
theorem H9 (b : Nat) (e : Lk.En) (d : PD) (t : ByteArray) (w : World) (hL : Live w b e d) (hdn : e.down = 0) (hfx : Fx w) (ht : t.size <= 2 ^ 39) :
 Calls Tryz.prog 22 #[.pointer (some ⟨b, 0, none⟩), .string t] w fun r w' => ∃ v, r = .returned (.tuple #[v, .int .i64 ((e.feed t.data.toList).2.down : Int)]) ∧ DJ w b d (e.feed t.data.toList).2 (e.feed t.data.toList).1 v w' := by
 have hbl := hL.rw.lt
 have hpb := hL.pos b (.inl rfl)
 have c2 : w.cell? ⟨b, 2, none⟩ = some (.int .i64 0) := hL.c2 hdn
 have hO0 : Only (fun _ => False) w (w.alloc (.cells #[.slice none 0 0] 62)) := (Only.refl _ w).alloc _
 have hL0 := hL.only hO0 (fun _ _ h => h)
 have hI0 : Is (w.alloc (.cells #[.slice none 0 0] 62)) b 101 (.string (bs e.rest) :: .int .i64 0 :: .int .i64 0 :: ((fH e d).cells.drop 3)) := by
  have := hL0.rw.blk
  have h2 : (fH e d).cells = .string (bs e.rest) :: .int .i64 0 :: .int .i64 (e.down : Int) :: ((fH e d).cells.drop 3) := rfl
  rw [h2, hdn] at this
  exact this
 have hT0 : Told (w.alloc (.cells #[.slice none 0 0] 62)) w.heap.size w.heap.size (.slice none 0 0) [] := ⟨Is.new w 62 [.slice none 0 0], World.ownsRow_nil _ _ _ _, by simp, by simp⟩
 have Xg : e.rest.length <= 72 := by
  have := Lk.lW e.rest (by rw [hL.wf.rest])
  rw [hL.wf.rest] at this
  exact this
 have HRF := hide (xP b (bs e.rest) t _ (by rw [af, fJ]; omega) hI0)
 rw [fJ] at HRF
 have hgood := (Lk.kY (e.rest ++ t.data.toList)).1
 have hlenA := Lk.Ci (e.rest ++ t.data.toList)
 have uz := Lk.qV (e.rest ++ t.data.toList)
 have htl : t.data.toList.length <= 2 ^ 39 := by rw [<- af]; exact ht
 rw [List.length_append] at hlenA
 generalize hA : Lk.all (e.rest ++ t.data.toList) = A at *
 obtain ⟨fs, flt, rest⟩ := A
 simp only at HRF hgood hlenA uz
 generalize hR : ((e.at rest).dn flt).run fs = R
 have hF := e.qZ t.data.toList hdn _ hA R (by simpa using hR)
 simp only at hF
 rw [hF]
 simp only
 have RY : fs.length <= 2 ^ 38 := by omega
 generalize hEE : (R.2.2.dn (if R.2.1 = 0 then flt else R.2.1)).falls = EE
 have HEE := hide hEE
 clear hEE
 have HST : Hid (∀ (W : World) (fv : Value), W.ownsRow (w.alloc (.cells #[.slice none 0 0] 62)).heap.size 79 3 fv fs.length (aZ fs) -> Is W b 101 (.string ⟨rest.toArray⟩ :: .int .i64 0 :: .int .i64 (flt : Int) :: ((fH e d).cells.drop 3)) -> Turns b (w.alloc (.cells #[.slice none 0 0] 62)) W -> Fd w W b w.heap.size d fv fs R 0 ((e.at rest).dn flt) d (.slice none 0 0) []) := by
  intro W fv ho hI hT
  have hO : Only (· = b) (w.alloc (.cells #[.slice none 0 0] 62)) W := Only.dP hT
  have hsz0 : (w.alloc (.cells #[.slice none 0 0] 62)).heap.size = w.heap.size + 1 := by simp
  have hne : ∀ i, foot b d i -> i < w.heap.size := hL.lt
  refine ⟨⟨hL0.again uz hI hO, hT0.only hO (fun i hi => ?_), fun i hi hf => ?_, ?_, ?_, by omega, Nat.le_refl _⟩, by simp, own_base (by rw [hsz0]; omega) ho, fun x hx => ?_, fun i hi => .inl hi, ?_, ?_⟩
  . rcases hi with rfl | hi | ⟨p, hp, _⟩
    . omega
    . cases hi
    . cases hp
  . rcases hi with rfl | hi | ⟨p, hp, _⟩
    . have := hne _ hf; omega
    . cases hi
    . cases hp
  . exact (hfx.only hO0 (fun h => h)).only hO (fun h => by omega)
  . have := hO.size; omega
  . have := (ho.lt x hx).1
    rw [hsz0] at this
    refine ⟨fun hf => by have := hne x hf; omega, fun hf => ?_⟩
    rcases hf with rfl | hi | ⟨p, hp, _⟩
    . omega
    . cases hi
    . cases hp
  . exact (hO0.mono (fun _ h => h.elim)).trans hO (fun i hi _ => .inl (.inl hi))
  . simpa using hR
 have Qm := hide hgood
 have HLEN := hide RY
 have hRd : R.2.2.down = flt := by
  rw [<- hR, Lk.En.Ez]
  rfl
 have HRD := hide hRd
 clear hL hdn hfx hO0 hL0 hI0 hT0 Xg hA hR hgood hlenA uz htl RY hF hRd ht
 go_enter Tryz.func22, Tryz.ntmps22
 go_wp2_with fail
 refine (bJ b 0 w hbl c2).mono ?_
 rintro r w0 ⟨rfl, rfl⟩
 clear c2
 go_wp2_with fail
 refine (uh HRF).mono ?_
 rintro r w1 ⟨fv, rfl, ho, hI, hT⟩
 have HFD := hide (uh HST w1 fv ho hI hT)
 obtain ⟨fa, fn, fc, rfl, rfl⟩ := bV ho
 clear ho hI hT HRF HST
 go_wp2_with fail
 go_loopw [9, 31] (fun s9 u wr => ∃ (i : Nat) (e1 : Lk.En) (d1 : PD) (v1 : Value) (yR : List EvH), s9 = .int .i64 (flt : Int) ∧ u = .int .i64 i ∧ i <= fs.length ∧ Hid (Fd w0 wr b w0.heap.size d (.slice fa fs.length fc) fs R i e1 d1 v1 yR)) (fun _ u _ => fs.length - (intOf u).toNat)
 case atStart => exact ⟨0, _, d, _, [], rfl, rfl, Nat.zero_le _, uh HFD⟩
 case round =>
  clear HFD
  obtain ⟨i, e1, d1, v1, yR, rfl, rfl, hil, HF⟩ := hrel
  have Yi : (i : Int) + 1 <= 9223372036854775807 := by have := uh HLEN; omega
  by_cases hlt : i < fs.length
  . have hlt' : (i : Int) < fs.length := by omega
    have hfs := uh HF
    rcases jF hfs.frs with ⟨h0, _⟩ | ⟨fg, Xh, hv, hfB, hfl, hcap, hcell⟩
    . rw [h0] at hlt; simp at hlt
    obtain ⟨rfl, _, rfl⟩ : fa = some ⟨fg, 0, none⟩ ∧ True ∧ fc = Xh := by
     injection hv with h1 h2 h3
     exact ⟨h1, trivial, h3⟩
    obtain ⟨c0, c1, c2⟩ := hcell i hlt
    have c2 : wr.cell? ⟨fg, i * 3 + 2, none⟩ = some (.string (bs fs[i].d)) := c2
    have hgd := uh Qm fs[i] (List.getElem_mem hlt)
    have hev : yR.length + 1 <= 2 ^ 40 := by have := hfs.len; have := uh HLEN; omega
    have hstep := fun W hG => hfs.step (W' := W) hlt hG
    have Qn := hide hstep
    generalize fs[i] = f at *
    have hF0 := hfs.below ((Below.refl _ wr).alloc (Nat.le_refl _) (.cells #[.int .i64 (f.k : Int), .int .i64 (f.st : Int), .string (bs f.d)] 79))
    have HWK := hide (NC b w0.heap.size w0.heap.size e1 d1 v1 yR f (wr.alloc (.cells #[.int .i64 (f.k : Int), .int .i64 (f.st : Int), .string (bs f.d)] 79)).drew hF0.up.drew hev hgd)
    have HWO := hide (fun W => Hw f.k hgd.k7 W)
    have hWN := Bf f.k
    generalize lQ f.k = WN at HWK HWO hWN
    unfold frA dO at HWK
    have HX := hide (⟨hfs, hF0⟩ : _ ∧ _)
    clear hfs hv hcell hgd hstep hF0 hev hcap
    go_wp2_with fail
    go_cut [12] (fun s12 wc => s12 = .int .i64 ((e1.frame f).2.1 : Int) ∧ Hid (az wr b d1 w0.heap.size w0.heap.size v1 yR (e1.frame f).2.2 (e1.frame f).1 wc))
    case first =>
     go_region_with (first
      | (go_at_call 49; refine (uh HWO _).mono ?_; rintro r w2 ⟨rfl, rfl⟩)
      | (go_at_fn WN; refine (uh HWK).mono ?_; rintro r w3 ⟨rfl, hG⟩))
     all_goals
      go_wp2_with fail
      go_meet
      exact ⟨rfl, az.before ((Below.refl _ wr).alloc (Nat.le_refl _) _) (az.before (Below.drew (Below.refl _ _)) hG)⟩
    case rest =>
     obtain ⟨rfl, HG⟩ := hcut
     obtain ⟨d2, v2, A7, k1, k2, k3, k4, k5, k6⟩ := uh Qn _ (uh HG)
     have hcg : wc.cell? ⟨w0.heap.size, 0, none⟩ = some v2 := k1.told.box.cell 0
     have hgl := k1.told.box.lt
     by_cases herr : (e1.frame f).2.1 = 0
     . have HNX := hide (k5 herr)
       rw [herr]
       clear k1 k2 k3 k4 k5 k6 hcg herr HG Qn HWK HWO c0 c1 c2
       go_wp2_with fail
       go_roundw
       case rel => exact ⟨i + 1, _, d2, v2, A7, rfl, by go_num, by omega, HNX⟩
       case measure => simp [intOf]; omega
     . have hR := k6 herr
       have NS : (if R.2.1 = 0 then flt else R.2.1) = (e1.frame f).2.1 := by rw [hR, if_neg herr]
       have KF : ∀ W', iO wc b d2 ((e1.frame f).2.2.dn (e1.frame f).2.1).falls W' -> DJ w0 b d EE R.1 v2 W' := fun W' hP => by
        rw [<- uh HEE, NS, hR]
        exact Fd.fell k1 k2 k3 hP
       have Sj : ∀ W', iO wc b d2 ((e1.frame f).2.2.dn (e1.frame f).2.1).falls W' -> W'.cell? ⟨w0.heap.size, 0, none⟩ = some v2 ∧ w0.heap.size < W'.heap.size := fun W' hP => by
        obtain ⟨_, _, _, hO⟩ := hP
        have := k1.told.box.only hO (k1.sep _ (.inl rfl))
        exact ⟨this.cell 0, this.lt⟩
       have hdn : (EE.down : Int) = ((e1.frame f).2.1 : Int) := by
        rw [<- uh HEE, Lk.En.vO, NS]
        rfl
       have Qo := hide (Fe b (e1.frame f).2.1 (e1.frame f).2.2 d2 wc k1.live herr)
       have HPO := hide (⟨KF, Sj, hdn⟩ : _ ∧ _ ∧ _)
       obtain ⟨va, vn, oM, hva, hvn⟩ := bV k1.told.row
       subst hva
       clear hvn
       have Xi : (((e1.frame f).2.1 : Int) != 0) = true := by simp; omega
       have Vq : b < wc.heap.size := k1.live.rw.lt
       clear k1 k2 k3 k4 k5 k6 hcg HG Qn HWK HWO c0 c1 c2 hR NS KF Sj hdn herr
       generalize (e1.frame f).2.1 = er at *
       go_wp2_with fail
       refine (uh Qo).mono ?_
       rintro r w4 ⟨rfl, hP⟩
       obtain ⟨p1, p2, p3⟩ := uh HPO
       obtain ⟨q1, q2⟩ := p2 w4 hP
       have jD := hide (⟨p1 w4 hP, p3⟩ : _ ∧ _)
       clear p1 p2 p3 hP
       go_wp2_with fail
       go_ret2
       obtain ⟨p1, p3⟩ := uh jD
       exact ⟨_, by rw [p3]; rfl, p1⟩
  . have hie : i = fs.length := by omega
    have hlt' : ¬ (i : Int) < fs.length := by omega
    have hF := uh HF
    have hres := hF.res
    rw [hie, List.drop_length] at hres
    have hR : R = (yR.map Prod.fst, 0, e1) := by rw [<- hres]; simp [Lk.En.run]
    have NS : (if R.2.1 = 0 then flt else R.2.1) = flt := by rw [hR]; simp
    have hed : e1.down = flt := by
     have := uh HRD
     rw [hR] at this
     exact this
    have k1 := hF.up
    have hcg : wr.cell? ⟨w0.heap.size, 0, none⟩ = some v1 := k1.told.box.cell 0
    have hgl := k1.told.box.lt
    obtain ⟨va, vn, oM, hva, hvn⟩ := bV k1.told.row
    subst hva
    clear hvn
    by_cases h0 : flt = 0
    . have hfin : DJ w0 b d EE R.1 (.slice va vn oM) wr ∧ (EE.down : Int) = 0 := by
       have he : (e1.dn flt).falls = e1 := by
        have : e1.dn flt = e1 := by rw [<- hed]; rfl
        rw [this]
        unfold Lk.En.falls
        rw [if_neg (fun h => h.1 (hed.trans h0))]
       rw [<- uh HEE, NS, hR]
       simp only
       rw [he]
       exact ⟨Fd.fine k1 hF.grow hF.only (hed.trans h0), by rw [hed, h0]; rfl⟩
      have jD := hide hfin
      have h0' : ((flt : Int) != 0) = false := by rw [h0]; rfl
      clear hfin hF hres hR NS hed k1 HF Qm HLEN HRD
      subst h0
      go_wp2_with fail
      go_ret2
      obtain ⟨p1, p3⟩ := uh jD
      exact ⟨_, by rw [p3]; rfl, p1⟩
    . have KF : ∀ W', iO wr b d1 (e1.dn flt).falls W' -> DJ w0 b d EE R.1 (.slice va vn oM) W' := fun W' hP => by
       rw [<- uh HEE, NS, hR]
       exact Fd.fell k1 hF.grow hF.only hP
      have Sj : ∀ W', iO wr b d1 (e1.dn flt).falls W' -> W'.cell? ⟨w0.heap.size, 0, none⟩ = some (.slice va vn oM) ∧ w0.heap.size < W'.heap.size := fun W' hP => by
       obtain ⟨_, _, _, hO⟩ := hP
       have := k1.told.box.only hO (k1.sep _ (.inl rfl))
       exact ⟨this.cell 0, this.lt⟩
      have hdn : (EE.down : Int) = (flt : Int) := by
       rw [<- uh HEE, Lk.En.vO, NS]
       rfl
      have Qo := hide (Fe b flt e1 d1 wr k1.live h0)
      have HPO := hide (⟨KF, Sj, hdn⟩ : _ ∧ _ ∧ _)
      have h0' : ((flt : Int) != 0) = true := by simp; omega
      have Vq : b < wr.heap.size := k1.live.rw.lt
      clear hF hres hR NS hed k1 HF Qm HLEN HRD KF Sj hdn h0 hcg
      go_wp2_with fail
      refine (uh Qo).mono ?_
      rintro r w4 ⟨rfl, hP⟩
      obtain ⟨p1, p2, p3⟩ := uh HPO
      obtain ⟨q1, q2⟩ := p2 w4 hP
      have jD := hide (⟨p1 w4 hP, p3⟩ : _ ∧ _)
      clear p1 p2 p3 hP
      go_wp2_with fail
      go_ret2
      obtain ⟨p1, p3⟩ := uh jD
      exact ⟨_, by rw [p3]; rfl, p1⟩
theorem Sl (b : Nat) (e : Lk.En) (d : PD) (t : ByteArray) (w : World) (hL : kM w b e d) (hfx : Fx w) (ht : t.size <= 2 ^ 39) :
 Calls Tryz.prog 22 #[.pointer (some ⟨b, 0, none⟩), .string t] w fun r w' => ∃ v, r = .returned (.tuple #[v, .int .i64 ((e.feed t.data.toList).2.down : Int)]) ∧ DJ w b d (e.feed t.data.toList).2 (e.feed t.data.toList).1 v w' := by
 rcases hL with ⟨hL, hdn⟩ | hL
 . exact H9 b e d t w hL hdn hfx ht
 . rw [e.jP t.data.toList hL.dn]
   have c2 : w.cell? ⟨b, 2, none⟩ = some (.int .i64 (e.down : Int)) := hL.rw.blk.cell 2
   refine (H8 b e.down _ w hL.rw.lt c2 hL.dn).mono ?_
   rintro r w' ⟨rfl, k, rfl⟩
   have hO : ∀ S : Nat -> Prop, Only S w (w.drewN k) := fun S => (Only.refl S w).drewN k
   refine ⟨_, rfl, d, [], rfl, (kM.only (.inr hL) (hO (fun _ => False)) (fun _ _ h => h)), Said.nil _ _, fun i hi => ?_, fun i hi => .inl hi, hO _⟩
   rcases hi with hi | ⟨p, hp, _⟩
   . cases hi
   . cases hp
end Go.Proofs.YtbkpdapagfjmmaaGreatDoor
