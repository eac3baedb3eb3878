import Derived.Test.YtbkpdapagfjmmaaGreatDoorMW8FN
import Derived.Shelf.Abstract
import Derived.Test.YtbkpdapagfjmmaaGreatDoorMU2PW
import Derived.Test.YtbkpdapagfjmmaaGreatDoorMPUT7
/-
  Walks: Feed.
-/
namespace Go.Proofs.YtbkpdapagfjmmaaGreatDoor
open Go.RowKit

theorem workN_enters (k : Nat) (args : Array Value) (w : World) : (callFunc (workN k) args).run Tryz.prog w = .ok (.enter (workN k) args) w := by
  unfold workN
  repeat' split
  · exact Tryz.call90 args w
  · exact Tryz.call91 args w
  · exact Tryz.call92 args w
  · exact Tryz.call93 args w
  · exact Tryz.call94 args w
  · exact Tryz.call95 args w
  · exact Tryz.call96 args w
  · exact Tryz.call97 args w
theorem feedEnd_dn (b n : Nat) (t : Value) (w : World) (hb : b < w.heap.size) (c2 : w.cell? ⟨b, 2, none⟩ = some (.int .i64 (n : Int))) (hn : n ≠ 0) :
    Calls Tryz.prog 22 #[.pointer (some ⟨b, 0, none⟩), t] w fun r w' => r = .returned (.tuple #[.slice none 0 0, .int .i64 (n : Int)]) ∧ ∃ k, w' = w.drewN k := by
  have HD := hide (down_any b n w hb c2)
  have hdb : ((n : Int) != 0) = true := by simp; omega
  rw [hdb] at HD
  clear hn hdb
  go_enter Tryz.func22, Tryz.ntmps22
  go_wp2_with fail
  refine (unhide HD).mono ?_
  rintro r w1 ⟨rfl, rfl⟩
  go_wp2_with (go_quiet (fail))
  go_ret2
  exact ⟨rfl, _, rfl⟩

set_option maxHeartbeats 4000000 in
set_option maxRecDepth 100000 in
theorem feedEnd_up (b : Nat) (e : Lk.En) (d : PD) (t : ByteArray) (w : World) (hL : Live w b e d) (hdn : e.down = 0) (hfx : Fx w) (ht : t.size ≤ 2 ^ 39) :
    Calls Tryz.prog 22 #[.pointer (some ⟨b, 0, none⟩), .string t] w fun r w' => ∃ v, r = .returned (.tuple #[v, .int .i64 ((e.feed t.data.toList).2.down : Int)]) ∧ FPost w b d (e.feed t.data.toList).2 (e.feed t.data.toList).1 v w' := by
  have hbl := hL.rw.lt
  have hpb := hL.pos b (.inl rfl)
  have c2 : w.cell? ⟨b, 2, none⟩ = some (.int .i64 0) := hL.c2 hdn
  -- the list that is told, empty
  have hO0 : Only (fun _ => False) w (w.alloc (.cells #[.slice none 0 0] 62)) := (Only.refl _ w).alloc _
  have hL0 := hL.only hO0 (fun _ _ h => h)
  have hI0 : Is (w.alloc (.cells #[.slice none 0 0] 62)) b 101 (.string (bs e.rest) :: .int .i64 0 :: .int .i64 0 :: ((ecOf e d).cells.drop 3)) := by
    have := hL0.rw.blk
    have h2 : (ecOf e d).cells = .string (bs e.rest) :: .int .i64 0 :: .int .i64 (e.down : Int) :: ((ecOf e d).cells.drop 3) := rfl
    rw [h2, hdn] at this
    exact this
  have hT0 : Told (w.alloc (.cells #[.slice none 0 0] 62)) w.heap.size w.heap.size (.slice none 0 0) [] := ⟨Is.new w 62 [.slice none 0 0], World.ownsRow_nil _ _ _ _, by simp, by simp⟩
  have hr72 : e.rest.length ≤ 72 := by
    have := Lk.all_rest72 e.rest (by rw [hL.wf.rest])
    rw [hL.wf.rest] at this
    exact this
  have HRF := hide (feed_ok b (bs e.rest) t _ (by rw [size_list, bs_list]; omega) hI0)
  rw [bs_list] at HRF
  have hgood := (Lk.all_packs (e.rest ++ t.data.toList)).1
  have hlenA := Lk.all_len (e.rest ++ t.data.toList)
  have harest := Lk.all_rest (e.rest ++ t.data.toList)
  have htl : t.data.toList.length ≤ 2 ^ 39 := by rw [← size_list]; exact ht
  rw [List.length_append] at hlenA
  generalize hA : Lk.all (e.rest ++ t.data.toList) = A at *
  obtain ⟨fs, flt, rest⟩ := A
  simp only at HRF hgood hlenA harest
  generalize hR : ((e.at rest).dn flt).run fs = R
  have hF := e.feed_run t.data.toList hdn _ hA R (by simpa using hR)
  simp only at hF
  rw [hF]
  simp only
  have hfsl : fs.length ≤ 2 ^ 38 := by omega
  generalize hEE : (R.2.2.dn (if R.2.1 = 0 then flt else R.2.1)).falls = EE
  have HEE := hide hEE
  clear hEE
  -- what Reader.Feed leaves is where the loop begins
  have HST : Hid (∀ (W : World) (fv : Value), W.ownsRow (w.alloc (.cells #[.slice none 0 0] 62)).heap.size 79 3 fv fs.length (framesV fs) → Is W b 101 (.string ⟨rest.toArray⟩ :: .int .i64 0 :: .int .i64 (flt : Int) :: ((ecOf e d).cells.drop 3)) → Turns b (w.alloc (.cells #[.slice none 0 0] 62)) W → Fd w W b w.heap.size d fv fs R 0 ((e.at rest).dn flt) d (.slice none 0 0) []) := by
    intro W fv ho hI hT
    have hO : Only (· = b) (w.alloc (.cells #[.slice none 0 0] 62)) W := Only.of_turns hT
    have hsz0 : (w.alloc (.cells #[.slice none 0 0] 62)).heap.size = w.heap.size + 1 := by simp
    have hne : ∀ i, foot b d i → i < w.heap.size := hL.lt
    refine ⟨⟨hL0.again harest hI hO, hT0.only hO (fun i hi => ?_), fun i hi hf => ?_, ?_, ?_, by omega, Nat.le_refl _⟩, by simp, own_base (by rw [hsz0]; omega) ho, fun x hx => ?_, fun i hi => .inl hi, ?_, ?_⟩
    · rcases hi with rfl | hi | ⟨p, hp, _⟩
      · omega
      · cases hi
      · cases hp
    · rcases hi with rfl | hi | ⟨p, hp, _⟩
      · have := hne _ hf; omega
      · cases hi
      · cases hp
    · exact (hfx.only hO0 (fun h => h)).only hO (fun h => by omega)
    · have := hO.size; omega
    · have := (ho.lt x hx).1
      rw [hsz0] at this
      refine ⟨fun hf => by have := hne x hf; omega, fun hf => ?_⟩
      rcases hf with rfl | hi | ⟨p, hp, _⟩
      · omega
      · cases hi
      · cases hp
    · exact (hO0.mono (fun _ h => h.elim)).trans hO (fun i hi _ => .inl (.inl hi))
    · simpa using hR
  have HGOOD := hide hgood
  have HLEN := hide hfsl
  have hRd : R.2.2.down = flt := by
    rw [← hR, Lk.En.run_down]
    rfl
  have HRD := hide hRd
  clear hL hdn hfx hO0 hL0 hI0 hT0 hr72 hA hR hgood hlenA harest htl hfsl hF hRd ht
  go_enter Tryz.func22, Tryz.ntmps22
  go_wp2_with fail
  refine (down_any b 0 w hbl c2).mono ?_
  rintro r w0 ⟨rfl, rfl⟩
  clear c2
  go_wp2_with fail
  refine (unhide HRF).mono ?_
  rintro r w1 ⟨fv, rfl, ho, hI, hT⟩
  have HFD := hide (unhide HST w1 fv ho hI hT)
  obtain ⟨fa, fn, fc, rfl, rfl⟩ := own_slice ho
  clear ho hI hT HRF HST
  go_wp2_with fail
  go_loopw [9, 31] (fun s9 u wr => ∃ (i : Nat) (e1 : Lk.En) (d1 : PD) (v1 : Value) (evs1 : List EvH), s9 = .int .i64 (flt : Int) ∧ u = .int .i64 i ∧ i ≤ fs.length ∧ Hid (Fd w0 wr b w0.heap.size d (.slice fa fs.length fc) fs R i e1 d1 v1 evs1)) (fun _ u _ => fs.length - (intOf u).toNat)
  case atStart => exact ⟨0, _, d, _, [], rfl, rfl, Nat.zero_le _, unhide HFD⟩
  case round =>
    clear HFD
    obtain ⟨i, e1, d1, v1, evs1, rfl, rfl, hil, HF⟩ := hrel
    have hi63 : (i : Int) + 1 ≤ 9223372036854775807 := by have := unhide HLEN; omega
    by_cases hlt : i < fs.length
    · have hlt' : (i : Int) < fs.length := by omega
      have hfs := unhide HF
      rcases owned_frames hfs.frs with ⟨h0, _⟩ | ⟨fg, fcap, hv, hfB, hfl, hcap, hcell⟩
      · rw [h0] at hlt; simp at hlt
      obtain ⟨rfl, _, rfl⟩ : fa = some ⟨fg, 0, none⟩ ∧ True ∧ fc = fcap := by
        injection hv with h1 h2 h3
        exact ⟨h1, trivial, h3⟩
      obtain ⟨c0, c1, c2⟩ := hcell i hlt
      have c2 : wr.cell? ⟨fg, i * 3 + 2, none⟩ = some (.string (bs fs[i].d)) := c2
      have hgd := unhide HGOOD fs[i] (List.getElem_mem hlt)
      have hev : evs1.length + 1 ≤ 2 ^ 40 := by have := hfs.len; have := unhide HLEN; omega
      have hstep := fun W hG => hfs.step (W' := W) hlt hG
      have HSTEP := hide hstep
      generalize fs[i] = f at *
      have hF0 := hfs.below ((Below.refl _ wr).alloc (Nat.le_refl _) (.cells #[.int .i64 (f.k : Int), .int .i64 (f.st : Int), .string (bs f.d)] 79))
      have HWK := hide (work_any b w0.heap.size w0.heap.size e1 d1 v1 evs1 f (wr.alloc (.cells #[.int .i64 (f.k : Int), .int .i64 (f.st : Int), .string (bs f.d)] 79)).drew hF0.up.drew hev hgd)
      have HWO := hide (fun W => workOf_any f.k hgd.k7 W)
      have hWN := workN_enters f.k
      generalize workN f.k = WN at HWK HWO hWN
      unfold frA tellV at HWK
      have HX := hide (⟨hfs, hF0⟩ : _ ∧ _)
      clear hfs hv hcell hgd hstep hF0 hev hcap
      go_wp2_with fail
      go_cut [12] (fun s12 wc => s12 = .int .i64 ((e1.frame f).2.1 : Int) ∧ Hid (GPost wr b d1 w0.heap.size w0.heap.size v1 evs1 (e1.frame f).2.2 (e1.frame f).1 wc))
      case first =>
        go_region_with (first
          | (go_at_call 49; refine (unhide HWO _).mono ?_; rintro r w2 ⟨rfl, rfl⟩)
          | (go_at_fn WN; refine (unhide HWK).mono ?_; rintro r w3 ⟨rfl, hG⟩))
        all_goals
          go_wp2_with fail
          go_meet
          exact ⟨rfl, GPost.before ((Below.refl _ wr).alloc (Nat.le_refl _) _) (GPost.before (Below.drew (Below.refl _ _)) hG)⟩
      case rest =>
        obtain ⟨rfl, HG⟩ := hcut
        obtain ⟨d2, v2, evs2, k1, k2, k3, k4, k5, k6⟩ := unhide HSTEP _ (unhide HG)
        have hcg : wc.cell? ⟨w0.heap.size, 0, none⟩ = some v2 := k1.told.box.cell 0
        have hgl := k1.told.box.lt
        by_cases herr : (e1.frame f).2.1 = 0
        · have HNX := hide (k5 herr)
          rw [herr]
          clear k1 k2 k3 k4 k5 k6 hcg herr HG HSTEP HWK HWO c0 c1 c2
          go_wp2_with fail
          go_roundw
          case rel => exact ⟨i + 1, _, d2, v2, evs2, rfl, by go_num, by omega, HNX⟩
          case measure => simp [intOf]; omega
        · have hR := k6 herr
          have hflt : (if R.2.1 = 0 then flt else R.2.1) = (e1.frame f).2.1 := by rw [hR, if_neg herr]
          have hPost : ∀ W', PPost wc b d2 ((e1.frame f).2.2.dn (e1.frame f).2.1).falls W' → FPost w0 b d EE R.1 v2 W' := fun W' hP => by
            rw [← unhide HEE, hflt, hR]
            exact Fd.fell k1 k2 k3 hP
          have hcgo : ∀ W', PPost wc b d2 ((e1.frame f).2.2.dn (e1.frame f).2.1).falls W' → W'.cell? ⟨w0.heap.size, 0, none⟩ = some v2 ∧ w0.heap.size < W'.heap.size := fun W' hP => by
            obtain ⟨_, _, _, hO⟩ := hP
            have := k1.told.box.only hO (k1.sep _ (.inl rfl))
            exact ⟨this.cell 0, this.lt⟩
          have hdn : (EE.down : Int) = ((e1.frame f).2.1 : Int) := by
            rw [← unhide HEE, Lk.En.falls_down, hflt]
            rfl
          have HFALL := hide (fall_any b (e1.frame f).2.1 (e1.frame f).2.2 d2 wc k1.live herr)
          have HPO := hide (⟨hPost, hcgo, hdn⟩ : _ ∧ _ ∧ _)
          obtain ⟨va, vn, vcap, hva, hvn⟩ := own_slice k1.told.row
          subst hva
          clear hvn
          have herr' : (((e1.frame f).2.1 : Int) != 0) = true := by simp; omega
          have hblc : b < wc.heap.size := k1.live.rw.lt
          clear k1 k2 k3 k4 k5 k6 hcg HG HSTEP HWK HWO c0 c1 c2 hR hflt hPost hcgo hdn herr
          generalize (e1.frame f).2.1 = er at *
          go_wp2_with fail
          refine (unhide HFALL).mono ?_
          rintro r w4 ⟨rfl, hP⟩
          obtain ⟨p1, p2, p3⟩ := unhide HPO
          obtain ⟨q1, q2⟩ := p2 w4 hP
          have HFIN := hide (⟨p1 w4 hP, p3⟩ : _ ∧ _)
          clear p1 p2 p3 hP
          go_wp2_with fail
          go_ret2
          obtain ⟨p1, p3⟩ := unhide HFIN
          exact ⟨_, by rw [p3]; rfl, p1⟩
    · have hie : i = fs.length := by omega
      have hlt' : ¬ (i : Int) < fs.length := by omega
      have hF := unhide HF
      have hres := hF.res
      rw [hie, List.drop_length] at hres
      have hR : R = (evs1.map Prod.fst, 0, e1) := by rw [← hres]; simp [Lk.En.run]
      have hflt : (if R.2.1 = 0 then flt else R.2.1) = flt := by rw [hR]; simp
      have hed : e1.down = flt := by
        have := unhide HRD
        rw [hR] at this
        exact this
      have k1 := hF.up
      have hcg : wr.cell? ⟨w0.heap.size, 0, none⟩ = some v1 := k1.told.box.cell 0
      have hgl := k1.told.box.lt
      obtain ⟨va, vn, vcap, hva, hvn⟩ := own_slice k1.told.row
      subst hva
      clear hvn
      by_cases h0 : flt = 0
      · have hfin : FPost w0 b d EE R.1 (.slice va vn vcap) wr ∧ (EE.down : Int) = 0 := by
          have he : (e1.dn flt).falls = e1 := by
            have : e1.dn flt = e1 := by rw [← hed]; rfl
            rw [this]
            unfold Lk.En.falls
            rw [if_neg (fun h => h.1 (hed.trans h0))]
          rw [← unhide HEE, hflt, hR]
          simp only
          rw [he]
          exact ⟨Fd.fine k1 hF.grow hF.only (hed.trans h0), by rw [hed, h0]; rfl⟩
        have HFIN := hide hfin
        have h0' : ((flt : Int) != 0) = false := by rw [h0]; rfl
        clear hfin hF hres hR hflt hed k1 HF HGOOD HLEN HRD
        subst h0
        go_wp2_with fail
        go_ret2
        obtain ⟨p1, p3⟩ := unhide HFIN
        exact ⟨_, by rw [p3]; rfl, p1⟩
      · have hPost : ∀ W', PPost wr b d1 (e1.dn flt).falls W' → FPost w0 b d EE R.1 (.slice va vn vcap) W' := fun W' hP => by
          rw [← unhide HEE, hflt, hR]
          exact Fd.fell k1 hF.grow hF.only hP
        have hcgo : ∀ W', PPost wr b d1 (e1.dn flt).falls W' → W'.cell? ⟨w0.heap.size, 0, none⟩ = some (.slice va vn vcap) ∧ w0.heap.size < W'.heap.size := fun W' hP => by
          obtain ⟨_, _, _, hO⟩ := hP
          have := k1.told.box.only hO (k1.sep _ (.inl rfl))
          exact ⟨this.cell 0, this.lt⟩
        have hdn : (EE.down : Int) = (flt : Int) := by
          rw [← unhide HEE, Lk.En.falls_down, hflt]
          rfl
        have HFALL := hide (fall_any b flt e1 d1 wr k1.live h0)
        have HPO := hide (⟨hPost, hcgo, hdn⟩ : _ ∧ _ ∧ _)
        have h0' : ((flt : Int) != 0) = true := by simp; omega
        have hblc : b < wr.heap.size := k1.live.rw.lt
        clear hF hres hR hflt hed k1 HF HGOOD HLEN HRD hPost hcgo hdn h0 hcg
        go_wp2_with fail
        refine (unhide HFALL).mono ?_
        rintro r w4 ⟨rfl, hP⟩
        obtain ⟨p1, p2, p3⟩ := unhide HPO
        obtain ⟨q1, q2⟩ := p2 w4 hP
        have HFIN := hide (⟨p1 w4 hP, p3⟩ : _ ∧ _)
        clear p1 p2 p3 hP
        go_wp2_with fail
        go_ret2
        obtain ⟨p1, p3⟩ := unhide HFIN
        exact ⟨_, by rw [p3]; rfl, p1⟩
theorem feed_p (b : Nat) (e : Lk.En) (d : PD) (t : ByteArray) (w : World) (hL : PEnd w b e d) (hfx : Fx w) (ht : t.size ≤ 2 ^ 39) :
    Calls Tryz.prog 22 #[.pointer (some ⟨b, 0, none⟩), .string t] w fun r w' => ∃ v, r = .returned (.tuple #[v, .int .i64 ((e.feed t.data.toList).2.down : Int)]) ∧ FPost w b d (e.feed t.data.toList).2 (e.feed t.data.toList).1 v w' := by
  rcases hL with ⟨hL, hdn⟩ | hL
  · exact feedEnd_up b e d t w hL hdn hfx ht
  · rw [e.feed_down t.data.toList hL.dn]
    have c2 : w.cell? ⟨b, 2, none⟩ = some (.int .i64 (e.down : Int)) := hL.rw.blk.cell 2
    refine (feedEnd_dn b e.down _ w hL.rw.lt c2 hL.dn).mono ?_
    rintro r w' ⟨rfl, k, rfl⟩
    have hO : ∀ S : Nat → Prop, Only S w (w.drewN k) := fun S => (Only.refl S w).drewN k
    refine ⟨_, rfl, d, [], rfl, (PEnd.only (.inr hL) (hO (fun _ => False)) (fun _ _ h => h)), Said.nil _ _, fun i hi => ?_, fun i hi => .inl hi, hO _⟩
    rcases hi with hi | ⟨p, hp, _⟩
    · cases hi
    · cases hp
end Go.Proofs.YtbkpdapagfjmmaaGreatDoor

/-
  Walks: New.
-/
namespace Go.Proofs.YtbkpdapagfjmmaaGreatDoor
open Go.RowKit

set_option maxHeartbeats 1000000 in
set_option maxRecDepth 100000 in
theorem newOutbound_any (f win : Int) (hw0 : 0 ≤ win) (hw : win ≤ 200) (w : World) :
    Calls Tryz.prog 40 #[.int .i64 f, .int .i64 win] w fun e w' => e = .returned (.agg #[weighV, .int .i64 100, .slice none 0 0, .int .i64 win, .int .i64 f, .int .i64 0, .int .i64 (2 * win), .slice none 0 0]) ∧ Below w.heap.size w w' := by
  have HX := hide (Is.new w 93 [.nilFunc, .int .i64 0, .slice none 0 0, .int .i64 0, .int .i64 0, .int .i64 0, .int .i64 0, .slice none 0 0])
  have HB := hide ((Below.refl w.heap.size w).alloc (Nat.le_refl _) (.cells #[.nilFunc, .int .i64 0, .slice none 0 0, .int .i64 0, .int .i64 0, .int .i64 0, .int .i64 0, .slice none 0 0] 93))
  go_enter Tryz.func40, Tryz.ntmps40
  go_wp2_with fail
  refine (newTable_val _ _).mono ?_
  rintro e w1 ⟨rfl, hb⟩
  have hX1 := (unhide HX).below hb (by simp)
  have hbel := (unhide HB).trans (hb.mono (by simp))
  have n0 := hX1.cell 0
  have n1 := hX1.cell 1
  have n2 := hX1.cell 2
  have n3 := hX1.cell 3
  have n4 := hX1.cell 4
  have n5 := hX1.cell 5
  have n6 := hX1.cell 6
  have n7 := hX1.cell 7
  have g0 := hX1.free 0
  have g1 := hX1.free 1
  have g2 := hX1.free 2
  have g3 := hX1.free 3
  have g4 := hX1.free 4
  have g5 := hX1.free 5
  have g6 := hX1.free 6
  have g7 := hX1.free 7
  have hl := hX1.lt
  simp only [List.getElem?_cons_zero, List.getElem?_cons_succ] at n0 n1 n2 n3 n4 n5 n6 n7
  clear hb hX1
  go_wp2_with fail
  exact bodyPost_ret (v := .agg #[weighV, .int .i64 100, .slice none 0 0, .int .i64 win, .int .i64 f, .int .i64 0, .int .i64 (2 * win), .slice none 0 0]) (by simp [results, Tryz.results40, go_sem, n0, n1, n2, n3, n4, n5, n6, n7]) rfl ⟨rfl, (((((((hbel.setCell (by simp) _).setCell (by simp) _).setCell (by simp) _).setCell (by simp) _).setCell (by simp) _).setCell (by simp) _).setCell (by simp) _).setCell (by simp) _⟩
set_option maxHeartbeats 1000000 in
set_option maxRecDepth 100000 in
theorem newInbound_any (f win : Int) (hw0 : 0 ≤ win) (hw : win ≤ 200) (w : World) :
    Calls Tryz.prog 41 #[.int .i64 f, .int .i64 win] w fun e w' => ∃ m, e = .returned (.agg #[weighV, .int .i64 100, .slice none 0 0, .int .i64 win, .int .i64 f, .int .i64 (2 * win), .map (some m)]) ∧ w.heap.size ≤ m ∧ MapIs Tryz.prog 3 w' m 0 (fun _ => none) ∧ Below w.heap.size w w' := by
  have HX := hide (Is.new w 96 [.nilFunc, .int .i64 0, .slice none 0 0, .int .i64 0, .int .i64 0, .int .i64 0, .map none])
  have HB := hide ((Below.refl w.heap.size w).alloc (Nat.le_refl _) (.cells #[.nilFunc, .int .i64 0, .slice none 0 0, .int .i64 0, .int .i64 0, .int .i64 0, .map none] 96))
  have hmm := @run_makeMap Tryz.prog
  go_enter Tryz.func41, Tryz.ntmps41
  go_wp2_with fail
  refine (newTable_val _ _).mono ?_
  rintro e w1 ⟨rfl, hb⟩
  have hM := MapIs.made Tryz.prog 3 w1
  have hX1 := ((unhide HX).below hb (by simp)).alloc (.map #[] 0)
  have hs1 : w.heap.size + 1 ≤ w1.heap.size := by have := hb.size; simpa using this
  have hbel := ((unhide HB).trans (hb.mono (by simp))).alloc (by omega) (.map #[] 0)
  have n0 := hX1.cell 0
  have n1 := hX1.cell 1
  have n2 := hX1.cell 2
  have n3 := hX1.cell 3
  have n4 := hX1.cell 4
  have n5 := hX1.cell 5
  have n6 := hX1.cell 6
  have g0 := hX1.free 0
  have g1 := hX1.free 1
  have g2 := hX1.free 2
  have g3 := hX1.free 3
  have g4 := hX1.free 4
  have g5 := hX1.free 5
  have g6 := hX1.free 6
  have hl := hX1.lt
  simp only [List.getElem?_cons_zero, List.getElem?_cons_succ] at n0 n1 n2 n3 n4 n5 n6
  have HM := hide (⟨hM, hbel⟩ : _ ∧ _)
  clear hb hX1 hM hbel
  go_wp2_with fail
  obtain ⟨hM, hbel⟩ := unhide HM
  refine bodyPost_ret (v := .agg #[weighV, .int .i64 100, .slice none 0 0, .int .i64 win, .int .i64 f, .int .i64 (2 * win), .map (some w1.heap.size)]) (by simp [results, Tryz.results41, go_sem, n0, n1, n2, n3, n4, n5, n6]) rfl ⟨w1.heap.size, rfl, by omega, ?_, ((((((hbel.setCell (by simp) _).setCell (by simp) _).setCell (by simp) _).setCell (by simp) _).setCell (by simp) _).setCell (by simp) _).setCell (by simp) _⟩
  have hO : ∀ W, Only (· = w.heap.size) (w1.alloc (.map #[] 0)) W → MapIs Tryz.prog 3 W w1.heap.size 0 (fun _ => none) := fun W k => hM.only k (by omega)
  exact hO _ ((((((((Only.refl (· = w.heap.size) _).set w.heap.size 0 _ (fun _ => rfl)).set w.heap.size 1 _ (fun _ => rfl)).set w.heap.size 2 _ (fun _ => rfl)).set w.heap.size 3 _ (fun _ => rfl)).set w.heap.size 4 _ (fun _ => rfl)).set w.heap.size 5 _ (fun _ => rfl)).set w.heap.size 6 _ (fun _ => rfl))

def newD (m : Nat) : PD := ⟨nilS, nilS, nilS, [], [], m, 0, fun _ => .none, []⟩
theorem newD_foot {b m i : Nat} (h : foot b (newD m) i) : i = b ∨ i = m := by
  rcases h with hi | hi | hi | hi | hi | hi | hi | ⟨k, hi⟩
  · exact .inl hi
  · cases hi
  · cases hi
  · cases hi
  · cases hi
  · cases hi
  · exact .inr hi
  · cases hi
theorem new_live {w : World} {b m s win : Nat} (hs : s ≤ 1) (h1 : 1 ≤ win) (h2 : win ≤ 200) (hb : 0 < b) (hm : 0 < m) (hI : Is w b 101 (ecOf (Lk.En.new s win) (newD m)).cells) (hM : MapIs Tryz.prog 3 w m 0 (fun _ => none)) : Live w b (Lk.En.new s win) (newD m) :=
  ⟨⟨hI, Chain.nil w⟩, rfl, by simp [newD], World.ownsRow_nil _ _ _ _, World.ownsRow_nil _ _ _ _, World.ownsRow_nil _ _ _ _, ⟨by simp [upOwn, Lk.En.new, newD], fun i o p ho _ => by simp [upOwn, Lk.En.new] at ho⟩, by simp [newD], by simp [newD], hM, by simp [newD], by simp [Lk.En.new], fun _ _ => rfl, by simp [newD], Lk.Wf.new hs h1 h2, fun i hi => by rcases newD_foot hi with rfl | rfl <;> assumption⟩
set_option maxHeartbeats 1000000 in
set_option maxRecDepth 100000 in
theorem new_ok (s win : Nat) (hs : s ≤ 1) (h1 : 1 ≤ win) (h2 : win ≤ 200) (w : World) (hw : 0 < w.heap.size) :
    Calls Tryz.prog 17 #[.int .i64 (s : Int), .int .i64 (win : Int)] w fun e w' => ∃ b d, e = .returned (.tuple #[.pointer (some ⟨b, 0, none⟩), .int .i64 0]) ∧ PEnd w' b (Lk.En.new s win) d ∧ (∀ i, foot b d i → w.heap.size ≤ i) ∧ Below w.heap.size w w' := by
  have hs01 : s = 0 ∨ s = 1 := by omega
  have hw1 : ¬ (win : Int) < 1 := by omega
  have hw2 : ¬ 200 < (win : Int) := by omega
  have HO := hide (newOutbound_any (1 + (s : Int)) win (by omega) (by omega) w)
  have HN := hide (fun w1 => newInbound_any (2 - (s : Int)) win (by omega) (by omega) w1)
  have HS := hide (⟨hs, h1, h2, hw⟩ : _ ∧ _ ∧ _ ∧ _)
  clear h1 h2 hw hs
  rcases hs01 with rfl | rfl
  all_goals
    go_enter Tryz.func17, Tryz.ntmps17
    go_wp2_with fail
    refine (unhide HO).mono ?_
    rintro r w1 ⟨rfl, hb1⟩
    go_wp2_with fail
    refine (unhide HN w1).mono ?_
    rintro r w2 ⟨m, rfl, hm, hM, hb2⟩
    have HX := hide (⟨hb1, hm, hM, hb2⟩ : _ ∧ _ ∧ _ ∧ _)
    clear hb1 hm hM hb2
    go_wp2_with fail
    go_ret2
    obtain ⟨hb1, hm, hM, hb2⟩ := unhide HX
    obtain ⟨hs, h1, h2, hw⟩ := unhide HS
    have s1 := hb1.size
    have s2 := hb2.size
    refine ⟨w2.heap.size, newD m, rfl, .inl ⟨new_live hs h1 h2 (by omega) (by omega) (Is.new w2 101 _) (hM.only ((Only.refl (fun _ => False) w2).alloc _) (fun h => h)), rfl⟩, fun i hi => ?_, (hb1.trans (hb2.mono hb1.size)).alloc (by omega) _⟩
    rcases newD_foot hi with rfl | rfl <;> omega
end Go.Proofs.YtbkpdapagfjmmaaGreatDoor

/-
  Walks: the document's look at headers.
-/
namespace Go.Proofs.YtbkpdapagfjmmaaGreatDoor
open Go.RowKit

theorem refName_any (c : UInt8) (w : World) : Calls Tryz.prog 175 #[.int .u8 c.toNat] w fun e w' => e = .returned (.bool (Lk.nameByte c)) ∧ w' = w := by
  rw [nameByte_int]
  go_enter Tryz.func175, Tryz.ntmps175
  go_wp2
  all_goals go_ret
  all_goals refine ⟨ret_bool ?_, rfl⟩
  all_goals first | rfl | (rw [Bool.eq_iff_iff]; simp <;> omega)
theorem refValue_any (c : UInt8) (w : World) : Calls Tryz.prog 176 #[.int .u8 c.toNat] w fun e w' => e = .returned (.bool (Lk.valueByte c)) ∧ w' = w := by
  rw [valueByte_int]
  go_enter Tryz.func176, Tryz.ntmps176
  go_wp2
  all_goals go_ret
  all_goals refine ⟨ret_bool ?_, rfl⟩
  all_goals first | rfl | (rw [Bool.eq_iff_iff]; simp <;> omega)

theorem good_of (n v : ByteArray) : Lk.good ⟨n.data.toList, v.data.toList⟩ = ((decide (1 ≤ n.size ∧ n.size ≤ 16) && n.data.toList.all Lk.nameByte) && (decide (v.size ≤ 32) && v.data.toList.all Lk.valueByte)) := by
  rw [size_list n, size_list v]
  rfl

set_option maxHeartbeats 1000000 in
set_option maxRecDepth 100000 in
theorem refGood_bad (n v : ByteArray) (w : World) (hb : ¬ (1 ≤ n.size ∧ n.size ≤ 16) ∨ ¬ v.size ≤ 32) :
    Calls Tryz.prog 149 #[.agg #[.string n, .string v]] w fun e w' => e = .returned (.bool false) ∧ Below w.heap.size w w' := by
  by_cases h1 : (n.size : Int) < 1
  · go_enter Tryz.func149, Tryz.ntmps149
    go_wp2_with fail
    go_ret
    exact ⟨rfl, by ((repeat' (first | exact Below.refl _ _ | assumption | apply Below.drew | apply Below.alloc | apply Below.setCell)) <;> (simp <;> omega))⟩
  · by_cases h2 : 16 < (n.size : Int)
    · go_enter Tryz.func149, Tryz.ntmps149
      go_wp2_with fail
      go_ret
      exact ⟨rfl, by ((repeat' (first | exact Below.refl _ _ | assumption | apply Below.drew | apply Below.alloc | apply Below.setCell)) <;> (simp <;> omega))⟩
    · have h3 : 32 < (v.size : Int) := by omega
      have h1' : 1 ≤ (n.size : Int) := by omega
      go_enter Tryz.func149, Tryz.ntmps149
      go_wp2_with fail
      go_ret
      exact ⟨rfl, by ((repeat' (first | exact Below.refl _ _ | assumption | apply Below.drew | apply Below.alloc | apply Below.setCell)) <;> (simp <;> omega))⟩

set_option maxHeartbeats 2000000 in
set_option maxRecDepth 100000 in
theorem refGood_ok (n v : ByteArray) (w : World) (hn1 : 1 ≤ n.size) (hn2 : n.size ≤ 16) (hv : v.size ≤ 32) (A : Bool) (HA : Hid ((n.data.toList.all Lk.nameByte && v.data.toList.all Lk.valueByte) = A)) :
    Calls Tryz.prog 149 #[.agg #[.string n, .string v]] w fun e w' => e = .returned (.bool A) ∧ Below w.heap.size w w' := by
  have i1 : ¬ (n.size : Int) < 1 := by omega
  have i2 : ¬ 16 < (n.size : Int) := by omega
  have i3 : ¬ 32 < (v.size : Int) := by omega
  have hbel := (Below.refl w.heap.size w).alloc (Nat.le_refl _) (.cells #[.string n, .string v] 206)
  go_enter Tryz.func149, Tryz.ntmps149
  go_wp2_with fail
  go_loopw [3] (fun u wr => ∃ k : Nat, u = .int .i64 k ∧ k ≤ n.size ∧ Hid (∀ j (hj : j < n.size), j < k → Lk.nameByte n[j] = true) ∧ wr = w.alloc (.cells #[.string n, .string v] 206)) (fun u _ => n.size - (intOf u).toNat)
  case atStart => exact ⟨0, rfl, by omega, fun j hj h => by omega, rfl⟩
  case round =>
    obtain ⟨k, rfl, hk, HK, rfl⟩ := hrel
    by_cases hlt : k < n.size
    · have hlt' : (k : Int) < n.size := by omega
      generalize hq : Lk.nameByte n[k] = Q
      have HQ := hide hq
      have HC := hide (show ∀ w, Calls Tryz.prog 175 #[.int .u8 n[k].toNat] w fun e w' => e = .returned (.bool Q) ∧ w' = w from fun w => by rw [← hq]; exact refName_any n[k] w)
      clear hq
      go_wp2_with fail
      refine (unhide HC _).mono ?_
      rintro e w' ⟨rfl, rfl⟩
      cases Q
      · go_wp2_with fail
        go_ret
        refine ⟨ret_bool ?_, hbel⟩
        rw [← unhide HA, not_all n Lk.nameByte k hlt (unhide HQ)]
        rfl
      · go_wp2_with fail
        go_roundw
        case rel => exact ⟨k + 1, by simp, by omega, fun j hj h => (Nat.lt_succ_iff_lt_or_eq.1 h).elim (fun h => unhide HK j hj h) (fun h => by subst h; exact unhide HQ), trivial⟩
        case measure => simp [intOf]; omega
    · have hlt' : ¬ (k : Int) < n.size := by omega
      have hall := all_of n Lk.nameByte (fun j hj => (unhide HK) j hj (by omega))
      have HALL := hide hall
      clear hall
      go_wp2_with fail
      go_loopw [4] (fun u wr => ∃ k : Nat, u = .int .i64 k ∧ k ≤ v.size ∧ Hid (∀ j (hj : j < v.size), j < k → Lk.valueByte v[j] = true) ∧ wr = w.alloc (.cells #[.string n, .string v] 206)) (fun u _ => v.size - (intOf u).toNat)
      case atStart => exact ⟨0, rfl, by omega, fun j hj h => by omega, rfl⟩
      case round =>
        obtain ⟨i, rfl, hi, HI, rfl⟩ := hrel
        by_cases hlt : i < v.size
        · have hlt' : (i : Int) < v.size := by omega
          generalize hq : Lk.valueByte v[i] = Q
          have HQ := hide hq
          have HC := hide (show ∀ w, Calls Tryz.prog 176 #[.int .u8 v[i].toNat] w fun e w' => e = .returned (.bool Q) ∧ w' = w from fun w => by rw [← hq]; exact refValue_any v[i] w)
          clear hq
          go_wp2_with fail
          refine (unhide HC _).mono ?_
          rintro e w' ⟨rfl, rfl⟩
          cases Q
          · go_wp2_with fail
            go_ret
            refine ⟨ret_bool ?_, hbel⟩
            rw [← unhide HA, not_all v Lk.valueByte i hlt (unhide HQ), Bool.and_false]
          · go_wp2_with fail
            go_roundw
            case rel => exact ⟨i + 1, by simp, by omega, fun j hj h => (Nat.lt_succ_iff_lt_or_eq.1 h).elim (fun h => unhide HI j hj h) (fun h => by subst h; exact unhide HQ), trivial⟩
            case measure => simp [intOf]; omega
        · have hlt' : ¬ (i : Int) < v.size := by omega
          go_wp2_with fail
          go_ret
          refine ⟨ret_bool ?_, hbel⟩
          rw [← unhide HA, unhide HALL, all_of v Lk.valueByte (fun j hj => (unhide HI) j hj (by omega))]
          rfl

theorem refGood_any (h : Lk.Hd) (Q : Bool) (hq : Hid (Lk.good h = Q)) (w : World) :
    Calls Tryz.prog 149 #[hdA h] w fun e w' => e = .returned (.bool Q) ∧ Below w.heap.size w w' := by
  have e := good_of (bs h.n) (bs h.v)
  rw [bs_list, bs_list, bs_size, bs_size] at e
  have e2 : Lk.good h = Lk.good ⟨h.n, h.v⟩ := rfl
  rw [← e2, unhide hq] at e
  by_cases hb : ¬ (1 ≤ (bs h.n).size ∧ (bs h.n).size ≤ 16) ∨ ¬ (bs h.v).size ≤ 32
  · have : Q = false := by
      rw [bs_size, bs_size] at hb
      rw [e]
      rcases hb with hb | hb
      · rw [decide_eq_false hb]; rfl
      · rw [decide_eq_false hb]; simp
    rw [this]
    exact refGood_bad (bs h.n) (bs h.v) w hb
  · simp only [not_or, Classical.not_not] at hb
    refine refGood_ok (bs h.n) (bs h.v) w hb.1.1 hb.1.2 hb.2 Q (hide ?_)
    rw [bs_size, bs_size] at hb
    rw [e, decide_eq_true hb.1, decide_eq_true hb.2, bs_list, bs_list]
    simp

set_option maxHeartbeats 2000000 in
set_option maxRecDepth 100000 in
theorem refWrong_some (B g cap : Nat) (l : List Lk.Hd) (w : World) (hl : l.length ≤ 6) (E P : Int) (HW : Hid ((Lk.wrongAt 0 l).1 = E ∧ (Lk.wrongAt 0 l).2 = P))
    (own : Hid (w.ownsRow B 206 2 (.slice (some ⟨g, 0, none⟩) l.length cap) l.length (hdsV l))) :
    Calls Tryz.prog 101 #[.slice (some ⟨g, 0, none⟩) l.length cap] w fun e w' =>
      e = .returned (.tuple #[.int .i64 E, .int .i64 P]) ∧ Below w.heap.size w w' := by
  have hl6 : ¬ 6 < (l.length : Int) := by omega
  go_enter Tryz.func101, Tryz.ntmps101
  go_wp2_with fail
  go_loopw [4] (fun u wr => ∃ k : Nat, u = .int .i64 k ∧ k ≤ l.length ∧ Hid (Lk.wrongAt 0 l = Lk.wrongAt k (l.drop k)) ∧ Below w.heap.size w wr) (fun u _ => l.length - (intOf u).toNat)
  case atStart => exact ⟨0, rfl, by omega, rfl, Below.refl _ _⟩
  case round =>
    obtain ⟨k, rfl, hk, HK, hbel⟩ := hrel
    by_cases hlt : k < l.length
    · have hlt' : (k : Int) < l.length := by omega
      obtain ⟨x, hx⟩ : ∃ x, l[k]? = some x := ⟨_, List.getElem?_eq_getElem hlt⟩
      obtain ⟨hg2, x0, x1⟩ := row_at2 (own_belowB (unhide own) hbel (by omega)) hx
      have hdr : l.drop k = x :: l.drop (k + 1) := by
        rw [List.getElem?_eq_getElem hlt] at hx
        cases hx
        exact List.drop_eq_getElem_cons hlt
      have HD := hide hdr
      have hwr := hbel.size
      generalize hq : Lk.good x = Q
      have HQ := hide hq
      clear hx hdr hq
      go_wp2_with fail
      refine (refGood_any x Q HQ _).mono ?_
      rintro e w1 ⟨rfl, hb1⟩
      have hbel1 := hbel.trans (hb1.mono hwr)
      clear x0 x1 hb1 hbel
      cases Q
      · go_wp2_with fail
        go_ret2
        have e := unhide HK
        rw [unhide HD, Lk.wrongAt, unhide HQ] at e
        have e2 := unhide HW
        rw [e] at e2
        obtain ⟨rfl, rfl⟩ := e2
        exact ⟨rfl, hbel1⟩
      · go_wp2_with fail
        go_roundw
        case rel =>
          refine ⟨k + 1, by simp, by omega, ?_, hbel1⟩
          have e := unhide HK
          rw [unhide HD, Lk.wrongAt, unhide HQ] at e
          exact e
        case measure => simp [intOf]; omega
    · have hlt' : ¬ (k : Int) < l.length := by omega
      go_wp2_with fail
      go_ret2
      have e := unhide HK
      rw [List.drop_eq_nil_of_le (by omega), Lk.wrongAt] at e
      have e2 := unhide HW
      rw [e] at e2
      obtain ⟨rfl, rfl⟩ := e2
      exact ⟨rfl, hbel⟩

set_option maxRecDepth 100000 in
theorem refWrong_many (l cap : Nat) (ad : Option Addr) (w : World) (hl : 6 < (l : Int)) :
    Calls Tryz.prog 101 #[.slice ad l cap] w fun e w' => e = .returned (.tuple #[.int .i64 8, .int .i64 0]) ∧ Below w.heap.size w w' := by
  go_enter Tryz.func101, Tryz.ntmps101
  go_wp2_with fail
  go_ret2
  exact ⟨rfl, Below.refl _ _⟩

set_option maxHeartbeats 1000000 in
set_option maxRecDepth 100000 in
theorem refWrong_none (w : World) :
    Calls Tryz.prog 101 #[.slice none 0 0] w fun e w' => e = .returned (.tuple #[.int .i64 0, .int .i64 0]) ∧ Below w.heap.size w w' := by
  go_enter Tryz.func101, Tryz.ntmps101
  go_wp2_with fail
  refine wp_loop_rounds 1 ?_
  rw [rounds_succ]
  go_wp2_with fail
  go_ret2
  exact ⟨rfl, Below.refl _ _⟩

theorem refWrong_any (B : Nat) (v : Value) (l : List Lk.Hd) (w : World) (own : w.ownsRow B 206 2 v l.length (hdsV l)) :
    Calls Tryz.prog 101 #[v] w fun e w' => e = .returned (.tuple #[.int .i64 (Lk.wrong l).1, .int .i64 (Lk.wrong l).2]) ∧ Below w.heap.size w w' := by
  rcases owned_hds own with ⟨rfl, rfl⟩ | ⟨g, cap, rfl, _⟩
  · exact refWrong_none w
  · unfold Lk.wrong
    split
    · exact refWrong_many l.length cap _ w (by omega)
    · exact refWrong_some B g cap l w (by omega) _ _ (hide ⟨rfl, rfl⟩) (hide own)
end Go.Proofs.YtbkpdapagfjmmaaGreatDoor
