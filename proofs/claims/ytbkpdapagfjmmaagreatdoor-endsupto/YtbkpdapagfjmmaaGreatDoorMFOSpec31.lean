import Derived.Test.YtbkpdapagfjmmaaGreatDoorMFKFN
import Derived.Shelf.Abstract
import Derived.Test.YtbkpdapagfjmmaaGreatDoorMSpec21K5
import Derived.Test.YtbkpdapagfjmmaaGreatDoorMSpec30
set_option linter.unusedVariables false
set_option maxRecDepth 100000
set_option maxHeartbeats 16000000
namespace Go.Proofs.YtbkpdapagfjmmaaGreatDoor
open Go.RowKit
theorem workN_enters (k : Nat) (args : Array Value) (w : World) : (callFunc (workN k) args).run Tryz.prog w = .ok (.enter (workN k) args) w := by
  unfold workN
  repeat' split
  · exact Tryz.call90 args w
  · exact Tryz.call91 args w
  · exact Tryz.call92 args w
  · exact Tryz.call93 args w
  · exact Tryz.call94 args w
  · exact Tryz.call95 args w
  · exact Tryz.call96 args w
  · exact Tryz.call97 args w
theorem feedEnd_dn (b n : Nat) (t : Value) (w : World) (hb : b < w.heap.size) (c2 : w.cell? ⟨b, 2, none⟩ = some (.int .i64 (n : Int))) (hn : n ≠ 0) :
    Calls Tryz.prog 22 #[.pointer (some ⟨b, 0, none⟩), t] w fun r w' => r = .returned (.tuple #[.slice none 0 0, .int .i64 (n : Int)]) ∧ ∃ k, w' = w.drewN k := by
  have HD := hide (down_any b n w hb c2)
  have hdb : ((n : Int) != 0) = true := by simp; omega
  rw [hdb] at HD
  clear hn hdb
  go_enter Tryz.func22, Tryz.ntmps22
  go_wp2_with fail
  refine (uh HD).mono ?_
  rintro r w1 ⟨rfl, rfl⟩
  go_wp2_with (go_quiet (fail))
  go_ret2
  exact ⟨rfl, _, rfl⟩
theorem feedEnd_up (b : Nat) (e : Lk.En) (d : PD) (t : ByteArray) (w : World) (hL : Live w b e d) (hdn : e.down = 0) (hfx : Fx w) (ht : t.size ≤ 2 ^ 39) :
    Calls Tryz.prog 22 #[.pointer (some ⟨b, 0, none⟩), .string t] w fun r w' => ∃ v, r = .returned (.tuple #[v, .int .i64 ((e.feed t.data.toList).2.down : Int)]) ∧ FPost w b d (e.feed t.data.toList).2 (e.feed t.data.toList).1 v w' := by
  have hbl := hL.rw.lt
  have hpb := hL.pos b (.inl rfl)
  have c2 : w.cell? ⟨b, 2, none⟩ = some (.int .i64 0) := hL.c2 hdn
  have hO0 : Only (fun _ => False) w (w.alloc (.cells #[.slice none 0 0] 62)) := (Only.refl _ w).alloc _
  have hL0 := hL.only hO0 (fun _ _ h => h)
  have hI0 : Is (w.alloc (.cells #[.slice none 0 0] 62)) b 101 (.string (bs e.rest) :: .int .i64 0 :: .int .i64 0 :: ((ecOf e d).cells.drop 3)) := by
    have := hL0.rw.blk
    have h2 : (ecOf e d).cells = .string (bs e.rest) :: .int .i64 0 :: .int .i64 (e.down : Int) :: ((ecOf e d).cells.drop 3) := rfl
    rw [h2, hdn] at this
    exact this
  have hT0 : Told (w.alloc (.cells #[.slice none 0 0] 62)) w.heap.size w.heap.size (.slice none 0 0) [] := ⟨Is.new w 62 [.slice none 0 0], World.ownsRow_nil _ _ _ _, by simp, by simp⟩
  have hr72 : e.rest.length ≤ 72 := by
    have := Lk.all_rest72 e.rest (by rw [hL.wf.rest])
    rw [hL.wf.rest] at this
    exact this
  have HRF := hide (feed_ok b (bs e.rest) t _ (by rw [size_list, bs_list]; omega) hI0)
  rw [bs_list] at HRF
  have hgood := (Lk.all_packs (e.rest ++ t.data.toList)).1
  have hlenA := Lk.all_len (e.rest ++ t.data.toList)
  have harest := Lk.all_rest (e.rest ++ t.data.toList)
  have htl : t.data.toList.length ≤ 2 ^ 39 := by rw [← size_list]; exact ht
  rw [List.length_append] at hlenA
  generalize hA : Lk.all (e.rest ++ t.data.toList) = A at *
  obtain ⟨fs, flt, rest⟩ := A
  simp only at HRF hgood hlenA harest
  generalize hR : ((e.at rest).dn flt).run fs = R
  have hF := e.feed_run t.data.toList hdn _ hA R (by simpa using hR)
  simp only at hF
  rw [hF]
  simp only
  have hfsl : fs.length ≤ 2 ^ 38 := by omega
  generalize hEE : (R.2.2.dn (if R.2.1 = 0 then flt else R.2.1)).falls = EE
  have HEE := hide hEE
  clear hEE
  have HST : Hid (∀ (W : World) (fv : Value), W.ownsRow (w.alloc (.cells #[.slice none 0 0] 62)).heap.size 79 3 fv fs.length (framesV fs) → Is W b 101 (.string ⟨rest.toArray⟩ :: .int .i64 0 :: .int .i64 (flt : Int) :: ((ecOf e d).cells.drop 3)) → Turns b (w.alloc (.cells #[.slice none 0 0] 62)) W → Fd w W b w.heap.size d fv fs R 0 ((e.at rest).dn flt) d (.slice none 0 0) []) := by
    intro W fv ho hI hT
    have hO : Only (· = b) (w.alloc (.cells #[.slice none 0 0] 62)) W := Only.of_turns hT
    have hsz0 : (w.alloc (.cells #[.slice none 0 0] 62)).heap.size = w.heap.size + 1 := by simp
    have hne : ∀ i, foot b d i → i < w.heap.size := hL.lt
    refine ⟨⟨hL0.again harest hI hO, hT0.only hO (fun i hi => ?_), fun i hi hf => ?_, ?_, ?_, by omega, Nat.le_refl _⟩, by simp, own_base (by rw [hsz0]; omega) ho, fun x hx => ?_, fun i hi => .inl hi, ?_, ?_⟩
    · rcases hi with rfl | hi | ⟨p, hp, _⟩
      · omega
      · cases hi
      · cases hp
    · rcases hi with rfl | hi | ⟨p, hp, _⟩
      · have := hne _ hf; omega
      · cases hi
      · cases hp
    · exact (hfx.only hO0 (fun h => h)).only hO (fun h => by omega)
    · have := hO.size; omega
    · have := (ho.lt x hx).1
      rw [hsz0] at this
      refine ⟨fun hf => by have := hne x hf; omega, fun hf => ?_⟩
      rcases hf with rfl | hi | ⟨p, hp, _⟩
      · omega
      · cases hi
      · cases hp
    · exact (hO0.mono (fun _ h => h.elim)).trans hO (fun i hi _ => .inl (.inl hi))
    · simpa using hR
  have HGOOD := hide hgood
  have HLEN := hide hfsl
  have hRd : R.2.2.down = flt := by
    rw [← hR, Lk.En.run_down]
    rfl
  have HRD := hide hRd
  clear hL hdn hfx hO0 hL0 hI0 hT0 hr72 hA hR hgood hlenA harest htl hfsl hF hRd ht
  go_enter Tryz.func22, Tryz.ntmps22
  go_wp2_with fail
  refine (down_any b 0 w hbl c2).mono ?_
  rintro r w0 ⟨rfl, rfl⟩
  clear c2
  go_wp2_with fail
  refine (uh HRF).mono ?_
  rintro r w1 ⟨fv, rfl, ho, hI, hT⟩
  have HFD := hide (uh HST w1 fv ho hI hT)
  obtain ⟨fa, fn, fc, rfl, rfl⟩ := own_slice ho
  clear ho hI hT HRF HST
  go_wp2_with fail
  go_loopw [9, 31] (fun s9 u wr => ∃ (i : Nat) (e1 : Lk.En) (d1 : PD) (v1 : Value) (evs1 : List EvH), s9 = .int .i64 (flt : Int) ∧ u = .int .i64 i ∧ i ≤ fs.length ∧ Hid (Fd w0 wr b w0.heap.size d (.slice fa fs.length fc) fs R i e1 d1 v1 evs1)) (fun _ u _ => fs.length - (intOf u).toNat)
  case atStart => exact ⟨0, _, d, _, [], rfl, rfl, Nat.zero_le _, uh HFD⟩
  case round =>
    clear HFD
    obtain ⟨i, e1, d1, v1, evs1, rfl, rfl, hil, HF⟩ := hrel
    have hi63 : (i : Int) + 1 ≤ 9223372036854775807 := by have := uh HLEN; omega
    by_cases hlt : i < fs.length
    · have hlt' : (i : Int) < fs.length := by omega
      have hfs := uh HF
      rcases owned_frames hfs.frs with ⟨h0, _⟩ | ⟨fg, fcap, hv, hfB, hfl, hcap, hcell⟩
      · rw [h0] at hlt; simp at hlt
      obtain ⟨rfl, _, rfl⟩ : fa = some ⟨fg, 0, none⟩ ∧ True ∧ fc = fcap := by
        injection hv with h1 h2 h3
        exact ⟨h1, trivial, h3⟩
      obtain ⟨c0, c1, c2⟩ := hcell i hlt
      have c2 : wr.cell? ⟨fg, i * 3 + 2, none⟩ = some (.string (bs fs[i].d)) := c2
      have hgd := uh HGOOD fs[i] (List.getElem_mem hlt)
      have hev : evs1.length + 1 ≤ 2 ^ 40 := by have := hfs.len; have := uh HLEN; omega
      have hstep := fun W hG => hfs.step (W' := W) hlt hG
      have HSTEP := hide hstep
      generalize fs[i] = f at *
      have hF0 := hfs.below ((Below.refl _ wr).alloc (Nat.le_refl _) (.cells #[.int .i64 (f.k : Int), .int .i64 (f.st : Int), .string (bs f.d)] 79))
      have HWK := hide (work_any b w0.heap.size w0.heap.size e1 d1 v1 evs1 f (wr.alloc (.cells #[.int .i64 (f.k : Int), .int .i64 (f.st : Int), .string (bs f.d)] 79)).drew hF0.up.drew hev hgd)
      have HWO := hide (fun W => workOf_any f.k hgd.k7 W)
      have hWN := workN_enters f.k
      generalize workN f.k = WN at HWK HWO hWN
      unfold frA tellV at HWK
      have HX := hide (⟨hfs, hF0⟩ : _ ∧ _)
      clear hfs hv hcell hgd hstep hF0 hev hcap
      go_wp2_with fail
      go_cut [12] (fun s12 wc => s12 = .int .i64 ((e1.frame f).2.1 : Int) ∧ Hid (GPost wr b d1 w0.heap.size w0.heap.size v1 evs1 (e1.frame f).2.2 (e1.frame f).1 wc))
      case first =>
        go_region_with (first
          | (go_at_call 49; refine (uh HWO _).mono ?_; rintro r w2 ⟨rfl, rfl⟩)
          | (go_at_fn WN; refine (uh HWK).mono ?_; rintro r w3 ⟨rfl, hG⟩))
        all_goals
          go_wp2_with fail
          go_meet
          exact ⟨rfl, GPost.before ((Below.refl _ wr).alloc (Nat.le_refl _) _) (GPost.before (Below.drew (Below.refl _ _)) hG)⟩
      case rest =>
        obtain ⟨rfl, HG⟩ := hcut
        obtain ⟨d2, v2, evs2, k1, k2, k3, k4, k5, k6⟩ := uh HSTEP _ (uh HG)
        have hcg : wc.cell? ⟨w0.heap.size, 0, none⟩ = some v2 := k1.told.box.cell 0
        have hgl := k1.told.box.lt
        by_cases herr : (e1.frame f).2.1 = 0
        · have HNX := hide (k5 herr)
          rw [herr]
          clear k1 k2 k3 k4 k5 k6 hcg herr HG HSTEP HWK HWO c0 c1 c2
          go_wp2_with fail
          go_roundw
          case rel => exact ⟨i + 1, _, d2, v2, evs2, rfl, by go_num, by omega, HNX⟩
          case measure => simp [intOf]; omega
        · have hR := k6 herr
          have hflt : (if R.2.1 = 0 then flt else R.2.1) = (e1.frame f).2.1 := by rw [hR, if_neg herr]
          have hPost : ∀ W', PPost wc b d2 ((e1.frame f).2.2.dn (e1.frame f).2.1).falls W' → FPost w0 b d EE R.1 v2 W' := fun W' hP => by
            rw [← uh HEE, hflt, hR]
            exact Fd.fell k1 k2 k3 hP
          have hcgo : ∀ W', PPost wc b d2 ((e1.frame f).2.2.dn (e1.frame f).2.1).falls W' → W'.cell? ⟨w0.heap.size, 0, none⟩ = some v2 ∧ w0.heap.size < W'.heap.size := fun W' hP => by
            obtain ⟨_, _, _, hO⟩ := hP
            have := k1.told.box.only hO (k1.sep _ (.inl rfl))
            exact ⟨this.cell 0, this.lt⟩
          have hdn : (EE.down : Int) = ((e1.frame f).2.1 : Int) := by
            rw [← uh HEE, Lk.En.falls_down, hflt]
            rfl
          have HFALL := hide (fall_any b (e1.frame f).2.1 (e1.frame f).2.2 d2 wc k1.live herr)
          have HPO := hide (⟨hPost, hcgo, hdn⟩ : _ ∧ _ ∧ _)
          obtain ⟨va, vn, vcap, hva, hvn⟩ := own_slice k1.told.row
          subst hva
          clear hvn
          have herr' : (((e1.frame f).2.1 : Int) != 0) = true := by simp; omega
          have hblc : b < wc.heap.size := k1.live.rw.lt
          clear k1 k2 k3 k4 k5 k6 hcg HG HSTEP HWK HWO c0 c1 c2 hR hflt hPost hcgo hdn herr
          generalize (e1.frame f).2.1 = er at *
          go_wp2_with fail
          refine (uh HFALL).mono ?_
          rintro r w4 ⟨rfl, hP⟩
          obtain ⟨p1, p2, p3⟩ := uh HPO
          obtain ⟨q1, q2⟩ := p2 w4 hP
          have HFIN := hide (⟨p1 w4 hP, p3⟩ : _ ∧ _)
          clear p1 p2 p3 hP
          go_wp2_with fail
          go_ret2
          obtain ⟨p1, p3⟩ := uh HFIN
          exact ⟨_, by rw [p3]; rfl, p1⟩
    · have hie : i = fs.length := by omega
      have hlt' : ¬ (i : Int) < fs.length := by omega
      have hF := uh HF
      have hres := hF.res
      rw [hie, List.drop_length] at hres
      have hR : R = (evs1.map Prod.fst, 0, e1) := by rw [← hres]; simp [Lk.En.run]
      have hflt : (if R.2.1 = 0 then flt else R.2.1) = flt := by rw [hR]; simp
      have hed : e1.down = flt := by
        have := uh HRD
        rw [hR] at this
        exact this
      have k1 := hF.up
      have hcg : wr.cell? ⟨w0.heap.size, 0, none⟩ = some v1 := k1.told.box.cell 0
      have hgl := k1.told.box.lt
      obtain ⟨va, vn, vcap, hva, hvn⟩ := own_slice k1.told.row
      subst hva
      clear hvn
      by_cases h0 : flt = 0
      · have hfin : FPost w0 b d EE R.1 (.slice va vn vcap) wr ∧ (EE.down : Int) = 0 := by
          have he : (e1.dn flt).falls = e1 := by
            have : e1.dn flt = e1 := by rw [← hed]; rfl
            rw [this]
            unfold Lk.En.falls
            rw [if_neg (fun h => h.1 (hed.trans h0))]
          rw [← uh HEE, hflt, hR]
          simp only
          rw [he]
          exact ⟨Fd.fine k1 hF.grow hF.only (hed.trans h0), by rw [hed, h0]; rfl⟩
        have HFIN := hide hfin
        have h0' : ((flt : Int) != 0) = false := by rw [h0]; rfl
        clear hfin hF hres hR hflt hed k1 HF HGOOD HLEN HRD
        subst h0
        go_wp2_with fail
        go_ret2
        obtain ⟨p1, p3⟩ := uh HFIN
        exact ⟨_, by rw [p3]; rfl, p1⟩
      · have hPost : ∀ W', PPost wr b d1 (e1.dn flt).falls W' → FPost w0 b d EE R.1 (.slice va vn vcap) W' := fun W' hP => by
          rw [← uh HEE, hflt, hR]
          exact Fd.fell k1 hF.grow hF.only hP
        have hcgo : ∀ W', PPost wr b d1 (e1.dn flt).falls W' → W'.cell? ⟨w0.heap.size, 0, none⟩ = some (.slice va vn vcap) ∧ w0.heap.size < W'.heap.size := fun W' hP => by
          obtain ⟨_, _, _, hO⟩ := hP
          have := k1.told.box.only hO (k1.sep _ (.inl rfl))
          exact ⟨this.cell 0, this.lt⟩
        have hdn : (EE.down : Int) = (flt : Int) := by
          rw [← uh HEE, Lk.En.falls_down, hflt]
          rfl
        have HFALL := hide (fall_any b flt e1 d1 wr k1.live h0)
        have HPO := hide (⟨hPost, hcgo, hdn⟩ : _ ∧ _ ∧ _)
        have h0' : ((flt : Int) != 0) = true := by simp; omega
        have hblc : b < wr.heap.size := k1.live.rw.lt
        clear hF hres hR hflt hed k1 HF HGOOD HLEN HRD hPost hcgo hdn h0 hcg
        go_wp2_with fail
        refine (uh HFALL).mono ?_
        rintro r w4 ⟨rfl, hP⟩
        obtain ⟨p1, p2, p3⟩ := uh HPO
        obtain ⟨q1, q2⟩ := p2 w4 hP
        have HFIN := hide (⟨p1 w4 hP, p3⟩ : _ ∧ _)
        clear p1 p2 p3 hP
        go_wp2_with fail
        go_ret2
        obtain ⟨p1, p3⟩ := uh HFIN
        exact ⟨_, by rw [p3]; rfl, p1⟩
theorem feed_p (b : Nat) (e : Lk.En) (d : PD) (t : ByteArray) (w : World) (hL : PEnd w b e d) (hfx : Fx w) (ht : t.size ≤ 2 ^ 39) :
    Calls Tryz.prog 22 #[.pointer (some ⟨b, 0, none⟩), .string t] w fun r w' => ∃ v, r = .returned (.tuple #[v, .int .i64 ((e.feed t.data.toList).2.down : Int)]) ∧ FPost w b d (e.feed t.data.toList).2 (e.feed t.data.toList).1 v w' := by
  rcases hL with ⟨hL, hdn⟩ | hL
  · exact feedEnd_up b e d t w hL hdn hfx ht
  · rw [e.feed_down t.data.toList hL.dn]
    have c2 : w.cell? ⟨b, 2, none⟩ = some (.int .i64 (e.down : Int)) := hL.rw.blk.cell 2
    refine (feedEnd_dn b e.down _ w hL.rw.lt c2 hL.dn).mono ?_
    rintro r w' ⟨rfl, k, rfl⟩
    have hO : ∀ S : Nat → Prop, Only S w (w.drewN k) := fun S => (Only.refl S w).drewN k
    refine ⟨_, rfl, d, [], rfl, (PEnd.only (.inr hL) (hO (fun _ => False)) (fun _ _ h => h)), Said.nil _ _, fun i hi => ?_, fun i hi => .inl hi, hO _⟩
    rcases hi with hi | ⟨p, hp, _⟩
    · cases hi
    · cases hp
end Go.Proofs.YtbkpdapagfjmmaaGreatDoor

namespace Go.Proofs.YtbkpdapagfjmmaaGreatDoor.Lk
def up2 {α : Type} (f : Nat → α) (k : Nat) (x : α) : Nat → α := fun i => if i = k then x else f i
theorem up2_same {α : Type} (f : Nat → α) (k : Nat) (x : α) : up2 f k x k = x := by simp [up2]
theorem up2_other {α : Type} (f : Nat → α) {k i : Nat} (x : α) (h : i ≠ k) : up2 f k x i = f i := by simp [up2, h]
theorem up2_id {α : Type} (f : Nat → α) (k : Nat) : up2 f k (f k) = f := by
  funext i
  unfold up2
  split
  · rename_i h; rw [h]
  · rfl
def zk (e : Nat → En) (pp : Nat → Bs) (k : Nat) : Nat := (e k).zm + zs (e k).rest + zs (pp k)
structure ES (e : Nat → En) (pp : Nat → Bs) (N : Nat) : Prop where
  wf : ∀ k, k < 2 → Wf (e k)
  sm : zk e pp 0 + zk e pp 1 ≤ N
section
variable {e : Nat → En} {pp : Nat → Bs} {N k : Nat}
theorem ES.le (h : ES e pp N) (hk : k < 2) : (e k).zm + zs (e k).rest + zs (pp k) ≤ N := by
  have := h.sm
  have h2 : k = 0 ∨ k = 1 := by omega
  unfold zk at this
  rcases h2 with rfl | rfl <;> omega
theorem ES.later (h : ES e pp N) {M : Nat} (hm : N ≤ M) : ES e pp M := ⟨h.wf, Nat.le_trans h.sm hm⟩
theorem ES.one (h : ES e pp N) (hk : k < 2) {e' : En} {p' : Bs} {c : Nat} (hw : Wf e') (hc : e'.zm + zs e'.rest + zs p' ≤ (e k).zm + zs (e k).rest + zs (pp k) + c) : ES (up2 e k e') (up2 pp k p') (N + c) := by
  refine ⟨fun j hj => ?_, ?_⟩
  · by_cases hjk : j = k
    · subst hjk; rw [up2_same]; exact hw
    · rw [up2_other _ _ hjk]; exact h.wf j hj
  · have := h.sm
    unfold zk at *
    have h2 : k = 0 ∨ k = 1 := by omega
    rcases h2 with rfl | rfl
    · rw [up2_same, up2_same, up2_other _ _ (by omega), up2_other _ _ (by omega)]
      omega
    · rw [up2_same, up2_same, up2_other _ _ (by omega), up2_other _ _ (by omega)]
      omega
theorem ES.call (h : ES e pp N) (hk : k < 2) {e' : En} {c : Nat} (hw : Wf e') (hr : e'.rest = (e k).rest) (hc : e'.zm ≤ (e k).zm + c) : ES (up2 e k e') pp (N + c) := by
  have := h.one hk (p' := pp k) (c := c) hw (by rw [hr]; omega)
  rw [up2_id] at this
  exact this
theorem ES.drain (h : ES e pp N) (hk : k < 2) (n : Nat) : ES (up2 e k (En.drain n (e k)).2) (up2 pp k (pp k ++ (En.drain n (e k)).1)) N ∧ (En.drain n (e k)).1.length ≤ N := by
  have h1 := drain_zm n (h.wf k hk)
  have h2 := h.le hk
  have h3 := zs_ge (En.drain n (e k)).1
  have hr : (En.drain n (e k)).2.rest = (e k).rest := (drain_side n (e k)).2.2
  refine ⟨h.one hk (c := 0) (Wf.drain n (h.wf k hk)).1 ?_, by omega⟩
  rw [hr, zs_append]
  omega
theorem ES.feed (h : ES e pp N) (hk : k < 2) (b : Bs) : ES (up2 e k ((e k).feed b).2) pp (N + (2 * b.length + 10)) := by
  have h1 := feed_zm (h.wf k hk) b
  have h2 := zs_le b
  have := h.one hk (p' := pp k) (c := 2 * b.length + 10) ((h.wf k hk).feed b) (by omega)
  rw [up2_id] at this
  exact this
theorem ES.move (h : ES e pp N) {j : Nat} (hk : k < 2) (hj : j < 2) (hkj : k ≠ j) (b r : Bs) (hb : pp k = b ++ r) : ES (up2 e j ((e j).feed b).2) (up2 pp k r) (N + 10) := by
  have h1 := feed_zm (h.wf j hj) b
  have h3 := h.sm
  have hz : zs (pp k) = zs b + zs r := by rw [hb, zs_append]
  refine ⟨fun i hi => ?_, ?_⟩
  · by_cases hij : i = j
    · subst hij; rw [up2_same]; exact (h.wf i hj).feed b
    · rw [up2_other _ _ hij]; exact h.wf i hi
  · unfold zk at *
    have h2 : (k = 0 ∧ j = 1) ∨ (k = 1 ∧ j = 0) := by omega
    rcases h2 with ⟨rfl, rfl⟩ | ⟨rfl, rfl⟩
    · rw [up2_same, up2_same, up2_other _ _ (by omega), up2_other _ _ (by omega)]
      omega
    · rw [up2_same, up2_same, up2_other _ _ (by omega), up2_other _ _ (by omega)]
      omega
theorem ES.make (h : ES e pp N) (hk : k < 2) {s w : Nat} (hs : s ≤ 1) (h1 : 1 ≤ w) (h2 : w ≤ 200) : ES (up2 e k (En.new s w)) (up2 pp k []) (N + 12800) :=
  h.one hk (Wf.new hs h1 h2) (by rw [new_zm]; show 12800 + zs [] + zs [] ≤ _; rw [zs_nil]; omega)
theorem ES.start {w : Nat} (h1 : 1 ≤ w) (h2 : w ≤ 200) : ES (fun k => En.new k w) (fun _ => []) 25600 := by
  refine ⟨fun k hk => Wf.new (by omega) h1 h2, ?_⟩
  unfold zk
  rw [new_zm, new_zm]
  have : ∀ k, zs (En.new k w).rest = 0 := fun _ => rfl
  rw [this, this, zs_nil]
  omega
end
end Go.Proofs.YtbkpdapagfjmmaaGreatDoor.Lk
