import Derived.Test.YtbkpdapagfjmmaaDoorMFPSpec18
import Derived.Test.YtbkpdapagfjmmaaDoorFR
import Derived.Test.YtbkpdapagfjmmaaDoorMS1S2
/-
  Plain mathematics of the document: how great an event is. Imports nothing of the program.
-/
namespace Go.Proofs.YtbkpdapagfjmmaaDoor.Lk

structure Ev.Ok (v : Ev) : Prop where
  hs : v.hs.length ≤ 6
  st : v.st ≤ 268435455
  n : v.n ≤ 268435455
  k : v.k ≤ 6
  t : v.t.length ≤ 64
theorem exR_len (B : Nat) (s : Bs) : ∀ (n : Nat) (L : List Hd) (p : Nat) (hs L2 : List Hd), exR B s n L p = .ok hs L2 → hs.length ≤ n
  | 0, L, p, hs, L2, h => by
    rw [exR] at h
    split at h
    · cases h; simp
    · cases h
  | n + 1, L, p, hs, L2, h => by
    rw [exR] at h
    split at h
    · cases h; simp
    · cases hp : partR B L s p with
      | bad q => rw [hp] at h; cases h
      | ok hl q =>
        rw [hp] at h
        simp only at h
        cases hx : exR B s n hl.2 q with
        | err a b => rw [hx] at h; cases h
        | ok hs2 L3 =>
          rw [hx] at h
          cases h
          have := exR_len B s n hl.2 q _ _ hx
          simp
          omega
theorem En.frame_ok (e : En) {f : Fr} (hg : Good f.k f.st f.d) : ∀ v ∈ (e.frame f).1, v.Ok := by
  have h1 := hg.st28
  have h2 := numOf_le f.d
  have h3 := hg.len
  intro v
  unfold En.frame
  split
  · unfold En.headF
    split
    · simp
    · split
      · simp
      · rename_i hs L hx
        have := exR_len _ _ _ _ _ _ _ hx
        split
        · simp
        · intro hv
          simp at hv
          subst hv
          exact ⟨this, h1, by simp, by simp, by simp⟩
  · split
    · unfold En.pieceF
      split
      · simp
      · split
        · simp
        · split
          · simp
          · split
            · intro hv
              rcases List.mem_append.1 hv with hv | hv
              · split at hv
                · simp at hv
                  subst hv
                  exact ⟨by simp, h1, by simp, by simp, h3⟩
                · cases hv
              · split at hv
                · simp at hv
                  subst hv
                  exact ⟨by simp, h1, by simp, by simp, by simp⟩
                · cases hv
            · simp
    · split
      · unfold En.resetF
        split
        · split
          · simp
          · intro hv
            simp at hv
            subst hv
            exact ⟨by simp, h1, h2, by simp, by simp⟩
        · split
          · simp
          · split
            · intro hv
              simp at hv
              subst hv
              exact ⟨by simp, h1, h2, by simp, by simp⟩
            · simp
      · split
        · simp
        · split
          · simp
          · split
            · intro hv
              simp at hv
              subst hv
              exact ⟨by simp, by simp, by simp, by simp, h3⟩
            · intro hv
              simp at hv
              subst hv
              exact ⟨by simp, by simp, h2, by simp, by simp⟩
theorem En.run_ok : ∀ (l : List Fr) (e : En), (∀ f ∈ l, Good f.k f.st f.d) → ∀ v ∈ (e.run l).1, v.Ok
  | [], e, _ => by simp [En.run]
  | f :: l, e, h => by
    have h1 := e.frame_ok (h f (by simp))
    have h2 := En.run_ok l (e.frame f).2.2 (fun g hg => h g (by simp [hg]))
    intro v hv
    rw [En.run] at hv
    split at hv
    · exact h1 v hv
    · rcases List.mem_append.1 hv with hv | hv
      · exact h1 v hv
      · exact h2 v hv
theorem En.feed_ok (e : En) (b : Bs) : ∀ v ∈ (e.feed b).1, v.Ok := by
  by_cases hd : e.down = 0
  · rw [e.feed_run b hd _ rfl _ rfl]
    exact En.run_ok _ _ (all_packs (e.rest ++ b)).1
  · rw [e.feed_down b hd]
    simp
end Go.Proofs.YtbkpdapagfjmmaaDoor.Lk

/-
  Walks: Hostile.
-/
namespace Go.Proofs.YtbkpdapagfjmmaaDoor
open Go.RowKit

/-- What is told, whichever way. -/
theorem owned_at {w : World} {B : Nat} {v : Value} {l : List EvH} (h : w.ownsRow B 54 5 v l.length (evsV l)) {i : Nat} (hi : i < l.length) :
    ∃ g cap, v = .slice (some ⟨g, 0, none⟩) l.length cap ∧ g < w.heap.size ∧ w.cell? ⟨g, i * 5, none⟩ = some (.int .i64 (l[i].1.k : Int)) ∧ w.cell? ⟨g, i * 5 + 1, none⟩ = some (.int .i64 (l[i].1.st : Int)) ∧ w.cell? ⟨g, i * 5 + 2, none⟩ = some (.int .i64 (l[i].1.n : Int)) ∧ w.cell? ⟨g, i * 5 + 3, none⟩ = some l[i].2 ∧ w.cell? ⟨g, i * 5 + 4, none⟩ = some (.string (bs l[i].1.t)) := by
  rcases owned_evs h with ⟨h0, _⟩ | ⟨g, cap, h1, _, h2, h3⟩
  · rw [h0] at hi; simp at hi
  · exact ⟨g, cap, h1, h2, h3 i hi⟩

set_option maxHeartbeats 4000000 in
set_option maxRecDepth 100000 in
theorem hostile_any (side window : Int) (b : ByteArray) (ad : Option Addr) (clen ccap : Nat) (z : Nat → Int) (w : World) (hfx : Fx w) (hI1 : -9223372036854775808 ≤ window) (hI2 : window ≤ 9223372036854775807) (hb : b.size ≤ 2 ^ 30) (hcl : clen ≤ 2 ^ 30)
    (hc : clen ≠ 0 → ∃ cb coff, ad = some ⟨cb, coff, none⟩ ∧ cb < w.heap.size ∧ ∀ i, i < clen → w.cell? ⟨cb, coff + i, none⟩ = some (.int .i64 (z i))) :
    Calls Tryd.prog 4 #[.int .i64 side, .int .i64 window, .string b, .slice ad clen ccap] w fun r w' => r = .returned (.bool true) ∧ Below w.heap.size w w' := by
  obtain ⟨s, hs1, hs⟩ := side_one side
  have HH1 := hide (heard_any side window b ad clen ccap s z w hfx hI1 hI2 hb hcl hc hs hs1)
  have HH2 := hide (fun W hfxW => heard_any side window b none 0 0 s z W hfxW hI1 hI2 hb (by omega) (fun h => absurd rfl h) hs hs1)
  have hok := (Lk.En.new s (1 + bndN window)).feed_ok b.data.toList
  have hlen := (Lk.En.new s (1 + bndN window)).feed_len b.data.toList
  rw [← size_list, show (Lk.En.new s (1 + bndN window)).rest.length = 0 from rfl] at hlen
  have hfin : (((Lk.En.new s (1 + bndN window)).feed b.data.toList).2.down == 0) = true ∨ 4 ≤ (bs (Lk.En.drain 100000 ((Lk.En.new s (1 + bndN window)).feed b.data.toList).2).1).size := by
    by_cases hd : ((Lk.En.new s (1 + bndN window)).feed b.data.toList).2.down = 0
    · exact .inl (by simpa using hd)
    · obtain ⟨r, n, hr⟩ := (Lk.En.new s (1 + bndN window)).feed_bye b.data.toList rfl rfl hd
      have hw : Lk.Wf (Lk.En.new s (1 + bndN window)) := Lk.Wf.new hs1 (by omega) (by have := bndN_le window; omega)
      refine .inr ?_
      rw [size_list, bs_list]
      exact Lk.drain_four (hw.feed _) hr (by omega)
  unfold HrPost at HH1 HH2
  generalize hX : (Lk.En.new s (1 + bndN window)).feed b.data.toList = X at *
  clear hX
  obtain ⟨evl, E1⟩ := X
  simp only at HH1 HH2 hok hfin hlen
  generalize bs (Lk.En.drain 100000 E1).1 = ST at *
  have hdn : ¬ (E1.down : Int) < 0 := by omega
  have hfin' : ((E1.down : Int) == 0) = true ∨ (4 : Int) ≤ ST.size := by
    rcases hfin with h | h
    · exact .inl (by simpa using h)
    · exact .inr (by omega)
  generalize E1.down = DN at *
  have HFIN := hide hfin'
  have HOK := hide hok
  have HFX := hide hfx
  clear hfin hok hfin' hfx hs hs1 hc hI1 hI2
  go_enter Tryd.func4, Tryd.ntmps4
  go_wp2_with fail
  refine (unhide HH1).mono ?_
  rintro r w1 ⟨v1, evs1, rfl, hm1, hr1, hh1, hb1⟩
  obtain ⟨qa, qn, qc, hq, hqn⟩ := own_slice hr1
  subst hq
  have hfx1 := ((unhide HFX).below hb1 (unhide HFX).1).below ((Below.refl _ w1).alloc (Nat.le_refl _) (.cells #[.slice qa qn qc, .int .i64 (DN : Int)] 50)) (Nat.lt_of_lt_of_le (unhide HFX).1 hb1.size)
  have HW1 := hide (⟨hm1, hr1, hh1, hb1, hqn⟩ : _ ∧ _ ∧ _ ∧ _ ∧ _)
  have HFX1 := hide hfx1
  clear hm1 hr1 hh1 hb1 hqn HFX hfx1
  go_wp2_with fail
  refine (unhide HH2 _ (unhide HFX1)).mono ?_
  rintro r w2 ⟨v2, evs2, rfl, hm2, hr2, hh2, hb2⟩
  obtain ⟨ya, yn, yc, hy, hyn⟩ := own_slice hr2
  subst hy
  obtain ⟨hm1, hr1, hh1, hb1, hqn⟩ := unhide HW1
  have hx1 := (Is.new w1 50 [.slice qa qn qc, .int .i64 (DN : Int)]).below hb2 (by simp)
  have hl1 : evs1.length = evl.length := by rw [← hm1, List.length_map]
  have hl2 : evs2.length = evl.length := by rw [← hm2, List.length_map]
  have hqn' : qn = evl.length := by omega
  have hyn' : yn = evl.length := by omega
  subst hqn' hyn'
  have hb12 : Below w1.heap.size w1 w2 := ((Below.refl w1.heap.size w1).alloc (Nat.le_refl _) _).trans (hb2.mono (by simp))
  have hr1' := own_below (own_below hr1 hb12) ((Below.refl _ w2).alloc (Nat.le_refl _) (.cells #[.slice ya evl.length yc, .int .i64 (DN : Int)] 50))
  have hh1' := fun p hp => own_below (own_below (hh1 p hp) hb12) ((Below.refl _ w2).alloc (Nat.le_refl _) (.cells #[.slice ya evl.length yc, .int .i64 (DN : Int)] 50))
  have hr2' := own_below hr2 ((Below.refl _ w2).alloc (Nat.le_refl _) (.cells #[.slice ya evl.length yc, .int .i64 (DN : Int)] 50))
  have hh2' := fun p hp => own_below (hh2 p hp) ((Below.refl _ w2).alloc (Nat.le_refl _) (.cells #[.slice ya evl.length yc, .int .i64 (DN : Int)] 50))
  have hx1' := hx1.alloc (.cells #[.slice ya evl.length yc, .int .i64 (DN : Int)] 50)
  have hy1' := Is.new w2 50 [.slice ya evl.length yc, .int .i64 (DN : Int)]
  have hbW : Below w.heap.size w (w2.alloc (.cells #[.slice ya evl.length yc, .int .i64 (DN : Int)] 50)) := (hb1.trans (hb12.mono hb1.size)).alloc (Nat.le_trans hb1.size hb12.size) _
  have hlt1 : w1.heap.size < w2.heap.size := hx1.lt
  generalize hW : w2.alloc (.cells #[.slice ya evl.length yc, .int .i64 (DN : Int)] 50) = W at *
  have hWs : W.heap.size = w2.heap.size + 1 := by rw [← hW]; simp
  have x0 : W.cell? ⟨w1.heap.size, 0, none⟩ = some (.slice qa evl.length qc) := hx1'.cell 0
  have x1 : W.cell? ⟨w1.heap.size, 1, none⟩ = some (.int .i64 (DN : Int)) := hx1'.cell 1
  have y0 : W.cell? ⟨w2.heap.size, 0, none⟩ = some (.slice ya evl.length yc) := hy1'.cell 0
  have y1 : W.cell? ⟨w2.heap.size, 1, none⟩ = some (.int .i64 (DN : Int)) := hy1'.cell 1
  have HW := hide (⟨hm1, hm2, hl1, hl2, hr1', hh1', hr2', hh2', hbW⟩ : _ ∧ _ ∧ _ ∧ _ ∧ _ ∧ _ ∧ _ ∧ _ ∧ _)
  have HXY := hide (⟨hx1', hy1'⟩ : _ ∧ _)
  have HWS := hide hWs
  clear hm1 hm2 hl1 hl2 hr1 hh1 hr2 hh2 hr1' hh1' hr2' hh2' hbW hb1 hb2 hb12 hqn hyn hx1 hx1' hy1' HW1 HFX1 HH1 HH2
  go_wp2_with fail
  clear hW
  go_loopw [13] (fun u wr => ∃ i : Nat, u = .int .i64 i ∧ i ≤ evl.length ∧ Below W.heap.size W wr) (fun u _ => evl.length - (intOf u).toNat)
  case atStart => exact ⟨0, rfl, Nat.zero_le _, Below.refl _ _⟩
  case round =>
    obtain ⟨i, rfl, hi, hbel⟩ := hrel
    have hlW1 : w1.heap.size < W.heap.size := by rw [unhide HWS]; omega
    have hlW2 : w2.heap.size < W.heap.size := by rw [unhide HWS]; omega
    have x0' : wr.cell? ⟨w1.heap.size, 0, none⟩ = some (.slice qa evl.length qc) := (hbel.cell (p := ⟨w1.heap.size, 0, none⟩) hlW1).trans x0
    have x1' : wr.cell? ⟨w1.heap.size, 1, none⟩ = some (.int .i64 (DN : Int)) := (hbel.cell (p := ⟨w1.heap.size, 1, none⟩) hlW1).trans x1
    have y0' : wr.cell? ⟨w2.heap.size, 0, none⟩ = some (.slice ya evl.length yc) := (hbel.cell (p := ⟨w2.heap.size, 0, none⟩) hlW2).trans y0
    have y1' : wr.cell? ⟨w2.heap.size, 1, none⟩ = some (.int .i64 (DN : Int)) := (hbel.cell (p := ⟨w2.heap.size, 1, none⟩) hlW2).trans y1
    have hszr := hbel.size
    have hw1r : w1.heap.size < wr.heap.size := by omega
    have hw2r : w2.heap.size < wr.heap.size := by omega
    have HBEL := hide hbel
    clear x0 x1 y0 y1 hbel hlW1 hlW2
    by_cases hlt : i < evl.length
    · have hlt' : (i : Int) < evl.length := by omega
      obtain ⟨hm1, hm2, hl1, hl2, hr1, hh1, hr2, hh2, hbW⟩ := unhide HW
      have hi1 : i < evs1.length := by omega
      have hi2 : i < evs2.length := by omega
      have hr1r := own_below hr1 (unhide HBEL)
      have hr2r := own_below hr2 (unhide HBEL)
      have hh1r := own_below (hh1 evs1[i] (List.getElem_mem hi1)) (unhide HBEL)
      have hh2r := own_below (hh2 evs2[i] (List.getElem_mem hi2)) (unhide HBEL)
      have he1 : evs1[i].1 = evl[i] := by simp [← hm1]
      have he2 : evs2[i].1 = evl[i] := by simp [← hm2]
      obtain ⟨g1, cap1, hv1, hg1, a0, a1, a2, a3, a4⟩ := owned_at hr1r hi1
      obtain ⟨g2, cap2, hv2, hg2, b0, b1, b2, b3, b4⟩ := owned_at hr2r hi2
      have hOk := unhide HOK evl[i] (List.getElem_mem hlt)
      rw [he1] at a0 a1 a2 a4 hh1r
      rw [he2] at b0 b1 b2 b4 hh2r
      generalize evl[i] = ev at *
      generalize evs1[i].2 = h1v at *
      generalize evs2[i].2 = h2v at *
      obtain ⟨rfl, rfl⟩ : qa = some ⟨g1, 0, none⟩ ∧ qc = cap1 := by
        injection hv1 with h1 h2 h3
        exact ⟨h1, h3⟩
      obtain ⟨rfl, rfl⟩ : ya = some ⟨g2, 0, none⟩ ∧ yc = cap2 := by
        injection hv2 with h1 h2 h3
        exact ⟨h1, h3⟩
      have HHR := hide (⟨hh1r, hh2r⟩ : _ ∧ _)
      obtain ⟨ek, est, en, ehs, et⟩ := ev
      simp only at a0 a1 a2 a4 b0 b1 b2 b4
      obtain ⟨pa, pn, pcap, hpv, hpn⟩ := own_slice hh1r
      obtain ⟨qa', qn', qcap', hqv', hqn'⟩ := own_slice hh2r
      subst hpv hqv'
      have HAL := hide (fun (W' : World) (hb : Below wr.heap.size wr W') => alike_any w.heap.size _ _ _ ehs W' (by have := hOk.hs; simp only at this; omega) (own_below (unhide HHR).1 hb) (own_below (unhide HHR).2 hb))
      clear hm1 hm2 hl1 hl2 hr1 hh1 hr2 hh2 hbW hr1r hr2r hh1r hh2r he1 he2 hv1 hv2 hOk hi1 hi2 hpn hqn'
      go_wp2_with fail
      refine (unhide HAL _ (((Below.refl wr.heap.size wr).alloc (Nat.le_refl _) _).alloc (by simp) _)).mono ?_
      rintro r w5 ⟨rfl, nd, rfl⟩
      go_wp2_with fail
      go_roundw
      case rel => exact ⟨i + 1, by go_num, by omega, below_dn (((unhide HBEL).alloc (by omega) _).alloc (by simp; omega) _) nd⟩
      case measure => simp [intOf]; omega
    · have hlt' : ¬ (i : Int) < evl.length := by omega
      have hfin : Below w.heap.size w wr := by
        obtain ⟨_, _, _, _, _, _, _, _, hbW⟩ := unhide HW
        exact hbW.trans ((unhide HBEL).mono hbW.size)
      have HF := hide hfin
      clear hfin
      rcases unhide HFIN with h4 | h4
      · go_wp2_with fail
        go_ret
        exact ⟨rfl, unhide HF⟩
      · by_cases h5 : ((DN : Int) == 0) = true
        · go_wp2_with fail
          go_ret
          exact ⟨rfl, unhide HF⟩
        · have h5' : ((DN : Int) == 0) = false := by simpa using h5
          clear h5
          go_wp2_with fail
          go_ret
          exact ⟨rfl, unhide HF⟩
end Go.Proofs.YtbkpdapagfjmmaaDoor
