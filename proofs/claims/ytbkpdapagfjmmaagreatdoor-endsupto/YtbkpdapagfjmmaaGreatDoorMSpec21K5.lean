import Derived.Test.YtbkpdapagfjmmaaGreatDoorMK3Spec20
set_option linter.unusedVariables false
set_option maxRecDepth 100000
set_option maxHeartbeats 16000000
namespace Go.Proofs.YtbkpdapagfjmmaaGreatDoor.Lk
theorem pingC_side (e : En) (t : Bs) : (e.pingC t).2.side = e.side ∧ (e.pingC t).2.oth = e.oth ∧ (e.pingC t).2.rest = e.rest := by
  unfold En.pingC
  split
  · exact ⟨rfl, rfl, rfl⟩
  · split <;> exact ⟨rfl, rfl, rfl⟩
theorem byeC_side (e : En) : e.byeC'.2.side = e.side ∧ e.byeC'.2.oth = e.oth ∧ e.byeC'.2.rest = e.rest := by
  unfold En.byeC'
  split
  · exact ⟨rfl, rfl, rfl⟩
  · split <;> exact ⟨rfl, rfl, rfl⟩
theorem submitC_side (e : En) (l : List Hd) (t : Bs) : (e.submitC l t).2.side = e.side ∧ (e.submitC l t).2.oth = e.oth ∧ (e.submitC l t).2.rest = e.rest := by
  unfold En.submitC
  split
  · exact ⟨rfl, rfl, rfl⟩
  · split
    · exact ⟨rfl, rfl, rfl⟩
    · split
      · exact ⟨rfl, rfl, rfl⟩
      · split
        · exact ⟨rfl, rfl, rfl⟩
        · split <;> exact ⟨rfl, rfl, rfl⟩
theorem back_keeps (e : En) (n : Nat) : (e.back n).side = e.side ∧ (e.back n).oth = e.oth ∧ (e.back n).rest = e.rest := by
  unfold En.back
  split <;> exact ⟨rfl, rfl, rfl⟩
theorem consumeC_side (e : En) (k n : Int) : (e.consumeC k n).2.side = e.side ∧ (e.consumeC k n).2.oth.length = e.oth.length ∧ (e.consumeC k n).2.rest = e.rest := by
  unfold En.consumeC
  split
  · exact ⟨rfl, rfl, rfl⟩
  · split
    · exact ⟨rfl, rfl, rfl⟩
    · split
      · exact ⟨rfl, rfl, rfl⟩
      · split
        · exact ⟨rfl, rfl, rfl⟩
        · split
          · exact ⟨rfl, rfl, rfl⟩
          · simp only
            split
            · exact ⟨rfl, by simp [En.send], rfl⟩
            · exact ⟨rfl, by simp [En.send], rfl⟩
theorem resetC_side (e : En) (k n : Int) : (e.resetC k n).2.side = e.side ∧ (e.resetC k n).2.oth.length = e.oth.length ∧ (e.resetC k n).2.rest = e.rest := by
  unfold En.resetC
  split
  · exact ⟨rfl, rfl, rfl⟩
  · split
    · exact ⟨rfl, rfl, rfl⟩
    · split
      · exact ⟨rfl, rfl, rfl⟩
      · split
        · simp only
          rw [(back_keeps _ _).1, (back_keeps _ _).2.1, (back_keeps _ _).2.2]
          exact ⟨rfl, by simp [En.send], rfl⟩
        · exact ⟨rfl, rfl, rfl⟩
theorem drain1_side {e e' : En} {s : Bs} (h : e.drain1 = some (s, e')) : e'.side = e.side ∧ e'.oth = e.oth ∧ e'.rest = e.rest := by
  unfold En.drain1 at h
  split at h
  · cases h; exact ⟨rfl, rfl, rfl⟩
  · split at h
    · cases h
    · split at h
      · cases h
      · split at h
        · cases h
        · cases h; exact ⟨rfl, rfl, rfl⟩
theorem drain_side : ∀ (n : Nat) (e : En), (En.drain n e).2.side = e.side ∧ (En.drain n e).2.oth = e.oth ∧ (En.drain n e).2.rest = e.rest
  | 0, e => ⟨rfl, rfl, rfl⟩
  | n + 1, e => by
    cases hd : e.drain1 with
    | none => simp [En.drain, hd]
    | some p =>
      obtain ⟨s, e'⟩ := p
      have h1 := drain1_side hd
      have h2 := drain_side n e'
      simp only [En.drain, hd]
      exact ⟨h2.1.trans h1.1, h2.2.1.trans h1.2.1, h2.2.2.trans h1.2.2⟩
theorem Wf.othLen {e : En} (h : Wf e) : e.oth.length ≤ 134217729 := by
  by_cases h0 : e.oth.length = 0
  · omega
  · have hx : e.oth[e.oth.length - 1]? = some (e.oth[e.oth.length - 1]'(by omega)) := List.getElem?_eq_getElem _
    have h1 := (h.oth _ _ hx).id
    have h2 := (h.oth _ _ hx).id28
    have h3 := h.side
    omega
theorem Wf.ownLen {e : En} (h : Wf e) : e.own.length ≤ 134217729 := by
  by_cases h0 : e.own.length = 0
  · omega
  · have hx : e.own[e.own.length - 1]? = some (e.own[e.own.length - 1]'(by omega)) := List.getElem?_eq_getElem _
    have h1 := (h.own _ _ hx).id
    have h2 := (h.own _ _ hx).id28
    omega
end Go.Proofs.YtbkpdapagfjmmaaGreatDoor.Lk

namespace Go.Proofs.YtbkpdapagfjmmaaGreatDoor
open Go.RowKit
variable {κ : Prop}
theorem REnd.turnTv {w w' : World} {b : Nat} {e : Lk.En} {p : RP} (h : REnd κ w b e p) {l : List Lk.Ot} (ho : w'.ownsRow 0 265 5 p.tv l.length (rtsV l)) (hO : Only (fun i => p.tv.ownBlock = some i) w w') : REnd κ w' b { e with oth := l } p := by
  have hap : ∀ i, p.tv.ownBlock = some i → b ≠ i ∧ (p.ob ≠ i ∧ p.ib ≠ i) ∧ p.rb ≠ i ∧ ((∀ j, p.vo.ownBlock = some j → j ≠ i) ∧ ∀ j, p.vi.ownBlock = some j → j ≠ i) ∧ (∀ j, p.rv.ownBlock = some j → j ≠ i) ∧ ∀ j, p.wv.ownBlock = some j → j ≠ i := fun i hi => by
    obtain ⟨cs, hI⟩ := own_is h.oth hi
    obtain ⟨a1, a2, a3, a4, a5, a6, _⟩ := h.apt hI
    exact ⟨a1 (nbq rfl), a2 (nbq rfl), a3 (nbq rfl), a4 (nbq rfl), a5 (nbq rfl), a6 (nbq rfl)⟩
  obtain ⟨s, f, r1, r2⟩ := h.rd
  exact ⟨h.blk.only hO (fun hx => (hap _ hx).1 rfl), h.out.only hO (fun hx => (hap _ hx).2.1.1 rfl) (fun i hi hx => (hap _ hx).2.2.2.1.1 i hi rfl), h.inn.only hO (fun hx => (hap _ hx).2.1.2 rfl) (fun i hi hx => (hap _ hx).2.2.2.1.2 i hi rfl), ⟨s, f, r1.only hO (fun hx => (hap _ hx).2.2.1 rfl), r2⟩, h.row.only hO (fun i hi hx => (hap _ hx).2.2.2.2.1 i hi rfl), own_only h.own hO (fun i hi hx => (hap _ hx).2.2.2.2.2 i hi rfl), ho, h.ne, h.nv⟩
theorem REnd.turnWv {w w' : World} {b : Nat} {e : Lk.En} {p : RP} (h : REnd κ w b e p) {l : List Lk.Ow} (ho : w'.ownsRow 0 258 4 p.wv l.length (rwsV l)) (hO : Only (fun i => p.wv.ownBlock = some i) w w') : REnd κ w' b { e with own := l } p := by
  have hap : ∀ i, p.wv.ownBlock = some i → b ≠ i ∧ (p.ob ≠ i ∧ p.ib ≠ i) ∧ p.rb ≠ i ∧ ((∀ j, p.vo.ownBlock = some j → j ≠ i) ∧ ∀ j, p.vi.ownBlock = some j → j ≠ i) ∧ (∀ j, p.rv.ownBlock = some j → j ≠ i) ∧ ∀ j, p.tv.ownBlock = some j → j ≠ i := fun i hi => by
    obtain ⟨cs, hI⟩ := own_is h.own hi
    obtain ⟨a1, a2, a3, a4, a5, _, a7⟩ := h.apt hI
    exact ⟨a1 (nbq rfl), a2 (nbq rfl), a3 (nbq rfl), a4 (nbq rfl), a5 (nbq rfl), a7 (nbq rfl)⟩
  obtain ⟨s, f, r1, r2⟩ := h.rd
  exact ⟨h.blk.only hO (fun hx => (hap _ hx).1 rfl), h.out.only hO (fun hx => (hap _ hx).2.1.1 rfl) (fun i hi hx => (hap _ hx).2.2.2.1.1 i hi rfl), h.inn.only hO (fun hx => (hap _ hx).2.1.2 rfl) (fun i hi hx => (hap _ hx).2.2.2.1.2 i hi rfl), ⟨s, f, r1.only hO (fun hx => (hap _ hx).2.2.1 rfl), r2⟩, h.row.only hO (fun i hi hx => (hap _ hx).2.2.2.2.1 i hi rfl), ho, own_only h.oth hO (fun i hi hx => (hap _ hx).2.2.2.2.2 i hi rfl), h.ne, h.nv⟩
theorem REnd.setOth {w : World} {b : Nat} {e : Lk.En} {p : RP} (h : REnd κ w b e p) {i g cap : Nat} {x : Lk.Ot} (hx : e.oth[i]? = some x) (hg : p.tv = .slice (some ⟨g, 0, none⟩) e.oth.length cap) (j : Nat) (v : Value) (y : Lk.Ot) (hj : j < 5) (hv : (rtV x).set j v = rtV y) :
    REnd κ (w.setCell ⟨g, i * 5 + j, none⟩ v) b { e with oth := e.oth.set i y } p ∧ Only (rfoot b p) w (w.setCell ⟨g, i * 5 + j, none⟩ v) := by
  have ho := h.oth
  rw [hg] at ho
  have hO : Only (fun i => p.tv.ownBlock = some i) w (w.setCell ⟨g, i * 5 + j, none⟩ v) := (Only.refl _ w).set g _ v (fun _ => by rw [hg]; rfl)
  have := flat_write rtV (fun _ => rfl) ho hx hj hv
  exact ⟨h.turnTv (by rw [hg]; exact this) hO, hO.mono (fun i hi => .inr (.inr (.inr (.inr (.inr (.inr (.inr (.inr hi))))))))⟩
theorem REnd.setOwn {w : World} {b : Nat} {e : Lk.En} {p : RP} (h : REnd κ w b e p) {i g cap : Nat} {x : Lk.Ow} (hx : e.own[i]? = some x) (hg : p.wv = .slice (some ⟨g, 0, none⟩) e.own.length cap) (j : Nat) (v : Value) (y : Lk.Ow) (hj : j < 4) (hv : (rwV x).set j v = rwV y) :
    REnd κ (w.setCell ⟨g, i * 4 + j, none⟩ v) b { e with own := e.own.set i y } p ∧ Only (rfoot b p) w (w.setCell ⟨g, i * 4 + j, none⟩ v) := by
  have ho := h.own
  rw [hg] at ho
  have hO : Only (fun i => p.wv.ownBlock = some i) w (w.setCell ⟨g, i * 4 + j, none⟩ v) := (Only.refl _ w).set g _ v (fun _ => by rw [hg]; rfl)
  have := flat_write rwV (fun _ => rfl) ho hx hj hv
  exact ⟨h.turnWv (by rw [hg]; exact this) hO, hO.mono (fun i hi => .inr (.inr (.inr (.inr (.inr (.inr (.inr (.inl hi))))))))⟩
theorem REnd.atOth {w : World} {b : Nat} {e : Lk.En} {p : RP} (h : REnd κ w b e p) {i : Nat} {x : Lk.Ot} (hx : e.oth[i]? = some x) : ∃ g cap, p.tv = .slice (some ⟨g, 0, none⟩) e.oth.length cap ∧ g < w.heap.size ∧ e.oth.length ≤ cap ∧ w.cell? ⟨g, i * 5, none⟩ = some (.int .i64 (x.id : Int)) ∧ w.cell? ⟨g, i * 5 + 1, none⟩ = some (.int .i64 (x.cr : Int)) ∧ w.cell? ⟨g, i * 5 + 2, none⟩ = some (.int .i64 (x.held : Int)) ∧ w.cell? ⟨g, i * 5 + 3, none⟩ = some (.bool x.opn) ∧ w.cell? ⟨g, i * 5 + 4, none⟩ = some (.bool x.drp) ∧ (∀ j, w.frozen? ⟨g, j, none⟩ = false) ∧ g ≠ b := by
  obtain ⟨g, cap, h1, _, h2, h3, h4, h5⟩ := owned_flat rtV (fun _ => rfl) h.oth hx
  exact ⟨g, cap, h1, h2, h3, h4 0 (by omega), h4 1 (by omega), h4 2 (by omega), h4 3 (by omega), h4 4 (by omega), h5, h.apart.2.2.2.2.2.2.2 g (by rw [h1]; rfl)⟩
theorem REnd.atOwn {w : World} {b : Nat} {e : Lk.En} {p : RP} (h : REnd κ w b e p) {i : Nat} {x : Lk.Ow} (hx : e.own[i]? = some x) : ∃ g cap, p.wv = .slice (some ⟨g, 0, none⟩) e.own.length cap ∧ g < w.heap.size ∧ e.own.length ≤ cap ∧ w.cell? ⟨g, i * 4, none⟩ = some (.int .i64 (x.id : Int)) ∧ w.cell? ⟨g, i * 4 + 1, none⟩ = some (.string (bs x.left)) ∧ w.cell? ⟨g, i * 4 + 2, none⟩ = some (.int .i64 (x.cr : Int)) ∧ w.cell? ⟨g, i * 4 + 3, none⟩ = some (.bool x.done) ∧ (∀ j, w.frozen? ⟨g, j, none⟩ = false) ∧ g ≠ b := by
  obtain ⟨g, cap, h1, _, h2, h3, h4, h5⟩ := owned_flat rwV (fun _ => rfl) h.own hx
  exact ⟨g, cap, h1, h2, h3, h4 0 (by omega), h4 1 (by omega), h4 2 (by omega), h4 3 (by omega), h5, h.apart.2.2.2.2.2.2.1 g (by rw [h1]; rfl)⟩
theorem RPost.on {w w1 w2 : World} {b : Nat} {p : RP} {e2 : Lk.En} (hO : Only (rfoot b p) w w1) (h : RPost κ w1 b p e2 w2) : RPost κ w b p e2 w2 := RPost.trans (fun _ hi => .inl hi) hO h
theorem RPost.drew {w w2 : World} {b : Nat} {p : RP} {e2 : Lk.En} {n : Nat} (h : RPost κ (w.drewN n) b p e2 w2) : RPost κ w b p e2 w2 := h.on ((Only.refl _ w).drewN n)
theorem Only.undrewN {S : Nat → Prop} {a b : World} {n : Nat} (h : Only S (a.drewN n) b) : Only S a b := ⟨h.os, h.tape, h.output, h.size, h.block⟩
theorem rback_any (b : Nat) (e : Lk.En) (p : RP) (n : Nat) (w : World) (h : REnd κ w b e p) (hn : n ≤ 200) (hr : e.room ≤ 400) (hl : e.row.length ≤ 2 ^ 42) :
    Calls Tryz.prog 165 #[.pointer (some ⟨b, 0, none⟩), .int .i64 (n : Int)] w fun r w' => r = .returned (.tuple #[]) ∧ RPost κ w b p (e.back n) w' := by
  by_cases h0 : 0 < n
  · have h0' : (0 : Int) < n := by omega
    have hbk : e.back n = ({ e with room := e.room + n } : Lk.En).send 4 0 (Lk.wire n) := by unfold Lk.En.back; rw [if_pos h0]
    rw [hbk]
    have c9 : w.cell? ⟨b, 9, none⟩ = some (.int .i64 (e.room : Int)) := h.blk.cell 9
    have f9 := h.blk.free 9
    have hbl := h.blk.lt
    have hs := h.set (e' := { e with room := e.room + n }) 9 (.int .i64 ((e.room + n : Nat) : Int)) rfl rfl rfl rfl rfl rfl (fun x => ⟨x, rfl⟩)
    have hO : Only (rfoot b p) w (w.setCell ⟨b, 9, none⟩ (.int .i64 ((e.room + n : Nat) : Int))) := (Only.refl _ w).set b 9 _ (fun _ => .inl rfl)
    have e1 : (e.room : Int) + n = ((e.room + n : Nat) : Int) := by omega
    have hu : ((e.room + n : Nat) : Int) ≤ 1000 := by omega
    have hu0 : (0 : Int) ≤ ((e.room + n : Nat) : Int) := by omega
    have HN := hide (fun W => rnumber_at n (n : Int) W rfl (by omega))
    have HS := hide (fun W hb => rsend_any b { e with room := e.room + n } p 4 0 (Lk.wire n) W (hs.below hb) (Lk.good_credit 0 n (by omega) (by omega)) hl)
    have HO := hide hO
    generalize ((e.room + n : Nat) : Int) = RR at *
    generalize (e.room : Int) = R0 at *
    have hn200 : (n : Int) ≤ 200 := by omega
    clear h hs hO hbk
    go_enter Tryz.func165, Tryz.ntmps165
    go_wp2_with fail
    refine (uh HN _).mono ?_
    rintro r w1 ⟨rfl, hb1⟩
    have HS1 := hide (uh HS w1 hb1)
    have HB := hide hb1
    clear hb1
    go_wp2_with fail
    refine (uh HS1).mono ?_
    rintro r w2 ⟨rfl, hP⟩
    have HF := hide ((RPost.before (uh HB) hP).on (uh HO))
    clear hP
    go_wp2_with fail
    go_end0
    exact ⟨rfl, uh HF⟩
  · have h0' : ¬ (0 : Int) < n := by omega
    have hbk : e.back n = e := by unfold Lk.En.back; rw [if_neg h0]
    rw [hbk]
    have HP := hide (RPost.same h)
    clear h
    go_enter Tryz.func165, Tryz.ntmps165
    go_wp2_with fail
    go_end0
    exact ⟨rfl, uh HP⟩
theorem rbye_any (b : Nat) (e : Lk.En) (p : RP) (w : World) (h : REnd κ w b e p) (hw : Lk.Wf e) (hl : e.row.length ≤ 2 ^ 42) :
    Calls Tryz.prog 161 #[.pointer (some ⟨b, 0, none⟩)] w fun r w' => r = .returned (.tuple #[]) ∧ RPost κ w b p e.bye w' := by
  have hlen := hw.othLen
  have hbl := h.blk.lt
  have c7 : w.cell? ⟨b, 7, none⟩ = some p.tv := h.blk.cell 7
  have hlast : e.lastOth ≤ 268435455 := by
    unfold Lk.En.lastOth
    cases hg : e.oth.getLast? with
    | none => simp
    | some o =>
      obtain ⟨i, hi⟩ := List.getElem?_of_mem (List.mem_of_getLast? hg)
      exact (hw.oth i o hi).id28
  have HN := hide (fun W (z : Int) (hz : z = (e.lastOth : Int)) => rnumber_at e.lastOth z W hz hlast)
  have HS := hide (fun W (hR : REnd κ W b e p) => rsend_any b e p 7 0 (Lk.wire e.lastOth) W hR (Lk.good_bye e.lastOth hlast) hl)
  have HFIN : Hid (∀ w1 w2, Only (rfoot b p) w w1 → RPost κ w1 b p (e.send 7 0 (Lk.wire e.lastOth)) w2 → RPost κ w b p e.bye (w2.setCell ⟨b, 11, none⟩ (.bool true)) ∧ w2.frozen? ⟨b, 11, none⟩ = false ∧ b < w2.heap.size ∧ (w2.cell? ⟨b, 11, none⟩).isSome = true) := by
    intro w1 w2 hO hP
    obtain ⟨p', h1, h2, h3⟩ := hP.on hO
    have hs := h1.set (e' := e.bye) 11 (.bool true) rfl rfl rfl rfl rfl rfl (fun x => ⟨x, rfl⟩)
    refine ⟨⟨p', hs, h2, h3.set b 11 _ (fun _ => .inl rfl)⟩, h1.blk.free 11, h1.blk.lt, ?_⟩
    rw [h1.blk.cell 11]
    rfl
  by_cases h0 : e.oth = []
  · have hz : e.lastOth = 0 := by unfold Lk.En.lastOth; rw [h0]; rfl
    have hv : p.tv = .slice none 0 0 ∨ ∃ a cap, p.tv = .slice a 0 cap := by
      obtain ⟨a, cap, hv⟩ := row_form h.oth
      rw [h0] at hv
      exact .inr ⟨a, cap, hv⟩
    obtain ⟨a, cap, hv⟩ : ∃ a cap, p.tv = .slice a 0 cap := by
      rcases hv with hv | hv
      · exact ⟨_, _, hv⟩
      · exact hv
    rw [hv] at c7
    have HE := hide h
    have HZ := hide hz
    clear h hz h0 hv
    go_enter Tryz.func161, Tryz.ntmps161
    go_wp2_with fail
    refine (uh HN _ _ (by rw [uh HZ]; rfl)).mono ?_
    rintro r w1 ⟨rfl, hb1⟩
    have HS1 := hide (uh HS w1 ((uh HE).below hb1))
    have HB := hide hb1
    clear hb1
    go_wp2_with fail
    refine (uh HS1).mono ?_
    rintro r w2 ⟨rfl, hP⟩
    obtain ⟨k1, k2, k3, k4⟩ := uh HFIN w1 w2 (Only.of_below (uh HB) _) hP
    obtain ⟨ov, k4⟩ := Option.isSome_iff_exists.1 k4
    have HF := hide k1
    clear hP k1
    go_wp2_with fail
    go_end0
    exact ⟨rfl, uh HF⟩
  · have hpos : 0 < e.oth.length := List.length_pos_iff.2 h0
    have hlt : e.oth.length - 1 < e.oth.length := by omega
    have hx : e.oth[e.oth.length - 1]? = some e.oth[e.oth.length - 1] := List.getElem?_eq_getElem hlt
    obtain ⟨g, cap, hv, hgl, hcap, x0, _⟩ := h.atOth hx
    have hz : (e.oth[e.oth.length - 1].id : Int) = (e.lastOth : Int) := by
      unfold Lk.En.lastOth
      rw [List.getLast?_eq_getElem?, hx]
    rw [hv] at c7
    have hpos' : (0 : Int) < e.oth.length := by omega
    have hidx : ((e.oth.length : Int) - 1) = ((e.oth.length - 1 : Nat) : Int) := by omega
    have hltI : ((e.oth.length - 1 : Nat) : Int) < e.oth.length := by omega
    have HE := hide h
    have HZ := hide hz
    generalize (e.oth[e.oth.length - 1].id : Int) = ID at *
    generalize e.oth.length - 1 = J at *
    clear h hz h0 hv hx
    go_enter Tryz.func161, Tryz.ntmps161
    go_wp2_with fail
    go_quiet (fail)
    go_wp2_with fail
    refine (uh HN _ _ (uh HZ)).mono ?_
    rintro r w1 ⟨rfl, hb1⟩
    have HS1 := hide (uh HS w1 (((uh HE).below (Below.refl _ _ : Below w.heap.size w w)).only ((Only.of_below hb1 (fun _ => False)).undrewN) (fun _ _ x => x)))
    have HB := hide hb1
    clear hb1
    go_wp2_with fail
    refine (uh HS1).mono ?_
    rintro r w2 ⟨rfl, hP⟩
    obtain ⟨k1, k2, k3, k4⟩ := uh HFIN w1 w2 ((Only.of_below (uh HB) _).undrewN) hP
    obtain ⟨ov, k4⟩ := Option.isSome_iff_exists.1 k4
    have HF := hide k1
    clear hP k1
    go_wp2_with fail
    go_end0
    exact ⟨rfl, uh HF⟩
end Go.Proofs.YtbkpdapagfjmmaaGreatDoor

namespace Go.Proofs.YtbkpdapagfjmmaaGreatDoor
open Go.RowKit
variable {κ : Prop}
theorem dn_no {n : Nat} (h : n = 0) : ((n : Int) != 0) = false := by rw [h]; rfl
theorem dn_yes {n : Nat} (h : n ≠ 0) : ((n : Int) != 0) = true := by simp; omega
theorem rping_any (b : Nat) (e : Lk.En) (p : RP) (t : ByteArray) (w : World) (h : REnd κ w b e p) (hl : e.row.length ≤ 2 ^ 42) :
    Calls Tryz.prog 113 #[.pointer (some ⟨b, 0, none⟩), .string t] w fun r w' => r = .returned (.int .i64 ((e.pingC t.data.toList).1 : Int)) ∧ RPost κ w b p (e.pingC t.data.toList).2 w' := by
  have c13 : w.cell? ⟨b, 13, none⟩ = some (.int .i64 (e.down : Int)) := h.blk.cell 13
  have hbl := h.blk.lt
  have HSM := hide (RPost.same h)
  have hts := size_list t
  unfold Lk.En.pingC
  by_cases hd : e.down = 0
  · rw [if_neg (by rw [hd]; simp)]
    have hd' := dn_no hd
    by_cases h8 : t.data.toList.length = 8
    · rw [if_neg (by rw [h8]; simp)]
      have h8' : ((t.size : Int) != 8) = false := by simp; omega
      have htb : bs t.data.toList = t := by unfold bs; rfl
      have HS := hide (rsend_any b e p 5 0 t.data.toList w h (Lk.good_eight 5 _ (.inl rfl) h8) hl)
      rw [htb] at HS
      generalize (e.down : Int) = DN at *
      clear h h8 hd hts HSM
      go_enter Tryz.func113, Tryz.ntmps113
      go_wp2_with fail
      refine (uh HS).mono ?_
      rintro r w1 ⟨rfl, hP⟩
      have HP := hide hP
      clear hP
      go_wp2_with fail
      go_ret
      exact ⟨rfl, uh HP⟩
    · rw [if_pos h8]
      have h8' : ((t.size : Int) != 8) = true := by simp; omega
      generalize (e.down : Int) = DN at *
      clear h h8 hd hts
      go_enter Tryz.func113, Tryz.ntmps113
      go_wp2_with fail
      go_ret
      exact ⟨rfl, uh HSM⟩
  · rw [if_pos hd]
    have hd' := dn_yes hd
    generalize (e.down : Int) = DN at *
    clear h hd hts
    go_enter Tryz.func113, Tryz.ntmps113
    go_wp2_with fail
    go_ret
    exact ⟨rfl, uh HSM⟩
theorem rByeC_any (b : Nat) (e : Lk.En) (p : RP) (w : World) (h : REnd κ w b e p) (hw : Lk.Wf e) (hl : e.row.length ≤ 2 ^ 42) :
    Calls Tryz.prog 114 #[.pointer (some ⟨b, 0, none⟩)] w fun r w' => r = .returned (.int .i64 (e.byeC'.1 : Int)) ∧ RPost κ w b p e.byeC'.2 w' := by
  have c13 : w.cell? ⟨b, 13, none⟩ = some (.int .i64 (e.down : Int)) := h.blk.cell 13
  have c11 : w.cell? ⟨b, 11, none⟩ = some (.bool e.byeS) := h.blk.cell 11
  have hbl := h.blk.lt
  have HSM := hide (RPost.same h)
  have HS := hide (rbye_any b e p w h hw hl)
  unfold Lk.En.byeC'
  by_cases hd : e.down = 0
  · rw [if_neg (by rw [hd]; simp)]
    have hd' := dn_no hd
    cases hb : e.byeS with
    | true =>
      rw [if_pos rfl]
      rw [hb] at c11
      generalize (e.down : Int) = DN at *
      clear h hd hb
      go_enter Tryz.func114, Tryz.ntmps114
      go_wp2_with fail
      go_ret
      exact ⟨rfl, uh HSM⟩
    | false =>
      rw [if_neg (by simp)]
      rw [hb] at c11
      generalize (e.down : Int) = DN at *
      clear h hd hb HSM
      go_enter Tryz.func114, Tryz.ntmps114
      go_wp2_with fail
      refine (uh HS).mono ?_
      rintro r w1 ⟨rfl, hP⟩
      have HP := hide hP
      clear hP
      go_wp2_with fail
      go_ret
      exact ⟨rfl, uh HP⟩
  · rw [if_pos hd]
    have hd' := dn_yes hd
    generalize (e.down : Int) = DN at *
    clear h hd
    go_enter Tryz.func114, Tryz.ntmps114
    go_wp2_with fail
    go_ret
    exact ⟨rfl, uh HSM⟩
theorem rconsume_any (b : Nat) (e : Lk.En) (p : RP) (k n : Int) (w : World) (h : REnd κ w b e p) (hw : Lk.Wf e) (hl : e.row.length ≤ 2 ^ 41) :
    Calls Tryz.prog 111 #[.pointer (some ⟨b, 0, none⟩), .int .i64 k, .int .i64 n] w fun r w' => r = .returned (.int .i64 ((e.consumeC k n).1 : Int)) ∧ RPost κ w b p (e.consumeC k n).2 w' := by
  have c13 : w.cell? ⟨b, 13, none⟩ = some (.int .i64 (e.down : Int)) := h.blk.cell 13
  have c7 : w.cell? ⟨b, 7, none⟩ = some p.tv := h.blk.cell 7
  have hbl := h.blk.lt
  have HSM := hide (RPost.same h)
  have holen := hw.othLen
  have HOT := hide (fun W (hR : REnd κ W b e p) => rother_any b e p k W hR (by omega))
  have HE := hide h
  unfold Lk.En.consumeC
  by_cases hd : e.down = 0
  · rw [if_neg (by rw [hd]; simp)]
    have hd' := dn_no hd
    by_cases hn : n < 1
    · rw [if_pos hn]
      generalize (e.down : Int) = DN at *
      clear h hd
      go_enter Tryz.func111, Tryz.ntmps111
      go_wp2_with fail
      go_ret
      exact ⟨rfl, uh HSM⟩
    · rw [if_neg hn]
      cases hix : Lk.othIx e.oth k with
      | none =>
        simp only
        rw [hix] at HOT
        have HO1 := hide (uh HOT w h)
        generalize (e.down : Int) = DN at *
        clear h hd HOT
        go_enter Tryz.func111, Tryz.ntmps111
        go_wp2_with fail
        refine (uh HO1).mono ?_
        rintro r w1 ⟨rfl, rfl⟩
        simp only [ixO]
        go_wp2_with fail
        go_ret
        exact ⟨rfl, uh HSM⟩
      | some i =>
        simp only
        obtain ⟨o, ho, hid⟩ := Lk.othIx_some hix
        rw [ho]
        simp only
        rw [hix] at HOT
        have HO1 := hide (uh HOT w h)
        have hok := hw.oth i o ho
        have hroom := hw.room
        have hw2 := hw.win2
        have hcr := hok.cr
        have hi : i < e.oth.length := (List.getElem?_eq_some_iff.1 ho).1
        obtain ⟨g, cap, hv, hgl, hcap, x0, x1, x2, x3, x4, hfz, hgb⟩ := h.atOth ho
        have hi' : (i : Int) < e.oth.length := by omega
        have hi0 : (0 : Int) ≤ i := by omega
        rw [hv] at c7
        by_cases hh : (o.held : Int) < n
        · rw [if_pos hh]
          generalize (e.down : Int) = DN at *
          generalize (o.held : Int) = HD at *
          clear h hd HOT hv hfz
          go_enter Tryz.func111, Tryz.ntmps111
          go_wp2_with fail
          refine (uh HO1).mono ?_
          rintro r w1 ⟨rfl, rfl⟩
          simp only [ixO]
          go_wp2_with fail
          go_ret
          exact ⟨rfl, uh HSM⟩
        · rw [if_neg hh]
          obtain ⟨m, rfl⟩ : ∃ m : Nat, n = m := ⟨n.toNat, by omega⟩
          rw [Int.toNat_natCast]
          have hm1 : 1 ≤ m := by omega
          have hm2 : m ≤ o.held := by omega
          obtain ⟨s1, s1o⟩ := h.setOth ho hv 2 (.int .i64 ((o.held - m : Nat) : Int)) { o with held := o.held - m } (by omega) rfl
          have s2 := s1.set (e' := { e with oth := e.oth.set i { o with held := o.held - m }, room := e.room + m }) 9 (.int .i64 ((e.room + m : Nat) : Int)) rfl rfl rfl rfl rfl rfl (fun x => ⟨x, rfl⟩)
          have s2o : Only (rfoot b p) w (((w.setCell ⟨g, i * 5 + 2, none⟩ (.int .i64 ((o.held - m : Nat) : Int))).setCell ⟨b, 9, none⟩ (.int .i64 ((e.room + m : Nat) : Int))).drew) := (s1o.set b 9 _ (fun _ => .inl rfl)).drew
          have s3 : REnd κ (((w.setCell ⟨g, i * 5 + 2, none⟩ (.int .i64 ((o.held - m : Nat) : Int))).setCell ⟨b, 9, none⟩ (.int .i64 ((e.room + m : Nat) : Int))).drew) b { e with oth := e.oth.set i { o with held := o.held - m }, room := e.room + m } p := s2.below ⟨rfl, rfl, rfl, Nat.le_refl _, fun _ _ => rfl⟩
          have c9 : w.cell? ⟨b, 9, none⟩ = some (.int .i64 (e.room : Int)) := h.blk.cell 9
          have f9 := h.blk.free 9
          have fg := hfz (i * 5 + 2)
          have e1 : (o.held : Int) - m = ((o.held - m : Nat) : Int) := by omega
          have e2 : (e.room : Int) + m = ((e.room + m : Nat) : Int) := by omega
          have hu1 : ((e.room + m : Nat) : Int) ≤ 1000 := by omega
          have hu2 : (0 : Int) ≤ ((e.room + m : Nat) : Int) := by omega
          have hu3 : (0 : Int) ≤ ((o.held - m : Nat) : Int) := by omega
          have hu4 : ((o.held - m : Nat) : Int) ≤ 1000 := by omega
          have hu5 : (o.held : Int) ≤ 1000 := by omega
          have hu6 : (m : Int) ≤ 1000 := by omega
          have hu7 : (1 : Int) ≤ m := by omega
          have HNUM := hide (fun W => rnumber_at m (m : Int) W rfl (by omega))
          have HS1 := hide (fun W (hR : REnd κ W b _ p) => rsend_any b { e with oth := e.oth.set i { o with held := o.held - m }, room := e.room + m } p 4 0 (Lk.wire m) W hR (Lk.good_credit 0 m (by omega) (by omega)) (by show e.row.length ≤ _; omega))
          have HX := hide (⟨s3, s2o⟩ : _ ∧ _)
          have hid28 := hok.id28
          have hlt2 : i < (e.oth.set i { o with held := o.held - m }).length := by rw [List.length_set]; exact hi
          have ho2 : (e.oth.set i { o with held := o.held - m })[i]? = some { o with held := o.held - m } := List.getElem?_set_self hi
          have HAF : Hid (∀ w4 p4, REnd κ w4 b (({ e with oth := e.oth.set i { o with held := o.held - m }, room := e.room + m } : Lk.En).send 4 0 (Lk.wire m)) p4 → ∃ g4 cap4, w4.cell? ⟨b, 7, none⟩ = some (.slice (some ⟨g4, 0, none⟩) e.oth.length cap4) ∧ p4.tv = .slice (some ⟨g4, 0, none⟩) e.oth.length cap4 ∧ g4 < w4.heap.size ∧ e.oth.length ≤ cap4 ∧ b < w4.heap.size ∧ w4.cell? ⟨g4, i * 5 + 1, none⟩ = some (.int .i64 (o.cr : Int)) ∧ w4.cell? ⟨g4, i * 5 + 3, none⟩ = some (.bool o.opn) ∧ w4.frozen? ⟨g4, i * 5 + 1, none⟩ = false
            ∧ REnd κ (w4.setCell ⟨g4, i * 5 + 1, none⟩ (.int .i64 ((o.cr + m : Nat) : Int))) b (({ e with oth := e.oth.set i { o with held := o.held - m, cr := o.cr + m }, room := e.room + m } : Lk.En).send 4 0 (Lk.wire m)) p4 ∧ Only (rfoot b p4) w4 (w4.setCell ⟨g4, i * 5 + 1, none⟩ (.int .i64 ((o.cr + m : Nat) : Int)))) := by
            intro w4 p4 h4
            have ho4 : (({ e with oth := e.oth.set i { o with held := o.held - m }, room := e.room + m } : Lk.En).send 4 0 (Lk.wire m)).oth[i]? = some { o with held := o.held - m } := ho2
            obtain ⟨g4, cap4, y0, y1, y2, y3, y4, y5, y6, y7, y8, y9⟩ := h4.atOth ho4
            obtain ⟨t1, t2⟩ := h4.setOth ho4 y0 1 (.int .i64 ((o.cr + m : Nat) : Int)) { o with held := o.held - m, cr := o.cr + m } (by omega) rfl
            have hc : w4.cell? ⟨b, 7, none⟩ = some p4.tv := h4.blk.cell 7
            have hle : (({ e with oth := e.oth.set i { o with held := o.held - m }, room := e.room + m } : Lk.En).send 4 0 (Lk.wire m)).oth.length = e.oth.length := by show (e.oth.set i _).length = _; rw [List.length_set]
            rw [hle] at y0 y2
            rw [y0] at hc
            refine ⟨g4, cap4, hc, y0, y1, y2, h4.blk.lt, y4, y6, y8 _, ?_, t2⟩
            have hE : ({ (({ e with oth := e.oth.set i { o with held := o.held - m }, room := e.room + m } : Lk.En).send 4 0 (Lk.wire m)) with oth := (({ e with oth := e.oth.set i { o with held := o.held - m }, room := e.room + m } : Lk.En).send 4 0 (Lk.wire m)).oth.set i { o with held := o.held - m, cr := o.cr + m } } : Lk.En) = ({ e with oth := e.oth.set i { o with held := o.held - m, cr := o.cr + m }, room := e.room + m } : Lk.En).send 4 0 (Lk.wire m) := by
              simp [Lk.En.send, List.set_set]
            rw [hE] at t1
            exact t1
          have HS2 := hide (fun W p4 (hR : REnd κ W b _ p4) => rsend_any b (({ e with oth := e.oth.set i { o with held := o.held - m, cr := o.cr + m }, room := e.room + m } : Lk.En).send 4 0 (Lk.wire m)) p4 4 o.id (Lk.wire m) W hR (Lk.good_credit o.id m hid28 (by omega)) (by show (e.row ++ [_]).length ≤ _; rw [List.length_append, List.length_singleton]; omega))
          have hcr2 : ((o.cr + m : Nat) : Int) ≤ 1000 := by omega
          have hcr3 : (0 : Int) ≤ ((o.cr + m : Nat) : Int) := by omega
          have e3 : (o.cr : Int) + m = ((o.cr + m : Nat) : Int) := by omega
          have hh' : decide ((o.held : Int) < (m : Int)) = false := by simpa using hh
          have hgb' : b ≠ g := Ne.symm hgb
          subst hid
          generalize hHM : ((o.held - m : Nat) : Int) = HM at *
          generalize hRM : ((e.room + m : Nat) : Int) = RM at *
          generalize hCM : ((o.cr + m : Nat) : Int) = CM at *
          generalize (e.down : Int) = DN at *
          generalize (o.held : Int) = HD at *
          generalize (e.room : Int) = R0 at *
          generalize (o.cr : Int) = CR at *
          clear h hd HOT hv hfz hHM hRM hCM hh s1 s2 s3 s1o s2o hok hroom hw hw2 hcr ho ho2 HSM hix
          cases hop : o.opn with
          | false =>
            have hR : Hid ((({ e with oth := e.oth.set i (o.eat m), room := e.room + m } : Lk.En).send 4 0 (Lk.wire m)) = ({ e with oth := e.oth.set i { o with held := o.held - m }, room := e.room + m } : Lk.En).send 4 0 (Lk.wire m)) := by
              have : o.eat m = { o with held := o.held - m } := by unfold Lk.Ot.eat; rw [hop]; rfl
              rw [this]
              exact rfl
            rw [if_neg (by simp)]
            have HOP := hide hop
            clear hop
            go_enter Tryz.func111, Tryz.ntmps111
            go_wp2_with fail
            refine (uh HO1).mono ?_
            rintro r w1 ⟨rfl, rfl⟩
            simp only [ixO]
            go_wp2_with fail
            go_region
            go_wp2_with fail
            refine (uh HNUM _).mono ?_
            rintro r w3 ⟨rfl, hb3⟩
            obtain ⟨s3, s2o⟩ := uh HX
            have HS3 := hide (uh HS1 w3 (s3.below hb3))
            have HO3 := hide (s2o.below hb3)
            clear s3 s2o hb3
            go_wp2_with fail
            refine (uh HS3).mono ?_
            rintro r w4 ⟨rfl, hP⟩
            obtain ⟨p4, h4, h4f, h4o⟩ := RPost.on (uh HO3) hP
            obtain ⟨g4, cap4, z1, z2, z3, z4, z5, z6, z7, z8, z9, z10⟩ := uh HAF w4 p4 h4
            rw [uh HOP] at z7
            have HF := hide (⟨p4, h4, h4f, h4o⟩ : RPost κ _ b p _ w4)
            clear hP h4 h4f h4o z2 z9 z10
            go_wp2_with fail
            go_ret
            exact ⟨rfl, by rw [uh hR]; exact uh HF⟩
          | true =>
            have hR : Hid ((({ e with oth := e.oth.set i (o.eat m), room := e.room + m } : Lk.En).send 4 0 (Lk.wire m)) = ({ e with oth := e.oth.set i { o with held := o.held - m, cr := o.cr + m }, room := e.room + m } : Lk.En).send 4 0 (Lk.wire m)) := by
              have : o.eat m = { o with held := o.held - m, cr := o.cr + m } := by unfold Lk.Ot.eat; rw [hop]; rfl
              rw [this]
              exact rfl
            rw [if_pos rfl]
            have HOP := hide hop
            clear hop
            go_enter Tryz.func111, Tryz.ntmps111
            go_wp2_with fail
            refine (uh HO1).mono ?_
            rintro r w1 ⟨rfl, rfl⟩
            simp only [ixO]
            go_wp2_with fail
            go_region
            go_wp2_with fail
            refine (uh HNUM _).mono ?_
            rintro r w3 ⟨rfl, hb3⟩
            obtain ⟨s3, s2o⟩ := uh HX
            have HS3 := hide (uh HS1 w3 (s3.below hb3))
            have HO3 := hide (s2o.below hb3)
            clear s3 s2o hb3
            go_wp2_with fail
            refine (uh HS3).mono ?_
            rintro r w4 ⟨rfl, hP⟩
            obtain ⟨p4, h4, h4f, h4o⟩ := RPost.on (uh HO3) hP
            obtain ⟨g4, cap4, z1, z2, z3, z4, z5, z6, z7, z8, z9, z10⟩ := uh HAF w4 p4 h4
            rw [uh HOP] at z7
            have HX4 := hide (⟨z9, z10, h4f, h4o⟩ : _ ∧ _ ∧ _ ∧ _)
            clear hP h4 h4f h4o z2 z9 z10
            go_wp2_with fail
            go_region
            go_wp2_with fail
            refine (uh HNUM _).mono ?_
            rintro r w5 ⟨rfl, hb5⟩
            obtain ⟨z9, z10, h4f, h4o⟩ := uh HX4
            have z9' := (z9.below (w' := (w4.setCell ⟨g4, i * 5 + 1, none⟩ (.int .i64 CM)).drew) ⟨rfl, rfl, rfl, Nat.le_refl _, fun _ _ => rfl⟩).below hb5
            have HS5 := hide (uh HS2 w5 p4 z9')
            have HO5 := hide (⟨(z10.drew).below hb5, h4f, h4o⟩ : _ ∧ _ ∧ _)
            clear z9 z10 h4f h4o z9' hb5
            go_wp2_with fail
            refine (uh HS5).mono ?_
            rintro r w6 ⟨rfl, hP⟩
            obtain ⟨k1, k2, k3⟩ := uh HO5
            have HF := hide (RPost.trans k2 k3 (RPost.on k1 hP))
            clear hP k1 k2 k3
            go_wp2_with fail
            go_ret
            exact ⟨rfl, by rw [uh hR]; exact uh HF⟩
  · rw [if_pos hd]
    have hd' := dn_yes hd
    generalize (e.down : Int) = DN at *
    clear h hd
    go_enter Tryz.func111, Tryz.ntmps111
    go_wp2_with fail
    go_ret
    exact ⟨rfl, uh HSM⟩
end Go.Proofs.YtbkpdapagfjmmaaGreatDoor
