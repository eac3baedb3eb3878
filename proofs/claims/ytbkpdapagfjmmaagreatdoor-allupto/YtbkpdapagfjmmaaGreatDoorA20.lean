import Derived.Test.YtbkpdapagfjmmaaGreatDoorA18
import Derived.Test.YtbkpdapagfjmmaaGreatDoorA3
import Derived.Test.YtbkpdapagfjmmaaGreatDoorA26
set_option linter.unusedVariables false
set_option maxRecDepth 100000
set_option maxHeartbeats 16000000
namespace Go.Proofs.YtbkpdapagfjmmaaGreatDoor
open Go.RowKit
variable {κ : Prop}
theorem aT.Q9 {w w' : World} {b : Nat} {e : Lk.En} {p : RP} (h : aT κ w b e p) {l : List Lk.Ot} (ho : w'.ownsRow 0 265 5 p.tv l.length (L8 l)) (hO : Only (fun i => p.tv.ownBlock = some i) w w') : aT κ w' b { e with oth := l } p := by
 have hap : ∀ i, p.tv.ownBlock = some i -> b ≠ i ∧ (p.ob ≠ i ∧ p.ib ≠ i) ∧ p.rb ≠ i ∧ ((∀ j, p.vo.ownBlock = some j -> j ≠ i) ∧ ∀ j, p.vi.ownBlock = some j -> j ≠ i) ∧ (∀ j, p.rv.ownBlock = some j -> j ≠ i) ∧ ∀ j, p.wv.ownBlock = some j -> j ≠ i := fun i hi => by
  obtain ⟨cs, hI⟩ := iM h.oth hi
  obtain ⟨a1, a2, a3, a4, a5, a6, _⟩ := h.apt hI
  exact ⟨a1 (nbq rfl), a2 (nbq rfl), a3 (nbq rfl), a4 (nbq rfl), a5 (nbq rfl), a6 (nbq rfl)⟩
 obtain ⟨s, f, r1, r2⟩ := h.rd
 exact ⟨h.blk.only hO (fun hx => (hap _ hx).1 rfl), h.out.only hO (fun hx => (hap _ hx).2.1.1 rfl) (fun i hi hx => (hap _ hx).2.2.2.1.1 i hi rfl), h.inn.only hO (fun hx => (hap _ hx).2.1.2 rfl) (fun i hi hx => (hap _ hx).2.2.2.1.2 i hi rfl), ⟨s, f, r1.only hO (fun hx => (hap _ hx).2.2.1 rfl), r2⟩, h.row.only hO (fun i hi hx => (hap _ hx).2.2.2.2.1 i hi rfl), ag h.own hO (fun i hi hx => (hap _ hx).2.2.2.2.2 i hi rfl), ho, h.ne, h.nv⟩
theorem aT.Rf {w w' : World} {b : Nat} {e : Lk.En} {p : RP} (h : aT κ w b e p) {l : List Lk.Ow} (ho : w'.ownsRow 0 258 4 p.wv l.length (L6 l)) (hO : Only (fun i => p.wv.ownBlock = some i) w w') : aT κ w' b { e with own := l } p := by
 have hap : ∀ i, p.wv.ownBlock = some i -> b ≠ i ∧ (p.ob ≠ i ∧ p.ib ≠ i) ∧ p.rb ≠ i ∧ ((∀ j, p.vo.ownBlock = some j -> j ≠ i) ∧ ∀ j, p.vi.ownBlock = some j -> j ≠ i) ∧ (∀ j, p.rv.ownBlock = some j -> j ≠ i) ∧ ∀ j, p.tv.ownBlock = some j -> j ≠ i := fun i hi => by
  obtain ⟨cs, hI⟩ := iM h.own hi
  obtain ⟨a1, a2, a3, a4, a5, _, a7⟩ := h.apt hI
  exact ⟨a1 (nbq rfl), a2 (nbq rfl), a3 (nbq rfl), a4 (nbq rfl), a5 (nbq rfl), a7 (nbq rfl)⟩
 obtain ⟨s, f, r1, r2⟩ := h.rd
 exact ⟨h.blk.only hO (fun hx => (hap _ hx).1 rfl), h.out.only hO (fun hx => (hap _ hx).2.1.1 rfl) (fun i hi hx => (hap _ hx).2.2.2.1.1 i hi rfl), h.inn.only hO (fun hx => (hap _ hx).2.1.2 rfl) (fun i hi hx => (hap _ hx).2.2.2.1.2 i hi rfl), ⟨s, f, r1.only hO (fun hx => (hap _ hx).2.2.1 rfl), r2⟩, h.row.only hO (fun i hi hx => (hap _ hx).2.2.2.2.1 i hi rfl), ho, ag h.oth hO (fun i hi hx => (hap _ hx).2.2.2.2.2 i hi rfl), h.ne, h.nv⟩
theorem aT.fF {w : World} {b : Nat} {e : Lk.En} {p : RP} (h : aT κ w b e p) {i g cap : Nat} {x : Lk.Ot} (hx : e.oth[i]? = some x) (hg : p.tv = .slice (some ⟨g, 0, none⟩) e.oth.length cap) (j : Nat) (v : Value) (y : Lk.Ot) (hj : j < 5) (hv : (rtV x).set j v = rtV y) :
 aT κ (w.setCell ⟨g, i * 5 + j, none⟩ v) b { e with oth := e.oth.set i y } p ∧ Only (aI b p) w (w.setCell ⟨g, i * 5 + j, none⟩ v) := by
 have ho := h.oth
 rw [hg] at ho
 have hO : Only (fun i => p.tv.ownBlock = some i) w (w.setCell ⟨g, i * 5 + j, none⟩ v) := (Only.refl _ w).set g _ v (fun _ => by rw [hg]; rfl)
 have := vX rtV (fun _ => rfl) ho hx hj hv
 exact ⟨h.Q9 (by rw [hg]; exact this) hO, hO.mono (fun i hi => .inr (.inr (.inr (.inr (.inr (.inr (.inr (.inr hi))))))))⟩
theorem aT.kL {w : World} {b : Nat} {e : Lk.En} {p : RP} (h : aT κ w b e p) {i g cap : Nat} {x : Lk.Ow} (hx : e.own[i]? = some x) (hg : p.wv = .slice (some ⟨g, 0, none⟩) e.own.length cap) (j : Nat) (v : Value) (y : Lk.Ow) (hj : j < 4) (hv : (rwV x).set j v = rwV y) :
 aT κ (w.setCell ⟨g, i * 4 + j, none⟩ v) b { e with own := e.own.set i y } p ∧ Only (aI b p) w (w.setCell ⟨g, i * 4 + j, none⟩ v) := by
 have ho := h.own
 rw [hg] at ho
 have hO : Only (fun i => p.wv.ownBlock = some i) w (w.setCell ⟨g, i * 4 + j, none⟩ v) := (Only.refl _ w).set g _ v (fun _ => by rw [hg]; rfl)
 have := vX rwV (fun _ => rfl) ho hx hj hv
 exact ⟨h.Rf (by rw [hg]; exact this) hO, hO.mono (fun i hi => .inr (.inr (.inr (.inr (.inr (.inr (.inr (.inl hi))))))))⟩
theorem aT.MJ {w : World} {b : Nat} {e : Lk.En} {p : RP} (h : aT κ w b e p) {i : Nat} {x : Lk.Ot} (hx : e.oth[i]? = some x) : ∃ g cap, p.tv = .slice (some ⟨g, 0, none⟩) e.oth.length cap ∧ g < w.heap.size ∧ e.oth.length <= cap ∧ w.cell? ⟨g, i * 5, none⟩ = some (.int .i64 (x.id : Int)) ∧ w.cell? ⟨g, i * 5 + 1, none⟩ = some (.int .i64 (x.cr : Int)) ∧ w.cell? ⟨g, i * 5 + 2, none⟩ = some (.int .i64 (x.held : Int)) ∧ w.cell? ⟨g, i * 5 + 3, none⟩ = some (.bool x.opn) ∧ w.cell? ⟨g, i * 5 + 4, none⟩ = some (.bool x.drp) ∧ (∀ j, w.frozen? ⟨g, j, none⟩ = false) ∧ g ≠ b := by
 obtain ⟨g, cap, h1, _, h2, h3, h4, h5⟩ := ed rtV (fun _ => rfl) h.oth hx
 exact ⟨g, cap, h1, h2, h3, h4 0 (by omega), h4 1 (by omega), h4 2 (by omega), h4 3 (by omega), h4 4 (by omega), h5, h.apart.2.2.2.2.2.2.2 g (by rw [h1]; rfl)⟩
theorem aT.Rh {w : World} {b : Nat} {e : Lk.En} {p : RP} (h : aT κ w b e p) {i : Nat} {x : Lk.Ow} (hx : e.own[i]? = some x) : ∃ g cap, p.wv = .slice (some ⟨g, 0, none⟩) e.own.length cap ∧ g < w.heap.size ∧ e.own.length <= cap ∧ w.cell? ⟨g, i * 4, none⟩ = some (.int .i64 (x.id : Int)) ∧ w.cell? ⟨g, i * 4 + 1, none⟩ = some (.string (bs x.left)) ∧ w.cell? ⟨g, i * 4 + 2, none⟩ = some (.int .i64 (x.cr : Int)) ∧ w.cell? ⟨g, i * 4 + 3, none⟩ = some (.bool x.done) ∧ (∀ j, w.frozen? ⟨g, j, none⟩ = false) ∧ g ≠ b := by
 obtain ⟨g, cap, h1, _, h2, h3, h4, h5⟩ := ed rwV (fun _ => rfl) h.own hx
 exact ⟨g, cap, h1, h2, h3, h4 0 (by omega), h4 1 (by omega), h4 2 (by omega), h4 3 (by omega), h5, h.apart.2.2.2.2.2.2.1 g (by rw [h1]; rfl)⟩
theorem aj.on {w w1 w2 : World} {b : Nat} {p : RP} {e2 : Lk.En} (hO : Only (aI b p) w w1) (h : aj κ w1 b p e2 w2) : aj κ w b p e2 w2 := aj.trans (fun _ hi => .inl hi) hO h
theorem aj.drew {w w2 : World} {b : Nat} {p : RP} {e2 : Lk.En} {n : Nat} (h : aj κ (w.drewN n) b p e2 w2) : aj κ w b p e2 w2 := h.on ((Only.refl _ w).drewN n)
theorem Only.CG {S : Nat -> Prop} {a b : World} {n : Nat} (h : Only S (a.drewN n) b) : Only S a b := ⟨h.os, h.tape, h.output, h.size, h.block⟩
theorem sV (b : Nat) (e : Lk.En) (p : RP) (n : Nat) (w : World) (h : aT κ w b e p) (hn : n <= 200) (hr : e.room <= 400) (hl : e.row.length <= 2 ^ 42) :
 Calls Tryz.prog 165 #[.pointer (some ⟨b, 0, none⟩), .int .i64 (n : Int)] w fun r w' => r = .returned (.tuple #[]) ∧ aj κ w b p (e.back n) w' := by
 by_cases h0 : 0 < n
 . have h0' : (0 : Int) < n := by omega
   have hbk : e.back n = ({ e with room := e.room + n } : Lk.En).send 4 0 (Lk.wire n) := by unfold Lk.En.back; rw [if_pos h0]
   rw [hbk]
   have c9 : w.cell? ⟨b, 9, none⟩ = some (.int .i64 (e.room : Int)) := h.blk.cell 9
   have f9 := h.blk.free 9
   have hbl := h.blk.lt
   have hs := h.set (e' := { e with room := e.room + n }) 9 (.int .i64 ((e.room + n : Nat) : Int)) rfl rfl rfl rfl rfl rfl (fun x => ⟨x, rfl⟩)
   have hO : Only (aI b p) w (w.setCell ⟨b, 9, none⟩ (.int .i64 ((e.room + n : Nat) : Int))) := (Only.refl _ w).set b 9 _ (fun _ => .inl rfl)
   have e1 : (e.room : Int) + n = ((e.room + n : Nat) : Int) := by omega
   have hu : ((e.room + n : Nat) : Int) <= 1000 := by omega
   have hu0 : (0 : Int) <= ((e.room + n : Nat) : Int) := by omega
   have HN := hide (fun W => eu n (n : Int) W rfl (by omega))
   have HS := hide (fun W hb => fV b { e with room := e.room + n } p 4 0 (Lk.wire n) W (hs.below hb) (Lk.cO 0 n (by omega) (by omega)) hl)
   have HO := hide hO
   generalize ((e.room + n : Nat) : Int) = RR at *
   generalize (e.room : Int) = R0 at *
   have Wp : (n : Int) <= 200 := by omega
   clear h hs hO hbk
   go_enter Tryz.func165, Tryz.ntmps165
   go_wp2_with fail
   refine (uh HN _).mono ?_
   rintro r w1 ⟨rfl, hb1⟩
   have HS1 := hide (uh HS w1 hb1)
   have HB := hide hb1
   clear hb1
   go_wp2_with fail
   refine (uh HS1).mono ?_
   rintro r w2 ⟨rfl, hP⟩
   have HF := hide ((aj.before (uh HB) hP).on (uh HO))
   clear hP
   go_wp2_with fail
   go_end0
   exact ⟨rfl, uh HF⟩
 . have h0' : ¬ (0 : Int) < n := by omega
   have hbk : e.back n = e := by unfold Lk.En.back; rw [if_neg h0]
   rw [hbk]
   have HP := hide (aj.same h)
   clear h
   go_enter Tryz.func165, Tryz.ntmps165
   go_wp2_with fail
   go_end0
   exact ⟨rfl, uh HP⟩
theorem xW (b : Nat) (e : Lk.En) (p : RP) (w : World) (h : aT κ w b e p) (hw : Lk.Wf e) (hl : e.row.length <= 2 ^ 42) :
 Calls Tryz.prog 161 #[.pointer (some ⟨b, 0, none⟩)] w fun r w' => r = .returned (.tuple #[]) ∧ aj κ w b p e.bye w' := by
 have hlen := hw.wE
 have hbl := h.blk.lt
 have c7 : w.cell? ⟨b, 7, none⟩ = some p.tv := h.blk.cell 7
 have hlast : e.bT <= 268435455 := by
  unfold Lk.En.bT
  cases hg : e.oth.getLast? with
  | none => simp
  | some o =>
    obtain ⟨i, hi⟩ := List.getElem?_of_mem (List.mem_of_getLast? hg)
    exact (hw.oth i o hi).oL
 have HN := hide (fun W (z : Int) (hz : z = (e.bT : Int)) => eu e.bT z W hz hlast)
 have HS := hide (fun W (hR : aT κ W b e p) => fV b e p 7 0 (Lk.wire e.bT) W hR (Lk.qU e.bT hlast) hl)
 have jD : Hid (∀ w1 w2, Only (aI b p) w w1 -> aj κ w1 b p (e.send 7 0 (Lk.wire e.bT)) w2 -> aj κ w b p e.bye (w2.setCell ⟨b, 11, none⟩ (.bool true)) ∧ w2.frozen? ⟨b, 11, none⟩ = false ∧ b < w2.heap.size ∧ (w2.cell? ⟨b, 11, none⟩).isSome = true) := by
  intro w1 w2 hO hP
  obtain ⟨p', h1, h2, h3⟩ := hP.on hO
  have hs := h1.set (e' := e.bye) 11 (.bool true) rfl rfl rfl rfl rfl rfl (fun x => ⟨x, rfl⟩)
  refine ⟨⟨p', hs, h2, h3.set b 11 _ (fun _ => .inl rfl)⟩, h1.blk.free 11, h1.blk.lt, ?_⟩
  rw [h1.blk.cell 11]
  rfl
 by_cases h0 : e.oth = []
 . have hz : e.bT = 0 := by unfold Lk.En.bT; rw [h0]; rfl
   have hv : p.tv = .slice none 0 0 ∨ ∃ a cap, p.tv = .slice a 0 cap := by
    obtain ⟨a, cap, hv⟩ := aJ h.oth
    rw [h0] at hv
    exact .inr ⟨a, cap, hv⟩
   obtain ⟨a, cap, hv⟩ : ∃ a cap, p.tv = .slice a 0 cap := by
    rcases hv with hv | hv
    . exact ⟨_, _, hv⟩
    . exact hv
   rw [hv] at c7
   have HE := hide h
   have HZ := hide hz
   clear h hz h0 hv
   go_enter Tryz.func161, Tryz.ntmps161
   go_wp2_with fail
   refine (uh HN _ _ (by rw [uh HZ]; rfl)).mono ?_
   rintro r w1 ⟨rfl, hb1⟩
   have HS1 := hide (uh HS w1 ((uh HE).below hb1))
   have HB := hide hb1
   clear hb1
   go_wp2_with fail
   refine (uh HS1).mono ?_
   rintro r w2 ⟨rfl, hP⟩
   obtain ⟨k1, k2, k3, k4⟩ := uh jD w1 w2 (Only.of_below (uh HB) _) hP
   obtain ⟨ov, k4⟩ := Option.isSome_iff_exists.1 k4
   have HF := hide k1
   clear hP k1
   go_wp2_with fail
   go_end0
   exact ⟨rfl, uh HF⟩
 . have hpos : 0 < e.oth.length := List.length_pos_iff.2 h0
   have hlt : e.oth.length - 1 < e.oth.length := by omega
   have hx : e.oth[e.oth.length - 1]? = some e.oth[e.oth.length - 1] := List.getElem?_eq_getElem hlt
   obtain ⟨g, cap, hv, hgl, hcap, x0, _⟩ := h.MJ hx
   have hz : (e.oth[e.oth.length - 1].id : Int) = (e.bT : Int) := by
    unfold Lk.En.bT
    rw [List.getLast?_eq_getElem?, hx]
   rw [hv] at c7
   have hpos' : (0 : Int) < e.oth.length := by omega
   have hidx : ((e.oth.length : Int) - 1) = ((e.oth.length - 1 : Nat) : Int) := by omega
   have XT : ((e.oth.length - 1 : Nat) : Int) < e.oth.length := by omega
   have HE := hide h
   have HZ := hide hz
   generalize (e.oth[e.oth.length - 1].id : Int) = ID at *
   generalize e.oth.length - 1 = J at *
   clear h hz h0 hv hx
   go_enter Tryz.func161, Tryz.ntmps161
   go_wp2_with fail
   go_quiet (fail)
   go_wp2_with fail
   refine (uh HN _ _ (uh HZ)).mono ?_
   rintro r w1 ⟨rfl, hb1⟩
   have HS1 := hide (uh HS w1 (((uh HE).below (Below.refl _ _ : Below w.heap.size w w)).only ((Only.of_below hb1 (fun _ => False)).CG) (fun _ _ x => x)))
   have HB := hide hb1
   clear hb1
   go_wp2_with fail
   refine (uh HS1).mono ?_
   rintro r w2 ⟨rfl, hP⟩
   obtain ⟨k1, k2, k3, k4⟩ := uh jD w1 w2 ((Only.of_below (uh HB) _).CG) hP
   obtain ⟨ov, k4⟩ := Option.isSome_iff_exists.1 k4
   have HF := hide k1
   clear hP k1
   go_wp2_with fail
   go_end0
   exact ⟨rfl, uh HF⟩
theorem CJ {n : Nat} (h : n = 0) : ((n : Int) != 0) = false := by rw [h]; rfl
theorem zY {n : Nat} (h : n ≠ 0) : ((n : Int) != 0) = true := by simp; omega
theorem Js (b : Nat) (e : Lk.En) (p : RP) (t : ByteArray) (w : World) (h : aT κ w b e p) (hl : e.row.length <= 2 ^ 42) :
 Calls Tryz.prog 113 #[.pointer (some ⟨b, 0, none⟩), .string t] w fun r w' => r = .returned (.int .i64 ((e.iy t.data.toList).1 : Int)) ∧ aj κ w b p (e.iy t.data.toList).2 w' := by
 have c13 : w.cell? ⟨b, 13, none⟩ = some (.int .i64 (e.down : Int)) := h.blk.cell 13
 have hbl := h.blk.lt
 have HSM := hide (aj.same h)
 have hts := af t
 unfold Lk.En.iy
 by_cases hd : e.down = 0
 . rw [if_neg (by rw [hd]; simp)]
   have hd' := CJ hd
   by_cases h8 : t.data.toList.length = 8
   . rw [if_neg (by rw [h8]; simp)]
     have h8' : ((t.size : Int) != 8) = false := by simp; omega
     have htb : bs t.data.toList = t := by unfold bs; rfl
     have HS := hide (fV b e p 5 0 t.data.toList w h (Lk.iY 5 _ (.inl rfl) h8) hl)
     rw [htb] at HS
     generalize (e.down : Int) = DN at *
     clear h h8 hd hts HSM
     go_enter Tryz.func113, Tryz.ntmps113
     go_wp2_with fail
     refine (uh HS).mono ?_
     rintro r w1 ⟨rfl, hP⟩
     have HP := hide hP
     clear hP
     go_wp2_with fail
     go_ret
     exact ⟨rfl, uh HP⟩
   . rw [if_pos h8]
     have h8' : ((t.size : Int) != 8) = true := by simp; omega
     generalize (e.down : Int) = DN at *
     clear h h8 hd hts
     go_enter Tryz.func113, Tryz.ntmps113
     go_wp2_with fail
     go_ret
     exact ⟨rfl, uh HSM⟩
 . rw [if_pos hd]
   have hd' := zY hd
   generalize (e.down : Int) = DN at *
   clear h hd hts
   go_enter Tryz.func113, Tryz.ntmps113
   go_wp2_with fail
   go_ret
   exact ⟨rfl, uh HSM⟩
theorem Jt (b : Nat) (e : Lk.En) (p : RP) (w : World) (h : aT κ w b e p) (hw : Lk.Wf e) (hl : e.row.length <= 2 ^ 42) :
 Calls Tryz.prog 114 #[.pointer (some ⟨b, 0, none⟩)] w fun r w' => r = .returned (.int .i64 (e.iC.1 : Int)) ∧ aj κ w b p e.iC.2 w' := by
 have c13 : w.cell? ⟨b, 13, none⟩ = some (.int .i64 (e.down : Int)) := h.blk.cell 13
 have c11 : w.cell? ⟨b, 11, none⟩ = some (.bool e.iH) := h.blk.cell 11
 have hbl := h.blk.lt
 have HSM := hide (aj.same h)
 have HS := hide (xW b e p w h hw hl)
 unfold Lk.En.iC
 by_cases hd : e.down = 0
 . rw [if_neg (by rw [hd]; simp)]
   have hd' := CJ hd
   cases hb : e.iH with
   | true =>
     rw [if_pos rfl]
     rw [hb] at c11
     generalize (e.down : Int) = DN at *
     clear h hd hb
     go_enter Tryz.func114, Tryz.ntmps114
     go_wp2_with fail
     go_ret
     exact ⟨rfl, uh HSM⟩
   | false =>
     rw [if_neg (by simp)]
     rw [hb] at c11
     generalize (e.down : Int) = DN at *
     clear h hd hb HSM
     go_enter Tryz.func114, Tryz.ntmps114
     go_wp2_with fail
     refine (uh HS).mono ?_
     rintro r w1 ⟨rfl, hP⟩
     have HP := hide hP
     clear hP
     go_wp2_with fail
     go_ret
     exact ⟨rfl, uh HP⟩
 . rw [if_pos hd]
   have hd' := zY hd
   generalize (e.down : Int) = DN at *
   clear h hd
   go_enter Tryz.func114, Tryz.ntmps114
   go_wp2_with fail
   go_ret
   exact ⟨rfl, uh HSM⟩
theorem zZ (b : Nat) (e : Lk.En) (p : RP) (k n : Int) (w : World) (h : aT κ w b e p) (hw : Lk.Wf e) (hl : e.row.length <= 2 ^ 41) :
 Calls Tryz.prog 111 #[.pointer (some ⟨b, 0, none⟩), .int .i64 k, .int .i64 n] w fun r w' => r = .returned (.int .i64 ((e.aP k n).1 : Int)) ∧ aj κ w b p (e.aP k n).2 w' := by
 have c13 : w.cell? ⟨b, 13, none⟩ = some (.int .i64 (e.down : Int)) := h.blk.cell 13
 have c7 : w.cell? ⟨b, 7, none⟩ = some p.tv := h.blk.cell 7
 have hbl := h.blk.lt
 have HSM := hide (aj.same h)
 have Gl := hw.wE
 have HOT := hide (fun W (hR : aT κ W b e p) => lX b e p k W hR (by omega))
 have HE := hide h
 unfold Lk.En.aP
 by_cases hd : e.down = 0
 . rw [if_neg (by rw [hd]; simp)]
   have hd' := CJ hd
   by_cases hn : n < 1
   . rw [if_pos hn]
     generalize (e.down : Int) = DN at *
     clear h hd
     go_enter Tryz.func111, Tryz.ntmps111
     go_wp2_with fail
     go_ret
     exact ⟨rfl, uh HSM⟩
   . rw [if_neg hn]
     cases hix : Lk.bM e.oth k with
     | none =>
       simp only
       rw [hix] at HOT
       have HO1 := hide (uh HOT w h)
       generalize (e.down : Int) = DN at *
       clear h hd HOT
       go_enter Tryz.func111, Tryz.ntmps111
       go_wp2_with fail
       refine (uh HO1).mono ?_
       rintro r w1 ⟨rfl, rfl⟩
       simp only [ixO]
       go_wp2_with fail
       go_ret
       exact ⟨rfl, uh HSM⟩
     | some i =>
       simp only
       obtain ⟨o, ho, hid⟩ := Lk.bg hix
       rw [ho]
       simp only
       rw [hix] at HOT
       have HO1 := hide (uh HOT w h)
       have hok := hw.oth i o ho
       have hroom := hw.room
       have hw2 := hw.kN
       have hcr := hok.cr
       have hi : i < e.oth.length := (List.getElem?_eq_some_iff.1 ho).1
       obtain ⟨g, cap, hv, hgl, hcap, x0, x1, x2, x3, x4, hfz, hgb⟩ := h.MJ ho
       have hi' : (i : Int) < e.oth.length := by omega
       have hi0 : (0 : Int) <= i := by omega
       rw [hv] at c7
       by_cases hh : (o.held : Int) < n
       . rw [if_pos hh]
         generalize (e.down : Int) = DN at *
         generalize (o.held : Int) = HD at *
         clear h hd HOT hv hfz
         go_enter Tryz.func111, Tryz.ntmps111
         go_wp2_with fail
         refine (uh HO1).mono ?_
         rintro r w1 ⟨rfl, rfl⟩
         simp only [ixO]
         go_wp2_with fail
         go_ret
         exact ⟨rfl, uh HSM⟩
       . rw [if_neg hh]
         obtain ⟨m, rfl⟩ : ∃ m : Nat, n = m := ⟨n.toNat, by omega⟩
         rw [Int.toNat_natCast]
         have hm1 : 1 <= m := by omega
         have hm2 : m <= o.held := by omega
         obtain ⟨s1, s1o⟩ := h.fF ho hv 2 (.int .i64 ((o.held - m : Nat) : Int)) { o with held := o.held - m } (by omega) rfl
         have s2 := s1.set (e' := { e with oth := e.oth.set i { o with held := o.held - m }, room := e.room + m }) 9 (.int .i64 ((e.room + m : Nat) : Int)) rfl rfl rfl rfl rfl rfl (fun x => ⟨x, rfl⟩)
         have s2o : Only (aI b p) w (((w.setCell ⟨g, i * 5 + 2, none⟩ (.int .i64 ((o.held - m : Nat) : Int))).setCell ⟨b, 9, none⟩ (.int .i64 ((e.room + m : Nat) : Int))).drew) := (s1o.set b 9 _ (fun _ => .inl rfl)).drew
         have s3 : aT κ (((w.setCell ⟨g, i * 5 + 2, none⟩ (.int .i64 ((o.held - m : Nat) : Int))).setCell ⟨b, 9, none⟩ (.int .i64 ((e.room + m : Nat) : Int))).drew) b { e with oth := e.oth.set i { o with held := o.held - m }, room := e.room + m } p := s2.below ⟨rfl, rfl, rfl, Nat.le_refl _, fun _ _ => rfl⟩
         have c9 : w.cell? ⟨b, 9, none⟩ = some (.int .i64 (e.room : Int)) := h.blk.cell 9
         have f9 := h.blk.free 9
         have fg := hfz (i * 5 + 2)
         have e1 : (o.held : Int) - m = ((o.held - m : Nat) : Int) := by omega
         have e2 : (e.room : Int) + m = ((e.room + m : Nat) : Int) := by omega
         have hu1 : ((e.room + m : Nat) : Int) <= 1000 := by omega
         have hu2 : (0 : Int) <= ((e.room + m : Nat) : Int) := by omega
         have hu3 : (0 : Int) <= ((o.held - m : Nat) : Int) := by omega
         have hu4 : ((o.held - m : Nat) : Int) <= 1000 := by omega
         have hu5 : (o.held : Int) <= 1000 := by omega
         have hu6 : (m : Int) <= 1000 := by omega
         have hu7 : (1 : Int) <= m := by omega
         have kQ := hide (fun W => eu m (m : Int) W rfl (by omega))
         have HS1 := hide (fun W (hR : aT κ W b _ p) => fV b { e with oth := e.oth.set i { o with held := o.held - m }, room := e.room + m } p 4 0 (Lk.wire m) W hR (Lk.cO 0 m (by omega) (by omega)) (by show e.row.length <= _; omega))
         have HX := hide (⟨s3, s2o⟩ : _ ∧ _)
         have MK := hok.oL
         have hlt2 : i < (e.oth.set i { o with held := o.held - m }).length := by rw [List.length_set]; exact hi
         have ho2 : (e.oth.set i { o with held := o.held - m })[i]? = some { o with held := o.held - m } := List.getElem?_set_self hi
         have HAF : Hid (∀ w4 p4, aT κ w4 b (({ e with oth := e.oth.set i { o with held := o.held - m }, room := e.room + m } : Lk.En).send 4 0 (Lk.wire m)) p4 -> ∃ g4 cap4, w4.cell? ⟨b, 7, none⟩ = some (.slice (some ⟨g4, 0, none⟩) e.oth.length cap4) ∧ p4.tv = .slice (some ⟨g4, 0, none⟩) e.oth.length cap4 ∧ g4 < w4.heap.size ∧ e.oth.length <= cap4 ∧ b < w4.heap.size ∧ w4.cell? ⟨g4, i * 5 + 1, none⟩ = some (.int .i64 (o.cr : Int)) ∧ w4.cell? ⟨g4, i * 5 + 3, none⟩ = some (.bool o.opn) ∧ w4.frozen? ⟨g4, i * 5 + 1, none⟩ = false
          ∧ aT κ (w4.setCell ⟨g4, i * 5 + 1, none⟩ (.int .i64 ((o.cr + m : Nat) : Int))) b (({ e with oth := e.oth.set i { o with held := o.held - m, cr := o.cr + m }, room := e.room + m } : Lk.En).send 4 0 (Lk.wire m)) p4 ∧ Only (aI b p4) w4 (w4.setCell ⟨g4, i * 5 + 1, none⟩ (.int .i64 ((o.cr + m : Nat) : Int)))) := by
          intro w4 p4 h4
          have ho4 : (({ e with oth := e.oth.set i { o with held := o.held - m }, room := e.room + m } : Lk.En).send 4 0 (Lk.wire m)).oth[i]? = some { o with held := o.held - m } := ho2
          obtain ⟨g4, cap4, y0, y1, y2, y3, y4, y5, y6, y7, y8, y9⟩ := h4.MJ ho4
          obtain ⟨t1, t2⟩ := h4.fF ho4 y0 1 (.int .i64 ((o.cr + m : Nat) : Int)) { o with held := o.held - m, cr := o.cr + m } (by omega) rfl
          have hc : w4.cell? ⟨b, 7, none⟩ = some p4.tv := h4.blk.cell 7
          have hle : (({ e with oth := e.oth.set i { o with held := o.held - m }, room := e.room + m } : Lk.En).send 4 0 (Lk.wire m)).oth.length = e.oth.length := by show (e.oth.set i _).length = _; rw [List.length_set]
          rw [hle] at y0 y2
          rw [y0] at hc
          refine ⟨g4, cap4, hc, y0, y1, y2, h4.blk.lt, y4, y6, y8 _, ?_, t2⟩
          have hE : ({ (({ e with oth := e.oth.set i { o with held := o.held - m }, room := e.room + m } : Lk.En).send 4 0 (Lk.wire m)) with oth := (({ e with oth := e.oth.set i { o with held := o.held - m }, room := e.room + m } : Lk.En).send 4 0 (Lk.wire m)).oth.set i { o with held := o.held - m, cr := o.cr + m } } : Lk.En) = ({ e with oth := e.oth.set i { o with held := o.held - m, cr := o.cr + m }, room := e.room + m } : Lk.En).send 4 0 (Lk.wire m) := by
           simp [Lk.En.send, List.set_set]
          rw [hE] at t1
          exact t1
         have HS2 := hide (fun W p4 (hR : aT κ W b _ p4) => fV b (({ e with oth := e.oth.set i { o with held := o.held - m, cr := o.cr + m }, room := e.room + m } : Lk.En).send 4 0 (Lk.wire m)) p4 4 o.id (Lk.wire m) W hR (Lk.cO o.id m MK (by omega)) (by show (e.row ++ [_]).length <= _; rw [List.length_append, List.length_singleton]; omega))
         have hcr2 : ((o.cr + m : Nat) : Int) <= 1000 := by omega
         have hcr3 : (0 : Int) <= ((o.cr + m : Nat) : Int) := by omega
         have e3 : (o.cr : Int) + m = ((o.cr + m : Nat) : Int) := by omega
         have hh' : decide ((o.held : Int) < (m : Int)) = false := by simpa using hh
         have hgb' : b ≠ g := Ne.symm hgb
         subst hid
         generalize hHM : ((o.held - m : Nat) : Int) = HM at *
         generalize hRM : ((e.room + m : Nat) : Int) = RM at *
         generalize hCM : ((o.cr + m : Nat) : Int) = CM at *
         generalize (e.down : Int) = DN at *
         generalize (o.held : Int) = HD at *
         generalize (e.room : Int) = R0 at *
         generalize (o.cr : Int) = CR at *
         clear h hd HOT hv hfz hHM hRM hCM hh s1 s2 s3 s1o s2o hok hroom hw hw2 hcr ho ho2 HSM hix
         cases hop : o.opn with
         | false =>
           have hR : Hid ((({ e with oth := e.oth.set i (o.eat m), room := e.room + m } : Lk.En).send 4 0 (Lk.wire m)) = ({ e with oth := e.oth.set i { o with held := o.held - m }, room := e.room + m } : Lk.En).send 4 0 (Lk.wire m)) := by
            have : o.eat m = { o with held := o.held - m } := by unfold Lk.Ot.eat; rw [hop]; rfl
            rw [this]
            exact rfl
           rw [if_neg (by simp)]
           have HOP := hide hop
           clear hop
           go_enter Tryz.func111, Tryz.ntmps111
           go_wp2_with fail
           refine (uh HO1).mono ?_
           rintro r w1 ⟨rfl, rfl⟩
           simp only [ixO]
           go_wp2_with fail
           go_region
           go_wp2_with fail
           refine (uh kQ _).mono ?_
           rintro r w3 ⟨rfl, hb3⟩
           obtain ⟨s3, s2o⟩ := uh HX
           have HS3 := hide (uh HS1 w3 (s3.below hb3))
           have HO3 := hide (s2o.below hb3)
           clear s3 s2o hb3
           go_wp2_with fail
           refine (uh HS3).mono ?_
           rintro r w4 ⟨rfl, hP⟩
           obtain ⟨p4, h4, h4f, h4o⟩ := aj.on (uh HO3) hP
           obtain ⟨g4, cap4, z1, z2, z3, z4, z5, z6, z7, z8, z9, z10⟩ := uh HAF w4 p4 h4
           rw [uh HOP] at z7
           have HF := hide (⟨p4, h4, h4f, h4o⟩ : aj κ _ b p _ w4)
           clear hP h4 h4f h4o z2 z9 z10
           go_wp2_with fail
           go_ret
           exact ⟨rfl, by rw [uh hR]; exact uh HF⟩
         | true =>
           have hR : Hid ((({ e with oth := e.oth.set i (o.eat m), room := e.room + m } : Lk.En).send 4 0 (Lk.wire m)) = ({ e with oth := e.oth.set i { o with held := o.held - m, cr := o.cr + m }, room := e.room + m } : Lk.En).send 4 0 (Lk.wire m)) := by
            have : o.eat m = { o with held := o.held - m, cr := o.cr + m } := by unfold Lk.Ot.eat; rw [hop]; rfl
            rw [this]
            exact rfl
           rw [if_pos rfl]
           have HOP := hide hop
           clear hop
           go_enter Tryz.func111, Tryz.ntmps111
           go_wp2_with fail
           refine (uh HO1).mono ?_
           rintro r w1 ⟨rfl, rfl⟩
           simp only [ixO]
           go_wp2_with fail
           go_region
           go_wp2_with fail
           refine (uh kQ _).mono ?_
           rintro r w3 ⟨rfl, hb3⟩
           obtain ⟨s3, s2o⟩ := uh HX
           have HS3 := hide (uh HS1 w3 (s3.below hb3))
           have HO3 := hide (s2o.below hb3)
           clear s3 s2o hb3
           go_wp2_with fail
           refine (uh HS3).mono ?_
           rintro r w4 ⟨rfl, hP⟩
           obtain ⟨p4, h4, h4f, h4o⟩ := aj.on (uh HO3) hP
           obtain ⟨g4, cap4, z1, z2, z3, z4, z5, z6, z7, z8, z9, z10⟩ := uh HAF w4 p4 h4
           rw [uh HOP] at z7
           have HX4 := hide (⟨z9, z10, h4f, h4o⟩ : _ ∧ _ ∧ _ ∧ _)
           clear hP h4 h4f h4o z2 z9 z10
           go_wp2_with fail
           go_region
           go_wp2_with fail
           refine (uh kQ _).mono ?_
           rintro r w5 ⟨rfl, hb5⟩
           obtain ⟨z9, z10, h4f, h4o⟩ := uh HX4
           have z9' := (z9.below (w' := (w4.setCell ⟨g4, i * 5 + 1, none⟩ (.int .i64 CM)).drew) ⟨rfl, rfl, rfl, Nat.le_refl _, fun _ _ => rfl⟩).below hb5
           have HS5 := hide (uh HS2 w5 p4 z9')
           have HO5 := hide (⟨(z10.drew).below hb5, h4f, h4o⟩ : _ ∧ _ ∧ _)
           clear z9 z10 h4f h4o z9' hb5
           go_wp2_with fail
           refine (uh HS5).mono ?_
           rintro r w6 ⟨rfl, hP⟩
           obtain ⟨k1, k2, k3⟩ := uh HO5
           have HF := hide (aj.trans k2 k3 (aj.on k1 hP))
           clear hP k1 k2 k3
           go_wp2_with fail
           go_ret
           exact ⟨rfl, by rw [uh hR]; exact uh HF⟩
 . rw [if_pos hd]
   have hd' := zY hd
   generalize (e.down : Int) = DN at *
   clear h hd
   go_enter Tryz.func111, Tryz.ntmps111
   go_wp2_with fail
   go_ret
   exact ⟨rfl, uh HSM⟩
theorem uf (c : UInt8) (w : World) : Calls Tryz.prog 175 #[.int .u8 c.toNat] w fun e w' => e = .returned (.bool (Lk.aG c)) ∧ w' = w := by
 rw [qx]
 go_enter Tryz.func175, Tryz.ntmps175
 go_wp2
 all_goals go_ret
 all_goals refine ⟨aH ?_, rfl⟩
 all_goals first | rfl | (rw [Bool.eq_iff_iff]; simp <;> omega)
theorem lK (c : UInt8) (w : World) : Calls Tryz.prog 176 #[.int .u8 c.toNat] w fun e w' => e = .returned (.bool (Lk.aB c)) ∧ w' = w := by
 rw [oq]
 go_enter Tryz.func176, Tryz.ntmps176
 go_wp2
 all_goals go_ret
 all_goals refine ⟨aH ?_, rfl⟩
 all_goals first | rfl | (rw [Bool.eq_iff_iff]; simp <;> omega)
theorem PZ (n v : ByteArray) : Lk.good ⟨n.data.toList, v.data.toList⟩ = ((decide (1 <= n.size ∧ n.size <= 16) && n.data.toList.all Lk.aG) && (decide (v.size <= 32) && v.data.toList.all Lk.aB)) := by
 rw [af n, af v]
 rfl
theorem Di (n v : ByteArray) (w : World) (hb : ¬ (1 <= n.size ∧ n.size <= 16) ∨ ¬ v.size <= 32) :
 Calls Tryz.prog 149 #[.agg #[.string n, .string v]] w fun e w' => e = .returned (.bool false) ∧ Below w.heap.size w w' := by
 by_cases h1 : (n.size : Int) < 1
 . go_enter Tryz.func149, Tryz.ntmps149
   go_wp2_with fail
   go_ret
   exact ⟨rfl, by ((repeat' (first | exact Below.refl _ _ | assumption | apply Below.drew | apply Below.alloc | apply Below.setCell)) <;> (simp <;> omega))⟩
 . by_cases h2 : 16 < (n.size : Int)
   . go_enter Tryz.func149, Tryz.ntmps149
     go_wp2_with fail
     go_ret
     exact ⟨rfl, by ((repeat' (first | exact Below.refl _ _ | assumption | apply Below.drew | apply Below.alloc | apply Below.setCell)) <;> (simp <;> omega))⟩
   . have h3 : 32 < (v.size : Int) := by omega
     have h1' : 1 <= (n.size : Int) := by omega
     go_enter Tryz.func149, Tryz.ntmps149
     go_wp2_with fail
     go_ret
     exact ⟨rfl, by ((repeat' (first | exact Below.refl _ _ | assumption | apply Below.drew | apply Below.alloc | apply Below.setCell)) <;> (simp <;> omega))⟩
theorem GV (n v : ByteArray) (w : World) (hn1 : 1 <= n.size) (hn2 : n.size <= 16) (hv : v.size <= 32) (A : Bool) (HA : Hid ((n.data.toList.all Lk.aG && v.data.toList.all Lk.aB) = A)) :
 Calls Tryz.prog 149 #[.agg #[.string n, .string v]] w fun e w' => e = .returned (.bool A) ∧ Below w.heap.size w w' := by
 have i1 : ¬ (n.size : Int) < 1 := by omega
 have i2 : ¬ 16 < (n.size : Int) := by omega
 have i3 : ¬ 32 < (v.size : Int) := by omega
 have hbel := (Below.refl w.heap.size w).alloc (Nat.le_refl _) (.cells #[.string n, .string v] 206)
 go_enter Tryz.func149, Tryz.ntmps149
 go_wp2_with fail
 go_loopw [3] (fun u wr => ∃ k : Nat, u = .int .i64 k ∧ k <= n.size ∧ Hid (∀ j (hj : j < n.size), j < k -> Lk.aG n[j] = true) ∧ wr = w.alloc (.cells #[.string n, .string v] 206)) (fun u _ => n.size - (intOf u).toNat)
 case atStart => exact ⟨0, rfl, by omega, fun j hj h => by omega, rfl⟩
 case round =>
  obtain ⟨k, rfl, hk, HK, rfl⟩ := hrel
  by_cases hlt : k < n.size
  . have hlt' : (k : Int) < n.size := by omega
    generalize hq : Lk.aG n[k] = Q
    have HQ := hide hq
    have HC := hide (show ∀ w, Calls Tryz.prog 175 #[.int .u8 n[k].toNat] w fun e w' => e = .returned (.bool Q) ∧ w' = w from fun w => by rw [<- hq]; exact uf n[k] w)
    clear hq
    go_wp2_with fail
    refine (uh HC _).mono ?_
    rintro e w' ⟨rfl, rfl⟩
    cases Q
    . go_wp2_with fail
      go_ret
      refine ⟨aH ?_, hbel⟩
      rw [<- uh HA, yt n Lk.aG k hlt (uh HQ)]
      rfl
    . go_wp2_with fail
      go_roundw
      case rel => exact ⟨k + 1, by simp, by omega, fun j hj h => (Nat.lt_succ_iff_lt_or_eq.1 h).elim (fun h => uh HK j hj h) (fun h => by subst h; exact uh HQ), trivial⟩
      case measure => simp [intOf]; omega
  . have hlt' : ¬ (k : Int) < n.size := by omega
    have hall := EU n Lk.aG (fun j hj => (uh HK) j hj (by omega))
    have Ji := hide hall
    clear hall
    go_wp2_with fail
    go_loopw [4] (fun u wr => ∃ k : Nat, u = .int .i64 k ∧ k <= v.size ∧ Hid (∀ j (hj : j < v.size), j < k -> Lk.aB v[j] = true) ∧ wr = w.alloc (.cells #[.string n, .string v] 206)) (fun u _ => v.size - (intOf u).toNat)
    case atStart => exact ⟨0, rfl, by omega, fun j hj h => by omega, rfl⟩
    case round =>
     obtain ⟨i, rfl, hi, HI, rfl⟩ := hrel
     by_cases hlt : i < v.size
     . have hlt' : (i : Int) < v.size := by omega
       generalize hq : Lk.aB v[i] = Q
       have HQ := hide hq
       have HC := hide (show ∀ w, Calls Tryz.prog 176 #[.int .u8 v[i].toNat] w fun e w' => e = .returned (.bool Q) ∧ w' = w from fun w => by rw [<- hq]; exact lK v[i] w)
       clear hq
       go_wp2_with fail
       refine (uh HC _).mono ?_
       rintro e w' ⟨rfl, rfl⟩
       cases Q
       . go_wp2_with fail
         go_ret
         refine ⟨aH ?_, hbel⟩
         rw [<- uh HA, yt v Lk.aB i hlt (uh HQ), Bool.and_false]
       . go_wp2_with fail
         go_roundw
         case rel => exact ⟨i + 1, by simp, by omega, fun j hj h => (Nat.lt_succ_iff_lt_or_eq.1 h).elim (fun h => uh HI j hj h) (fun h => by subst h; exact uh HQ), trivial⟩
         case measure => simp [intOf]; omega
     . have hlt' : ¬ (i : Int) < v.size := by omega
       go_wp2_with fail
       go_ret
       refine ⟨aH ?_, hbel⟩
       rw [<- uh HA, uh Ji, EU v Lk.aB (fun j hj => (uh HI) j hj (by omega))]
       rfl
theorem Dj (h : Lk.Hd) (Q : Bool) (hq : Hid (Lk.good h = Q)) (w : World) :
 Calls Tryz.prog 149 #[hdA h] w fun e w' => e = .returned (.bool Q) ∧ Below w.heap.size w w' := by
 have e := PZ (bs h.n) (bs h.v)
 rw [fJ, fJ, ax, ax] at e
 have e2 : Lk.good h = Lk.good ⟨h.n, h.v⟩ := rfl
 rw [<- e2, uh hq] at e
 by_cases hb : ¬ (1 <= (bs h.n).size ∧ (bs h.n).size <= 16) ∨ ¬ (bs h.v).size <= 32
 . have : Q = false := by
    rw [ax, ax] at hb
    rw [e]
    rcases hb with hb | hb
    . rw [decide_eq_false hb]; rfl
    . rw [decide_eq_false hb]; simp
   rw [this]
   exact Di (bs h.n) (bs h.v) w hb
 . simp only [not_or, Classical.not_not] at hb
   refine GV (bs h.n) (bs h.v) w hb.1.1 hb.1.2 hb.2 Q (hide ?_)
   rw [ax, ax] at hb
   rw [e, decide_eq_true hb.1, decide_eq_true hb.2, fJ, fJ]
   simp
theorem yx (B g cap : Nat) (l : List Lk.Hd) (w : World) (hl : l.length <= 6) (E P : Int) (HW : Hid ((Lk.di 0 l).1 = E ∧ (Lk.di 0 l).2 = P))
 (own : Hid (w.ownsRow B 206 2 (.slice (some ⟨g, 0, none⟩) l.length cap) l.length (aQ l))) :
 Calls Tryz.prog 101 #[.slice (some ⟨g, 0, none⟩) l.length cap] w fun e w' =>
  e = .returned (.tuple #[.int .i64 E, .int .i64 P]) ∧ Below w.heap.size w w' := by
 have hl6 : ¬ 6 < (l.length : Int) := by omega
 go_enter Tryz.func101, Tryz.ntmps101
 go_wp2_with fail
 go_loopw [4] (fun u wr => ∃ k : Nat, u = .int .i64 k ∧ k <= l.length ∧ Hid (Lk.di 0 l = Lk.di k (l.drop k)) ∧ Below w.heap.size w wr) (fun u _ => l.length - (intOf u).toNat)
 case atStart => exact ⟨0, rfl, by omega, rfl, Below.refl _ _⟩
 case round =>
  obtain ⟨k, rfl, hk, HK, hbel⟩ := hrel
  by_cases hlt : k < l.length
  . have hlt' : (k : Int) < l.length := by omega
    obtain ⟨x, hx⟩ : ∃ x, l[k]? = some x := ⟨_, List.getElem?_eq_getElem hlt⟩
    obtain ⟨hg2, x0, x1⟩ := jJ (jO (uh own) hbel (by omega)) hx
    have hdr : l.drop k = x :: l.drop (k + 1) := by
     rw [List.getElem?_eq_getElem hlt] at hx
     cases hx
     exact List.drop_eq_getElem_cons hlt
    have HD := hide hdr
    have hwr := hbel.size
    generalize hq : Lk.good x = Q
    have HQ := hide hq
    clear hx hdr hq
    go_wp2_with fail
    refine (Dj x Q HQ _).mono ?_
    rintro e w1 ⟨rfl, hb1⟩
    have iL := hbel.trans (hb1.mono hwr)
    clear x0 x1 hb1 hbel
    cases Q
    . go_wp2_with fail
      go_ret2
      have e := uh HK
      rw [uh HD, Lk.di, uh HQ] at e
      have e2 := uh HW
      rw [e] at e2
      obtain ⟨rfl, rfl⟩ := e2
      exact ⟨rfl, iL⟩
    . go_wp2_with fail
      go_roundw
      case rel =>
       refine ⟨k + 1, by simp, by omega, ?_, iL⟩
       have e := uh HK
       rw [uh HD, Lk.di, uh HQ] at e
       exact e
      case measure => simp [intOf]; omega
  . have hlt' : ¬ (k : Int) < l.length := by omega
    go_wp2_with fail
    go_ret2
    have e := uh HK
    rw [List.drop_eq_nil_of_le (by omega), Lk.di] at e
    have e2 := uh HW
    rw [e] at e2
    obtain ⟨rfl, rfl⟩ := e2
    exact ⟨rfl, hbel⟩
theorem yz (l cap : Nat) (ad : Option Addr) (w : World) (hl : 6 < (l : Int)) :
 Calls Tryz.prog 101 #[.slice ad l cap] w fun e w' => e = .returned (.tuple #[.int .i64 8, .int .i64 0]) ∧ Below w.heap.size w w' := by
 go_enter Tryz.func101, Tryz.ntmps101
 go_wp2_with fail
 go_ret2
 exact ⟨rfl, Below.refl _ _⟩
theorem yA (w : World) :
 Calls Tryz.prog 101 #[.slice none 0 0] w fun e w' => e = .returned (.tuple #[.int .i64 0, .int .i64 0]) ∧ Below w.heap.size w w' := by
 go_enter Tryz.func101, Tryz.ntmps101
 go_wp2_with fail
 refine wp_loop_rounds 1 ?_
 rw [rounds_succ]
 go_wp2_with fail
 go_ret2
 exact ⟨rfl, Below.refl _ _⟩
theorem lL (B : Nat) (v : Value) (l : List Lk.Hd) (w : World) (own : w.ownsRow B 206 2 v l.length (aQ l)) :
 Calls Tryz.prog 101 #[v] w fun e w' => e = .returned (.tuple #[.int .i64 (Lk.wrong l).1, .int .i64 (Lk.wrong l).2]) ∧ Below w.heap.size w w' := by
 rcases eP own with ⟨rfl, rfl⟩ | ⟨g, cap, rfl, _⟩
 . exact yA w
 . unfold Lk.wrong
   split
   . exact yz l.length cap _ w (by omega)
   . exact yx B g cap l w (by omega) _ _ (hide ⟨rfl, rfl⟩) (hide own)
namespace Lk
theorem oz : ∀ (l : List Hd) (i : Nat), (di i l).1 = 0 -> (di i l).2 = 0
 | [], i, _ => rfl
 | x :: l, i, h => by
   rw [di] at h ⊢
   split at h
   . rename_i hg
     rw [if_pos hg]
     exact oz l (i + 1) h
   . cases h
theorem wrong_place {l : List Hd} (h : (wrong l).1 = 0) : (wrong l).2 = 0 := by
 unfold wrong at h ⊢
 split at h
 . cases h
 . rename_i hl
   rw [if_neg hl]
   exact oz l 0 h
end Lk
theorem qC (B : Nat) (hB : B <= 200) (w : World) :
 Calls Tryz.prog 53 #[.int .i64 B] w fun e w' => ∃ t, e = .returned (.tuple #[.pointer (some ⟨t, 0, none⟩), .int .i64 0]) ∧ w.heap.size <= t ∧ RTab w' t B [] (.slice none 0 0) ∧ Below w.heap.size w w' := by
 have h1 : ¬ (B : Int) < 0 := by omega
 have h2 : ¬ 200 < (B : Int) := by omega
 go_enter Tryz.func53, Tryz.ntmps53
 go_wp2_with fail
 go_ret2
 exact ⟨_, rfl, Nat.le_refl _, ⟨Is.new w 196 [.int .i64 B, .slice none 0 0], World.ownsRow_nil _ _ _ _, by simp [Lk.weights], hB⟩, (Below.refl _ _).alloc (Nat.le_refl _) _⟩
theorem yB (n : Int) (hn : n < 0 ∨ 200 < n) (w : World) :
 Calls Tryz.prog 53 #[.int .i64 n] w fun e w' => e = .returned (.tuple #[.pointer none, .int .i64 1]) ∧ Below w.heap.size w w' := by
 by_cases h1 : n < 0
 . go_enter Tryz.func53, Tryz.ntmps53
   go_wp2_with fail
   go_ret2
   exact ⟨rfl, Below.refl _ _⟩
 . have h2 : 200 < n := by omega
   go_enter Tryz.func53, Tryz.ntmps53
   go_wp2_with fail
   go_ret2
   exact ⟨rfl, Below.refl _ _⟩
theorem lZ {w w' : World} {t B n : Nat} {v : Value} {xs cs : List Value} {T : TypeId} (h : w.ownsRow B 206 2 v n xs) (hI : Is w t T cs) (hT : T ≠ 206) (hb : Turns t w w') : w'.ownsRow B 206 2 v n xs :=
 h.kept hb (.inr (fun e => own_ne h hI hT e.symm))
theorem Ar (t B1 : Nat) (l : List Lk.Hd) (lv : Value) (w : World) (hw : (Lk.wrong l).1 ≠ 0) (own : w.ownsRow B1 206 2 lv l.length (aQ l)) :
 Calls Tryz.prog 60 #[.pointer (some ⟨t, 0, none⟩), lv] w fun e w' =>
  e = .returned (.tuple #[.string ⟨#[]⟩, .int .i64 (Lk.wrong l).1, .int .i64 (Lk.wrong l).2]) ∧ Below w.heap.size w w' := by
 have HO := hide own
 clear own
 generalize hE1 : (Lk.wrong l).1 = E at hw ⊢
 have hE : ((E : Int) != 0) = true := by rw [bne_iff_ne]; omega
 have HE := hide hE1
 clear hE1
 go_enter Tryz.func60, Tryz.ntmps60
 go_wp2_with fail
 refine (lL B1 lv l _ (uh HO)).mono ?_
 rintro e w1 ⟨he, hb⟩
 rw [uh HE] at he
 subst he
 go_wp2_with fail
 go_ret3
 exact ⟨rfl, hb⟩
theorem ug (t B B1 : Nat) (L l : List Lk.Hd) (v lv : Value) (w : World) (hT : RTab w t B L v) (hw : (Lk.wrong l).1 = 0) (own : w.ownsRow B1 206 2 lv l.length (aQ l)) :
 Calls Tryz.prog 60 #[.pointer (some ⟨t, 0, none⟩), lv] w fun e w' =>
  e = .returned (.tuple #[.string (bs (Lk.squeeze B L l).1), .int .i64 0, .int .i64 0]) ∧ (∃ v', RTab w' t B (Lk.squeeze B L l).2 v' ∧ (v' = v ∨ ∀ k, v'.ownBlock = some k -> w.heap.size <= k)) ∧ Turns t w w' := by
 have hok := Lk.xy hw
 have hl6 := hok.1
 obtain ⟨la, X7, hlv⟩ := aJ own
 subst hlv
 have HO := hide own
 have HT := hide hT
 have HG := hide hok.2
 have hw2 : (Lk.wrong l).2 = 0 := Lk.wrong_place hw
 clear own hT hok
 generalize hS : bs (Lk.squeeze B L l).1 = S
 have HS := hide hS
 clear hS
 go_enter Tryz.func60, Tryz.ntmps60
 go_wp2_with fail
 refine (lL B1 _ l _ (uh HO)).mono ?_
 rintro e w1 ⟨he, hb⟩
 rw [hw, hw2] at he
 subst he
 have HT1 := hide ((uh HT).below hb)
 have HO1 := hide (own_below (uh HO) hb)
 have hTb := Below.turns hb t
 have hsz1 := hb.size
 clear hb
 go_wp2_with fail
 go_loopw [9, 10] (fun s u wr => ∃ (k : Nat) (v' : Value), u = .int .i64 k ∧ k <= l.length ∧ s = .string (bs (Lk.squeeze B L (l.take k)).1) ∧ RTab wr t B (Lk.squeeze B L (l.take k)).2 v' ∧ Turns t w1 wr ∧ Hid (v' = v ∨ ∀ k, v'.ownBlock = some k -> w.heap.size <= k)) (fun _ u _ => l.length - (intOf u).toNat)
 case atStart => exact ⟨0, v, rfl, by omega, rfl, uh HT1, Turns.refl _ _, .inl rfl⟩
 case round =>
  obtain ⟨k, v', rfl, hk, rfl, hTk, hTu, HNV⟩ := hrel
  by_cases hlt : k < l.length
  . have hlt' : (k : Int) < l.length := by omega
    obtain ⟨x, hx⟩ : ∃ x, l[k]? = some x := ⟨_, List.getElem?_eq_getElem hlt⟩
    obtain ⟨g, gc, hform, _⟩ := (uh HO1).form (by omega)
    cases hform
    obtain ⟨hg2, x0, x1⟩ := jJ (lZ (uh HO1) (uh HT1).blk (nbq rfl) hTu) hx
    have hxg := Lk.yw ((uh HG) x (List.mem_of_getElem? hx))
    have hsl := Lk.kF B hTk.hB (l.take k) L (uh HT).le (fun y hy => (uh HG) y (List.mem_of_mem_take hy))
    rw [List.length_take] at hsl
    have hol := Lk.EX B (Lk.squeeze B L (l.take k)).2 x (by rw [Lk.nM]; have := hTk.len; omega) hxg.1 hxg.2
    have e := Lk.kV B (l.take k) L x
    rw [take_snoc hx] at e
    have e1 := congrArg Prod.fst e
    have e2 := congrArg Prod.snd e
    simp only at e1 e2
    have s1 := ax (Lk.squeeze B L (l.take k)).1
    have s2 := ax (Lk.lT B (Lk.squeeze B L (l.take k)).2 x).1
    have hres := lq (Lk.squeeze B L (l.take k)).1 (Lk.lT B (Lk.squeeze B L (l.take k)).2 x).1
    rw [<- e1] at hres
    have HC := hide (MB t B _ x v' wr hTk hxg.1 hxg.2 (Lk.lT B (Lk.squeeze B L (l.take k)).2 x).1 (Lk.lT B (Lk.squeeze B L (l.take k)).2 x).2 (hide rfl))
    rw [<- e2] at HC
    generalize bs (Lk.squeeze B L (l.take k)).1 = W1 at *
    generalize bs (Lk.lT B (Lk.squeeze B L (l.take k)).2 x).1 = W2 at *
    have hadd : W1.size + W2.size <= 9223372036854775807 := by omega
    have Oo := hide hres
    clear hres s1 s2 e e1 e2 hol hsl hTk hx
    go_wp2_with fail
    refine (uh HC).mono ?_
    rintro e w2 ⟨rfl, ⟨v2, hT2, hn2⟩, Om⟩
    have HN2 : Hid (v2 = v ∨ ∀ k, v2.ownBlock = some k -> w.heap.size <= k) := by
     rcases hn2 with rfl | hn2
     . exact uh HNV
     . exact .inr (fun k hk => by have := hn2 k hk; have := hTu.size; omega)
    clear hn2
    have HT2 := hide hT2
    clear hT2 x0 x1
    go_wp2_with fail
    go_roundw
    case rel => exact ⟨k + 1, v2, by simp, by omega, by rw [uh Oo], uh HT2, hTu.trans Om, HN2⟩
    case measure => simp [intOf]; omega
  . have hlt' : ¬ (k : Int) < l.length := by omega
    have hkl : k = l.length := by omega
    rw [hkl, List.take_length] at hTk
    have hSk : bs (Lk.squeeze B L (l.take k)).1 = S := by rw [hkl, List.take_length]; exact uh HS
    generalize bs (Lk.squeeze B L (l.take k)).1 = S' at *
    subst hSk
    have HTk := hide hTk
    clear hTk
    go_wp2_with fail
    go_ret3
    exact ⟨rfl, ⟨v', uh HTk, uh HNV⟩, hTb.trans hTu⟩
end Go.Proofs.YtbkpdapagfjmmaaGreatDoor

namespace Go.Proofs.YtbkpdapagfjmmaaGreatDoor.Lk
def up2 {α : Type} (f : Nat -> α) (k : Nat) (x : α) : Nat -> α := fun i => if i = k then x else f i
theorem ak {α : Type} (f : Nat -> α) (k : Nat) (x : α) : up2 f k x k = x := by simp [up2]
theorem ae {α : Type} (f : Nat -> α) {k i : Nat} (x : α) (h : i ≠ k) : up2 f k x i = f i := by simp [up2, h]
theorem OT {α : Type} (f : Nat -> α) (k : Nat) : up2 f k (f k) = f := by
 funext i
 unfold up2
 split
 . rename_i h; rw [h]
 . rfl
def zk (e : Nat -> En) (pp : Nat -> Bs) (k : Nat) : Nat := (e k).zm + zs (e k).rest + zs (pp k)
structure ES (e : Nat -> En) (pp : Nat -> Bs) (N : Nat) : Prop where
 wf : ∀ k, k < 2 -> Wf (e k)
 sm : zk e pp 0 + zk e pp 1 <= N
section
variable {e : Nat -> En} {pp : Nat -> Bs} {N k : Nat}
theorem ES.le (h : ES e pp N) (hk : k < 2) : (e k).zm + zs (e k).rest + zs (pp k) <= N := by
 have := h.sm
 have h2 : k = 0 ∨ k = 1 := by omega
 unfold zk at this
 rcases h2 with rfl | rfl <;> omega
theorem ES.later (h : ES e pp N) {M : Nat} (hm : N <= M) : ES e pp M := ⟨h.wf, Nat.le_trans h.sm hm⟩
theorem ES.one (h : ES e pp N) (hk : k < 2) {e' : En} {p' : Bs} {c : Nat} (hw : Wf e') (hc : e'.zm + zs e'.rest + zs p' <= (e k).zm + zs (e k).rest + zs (pp k) + c) : ES (up2 e k e') (up2 pp k p') (N + c) := by
 refine ⟨fun j hj => ?_, ?_⟩
 . by_cases hjk : j = k
   . subst hjk; rw [ak]; exact hw
   . rw [ae _ _ hjk]; exact h.wf j hj
 . have := h.sm
   unfold zk at *
   have h2 : k = 0 ∨ k = 1 := by omega
   rcases h2 with rfl | rfl
   . rw [ak, ak, ae _ _ (by omega), ae _ _ (by omega)]
     omega
   . rw [ak, ak, ae _ _ (by omega), ae _ _ (by omega)]
     omega
theorem ES.call (h : ES e pp N) (hk : k < 2) {e' : En} {c : Nat} (hw : Wf e') (hr : e'.rest = (e k).rest) (hc : e'.zm <= (e k).zm + c) : ES (up2 e k e') pp (N + c) := by
 have := h.one hk (p' := pp k) (c := c) hw (by rw [hr]; omega)
 rw [OT] at this
 exact this
theorem ES.drain (h : ES e pp N) (hk : k < 2) (n : Nat) : ES (up2 e k (En.drain n (e k)).2) (up2 pp k (pp k ++ (En.drain n (e k)).1)) N ∧ (En.drain n (e k)).1.length <= N := by
 have h1 := Fg n (h.wf k hk)
 have h2 := h.le hk
 have h3 := DK (En.drain n (e k)).1
 have hr : (En.drain n (e k)).2.rest = (e k).rest := (wC n (e k)).2.2
 refine ⟨h.one hk (c := 0) (Wf.drain n (h.wf k hk)).1 ?_, by omega⟩
 rw [hr, gm]
 omega
theorem ES.feed (h : ES e pp N) (hk : k < 2) (b : Bs) : ES (up2 e k ((e k).feed b).2) pp (N + (2 * b.length + 10)) := by
 have h1 := Ko (h.wf k hk) b
 have h2 := J8 b
 have := h.one hk (p' := pp k) (c := 2 * b.length + 10) ((h.wf k hk).feed b) (by omega)
 rw [OT] at this
 exact this
theorem ES.move (h : ES e pp N) {j : Nat} (hk : k < 2) (hj : j < 2) (hkj : k ≠ j) (b r : Bs) (hb : pp k = b ++ r) : ES (up2 e j ((e j).feed b).2) (up2 pp k r) (N + 10) := by
 have h1 := Ko (h.wf j hj) b
 have h3 := h.sm
 have hz : zs (pp k) = zs b + zs r := by rw [hb, gm]
 refine ⟨fun i hi => ?_, ?_⟩
 . by_cases hij : i = j
   . subst hij; rw [ak]; exact (h.wf i hj).feed b
   . rw [ae _ _ hij]; exact h.wf i hi
 . unfold zk at *
   have h2 : (k = 0 ∧ j = 1) ∨ (k = 1 ∧ j = 0) := by omega
   rcases h2 with ⟨rfl, rfl⟩ | ⟨rfl, rfl⟩
   . rw [ak, ak, ae _ _ (by omega), ae _ _ (by omega)]
     omega
   . rw [ak, ak, ae _ _ (by omega), ae _ _ (by omega)]
     omega
theorem ES.make (h : ES e pp N) (hk : k < 2) {s w : Nat} (hs : s <= 1) (h1 : 1 <= w) (h2 : w <= 200) : ES (up2 e k (En.new s w)) (up2 pp k []) (N + 12800) :=
 h.one hk (Wf.new hs h1 h2) (by rw [Ku]; show 12800 + zs [] + zs [] <= _; rw [xe]; omega)
theorem ES.start {w : Nat} (h1 : 1 <= w) (h2 : w <= 200) : ES (fun k => En.new k w) (fun _ => []) 25600 := by
 refine ⟨fun k hk => Wf.new (by omega) h1 h2, ?_⟩
 unfold zk
 rw [Ku, Ku]
 have : ∀ k, zs (En.new k w).rest = 0 := fun _ => rfl
 rw [this, this, xe]
 omega
end
end Go.Proofs.YtbkpdapagfjmmaaGreatDoor.Lk

namespace Go.Proofs.YtbkpdapagfjmmaaGreatDoor
open Go.RowKit
end Go.Proofs.YtbkpdapagfjmmaaGreatDoor
