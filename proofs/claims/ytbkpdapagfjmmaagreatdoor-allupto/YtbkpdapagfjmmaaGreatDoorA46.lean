import Derived.Test.YtbkpdapagfjmmaaGreatDoorA41
import Derived.Test.YtbkpdapagfjmmaaGreatDoorA45
set_option linter.unusedVariables false
set_option maxRecDepth 100000
set_option maxHeartbeats 16000000
namespace Go.Proofs.YtbkpdapagfjmmaaGreatDoor
open Go.RowKit
theorem EP.op {G : EG} {S : EV} {w : World} (h : EP G S w) (i : Nat) (hi : w.heap.size <= i) : ¬ mf G S i := fun hx => by have := h.at_ hx; omega
def EV.to (S : EV) (k : Nat) (e' : Lk.En) (d' : PD) (p' : RP) : EV := { S with e := Lk.up2 S.e k e', f := Lk.up2 S.f k e', d := Lk.up2 S.d k d', p := Lk.up2 S.p k p' }
theorem Bg (G : EG) (S : EV) (k : Nat) (t : ByteArray) (w : World) (h : EP G S w) (hk : k < 2) (hef : S.f k = S.e k) (ht : t.size <= 2 ^ 39) (hrow : (S.e k).row.length <= 2 ^ 39) :
 Calls Tryz.prog 66 #[.pointer (some ⟨G.M, 0, none⟩), .string t, .int .i64 k] w fun r w' => r = .returned (.bool true) ∧ ∃ d' p', df G S w (S.to k ((S.e k).feed t.data.toList).2 d' p') w' := by
 have HFE := hide (Sl (S.eb k) (S.e k) (S.d k) t w (h.pe k hk) h.fx ht)
 have m4 : w.cell? ⟨G.M, 4, none⟩ = some (.slice (some ⟨G.gE, 0, none⟩) 2 G.cE) := h.made.cell 4
 have eK := dQ h.ve hk
 have ml := h.made.lt
 have el : G.gE < w.heap.size := by obtain ⟨_, hx⟩ := h.ve; exact hx.lt
 obtain ⟨hc1, hc2, hc3⟩ := h.cap
 have hk2 : (k : Int) < 2 := by omega
 have hk0 : (0 : Int) <= k := by omega
 have HSZ := hide (⟨ht, hrow, hef⟩ : _ ∧ _ ∧ _)
 have hlen := (S.e k).MG t.data.toList
 have hok := (S.e k).xP t.data.toList
 have hwf := (h.pe k hk).wf
 have h72 : (S.e k).rest.length <= 72 := by
  have := Lk.lW (S.e k).rest (by rw [hwf.rest])
  rw [hwf.rest] at this
  exact this
 have Vy : ((S.e k).feed t.data.toList).1.length <= 2 ^ 41 := by
  have : t.data.toList.length = t.size := by rw [af]
  omega
 have HEV := hide (⟨Vy, hok⟩ : _ ∧ _)
 have HH := hide h
 generalize hFF : (S.e k).feed t.data.toList = FF at *
 clear h ht hrow hef hlen hok hwf h72 Vy
 have HFF := hide hFF
 clear hFF
 go_enter Tryz.func66, Tryz.ntmps66
 go_wp2_with fail
 refine (uh HFE).mono ?_
 rintro r w1 ⟨v, rfl, d1, evs, hm1, hPE, Bh, hsa, hft, hO⟩
 have h := uh HH
 obtain ⟨d', iQ⟩ := h.DW hk ⟨d1, hPE, hft, hO⟩
 have h1 := iQ.1
 have m5 : w1.cell? ⟨G.M, 5, none⟩ = some (.slice (some ⟨G.gF, 0, none⟩) 2 G.cF) := h1.made.cell 5
 have fK := dQ h1.vg hk
 have ml1 := h1.made.lt
 have fl : G.gF < w1.heap.size := by obtain ⟨_, hx⟩ := h1.vg; exact hx.lt
 have hRe := h1.re k hk
 have hFe : S.f k = S.e k := (uh HSZ).2.2
 have HRF : Hid (Calls Tryz.prog 108 #[.pointer (some ⟨S.rb k, 0, none⟩), .string t] w1 (fA True w1 (S.rb k) (S.p k) FF.2.down FF.2 FF.1)) := by
  have := Kw (S.rb k) (S.f k) (S.p k) t w1 hRe (by rw [hFe]; exact (h.pe k hk).wf) (uh HSZ).1 (by rw [hFe]; exact (uh HSZ).2.1)
  rw [hFe, uh HFF] at this
  exact this
 have HX := hide (⟨iQ, hm1, Bh⟩ : _ ∧ _ ∧ _)
 obtain ⟨va, vc, rfl⟩ := aJ Bh.row
 clear h hPE hsa hft hO iQ h1 hm1 Bh hRe hFe HFE m4 eK ml el
 go_wp2_with fail
 refine (uh HRF).mono ?_
 rintro r w2 ⟨v2, A7, p2, rfl, hm2, hS2, Xn, Vz, Nz, hO2⟩
 obtain ⟨iQ, hm1, Bh⟩ := uh HX
 obtain ⟨p', vw⟩ := iQ.1.DX hk ⟨p2, Vz, Nz, hO2⟩
 have hold : ∀ i, aI (S.rb k) (S.p k) i -> i < w.heap.size := fun i hi => ((uh HH).re k hk).lt hi
 have OU := Bh.only hO2 (fun i hi hx => by
  have h1 := hold i hx
  rcases hi with hi | ⟨q, hq, hi⟩
  . have := (Bh.row.lt i hi).1
    omega
  . have := ((Bh.hds q hq).lt i hi).1
    omega)
 have HSE := hide (vk _ _ _ _ evs A7 w2 (hm1.trans hm2.symm) (by rw [<- List.length_map (f := Prod.fst), hm1]; exact (uh HEV).1) (fun q hq => by
  have := (uh HEV).2 q.1 (by rw [<- hm1]; exact List.mem_map.2 ⟨q, hq, rfl⟩)
  have := this.hs
  omega) OU hS2)
 obtain ⟨ua, uc, rfl⟩ := aJ hS2.row
 have jD : Hid (∀ W', Below w2.heap.size w2 W' -> ∃ d' p', df G S w (S.to k FF.2 d' p') W') := fun W' hb' => ⟨d', p', ((iQ.trans vw).after hb')⟩
 clear iQ vw hm1 hm2 Bh OU hS2 Xn Vz Nz hO2 hold HX HRF m5 fK ml1 fl HH HEV
 go_wp2_with fail
 refine (uh HSE).mono ?_
 rintro r w3 ⟨rfl, n, rfl⟩
 go_wp2_with fail
 refine (zg _ _).mono ?_
 rintro r w4 ⟨rfl, rfl⟩
 go_wp2_with fail
 go_ret
 exact ⟨by simp, uh jD _ ⟨rfl, rfl, rfl, Nat.le_refl _, fun _ _ => rfl⟩⟩
end Go.Proofs.YtbkpdapagfjmmaaGreatDoor
