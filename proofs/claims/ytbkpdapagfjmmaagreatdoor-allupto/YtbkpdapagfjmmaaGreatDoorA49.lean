import Derived.Test.YtbkpdapagfjmmaaGreatDoorA47
import Derived.Test.YtbkpdapagfjmmaaGreatDoorA48
set_option linter.unusedVariables false
set_option maxRecDepth 100000
set_option maxHeartbeats 16000000
namespace Go.Proofs.YtbkpdapagfjmmaaGreatDoor
open Go.RowKit
theorem Qr (a b : Lk.Bs) : bs a ++ bs b = bs (a ++ b) := by
 apply ByteArray.ext
 simp [bs]
theorem NZ (p : Lk.Bs) (n : Nat) : (bs p).extract 0 n = bs (p.take n) := by
 apply ByteArray.ext
 apply Array.toList_inj.1
 have h1 : ((bs p).extract 0 n).data.toList = p.take n := by
  rw [dI, fJ]
  simp
 rw [h1]
 exact (fJ _).symm
theorem N7 (p : Lk.Bs) (n : Nat) : (bs p).extract n (bs p).size = bs (p.drop n) := by
 apply ByteArray.ext
 apply Array.toList_inj.1
 have h1 : ((bs p).extract n (bs p).size).data.toList = p.drop n := by
  rw [dI, fJ, ax]
  rw [List.take_of_length_le (by rw [List.length_drop]; omega)]
 rw [h1]
 exact (fJ _).symm
structure EI (G : EG) (S : EV) (N : Nat) (w : World) : Prop where
 ep : EP G S w
 eq : S.f = S.e
 es : Lk.ES S.e S.pp N
def EPost (G : EG) (S : EV) (N : Nat) (w : World) (r : Ending) (w' : World) : Prop := r = .returned (.bool true) ∧ ∃ S', df G S w S' w' ∧ S'.f = S'.e ∧ Lk.ES S'.e S'.pp N
section
variable {G : EG} {S : EV} {N M k : Nat} {w w' : World}
theorem EI.row (h : EI G S N w) (hk : k < 2) (hN : N <= 2 ^ 36) : (S.e k).row.length <= 2 ^ 39 := by
 have h1 := Lk.NK (h.es.wf k hk)
 have h2 := h.es.le hk
 omega
theorem EI.pipe (h : EI G S N w) (hk : k < 2) : (S.pp k).length <= N := by
 have h1 := Lk.DK (S.pp k)
 have h2 := h.es.le hk
 omega
theorem EI.call (h : EI G S N w) (hk : k < 2) {E : Lk.En} (hw : Lk.Wf E) (hr : E.rest = (S.e k).rest) (hz : E.zm <= (S.e k).zm + 5000) (hM : N + 5000 <= M) {W : World} (hx : ∃ d' p', df G S w (S.to k E d' p') W) : EPost G S M w (.returned (.bool true)) W := by
 obtain ⟨d', p', hs⟩ := hx
 refine ⟨rfl, _, hs, ?_, (h.es.call hk hw hr hz).later hM⟩
 show Lk.up2 S.f k E = Lk.up2 S.e k E
 rw [h.eq]
end
theorem KI (G : EG) (S : EV) (N k : Nat) (kd : Int) (a b c : Int) (st tt : ByteArray) (ha : Option Addr) (hl hc : Nat) (w : World) (hI : EI G S N w) (hk : k < 2) (hN : N <= 2 ^ 36) (h9 : 9 <= kd) (h13 : kd <= 13) (hIa : I64 a) (l : List ByteArray) (D7 : l.length <= 2 ^ 40) (hSt : Strs w (.slice ha hl hc) l) (hSX : ∀ (x : Addr) (n c : Nat), Value.slice ha hl hc = .slice (some x) n c -> n ≠ 0 -> x.block < G.b0) :
 Calls Tryz.prog 30 #[.pointer (some ⟨G.M, 0, none⟩), .agg #[.int .i64 kd, .int .i64 a, .int .i64 b, .string st, .string tt, .int .i64 c, .slice ha hl hc], .int .i64 k] w (EPost G S (N + 5000) w) := by
 have h := hI.ep
 have hBx := Is.new w 33 [.int .i64 kd, .int .i64 a, .int .i64 b, .string st, .string tt, .int .i64 c, .slice ha hl hc]
 have hbW := (Below.refl w.heap.size w).alloc (Nat.le_refl _) (.cells #[.int .i64 kd, .int .i64 a, .int .i64 b, .string st, .string tt, .int .i64 c, .slice ha hl hc] 33)
 have hop := h.op w.heap.size (Nat.le_refl _)
 have h0 := h.below hbW
 generalize hW : w.alloc (.cells #[.int .i64 kd, .int .i64 a, .int .i64 b, .string st, .string tt, .int .i64 c, .slice ha hl hc] 33) = W at *
 have o0 : W.cell? ⟨w.heap.size, 0, none⟩ = some (.int .i64 kd) := hBx.cell 0
 have o1 : W.cell? ⟨w.heap.size, 1, none⟩ = some (.int .i64 a) := hBx.cell 1
 have o2 : W.cell? ⟨w.heap.size, 2, none⟩ = some (.int .i64 b) := hBx.cell 2
 have o3 : W.cell? ⟨w.heap.size, 3, none⟩ = some (.string st) := hBx.cell 3
 have o4 : W.cell? ⟨w.heap.size, 4, none⟩ = some (.string tt) := hBx.cell 4
 have o5 : W.cell? ⟨w.heap.size, 5, none⟩ = some (.int .i64 c) := hBx.cell 5
 have o6 : W.cell? ⟨w.heap.size, 6, none⟩ = some (.slice ha hl hc) := hBx.cell 6
 have ol := hBx.lt
 obtain ⟨hc1, hc2, hc3⟩ := h0.cap
 have ml := h0.made.lt
 have hk2 : (k : Int) < 2 := by omega
 have hk0 : (0 : Int) <= k := by omega
 have hrow := hI.row hk hN
 have hef : S.f k = S.e k := by rw [hI.eq]
 have QQ := hSt.below hbW (Nat.le_refl _)
 have HC : Hid (Calls Tryz.prog 67 #[.pointer (some ⟨G.M, 0, none⟩), .agg #[.int .i64 kd, .int .i64 a, .int .i64 b, .string st, .string tt, .int .i64 c, .slice ha hl hc], .int .i64 k] W (EPost G S (N + 5000) w)) := by
  have hwf := h.pe k hk |>.wf
  have hI0 : EI G S N W := ⟨h0, hI.eq, hI.es⟩
  have fin : ∀ (E : Lk.En) (r : Ending) (W' : World), Lk.Wf E -> E.rest = (S.e k).rest -> E.zm <= (S.e k).zm + 5000 -> (r = .returned (.bool true) ∧ ∃ d' p', df G S W (S.to k E d' p') W') -> EPost G S (N + 5000) w r W' := by
   rintro E r W' h1 h2 h3 ⟨rfl, d', p', hx⟩
   exact hI.call hk h1 h2 h3 (Nat.le_refl _) ⟨d', p', hx.before hbW⟩
  have hkd : kd = 9 ∨ kd = 10 ∨ kd = 11 ∨ kd = 12 ∨ kd = 13 := by omega
  rcases hkd with rfl | rfl | rfl | rfl | rfl
  . exact (D6 G S k a b c st tt ha hl hc l W h0 hk hef hrow D7 QQ hSX).mono (fun r W' hx => fin _ r W' (hwf.aW _ _) (Lk.zX _ _ _).2.2 (by have := Lk.Hz (S.e k) (pairs l) st.data.toList; omega) hx)
  . exact (Bj G S k a b c st tt ha hl hc W h0 hk hef hrow hIa).mono (fun r W' hx => fin _ r W' (hwf.aP _ _) (Lk.xU _ _ _).2.2 (by have := Lk.DU hwf a c; omega) hx)
  . exact (Ie G S k a b c st tt ha hl hc W h0 hk hef hrow hIa).mono (fun r W' hx => fin _ r W' (hwf.dN _ _) (Lk.CB _ _ _).2.2 (by have := Lk.Kr hwf a c; omega) hx)
  . exact (KH G S k a b c st tt ha hl hc W h0 hk hef hrow).mono (fun r W' hx => fin _ r W' (hwf.iy _) (Lk.Gj _ _).2.2 (by have := Lk.NJ (S.e k) st.data.toList; omega) hx)
  . exact (NW G S k a b c st tt ha hl hc W h0 hk hef hrow).mono (fun r W' hx => fin _ r W' hwf.iC (Lk.Jr _).2.2 (by have := Lk.Qh hwf; omega) hx)
 have n8 : ¬ kd = 8 := by omega
 have n14 : ¬ kd = 14 := by omega
 have n15 : ¬ kd = 15 := by omega
 have n16 : ¬ kd = 16 := by omega
 clear h h0 hBx hbW hop hI hef hrow hSt QQ hSX D7 h9 h13 hN
 go_enter Tryz.func30, Tryz.ntmps30
 go_wp2_with fail
 refine (uh HC).mono ?_
 rintro r w1 ⟨rfl, hE⟩
 have HE := hide hE
 clear hE
 go_wp2_with fail
 go_ret
 exact ⟨by first | rfl | simp, uh HE⟩
theorem KJ (G : EG) (S : EV) (N k : Nat) (a b c : Int) (st tt : ByteArray) (ha : Option Addr) (hl hc : Nat) (w : World) (hI : EI G S N w) (hk : k < 2) (hN : N <= 2 ^ 36) (hst : st.size <= 2 ^ 36) :
 Calls Tryz.prog 30 #[.pointer (some ⟨G.M, 0, none⟩), .agg #[.int .i64 15, .int .i64 a, .int .i64 b, .string st, .string tt, .int .i64 c, .slice ha hl hc], .int .i64 k] w (EPost G S (N + (2 * st.size + 10)) w) := by
 have h := hI.ep
 have hBx := Is.new w 33 [.int .i64 15, .int .i64 a, .int .i64 b, .string st, .string tt, .int .i64 c, .slice ha hl hc]
 have hbW := (Below.refl w.heap.size w).alloc (Nat.le_refl _) (.cells #[.int .i64 15, .int .i64 a, .int .i64 b, .string st, .string tt, .int .i64 c, .slice ha hl hc] 33)
 have hop := h.op w.heap.size (Nat.le_refl _)
 have h0 := h.below hbW
 generalize hW : w.alloc (.cells #[.int .i64 15, .int .i64 a, .int .i64 b, .string st, .string tt, .int .i64 c, .slice ha hl hc] 33) = W at *
 have o0 : W.cell? ⟨w.heap.size, 0, none⟩ = some (.int .i64 15) := hBx.cell 0
 have o1 : W.cell? ⟨w.heap.size, 1, none⟩ = some (.int .i64 a) := hBx.cell 1
 have o2 : W.cell? ⟨w.heap.size, 2, none⟩ = some (.int .i64 b) := hBx.cell 2
 have o3 : W.cell? ⟨w.heap.size, 3, none⟩ = some (.string st) := hBx.cell 3
 have o4 : W.cell? ⟨w.heap.size, 4, none⟩ = some (.string tt) := hBx.cell 4
 have o5 : W.cell? ⟨w.heap.size, 5, none⟩ = some (.int .i64 c) := hBx.cell 5
 have o6 : W.cell? ⟨w.heap.size, 6, none⟩ = some (.slice ha hl hc) := hBx.cell 6
 have ol := hBx.lt
 obtain ⟨hc1, hc2, hc3⟩ := h0.cap
 have ml := h0.made.lt
 have hk2 : (k : Int) < 2 := by omega
 have hk0 : (0 : Int) <= k := by omega
 have HC : Hid (Calls Tryz.prog 66 #[.pointer (some ⟨G.M, 0, none⟩), .string st, .int .i64 k] W (EPost G S (N + (2 * st.size + 10)) w)) := by
  refine (Bg G S k st W h0 hk (by rw [hI.eq]) (by omega) (hI.row hk hN)).mono ?_
  rintro r W' ⟨rfl, d', p', hx⟩
  refine ⟨rfl, _, hx.before hbW, ?_, ?_⟩
  . show Lk.up2 S.f k _ = Lk.up2 S.e k _
    rw [hI.eq]
  . have := hI.es.feed hk st.data.toList
    rw [<- af] at this
    exact this
 clear h h0 hBx hbW hop hI hN hst
 go_enter Tryz.func30, Tryz.ntmps30
 go_wp2_with fail
 refine (uh HC).mono ?_
 rintro r w1 ⟨rfl, hE⟩
 have HE := hide hE
 clear hE
 go_wp2_with fail
 go_ret
 exact ⟨by first | rfl | simp, uh HE⟩
theorem Ig (G : EG) (S : EV) (N k : Nat) (a b c : Int) (st tt : ByteArray) (ha : Option Addr) (hl hc : Nat) (w : World) (hI : EI G S N w) (hk : k < 2) (hN : N <= 2 ^ 36) (UC : a <= 9223372036854775807) :
 Calls Tryz.prog 30 #[.pointer (some ⟨G.M, 0, none⟩), .agg #[.int .i64 14, .int .i64 a, .int .i64 b, .string st, .string tt, .int .i64 c, .slice ha hl hc], .int .i64 k] w (EPost G S (N) w) := by
 have h := hI.ep
 have hBx := Is.new w 33 [.int .i64 14, .int .i64 a, .int .i64 b, .string st, .string tt, .int .i64 c, .slice ha hl hc]
 have hbW := (Below.refl w.heap.size w).alloc (Nat.le_refl _) (.cells #[.int .i64 14, .int .i64 a, .int .i64 b, .string st, .string tt, .int .i64 c, .slice ha hl hc] 33)
 have hop := h.op w.heap.size (Nat.le_refl _)
 have h0 := h.below hbW
 generalize hW : w.alloc (.cells #[.int .i64 14, .int .i64 a, .int .i64 b, .string st, .string tt, .int .i64 c, .slice ha hl hc] 33) = W at *
 have o0 : W.cell? ⟨w.heap.size, 0, none⟩ = some (.int .i64 14) := hBx.cell 0
 have o1 : W.cell? ⟨w.heap.size, 1, none⟩ = some (.int .i64 a) := hBx.cell 1
 have o2 : W.cell? ⟨w.heap.size, 2, none⟩ = some (.int .i64 b) := hBx.cell 2
 have o3 : W.cell? ⟨w.heap.size, 3, none⟩ = some (.string st) := hBx.cell 3
 have o4 : W.cell? ⟨w.heap.size, 4, none⟩ = some (.string tt) := hBx.cell 4
 have o5 : W.cell? ⟨w.heap.size, 5, none⟩ = some (.int .i64 c) := hBx.cell 5
 have o6 : W.cell? ⟨w.heap.size, 6, none⟩ = some (.slice ha hl hc) := hBx.cell 6
 have ol := hBx.lt
 obtain ⟨hc1, hc2, hc3⟩ := h0.cap
 have ml := h0.made.lt
 have hk2 : (k : Int) < 2 := by omega
 have hk0 : (0 : Int) <= k := by omega
 have m4 : W.cell? ⟨G.M, 4, none⟩ = some (.slice (some ⟨G.gE, 0, none⟩) 2 G.cE) := h0.made.cell 4
 have eK := dQ h0.ve hk
 have el : G.gE < W.heap.size := by obtain ⟨_, hx⟩ := h0.ve; exact hx.lt
 obtain ⟨hes, hdl⟩ := hI.es.drain hk a.toNat
 have hpl := hI.pipe hk
 have hef : S.f k = S.e k := by rw [hI.eq]
 have HC : Hid (∀ n, Calls Tryz.prog 14 #[.pointer (some ⟨S.eb k, 0, none⟩), .int .i64 a] (W.drewN n) fun r w1 => r = .returned (.string (bs (Lk.En.drain a.toNat (S.e k)).1)) ∧ ∃ d', df G S W { S with e := Lk.up2 S.e k (Lk.En.drain a.toNat (S.e k)).2, d := Lk.up2 S.d k d' } w1) := by
  intro n
  have hbn : Below W.heap.size W (W.drewN n) := ⟨rfl, rfl, rfl, Nat.le_refl _, fun _ _ => rfl⟩
  have hn := h0.below hbn
  refine (JK (S.eb k) (S.e k) (S.d k) a (W.drewN n) (hn.pe k hk) UC (by omega)).mono ?_
  rintro r w1 ⟨rfl, hP⟩
  obtain ⟨d', est⟩ := hn.DW hk hP
  exact ⟨rfl, d', est.before hbn⟩
 have HR : Hid (∀ w1 d', df G S W { S with e := Lk.up2 S.e k (Lk.En.drain a.toNat (S.e k)).2, d := Lk.up2 S.d k d' } w1 -> (Is w1 w.heap.size 33 [.int .i64 14, .int .i64 a, .int .i64 b, .string st, .string tt, .int .i64 c, .slice ha hl hc]) ∧ ∀ n, Calls Tryz.prog 65 #[.pointer (some ⟨S.rb k, 0, none⟩), .int .i64 a] (w1.drewN n) fun r w2 => r = .returned (.string (bs (Lk.En.drain a.toNat (S.e k)).1)) ∧ ∃ d' p', df G S w (S.to k (Lk.En.drain a.toNat (S.e k)).2 d' p') w2) := by
  intro w1 d' iQ
  refine ⟨hBx.only iQ.2.2 hop, fun n => ?_⟩
  have iQ := iQ.after (w2 := w1.drewN n) ⟨rfl, rfl, rfl, Nat.le_refl _, fun _ _ => rfl⟩
  have Bl := Gs (S.rb k) (S.f k) (S.p k) a (w1.drewN n) (iQ.1.re k hk) (by rw [hef]; exact (h.pe k hk).wf) UC (by rw [hef]; omega)
  rw [hef] at Bl
  refine Bl.mono ?_
  rintro r w2 ⟨rfl, hP2⟩
  obtain ⟨p', vw⟩ := iQ.1.DX hk hP2
  exact ⟨rfl, d', p', ((iQ.trans vw).before hbW)⟩
 have hsum : ¬ (bs (S.pp k)).size + (bs (Lk.En.drain a.toNat (S.e k)).1).size > 9223372036854775807 := by
  rw [ax, ax]
  omega
 have U8 := Qr (S.pp k) (Lk.En.drain a.toNat (S.e k)).1
 have heq : S.f = S.e := hI.eq
 have HES := hide (⟨hes, heq⟩ : _ ∧ _)
 generalize UD : (Lk.En.drain a.toNat (S.e k)).1 = sent at *
 generalize (Lk.En.drain a.toNat (S.e k)).2 = E' at *
 clear h h0 hBx hbW hop hI hN hes hdl hpl hef UD heq
 go_enter Tryz.func30, Tryz.ntmps30
 go_upto_region 13 with fail
 go_cut [11] (fun s11 w1 => s11 = .string (bs sent) ∧ Hid (∃ d', df G S W { S with e := Lk.up2 S.e k E', d := Lk.up2 S.d k d' } w1))
 case first =>
  go_region_with (first | (go_at_call 14; refine (uh HC _).mono ?_; rintro r w1 ⟨rfl, hE⟩; have HE := hide hE; clear hE))
  all_goals
   go_wp2_with fail
   go_meet
   exact ⟨rfl, HE⟩
 case rest =>
  obtain ⟨rfl, HE⟩ := hcut
  obtain ⟨d', iQ⟩ := uh HE
  obtain ⟨hB1, hr⟩ := uh HR wc d' iQ
  have q1 : wc.cell? ⟨w.heap.size, 1, none⟩ = some (.int .i64 a) := hB1.cell 1
  have ql := hB1.lt
  have m5 : wc.cell? ⟨G.M, 5, none⟩ = some (.slice (some ⟨G.gF, 0, none⟩) 2 G.cF) := iQ.1.made.cell 5
  have fK := dQ iQ.1.vg hk
  have fl : G.gF < wc.heap.size := by obtain ⟨_, hx⟩ := iQ.1.vg; exact hx.lt
  have ml1 := iQ.1.made.lt
  have HR1 := hide hr
  clear iQ hB1 hr HE HR HC o0 o1 o2 o3 o4 o5 o6 ol m4 eK el ml
  obtain ⟨wa, hwa⟩ : ∃ wa, wa = wc := ⟨_, rfl⟩
  subst hwa
  go_upto_region 14 with fail
  go_cut [12] (fun s12 w2 => s12 = .string (bs sent) ∧ Hid (∃ d' p', df G S w (S.to k E' d' p') w2))
  case first =>
   go_region_with (first | (go_at_call 65; refine (uh HR1 _).mono ?_; rintro r w2 ⟨rfl, hE⟩; have HE := hide hE; clear hE))
   all_goals
    go_wp2_with fail
    go_meet
    exact ⟨rfl, HE⟩
  case rest =>
   obtain ⟨rfl, HE⟩ := hcut
   obtain ⟨d2, p2, vw⟩ := uh HE
   have m6 : wc.cell? ⟨G.M, 6, none⟩ = some (.slice (some ⟨G.gP, 0, none⟩) 2 G.cP) := vw.1.made.cell 6
   have pK : wc.cell? ⟨G.gP, k, none⟩ = some (.string (bs (S.pp k))) := by
    rw [vw.1.rowP.cell]
    have h2 : k = 0 ∨ k = 1 := by omega
    rcases h2 with rfl | rfl <;> rfl
   have pf := vw.1.rowP.free k
   have pl := vw.1.rowP.lt
   have ml2 := vw.1.made.lt
   have jD : Hid (∀ W', Below wc.heap.size (wc.setCell ⟨G.gP, k, none⟩ (.string (bs (S.pp k ++ sent)))) W' -> EPost G S N w (.returned (.bool true)) W') := by
    intro W' hb'
    have Su := vw.1.UA hk (S.pp k ++ sent)
    refine ⟨rfl, _, (vw.trans Su).after (by simpa using hb'), ?_, (uh HES).1⟩
    show Lk.up2 S.f k _ = Lk.up2 S.e k _
    rw [(uh HES).2]
   clear vw HE HR1 q1 ql m5 fK fl ml1 HES
   go_upto_region 15 with fail
   go_region
   all_goals
    go_wp2_with fail
    go_ret
    exact uh jD _ ⟨rfl, rfl, rfl, by simp, fun _ _ => rfl⟩
theorem KL (G : EG) (S : EV) (N k : Nat) (a b c : Int) (st tt : ByteArray) (ha : Option Addr) (hl hc : Nat) (w : World) (hI : EI G S N w) (hk : k < 2) (hN : N <= 2 ^ 36) (ha1 : -9223372036854775808 <= a) (UC : a <= 9223372036854775807) (j : Nat) (hj : j < 2) (hkj : k ≠ j) :
 Calls Tryz.prog 30 #[.pointer (some ⟨G.M, 0, none⟩), .agg #[.int .i64 16, .int .i64 a, .int .i64 b, .string st, .string tt, .int .i64 c, .slice ha hl hc], .int .i64 k] w (EPost G S (N + 10) w) := by
 have h := hI.ep
 have hBx := Is.new w 33 [.int .i64 16, .int .i64 a, .int .i64 b, .string st, .string tt, .int .i64 c, .slice ha hl hc]
 have hbW := (Below.refl w.heap.size w).alloc (Nat.le_refl _) (.cells #[.int .i64 16, .int .i64 a, .int .i64 b, .string st, .string tt, .int .i64 c, .slice ha hl hc] 33)
 have hop := h.op w.heap.size (Nat.le_refl _)
 have h0 := h.below hbW
 generalize hW : w.alloc (.cells #[.int .i64 16, .int .i64 a, .int .i64 b, .string st, .string tt, .int .i64 c, .slice ha hl hc] 33) = W at *
 have o0 : W.cell? ⟨w.heap.size, 0, none⟩ = some (.int .i64 16) := hBx.cell 0
 have o1 : W.cell? ⟨w.heap.size, 1, none⟩ = some (.int .i64 a) := hBx.cell 1
 have o2 : W.cell? ⟨w.heap.size, 2, none⟩ = some (.int .i64 b) := hBx.cell 2
 have o3 : W.cell? ⟨w.heap.size, 3, none⟩ = some (.string st) := hBx.cell 3
 have o4 : W.cell? ⟨w.heap.size, 4, none⟩ = some (.string tt) := hBx.cell 4
 have o5 : W.cell? ⟨w.heap.size, 5, none⟩ = some (.int .i64 c) := hBx.cell 5
 have o6 : W.cell? ⟨w.heap.size, 6, none⟩ = some (.slice ha hl hc) := hBx.cell 6
 have ol := hBx.lt
 obtain ⟨hc1, hc2, hc3⟩ := h0.cap
 have ml := h0.made.lt
 have hk2 : (k : Int) < 2 := by omega
 have hk0 : (0 : Int) <= k := by omega
 have hjk : (1 : Int) - (k : Int) = (j : Int) := by omega
 have m6 : W.cell? ⟨G.M, 6, none⟩ = some (.slice (some ⟨G.gP, 0, none⟩) 2 G.cP) := h0.made.cell 6
 have pK : W.cell? ⟨G.gP, k, none⟩ = some (.string (bs (S.pp k))) := by
  rw [h0.rowP.cell]
  have h2 : k = 0 ∨ k = 1 := by omega
  rcases h2 with rfl | rfl <;> rfl
 have pf := h0.rowP.free k
 have pl := h0.rowP.lt
 have hpl := hI.pipe hk
 obtain ⟨X, hX⟩ : ∃ X : Nat, X = if a < 0 ∨ ((S.pp k).length : Int) < a then (S.pp k).length else a.toNat := ⟨_, rfl⟩
 have Xv : X <= (S.pp k).length := by rw [hX]; split <;> omega
 have hXd : (a < 0 ∨ ((bs (S.pp k)).size : Int) < a) ∧ X = (bs (S.pp k)).size ∨ ¬ (a < 0) ∧ ¬ ((bs (S.pp k)).size : Int) < a ∧ a = (X : Int) := by
  rw [ax, hX]
  split
  . rename_i hh; exact .inl ⟨hh, rfl⟩
  . rename_i hh; exact .inr ⟨by omega, by omega, by omega⟩
 have hNs : (X : Int) <= ((bs (S.pp k)).size : Int) := by rw [ax]; omega
 have hNn : X <= (bs (S.pp k)).size := by rw [ax]; omega
 have hX0 : (0 : Int) <= (X : Int) := by omega
 have hx := NZ (S.pp k) X
 have hy := N7 (S.pp k) X
 have HC : Hid (∀ w1, Below W.heap.size (W.setCell ⟨G.gP, k, none⟩ (.string (bs ((S.pp k).drop X)))) w1 -> Calls Tryz.prog 66 #[.pointer (some ⟨G.M, 0, none⟩), .string (bs ((S.pp k).take X)), .int .i64 j] w1 (EPost G S (N + 10) w)) := by
  intro w1 hb1
  have iQ := (h0.UA hk ((S.pp k).drop X)).after (w2 := w1) (by simpa using hb1)
  have hl : (bs ((S.pp k).take X)).size <= 2 ^ 39 := by rw [ax, List.length_take]; omega
  refine (Bg G _ j (bs ((S.pp k).take X)) w1 iQ.1 hj (by show S.f j = S.e j; rw [hI.eq]) hl (hI.row hj hN)).mono ?_
  rintro r W' ⟨rfl, d', p', hx⟩
  rw [fJ] at hx
  refine ⟨rfl, _, (iQ.trans hx).before hbW, ?_, ?_⟩
  . show Lk.up2 S.f j _ = Lk.up2 S.e j _
    rw [hI.eq]
  . exact hI.es.move hk hj hkj _ _ (List.take_append_drop X (S.pp k)).symm
 have HND := hide hXd
 clear h h0 hBx hbW hop hI hN hpl hX Xv hXd
 go_enter Tryz.func30, Tryz.ntmps30
 go_upto_region 21 with fail
 go_cut [132] (fun s wx => wx = W ∧ ∃ t : Bool, s = .bool t ∧ (t = true -> X = (bs (S.pp k)).size) ∧ (t = false -> a = (X : Int)))
 case first =>
  rcases uh HND with ⟨h1, h2⟩ | ⟨h1, h2, h3⟩
  . have HH := hide h2
    clear h2
    by_cases c0 : a < 0
    . clear h1
      go_wp2_with fail
      go_meet
      exact ⟨rfl, _, rfl, fun _ => uh HH, fun h => by simp at h⟩
    . have h1' : ((bs (S.pp k)).size : Int) < a := by omega
      clear h1
      go_wp2_with fail
      go_meet
      exact ⟨rfl, _, rfl, fun _ => uh HH, fun h => by simp at h⟩
  . have HH := hide h3
    clear h3
    go_wp2_with fail
    go_meet
    exact ⟨rfl, _, rfl, fun h => by simp at h, fun _ => uh HH⟩
 case rest =>
  obtain ⟨rfl, t, rfl, ht1, ht2⟩ := hcut
  go_upto_if 132 with fail
  go_cut [13] (fun s wx => s = .int .i64 (X : Int) ∧ wx = wc)
  case first =>
   cases t with
   | true =>
     have hN1 := hide (ht1 rfl)
     clear ht1 ht2
     go_wp2_with fail
     go_meet
     exact ⟨by rw [uh hN1], rfl⟩
   | false =>
     have hN2 := hide (ht2 rfl)
     clear ht1 ht2
     go_wp2_with fail
     go_meet
     exact ⟨by rw [uh hN2], rfl⟩
  case rest =>
   clear ht1 ht2
   obtain ⟨rfl, rfl⟩ := hcut
   go_upto_region 24 with fail
   go_region
   all_goals
    go_wp2_with fail
    refine (uh HC (wc.setCell ⟨G.gP, k, none⟩ (.string (bs ((S.pp k).drop X)))).drew ⟨rfl, rfl, rfl, by simp, fun _ _ => rfl⟩).mono ?_
    rintro r w2 ⟨rfl, hE⟩
    have HE := hide hE
    clear hE
    go_wp2_with fail
    go_ret
    exact ⟨by first | rfl | simp, uh HE⟩
end Go.Proofs.YtbkpdapagfjmmaaGreatDoor
