import Derived.Test.YtbkpdapagfjmmaaGreatDoorA46
import Derived.Deep.RegionWith
set_option linter.unusedVariables false
set_option maxRecDepth 100000
set_option maxHeartbeats 16000000
namespace Go.Proofs.YtbkpdapagfjmmaaGreatDoor
open Go.RowKit
theorem Bj (G : EG) (S : EV) (k : Nat) (a b c : Int) (st tt : ByteArray) (ha : Option Addr) (hl hc : Nat) (w : World) (h : EP G S w) (hk : k < 2) (hef : S.f k = S.e k) (hrow : (S.e k).row.length <= 2 ^ 39) (hI : I64 a) :
 Calls Tryz.prog 67 #[.pointer (some ⟨G.M, 0, none⟩), .agg #[.int .i64 10, .int .i64 a, .int .i64 b, .string st, .string tt, .int .i64 c, .slice ha hl hc], .int .i64 k] w fun r w' => r = .returned (.bool true) ∧ ∃ d' p', df G S w (S.to k ((S.e k).aP a c).2 d' p') w' := by
 have hBx := Is.new w 33 [.int .i64 10, .int .i64 a, .int .i64 b, .string st, .string tt, .int .i64 c, .slice ha hl hc]
 have hbW := (Below.refl w.heap.size w).alloc (Nat.le_refl _) (.cells #[.int .i64 10, .int .i64 a, .int .i64 b, .string st, .string tt, .int .i64 c, .slice ha hl hc] 33)
 have hop := h.op w.heap.size (Nat.le_refl _)
 have h0 := h.below hbW
 generalize hW : w.alloc (.cells #[.int .i64 10, .int .i64 a, .int .i64 b, .string st, .string tt, .int .i64 c, .slice ha hl hc] 33) = W at *
 have o0 : W.cell? ⟨w.heap.size, 0, none⟩ = some (.int .i64 10) := hBx.cell 0
 have o1 : W.cell? ⟨w.heap.size, 1, none⟩ = some (.int .i64 a) := hBx.cell 1
 have o3 : W.cell? ⟨w.heap.size, 3, none⟩ = some (.string st) := hBx.cell 3
 have o5 : W.cell? ⟨w.heap.size, 5, none⟩ = some (.int .i64 c) := hBx.cell 5
 have ol := hBx.lt
 have m4 : W.cell? ⟨G.M, 4, none⟩ = some (.slice (some ⟨G.gE, 0, none⟩) 2 G.cE) := h0.made.cell 4
 have m5 : W.cell? ⟨G.M, 5, none⟩ = some (.slice (some ⟨G.gF, 0, none⟩) 2 G.cF) := h0.made.cell 5
 have eK := dQ h0.ve hk
 have fK := dQ h0.vg hk
 have ml := h0.made.lt
 have el : G.gE < W.heap.size := by obtain ⟨_, hx⟩ := h0.ve; exact hx.lt
 have fl : G.gF < W.heap.size := by obtain ⟨_, hx⟩ := h0.vg; exact hx.lt
 obtain ⟨hc1, hc2, hc3⟩ := h0.cap
 have hk2 : (k : Int) < 2 := by omega
 have hk0 : (0 : Int) <= k := by omega
 have HPC := hide (KE (S.eb k) (S.e k) (S.d k) a c W (h0.pe k hk) hI)
 have HX : Hid (∀ w1, iO W (S.eb k) (S.d k) ((S.e k).aP a c).2 w1 -> (Is w1 w.heap.size 33 [.int .i64 10, .int .i64 a, .int .i64 b, .string st, .string tt, .int .i64 c, .slice ha hl hc]) ∧ ∀ n, Calls Tryz.prog 111 #[.pointer (some ⟨S.rb k, 0, none⟩), .int .i64 a, .int .i64 c] (w1.drewN n) fun r w2 => r = .returned (.int .i64 (((S.e k).aP a c).1 : Int)) ∧ ∃ d' p', df G S w (S.to k ((S.e k).aP a c).2 d' p') w2) := by
  intro w1 hP
  obtain ⟨d', iQ⟩ := h0.DW hk hP
  refine ⟨hBx.only iQ.2.2 hop, fun n => ?_⟩
  have iQ := iQ.after (w2 := w1.drewN n) ⟨rfl, rfl, rfl, Nat.le_refl _, fun _ _ => rfl⟩
  have hw : Lk.Wf (S.f k) := by rw [hef]; exact (h.pe k hk).wf
  have hrl : (S.f k).row.length <= 2 ^ 41 := by rw [hef]; omega
  have Bl := zZ (S.rb k) (S.f k) (S.p k) a c (w1.drewN n) (iQ.1.re k hk) hw hrl
  rw [hef] at Bl
  refine Bl.mono ?_
  rintro r w2 ⟨rfl, hP2⟩
  obtain ⟨p', vw⟩ := iQ.1.DX hk hP2
  exact ⟨rfl, d', p', ((iQ.trans vw).before hbW)⟩
 generalize (S.e k).aP a c = R at *
 clear h h0 hBx hbW hop hef hrow
 go_enter Tryz.func67, Tryz.ntmps67
 go_wp2_with fail
 refine (uh HPC).mono ?_
 rintro r w1 ⟨rfl, hP⟩
 obtain ⟨hB1, hc9⟩ := uh HX w1 hP
 have q1 : w1.cell? ⟨w.heap.size, 1, none⟩ = some (.int .i64 a) := hB1.cell 1
 have q3 : w1.cell? ⟨w.heap.size, 3, none⟩ = some (.string st) := hB1.cell 3
 have q5 : w1.cell? ⟨w.heap.size, 5, none⟩ = some (.int .i64 c) := hB1.cell 5
 have ql := hB1.lt
 have HC9 := hide hc9
 clear hP hB1 hc9 HX HPC
 go_wp2_with fail
 go_region_with (first
  | (go_at_call 18; refine (zg _ _).mono ?_; rintro r w4 ⟨rfl, rfl⟩)
  | (go_at_call 111; refine (uh HC9 _).mono ?_; rintro r w2 ⟨rfl, hE2⟩; have HE2 := hide hE2; clear hE2))
 all_goals
  go_wp2_with fail
  go_ret
  exact ⟨by first | rfl | simp, uh HE2⟩
theorem Ie (G : EG) (S : EV) (k : Nat) (a b c : Int) (st tt : ByteArray) (ha : Option Addr) (hl hc : Nat) (w : World) (h : EP G S w) (hk : k < 2) (hef : S.f k = S.e k) (hrow : (S.e k).row.length <= 2 ^ 39) (hI : I64 a) :
 Calls Tryz.prog 67 #[.pointer (some ⟨G.M, 0, none⟩), .agg #[.int .i64 11, .int .i64 a, .int .i64 b, .string st, .string tt, .int .i64 c, .slice ha hl hc], .int .i64 k] w fun r w' => r = .returned (.bool true) ∧ ∃ d' p', df G S w (S.to k ((S.e k).dN a c).2 d' p') w' := by
 have hBx := Is.new w 33 [.int .i64 11, .int .i64 a, .int .i64 b, .string st, .string tt, .int .i64 c, .slice ha hl hc]
 have hbW := (Below.refl w.heap.size w).alloc (Nat.le_refl _) (.cells #[.int .i64 11, .int .i64 a, .int .i64 b, .string st, .string tt, .int .i64 c, .slice ha hl hc] 33)
 have hop := h.op w.heap.size (Nat.le_refl _)
 have h0 := h.below hbW
 generalize hW : w.alloc (.cells #[.int .i64 11, .int .i64 a, .int .i64 b, .string st, .string tt, .int .i64 c, .slice ha hl hc] 33) = W at *
 have o0 : W.cell? ⟨w.heap.size, 0, none⟩ = some (.int .i64 11) := hBx.cell 0
 have o1 : W.cell? ⟨w.heap.size, 1, none⟩ = some (.int .i64 a) := hBx.cell 1
 have o3 : W.cell? ⟨w.heap.size, 3, none⟩ = some (.string st) := hBx.cell 3
 have o5 : W.cell? ⟨w.heap.size, 5, none⟩ = some (.int .i64 c) := hBx.cell 5
 have ol := hBx.lt
 have m4 : W.cell? ⟨G.M, 4, none⟩ = some (.slice (some ⟨G.gE, 0, none⟩) 2 G.cE) := h0.made.cell 4
 have m5 : W.cell? ⟨G.M, 5, none⟩ = some (.slice (some ⟨G.gF, 0, none⟩) 2 G.cF) := h0.made.cell 5
 have eK := dQ h0.ve hk
 have fK := dQ h0.vg hk
 have ml := h0.made.lt
 have el : G.gE < W.heap.size := by obtain ⟨_, hx⟩ := h0.ve; exact hx.lt
 have fl : G.gF < W.heap.size := by obtain ⟨_, hx⟩ := h0.vg; exact hx.lt
 obtain ⟨hc1, hc2, hc3⟩ := h0.cap
 have hk2 : (k : Int) < 2 := by omega
 have hk0 : (0 : Int) <= k := by omega
 have HPC := hide (Ql (S.eb k) (S.e k) (S.d k) a c W (h0.pe k hk) hI)
 have HX : Hid (∀ w1, iO W (S.eb k) (S.d k) ((S.e k).dN a c).2 w1 -> (Is w1 w.heap.size 33 [.int .i64 11, .int .i64 a, .int .i64 b, .string st, .string tt, .int .i64 c, .slice ha hl hc]) ∧ ∀ n, Calls Tryz.prog 112 #[.pointer (some ⟨S.rb k, 0, none⟩), .int .i64 a, .int .i64 c] (w1.drewN n) fun r w2 => r = .returned (.int .i64 (((S.e k).dN a c).1 : Int)) ∧ ∃ d' p', df G S w (S.to k ((S.e k).dN a c).2 d' p') w2) := by
  intro w1 hP
  obtain ⟨d', iQ⟩ := h0.DW hk hP
  refine ⟨hBx.only iQ.2.2 hop, fun n => ?_⟩
  have iQ := iQ.after (w2 := w1.drewN n) ⟨rfl, rfl, rfl, Nat.le_refl _, fun _ _ => rfl⟩
  have hw : Lk.Wf (S.f k) := by rw [hef]; exact (h.pe k hk).wf
  have hrl : (S.f k).row.length <= 2 ^ 41 := by rw [hef]; omega
  have Bl := Gn (S.rb k) (S.f k) (S.p k) a c (w1.drewN n) (iQ.1.re k hk) hw hrl
  rw [hef] at Bl
  refine Bl.mono ?_
  rintro r w2 ⟨rfl, hP2⟩
  obtain ⟨p', vw⟩ := iQ.1.DX hk hP2
  exact ⟨rfl, d', p', ((iQ.trans vw).before hbW)⟩
 generalize (S.e k).dN a c = R at *
 clear h h0 hBx hbW hop hef hrow
 go_enter Tryz.func67, Tryz.ntmps67
 go_wp2_with fail
 refine (uh HPC).mono ?_
 rintro r w1 ⟨rfl, hP⟩
 obtain ⟨hB1, hc9⟩ := uh HX w1 hP
 have q1 : w1.cell? ⟨w.heap.size, 1, none⟩ = some (.int .i64 a) := hB1.cell 1
 have q3 : w1.cell? ⟨w.heap.size, 3, none⟩ = some (.string st) := hB1.cell 3
 have q5 : w1.cell? ⟨w.heap.size, 5, none⟩ = some (.int .i64 c) := hB1.cell 5
 have ql := hB1.lt
 have HC9 := hide hc9
 clear hP hB1 hc9 HX HPC
 go_wp2_with fail
 go_region_with (first
  | (go_at_call 18; refine (zg _ _).mono ?_; rintro r w4 ⟨rfl, rfl⟩)
  | (go_at_call 112; refine (uh HC9 _).mono ?_; rintro r w2 ⟨rfl, hE2⟩; have HE2 := hide hE2; clear hE2))
 all_goals
  go_wp2_with fail
  go_ret
  exact ⟨by first | rfl | simp, uh HE2⟩
theorem KH (G : EG) (S : EV) (k : Nat) (a b c : Int) (st tt : ByteArray) (ha : Option Addr) (hl hc : Nat) (w : World) (h : EP G S w) (hk : k < 2) (hef : S.f k = S.e k) (hrow : (S.e k).row.length <= 2 ^ 39) :
 Calls Tryz.prog 67 #[.pointer (some ⟨G.M, 0, none⟩), .agg #[.int .i64 12, .int .i64 a, .int .i64 b, .string st, .string tt, .int .i64 c, .slice ha hl hc], .int .i64 k] w fun r w' => r = .returned (.bool true) ∧ ∃ d' p', df G S w (S.to k ((S.e k).iy st.data.toList).2 d' p') w' := by
 have hBx := Is.new w 33 [.int .i64 12, .int .i64 a, .int .i64 b, .string st, .string tt, .int .i64 c, .slice ha hl hc]
 have hbW := (Below.refl w.heap.size w).alloc (Nat.le_refl _) (.cells #[.int .i64 12, .int .i64 a, .int .i64 b, .string st, .string tt, .int .i64 c, .slice ha hl hc] 33)
 have hop := h.op w.heap.size (Nat.le_refl _)
 have h0 := h.below hbW
 generalize hW : w.alloc (.cells #[.int .i64 12, .int .i64 a, .int .i64 b, .string st, .string tt, .int .i64 c, .slice ha hl hc] 33) = W at *
 have o0 : W.cell? ⟨w.heap.size, 0, none⟩ = some (.int .i64 12) := hBx.cell 0
 have o1 : W.cell? ⟨w.heap.size, 1, none⟩ = some (.int .i64 a) := hBx.cell 1
 have o3 : W.cell? ⟨w.heap.size, 3, none⟩ = some (.string st) := hBx.cell 3
 have o5 : W.cell? ⟨w.heap.size, 5, none⟩ = some (.int .i64 c) := hBx.cell 5
 have ol := hBx.lt
 have m4 : W.cell? ⟨G.M, 4, none⟩ = some (.slice (some ⟨G.gE, 0, none⟩) 2 G.cE) := h0.made.cell 4
 have m5 : W.cell? ⟨G.M, 5, none⟩ = some (.slice (some ⟨G.gF, 0, none⟩) 2 G.cF) := h0.made.cell 5
 have eK := dQ h0.ve hk
 have fK := dQ h0.vg hk
 have ml := h0.made.lt
 have el : G.gE < W.heap.size := by obtain ⟨_, hx⟩ := h0.ve; exact hx.lt
 have fl : G.gF < W.heap.size := by obtain ⟨_, hx⟩ := h0.vg; exact hx.lt
 obtain ⟨hc1, hc2, hc3⟩ := h0.cap
 have hk2 : (k : Int) < 2 := by omega
 have hk0 : (0 : Int) <= k := by omega
 have HPC := hide (Si (S.eb k) (S.e k) (S.d k) st W (h0.pe k hk))
 have HX : Hid (∀ w1, iO W (S.eb k) (S.d k) ((S.e k).iy st.data.toList).2 w1 -> (Is w1 w.heap.size 33 [.int .i64 12, .int .i64 a, .int .i64 b, .string st, .string tt, .int .i64 c, .slice ha hl hc]) ∧ ∀ n, Calls Tryz.prog 113 #[.pointer (some ⟨S.rb k, 0, none⟩), .string st] (w1.drewN n) fun r w2 => r = .returned (.int .i64 (((S.e k).iy st.data.toList).1 : Int)) ∧ ∃ d' p', df G S w (S.to k ((S.e k).iy st.data.toList).2 d' p') w2) := by
  intro w1 hP
  obtain ⟨d', iQ⟩ := h0.DW hk hP
  refine ⟨hBx.only iQ.2.2 hop, fun n => ?_⟩
  have iQ := iQ.after (w2 := w1.drewN n) ⟨rfl, rfl, rfl, Nat.le_refl _, fun _ _ => rfl⟩
  have hw : Lk.Wf (S.f k) := by rw [hef]; exact (h.pe k hk).wf
  have hrl : (S.f k).row.length <= 2 ^ 41 := by rw [hef]; omega
  have Bl := Js (S.rb k) (S.f k) (S.p k) st (w1.drewN n) (iQ.1.re k hk) (by omega)
  rw [hef] at Bl
  refine Bl.mono ?_
  rintro r w2 ⟨rfl, hP2⟩
  obtain ⟨p', vw⟩ := iQ.1.DX hk hP2
  exact ⟨rfl, d', p', ((iQ.trans vw).before hbW)⟩
 generalize (S.e k).iy st.data.toList = R at *
 clear h h0 hBx hbW hop hef hrow
 go_enter Tryz.func67, Tryz.ntmps67
 go_wp2_with fail
 refine (uh HPC).mono ?_
 rintro r w1 ⟨rfl, hP⟩
 obtain ⟨hB1, hc9⟩ := uh HX w1 hP
 have q1 : w1.cell? ⟨w.heap.size, 1, none⟩ = some (.int .i64 a) := hB1.cell 1
 have q3 : w1.cell? ⟨w.heap.size, 3, none⟩ = some (.string st) := hB1.cell 3
 have q5 : w1.cell? ⟨w.heap.size, 5, none⟩ = some (.int .i64 c) := hB1.cell 5
 have ql := hB1.lt
 have HC9 := hide hc9
 clear hP hB1 hc9 HX HPC
 go_wp2_with fail
 go_region_with (first
  | (go_at_call 18; refine (zg _ _).mono ?_; rintro r w4 ⟨rfl, rfl⟩)
  | (go_at_call 113; refine (uh HC9 _).mono ?_; rintro r w2 ⟨rfl, hE2⟩; have HE2 := hide hE2; clear hE2))
 all_goals
  go_wp2_with fail
  go_ret
  exact ⟨by first | rfl | simp, uh HE2⟩
theorem NW (G : EG) (S : EV) (k : Nat) (a b c : Int) (st tt : ByteArray) (ha : Option Addr) (hl hc : Nat) (w : World) (h : EP G S w) (hk : k < 2) (hef : S.f k = S.e k) (hrow : (S.e k).row.length <= 2 ^ 39) :
 Calls Tryz.prog 67 #[.pointer (some ⟨G.M, 0, none⟩), .agg #[.int .i64 13, .int .i64 a, .int .i64 b, .string st, .string tt, .int .i64 c, .slice ha hl hc], .int .i64 k] w fun r w' => r = .returned (.bool true) ∧ ∃ d' p', df G S w (S.to k ((S.e k).iC).2 d' p') w' := by
 have hBx := Is.new w 33 [.int .i64 13, .int .i64 a, .int .i64 b, .string st, .string tt, .int .i64 c, .slice ha hl hc]
 have hbW := (Below.refl w.heap.size w).alloc (Nat.le_refl _) (.cells #[.int .i64 13, .int .i64 a, .int .i64 b, .string st, .string tt, .int .i64 c, .slice ha hl hc] 33)
 have hop := h.op w.heap.size (Nat.le_refl _)
 have h0 := h.below hbW
 generalize hW : w.alloc (.cells #[.int .i64 13, .int .i64 a, .int .i64 b, .string st, .string tt, .int .i64 c, .slice ha hl hc] 33) = W at *
 have o0 : W.cell? ⟨w.heap.size, 0, none⟩ = some (.int .i64 13) := hBx.cell 0
 have o1 : W.cell? ⟨w.heap.size, 1, none⟩ = some (.int .i64 a) := hBx.cell 1
 have o3 : W.cell? ⟨w.heap.size, 3, none⟩ = some (.string st) := hBx.cell 3
 have o5 : W.cell? ⟨w.heap.size, 5, none⟩ = some (.int .i64 c) := hBx.cell 5
 have ol := hBx.lt
 have m4 : W.cell? ⟨G.M, 4, none⟩ = some (.slice (some ⟨G.gE, 0, none⟩) 2 G.cE) := h0.made.cell 4
 have m5 : W.cell? ⟨G.M, 5, none⟩ = some (.slice (some ⟨G.gF, 0, none⟩) 2 G.cF) := h0.made.cell 5
 have eK := dQ h0.ve hk
 have fK := dQ h0.vg hk
 have ml := h0.made.lt
 have el : G.gE < W.heap.size := by obtain ⟨_, hx⟩ := h0.ve; exact hx.lt
 have fl : G.gF < W.heap.size := by obtain ⟨_, hx⟩ := h0.vg; exact hx.lt
 obtain ⟨hc1, hc2, hc3⟩ := h0.cap
 have hk2 : (k : Int) < 2 := by omega
 have hk0 : (0 : Int) <= k := by omega
 have HPC := hide (Uz (S.eb k) (S.e k) (S.d k) W (h0.pe k hk))
 have HX : Hid (∀ w1, iO W (S.eb k) (S.d k) ((S.e k).iC).2 w1 -> (Is w1 w.heap.size 33 [.int .i64 13, .int .i64 a, .int .i64 b, .string st, .string tt, .int .i64 c, .slice ha hl hc]) ∧ ∀ n, Calls Tryz.prog 114 #[.pointer (some ⟨S.rb k, 0, none⟩)] (w1.drewN n) fun r w2 => r = .returned (.int .i64 (((S.e k).iC).1 : Int)) ∧ ∃ d' p', df G S w (S.to k ((S.e k).iC).2 d' p') w2) := by
  intro w1 hP
  obtain ⟨d', iQ⟩ := h0.DW hk hP
  refine ⟨hBx.only iQ.2.2 hop, fun n => ?_⟩
  have iQ := iQ.after (w2 := w1.drewN n) ⟨rfl, rfl, rfl, Nat.le_refl _, fun _ _ => rfl⟩
  have hw : Lk.Wf (S.f k) := by rw [hef]; exact (h.pe k hk).wf
  have hrl : (S.f k).row.length <= 2 ^ 41 := by rw [hef]; omega
  have Bl := Jt (S.rb k) (S.f k) (S.p k) (w1.drewN n) (iQ.1.re k hk) hw (by omega)
  rw [hef] at Bl
  refine Bl.mono ?_
  rintro r w2 ⟨rfl, hP2⟩
  obtain ⟨p', vw⟩ := iQ.1.DX hk hP2
  exact ⟨rfl, d', p', ((iQ.trans vw).before hbW)⟩
 generalize (S.e k).iC = R at *
 clear h h0 hBx hbW hop hef hrow
 go_enter Tryz.func67, Tryz.ntmps67
 go_wp2_with fail
 refine (uh HPC).mono ?_
 rintro r w1 ⟨rfl, hP⟩
 obtain ⟨hB1, hc9⟩ := uh HX w1 hP
 have q1 : w1.cell? ⟨w.heap.size, 1, none⟩ = some (.int .i64 a) := hB1.cell 1
 have q3 : w1.cell? ⟨w.heap.size, 3, none⟩ = some (.string st) := hB1.cell 3
 have q5 : w1.cell? ⟨w.heap.size, 5, none⟩ = some (.int .i64 c) := hB1.cell 5
 have ql := hB1.lt
 have HC9 := hide hc9
 clear hP hB1 hc9 HX HPC
 go_wp2_with fail
 refine (zg _ _).mono ?_
 rintro r w4 ⟨rfl, rfl⟩
 go_wp2_with fail
 refine (uh HC9 0).mono ?_
 rintro r w2 ⟨rfl, hE2⟩
 have HE2 := hide hE2
 clear hE2
 go_wp2_with fail
 go_ret
 exact ⟨by first | rfl | simp, uh HE2⟩
def QA (w : World) (r s : Nat) : Prop := ∃ (x y : ByteArray) (f : Int), Is w r 85 [.string x, .int .i64 0, .int .i64 f] ∧ Is w s 54 [.string y, .int .i64 f] ∧ (f = 0 -> y.data.toList = x.data.toList ∧ x.size <= 72)
structure RDS (gR gS : Nat) (r s : Nat -> Nat) (w : World) : Prop where
 KY : ∃ tl, Is w gR 133 (ptr (r 0) :: ptr (r 1) :: tl)
 Pm : ∃ tl, Is w gS 52 (ptr (s 0) :: ptr (s 1) :: tl)
 pr : ∀ k, k < 2 -> QA w (r k) (s k)
 ner : ∀ j k, j < 2 -> k < 2 -> j ≠ k -> r j ≠ r k
 nes : ∀ j k, j < 2 -> k < 2 -> j ≠ k -> s j ≠ s k
def RF (gR gS : Nat) (r s : Nat -> Nat) (i : Nat) : Prop := i = gR ∨ i = gS ∨ ∃ j, j < 2 ∧ (i = r j ∨ i = s j)
def xw (gR gS : Nat) (r s : Nat -> Nat) (w : World) (e : Ending) (w' : World) : Prop := e = .returned (.bool true) ∧ (∃ r' s', RDS gR gS r' s' w' ∧ ∀ i, RF gR gS r' s' i -> RF gR gS r s i ∨ w.heap.size <= i) ∧ Only (RF gR gS r s) w w'
section
variable {gR gS : Nat} {r s : Nat -> Nat} {w w' : World}
theorem RDS.lt (h : RDS gR gS r s w) {i : Nat} (hi : RF gR gS r s i) : i < w.heap.size := by
 rcases hi with rfl | rfl | ⟨j, hj, hi⟩
 . obtain ⟨_, hx⟩ := h.KY
   exact hx.lt
 . obtain ⟨_, hx⟩ := h.Pm
   exact hx.lt
 . obtain ⟨x, y, f, h1, h2, _⟩ := h.pr j hj
   rcases hi with rfl | rfl
   . exact h1.lt
   . exact h2.lt
theorem RDS.only {S : Nat -> Prop} (h : RDS gR gS r s w) (k : Only S w w') (hn : ∀ i, RF gR gS r s i -> ¬ S i) : RDS gR gS r s w' := by
 obtain ⟨a, ha⟩ := h.KY
 obtain ⟨b, hb⟩ := h.Pm
 refine ⟨⟨a, ha.only k (hn _ (.inl rfl))⟩, ⟨b, hb.only k (hn _ (.inr (.inl rfl)))⟩, fun j hj => ?_, h.ner, h.nes⟩
 obtain ⟨x, y, f, h1, h2, h3⟩ := h.pr j hj
 exact ⟨x, y, f, h1.only k (hn _ (.inr (.inr ⟨j, hj, .inl rfl⟩))), h2.only k (hn _ (.inr (.inr ⟨j, hj, .inr rfl⟩))), h3⟩
theorem RDS.below (h : RDS gR gS r s w) (k : Below w.heap.size w w') : RDS gR gS r s w' := h.only (Only.of_below k (fun _ => False)) (fun _ _ x => x)
theorem RDS.apart (h : RDS gR gS r s w) {i : Nat} {T : TypeId} {cs : List Value} (hI : Is w i T cs) (h1 : 133 ≠ T) (h2 : 52 ≠ T) (h3 : 85 ≠ T) (h4 : 54 ≠ T) : ¬ RF gR gS r s i := by
 rintro (rfl | rfl | ⟨j, hj, hi⟩)
 . obtain ⟨_, hx⟩ := h.KY
   exact hx.ne hI h1 rfl
 . obtain ⟨_, hx⟩ := h.Pm
   exact hx.ne hI h2 rfl
 . obtain ⟨x, y, f, q1, q2, _⟩ := h.pr j hj
   rcases hi with rfl | rfl
   . exact q1.ne hI h3 rfl
   . exact q2.ne hI h4 rfl
theorem oI {g : Nat} {T : TypeId} {f : Nat -> Nat} {k : Nat} (h : ∃ t, Is w g T (ptr (f 0) :: ptr (f 1) :: t)) (hk : k < 2) : w.cell? ⟨g, k, none⟩ = some (.pointer (some ⟨f k, 0, none⟩)) := by
 obtain ⟨t, h⟩ := h
 rw [h.cell]
 have h2 : k = 0 ∨ k = 1 := by omega
 rcases h2 with rfl | rfl <;> rfl
theorem RDS.turn (h : RDS gR gS r s w) {k : Nat} (hk : k < 2) (hO : Only (fun i => i = r k ∨ i = s k) w w') (hp : QA w' (r k) (s k)) : RDS gR gS r s w' := by
 obtain ⟨a, ha⟩ := h.KY
 obtain ⟨b, hb⟩ := h.Pm
 obtain ⟨x, y, f, q1, q2, _⟩ := h.pr k hk
 refine ⟨⟨a, ha.only hO (fun e => e.elim (ha.ne q1 (nbq rfl)) (ha.ne q2 (nbq rfl)))⟩, ⟨b, hb.only hO (fun e => e.elim (hb.ne q1 (nbq rfl)) (hb.ne q2 (nbq rfl)))⟩, fun j hj => ?_, h.ner, h.nes⟩
 by_cases hjk : j = k
 . subst hjk; exact hp
 . obtain ⟨x', y', f', p1, p2, p3⟩ := h.pr j hj
   exact ⟨x', y', f', p1.only hO (fun e => e.elim (h.ner j k hj hk hjk) (p1.ne q2 (nbq rfl))), p2.only hO (fun e => e.elim (p2.ne q1 (nbq rfl)) (h.nes j k hj hk hjk)), p3⟩
end
theorem Il (M gR gS cR cS : Nat) (vT vU vE vF pv : Value) (r s : Nat -> Nat) (k : Nat) (a b n : Int) (st tt : ByteArray) (ha : Option Addr) (hl hc : Nat) (w : World) (hk : k < 2) (hst : st.size <= 2 ^ 39) (hM : Is w M 132 [.slice (some ⟨gR, 0, none⟩) 2 cR, .slice (some ⟨gS, 0, none⟩) 2 cS, vT, vU, vE, vF, pv]) (hcR : 2 <= cR) (hcS : 2 <= cS) (h : RDS gR gS r s w) :
 Calls Tryz.prog 28 #[.pointer (some ⟨M, 0, none⟩), .agg #[.int .i64 3, .int .i64 a, .int .i64 b, .string st, .string tt, .int .i64 n, .slice ha hl hc], .int .i64 k] w (xw gR gS r s w) := by
 have hBx := Is.new w 33 [.int .i64 3, .int .i64 a, .int .i64 b, .string st, .string tt, .int .i64 n, .slice ha hl hc]
 have hbW := (Below.refl w.heap.size w).alloc (Nat.le_refl _) (.cells #[.int .i64 3, .int .i64 a, .int .i64 b, .string st, .string tt, .int .i64 n, .slice ha hl hc] 33)
 have h0 := h.below hbW
 have hM0 := hM.below hbW hM.lt
 generalize hW : w.alloc (.cells #[.int .i64 3, .int .i64 a, .int .i64 b, .string st, .string tt, .int .i64 n, .slice ha hl hc] 33) = W at *
 have o0 : W.cell? ⟨w.heap.size, 0, none⟩ = some (.int .i64 3) := hBx.cell 0
 have o3 : W.cell? ⟨w.heap.size, 3, none⟩ = some (.string st) := hBx.cell 3
 have ol := hBx.lt
 have m0 : W.cell? ⟨M, 0, none⟩ = some (.slice (some ⟨gR, 0, none⟩) 2 cR) := hM0.cell 0
 have ml := hM0.lt
 have rK := oI h0.KY hk
 have rl : gR < W.heap.size := h0.lt (.inl rfl)
 have hk2 : (k : Int) < 2 := by omega
 have hk0 : (0 : Int) <= k := by omega
 obtain ⟨x, y, f, hI, hJ, hf⟩ := h0.pr k hk
 have HC : Hid (∀ n, Calls Tryz.prog 48 #[.pointer (some ⟨r k, 0, none⟩), .string st] (W.drewN n) fun e w1 => ∃ v, e = .returned (.tuple #[v, .int .i64 (Lk.fU x.data.toList f st.data.toList)]) ∧ (w1.ownsRow W.heap.size 79 3 v (Lk.bC x.data.toList f st.data.toList).length (aZ (Lk.bC x.data.toList f st.data.toList)) ∧ (∃ t' : ByteArray, Is w1 (r k) 85 [.string t', .int .i64 0, .int .i64 (Lk.fU x.data.toList f st.data.toList)] ∧ (Lk.fU x.data.toList f st.data.toList = 0 -> t'.data.toList = Lk.jK x.data.toList f st.data.toList ∧ t'.size <= 72)) ∧ Turns (r k) W w1)) := by
  intro n
  refine (LX (r k) x st f (W.drewN n) (fun e => (hf e).2) hst (hI.below (w' := W.drewN n) ⟨rfl, rfl, rfl, Nat.le_refl _, fun _ _ => rfl⟩ hI.lt)).mono ?_
  rintro e w1 ⟨v, rfl, q1, q2, q3⟩
  exact ⟨v, rfl, q1, q2, ⟨q3.os, q3.tape, q3.output, q3.size, q3.block⟩⟩
 have HR : Hid (∀ w1, Turns (r k) W w1 -> (w1.cell? ⟨M, 1, none⟩ = some (.slice (some ⟨gS, 0, none⟩) 2 cS) ∧ w1.cell? ⟨gS, k, none⟩ = some (.pointer (some ⟨s k, 0, none⟩)) ∧ w1.cell? ⟨w.heap.size, 3, none⟩ = some (.string st) ∧ M < w1.heap.size ∧ gS < w1.heap.size ∧ w.heap.size < w1.heap.size) ∧ ∀ n, Calls Tryz.prog 21 #[.pointer (some ⟨s k, 0, none⟩), .string st] (w1.drewN n) fun e w2 => ∃ v, e = .returned (.tuple #[v, .int .i64 (Lk.fU x.data.toList f st.data.toList)]) ∧ (w2.ownsRow w1.heap.size 66 3 v (Lk.bC x.data.toList f st.data.toList).length (aZ (Lk.bC x.data.toList f st.data.toList)) ∧ (∃ s' : ByteArray, Is w2 (s k) 54 [.string s', .int .i64 (Lk.fU x.data.toList f st.data.toList)] ∧ (Lk.fU x.data.toList f st.data.toList = 0 -> s'.data.toList = Lk.jK x.data.toList f st.data.toList)) ∧ Turns (s k) w1 w2)) := by
  intro w1 hT
  obtain ⟨b', hb'⟩ := h0.Pm
  have g1 := hM0.grown hT (by simpa using hM0.ne hI (nbq rfl))
  have g2 := hb'.grown hT (by simpa using hb'.ne hI (nbq rfl))
  have g3 := hBx.grown hT (by simpa using hBx.ne hI (nbq rfl))
  have g4 := hJ.grown hT (by simpa using hJ.ne hI (nbq rfl))
  refine ⟨⟨g1.cell 1, oI ⟨b', g2⟩ hk, g3.cell 3, g1.lt, g2.lt, g3.lt⟩, fun n => ?_⟩
  refine (sN (s k) y st x.data.toList f (w1.drewN n) (fun e => ⟨(hf e).1, by rw [<- af]; exact (hf e).2⟩) hst (g4.below (w' := w1.drewN n) ⟨rfl, rfl, rfl, Nat.le_refl _, fun _ _ => rfl⟩ g4.lt)).mono ?_
  rintro e w2 ⟨v, rfl, q1, q2, q3⟩
  exact ⟨v, rfl, q1, q2, ⟨q3.os, q3.tape, q3.output, q3.size, q3.block⟩⟩
 have hlen : (Lk.bC x.data.toList f st.data.toList).length <= 2 ^ 40 := by
  unfold Lk.bC
  split
  . rename_i e
    have h1 := Lk.Ci (x.data.toList ++ st.data.toList)
    rw [List.length_append] at h1
    have h2 := (hf e).2
    rw [af] at h2 hst
    omega
  . simp
 have jD : Hid (∀ w1 w2 W' t' s', Turns (r k) W w1 -> Turns (s k) w1 w2 -> Is w1 (r k) 85 [.string t', .int .i64 0, .int .i64 (Lk.fU x.data.toList f st.data.toList)] -> (Lk.fU x.data.toList f st.data.toList = 0 -> t'.data.toList = Lk.jK x.data.toList f st.data.toList ∧ t'.size <= 72) -> Is w2 (s k) 54 [.string s', .int .i64 (Lk.fU x.data.toList f st.data.toList)] -> (Lk.fU x.data.toList f st.data.toList = 0 -> s'.data.toList = Lk.jK x.data.toList f st.data.toList) -> Below w2.heap.size w2 W' -> xw gR gS r s w (.returned (.bool true)) W') := by
  intro w1 w2 W' t' s' k1 k2 q1 q2 q3 q4 q5
  have hO : Only (fun i => i = r k ∨ i = s k) W W' := (((Only.dP k1).mono (fun i hi => (.inl hi : i = r k ∨ i = s k))).trans ((Only.dP k2).mono (fun i hi => .inr hi)) (fun _ x _ => x)).below q5
  have q1' : Is W' (r k) 85 [.string t', .int .i64 0, .int .i64 (Lk.fU x.data.toList f st.data.toList)] := by
   have e1 := q1.ne (hJ.grown k1 (by simpa using hJ.ne hI (nbq rfl))) (nbq rfl)
   have e2 := q1.grown k2 (by simpa using e1)
   exact e2.below q5 e2.lt
  refine ⟨rfl, ⟨r, s, h0.turn hk hO ⟨t', s', _, q1', q3.below q5 q3.lt, fun e => ⟨(q4 e).trans (q2 e).1.symm, (q2 e).2⟩⟩, fun i hi => .inl hi⟩, (Only.of_below hbW _).trans (hO.mono (fun i hi => .inr (.inr ⟨k, hk, hi⟩))) (fun _ x _ => x)⟩
 have HSM : Hid (∀ w1 w2 v1 v2, w1.ownsRow W.heap.size 79 3 v1 (Lk.bC x.data.toList f st.data.toList).length (aZ (Lk.bC x.data.toList f st.data.toList)) -> Turns (r k) W w1 -> Turns (s k) w1 w2 -> w2.ownsRow w1.heap.size 66 3 v2 (Lk.bC x.data.toList f st.data.toList).length (aZ (Lk.bC x.data.toList f st.data.toList)) -> Calls Tryz.prog 57 #[v1, v2] w2 fun e w' => e = .returned (.bool true) ∧ ∃ n, w' = w2.drewN n) := by
  intro w1 w2 v1 v2 q1 q2 q3 q4
  have hlt := hJ.lt
  exact LY w2 _ _ _ v1 v2 hlen (ag q1 (Only.dP q3) (fun i hi hx => by
   have := (q1.lt i hi).1
   have hx : i = s k := hx
   omega)) q4
 generalize Lk.bC x.data.toList f st.data.toList = FS at *
 generalize Lk.fU x.data.toList f st.data.toList = FE at *
 generalize Lk.jK x.data.toList f st.data.toList = FRS at *
 clear h h0 hBx hbW hM hM0 hI hJ hf hlen
 go_enter Tryz.func28, Tryz.ntmps28
 go_upto_region 5 with fail
 go_cut [7, 8] (fun s7 s8 w1 => s8 = .int .i64 FE ∧ Hid (w1.ownsRow W.heap.size 79 3 s7 FS.length (aZ FS) ∧ (∃ t' : ByteArray, Is w1 (r k) 85 [.string t', .int .i64 0, .int .i64 FE] ∧ (FE = 0 -> t'.data.toList = FRS ∧ t'.size <= 72)) ∧ Turns (r k) W w1))
 case first =>
  go_region_with (first | (go_at_call 48; refine (uh HC _).mono ?_; rintro e w1 ⟨v, rfl, hE⟩; have HE := hide hE; clear hE))
  all_goals
   go_wp2_with fail
   go_meet
   exact ⟨rfl, HE⟩
 case rest =>
  obtain ⟨rfl, HE⟩ := hcut
  obtain ⟨ho1, ⟨t', hI1, ht1⟩, hT1⟩ := uh HE
  obtain ⟨⟨m1, sK, q3, ml1, sl1, ql1⟩, hr⟩ := uh HR wc hT1
  have HR1 := hide hr
  have HX1 := hide (⟨ho1, hI1, ht1, hT1⟩ : _ ∧ _ ∧ _ ∧ _)
  obtain ⟨la, lc, hlv⟩ := aJ ho1
  subst hlv
  clear hr ho1 hI1 ht1 hT1 HE HR HC o0 o3 ol m0 ml rK rl
  obtain ⟨wa, hwa⟩ : ∃ wa, wa = wc := ⟨_, rfl⟩
  subst hwa
  go_upto_region 6 with fail
  go_cut [9, 10] (fun s9 s10 w2 => s10 = .int .i64 FE ∧ Hid (w2.ownsRow wa.heap.size 66 3 s9 FS.length (aZ FS) ∧ (∃ s' : ByteArray, Is w2 (s k) 54 [.string s', .int .i64 FE] ∧ (FE = 0 -> s'.data.toList = FRS)) ∧ Turns (s k) wa w2))
  case first =>
   go_region_with (first | (go_at_call 21; refine (uh HR1 _).mono ?_; rintro e w2 ⟨v, rfl, hE⟩; have HE := hide hE; clear hE))
   all_goals
    go_wp2_with fail
    go_meet
    exact ⟨rfl, HE⟩
  case rest =>
   obtain ⟨rfl, HE⟩ := hcut
   obtain ⟨ho2, ⟨s', hI2, hs2⟩, hT2⟩ := uh HE
   obtain ⟨ho1, hI1, ht1, hT1⟩ := uh HX1
   have HSE := hide (uh HSM _ _ _ _ ho1 hT1 hT2 ho2)
   have HFN := hide (fun W' hb => uh jD _ _ W' t' s' hT1 hT2 hI1 ht1 hI2 hs2 hb)
   obtain ⟨ma, mc, hmv⟩ := aJ ho2
   subst hmv
   clear ho2 hI2 hs2 hT2 ho1 hI1 ht1 hT1 HE HX1 HR1 HSM jD m1 sK q3 ml1 sl1 ql1
   go_wp2_with fail
   refine (uh HSE).mono ?_
   rintro e w3 ⟨rfl, n3, rfl⟩
   go_wp2_with fail
   refine (zg _ _).mono ?_
   rintro e w4 ⟨rfl, rfl⟩
   go_wp2_with fail
   go_ret
   have := uh HFN _ (⟨rfl, rfl, rfl, Nat.le_refl _, fun _ _ => rfl⟩ : Below wc.heap.size wc (wc.drewN n3))
   simpa using this
theorem Io (w : World) : Calls Tryz.prog 51 #[] w fun r w' => r = .returned (.pointer (some ⟨w.heap.size, 0, none⟩)) ∧ w' = w.alloc (.cells #[.string ⟨#[]⟩, .int .i64 0, .int .i64 0] 85) := by
 go_enter Tryz.func51, Tryz.ntmps51
 go_wp2
 go_ret
 exact ⟨rfl, rfl⟩
theorem BA {w : World} {g k : Nat} {T : TypeId} {f : Nat -> Nat} {t : List Value} (h : Is w g T (ptr (f 0) :: ptr (f 1) :: t)) (hk : k < 2) (x : Nat) : Is (w.setCell ⟨g, k, none⟩ (ptr x)) g T (ptr (Lk.up2 f k x 0) :: ptr (Lk.up2 f k x 1) :: t) := by
 have := h.set k (ptr x)
 have h2 : k = 0 ∨ k = 1 := by omega
 rcases h2 with rfl | rfl
 . simpa [Lk.up2] using this
 . simpa [Lk.up2] using this
theorem RDS.make {gR gS : Nat} {r s : Nat -> Nat} {W w1 : World} (h : RDS gR gS r s W) {k : Nat} (hk : k < 2) (hb : Below (W.heap.size + 1) ((W.setCell ⟨gR, k, none⟩ (ptr W.heap.size)).alloc (.cells #[.string ⟨#[]⟩, .int .i64 0, .int .i64 0] 85)) w1) (hs1 : w1.heap.size = W.heap.size + 1) :
 (∃ tl, Is w1 gR 133 (ptr (Lk.up2 r k W.heap.size 0) :: ptr (Lk.up2 r k W.heap.size 1) :: tl)) ∧ (∃ tl, Is w1 gS 52 (ptr (s 0) :: ptr (s 1) :: tl)) ∧ xw gR gS r s W (.returned (.bool true)) ((w1.setCell ⟨gS, k, none⟩ (ptr w1.heap.size)).alloc (.cells #[.string ⟨#[]⟩, .int .i64 0] 54)) := by
 obtain ⟨a, ha⟩ := h.KY
 obtain ⟨b, hb'⟩ := h.Pm
 have hRl := ha.lt
 have hSl := hb'.lt
 have hng : gS ≠ gR := hb'.ne ha (nbq rfl)
 have hX : ((W.setCell ⟨gR, k, none⟩ (ptr W.heap.size)).alloc (.cells #[.string ⟨#[]⟩, .int .i64 0, .int .i64 0] 85)).heap.size = W.heap.size + 1 := by simp
 have hb1 : Below ((W.setCell ⟨gR, k, none⟩ (ptr W.heap.size)).alloc (.cells #[.string ⟨#[]⟩, .int .i64 0, .int .i64 0] 85)).heap.size ((W.setCell ⟨gR, k, none⟩ (ptr W.heap.size)).alloc (.cells #[.string ⟨#[]⟩, .int .i64 0, .int .i64 0] 85)) w1 := by rw [hX]; exact hb
 have hO1 : Only (· = gR) W w1 := (((Only.refl (· = gR) W).set gR k _ (fun _ => rfl)).alloc _).below hb1
 have hR0 := (BA ha hk W.heap.size).alloc (.cells #[.string ⟨#[]⟩, .int .i64 0, .int .i64 0] 85)
 have hR1 := hR0.below hb1 hR0.lt
 have hN0 := Is.new (W.setCell ⟨gR, k, none⟩ (ptr W.heap.size)) 85 [.string ⟨#[]⟩, .int .i64 0, .int .i64 0]
 rw [World.size_setCell] at hN0
 have hN1 := hN0.below hb1 hN0.lt
 have hS1 := hb'.only hO1 hng
 have hO2 : Only (fun i => i = gR ∨ i = gS) W ((w1.setCell ⟨gS, k, none⟩ (ptr w1.heap.size)).alloc (.cells #[.string ⟨#[]⟩, .int .i64 0] 54)) := ((hO1.mono (fun i hi => (.inl hi : i = gR ∨ i = gS))).set gS k _ (fun _ => .inr rfl)).alloc _
 refine ⟨⟨a, hR1⟩, ⟨b, hS1⟩, rfl, ⟨Lk.up2 r k W.heap.size, Lk.up2 s k w1.heap.size, ⟨⟨a, (hR1.other ⟨gS, k, none⟩ _ (Ne.symm hng)).alloc _⟩, ⟨b, (BA hS1 hk w1.heap.size).alloc _⟩, fun j hj => ?_, fun i j hi hj e => ?_, fun i j hi hj e => ?_⟩, fun i hi => ?_⟩, hO2.mono (fun i hi => hi.elim .inl (fun x => .inr (.inl x)))⟩
 . by_cases hjk : j = k
   . subst hjk
     rw [Lk.ak, Lk.ak]
     exact ⟨⟨#[]⟩, ⟨#[]⟩, 0, (hN1.other ⟨gS, j, none⟩ _ (by show W.heap.size ≠ gS; omega)).alloc _, (by have q := Is.new (w1.setCell ⟨gS, j, none⟩ (ptr w1.heap.size)) 54 [.string ⟨#[]⟩, .int .i64 0]; rw [World.size_setCell] at q; exact q), fun _ => ⟨rfl, Nat.zero_le _⟩⟩
   . rw [Lk.ae _ _ hjk, Lk.ae _ _ hjk]
     obtain ⟨x, y, f, q1, q2, q3⟩ := h.pr j hj
     exact ⟨x, y, f, q1.only hO2 (fun e => e.elim (fun e => ha.ne q1 (nbq rfl) e.symm) (fun e => hb'.ne q1 (nbq rfl) e.symm)), q2.only hO2 (fun e => e.elim (fun e => ha.ne q2 (nbq rfl) e.symm) (fun e => hb'.ne q2 (nbq rfl) e.symm)), q3⟩
 . have hlt : ∀ j, j < 2 -> r j < W.heap.size := fun j hj => h.lt (.inr (.inr ⟨j, hj, .inl rfl⟩))
   unfold Lk.up2
   have := hlt i hi
   have := hlt j hj
   split <;> split
   . omega
   . omega
   . omega
   . exact h.ner i j hi hj e
 . have hlt : ∀ j, j < 2 -> s j < W.heap.size := fun j hj => h.lt (.inr (.inr ⟨j, hj, .inr rfl⟩))
   unfold Lk.up2
   have := hlt i hi
   have := hlt j hj
   split <;> split
   . omega
   . omega
   . omega
   . exact h.nes i j hi hj e
 . rcases hi with hi | hi | ⟨j, hj, hi⟩
   . exact .inl (.inl hi)
   . exact .inl (.inr (.inl hi))
   . by_cases hjk : j = k
     . subst hjk
       rw [Lk.ak, Lk.ak] at hi
       exact .inr (by omega)
     . rw [Lk.ae _ _ hjk, Lk.ae _ _ hjk] at hi
       exact .inl (.inr (.inr ⟨j, hj, hi⟩))
theorem KU (M gR gS cR cS : Nat) (vT vU vE vF pv : Value) (r s : Nat -> Nat) (k : Nat) (a b n : Int) (st tt : ByteArray) (ha : Option Addr) (hl hc : Nat) (w : World) (hk : k < 2) (hM : Is w M 132 [.slice (some ⟨gR, 0, none⟩) 2 cR, .slice (some ⟨gS, 0, none⟩) 2 cS, vT, vU, vE, vF, pv]) (hcR : 2 <= cR) (hcS : 2 <= cS) (h : RDS gR gS r s w) :
 Calls Tryz.prog 28 #[.pointer (some ⟨M, 0, none⟩), .agg #[.int .i64 2, .int .i64 a, .int .i64 b, .string st, .string tt, .int .i64 n, .slice ha hl hc], .int .i64 k] w (xw gR gS r s w) := by
 have hBx := Is.new w 33 [.int .i64 2, .int .i64 a, .int .i64 b, .string st, .string tt, .int .i64 n, .slice ha hl hc]
 have hbW := (Below.refl w.heap.size w).alloc (Nat.le_refl _) (.cells #[.int .i64 2, .int .i64 a, .int .i64 b, .string st, .string tt, .int .i64 n, .slice ha hl hc] 33)
 have h0 := h.below hbW
 have hM0 := hM.below hbW hM.lt
 generalize hW : w.alloc (.cells #[.int .i64 2, .int .i64 a, .int .i64 b, .string st, .string tt, .int .i64 n, .slice ha hl hc] 33) = W at *
 have o0 : W.cell? ⟨w.heap.size, 0, none⟩ = some (.int .i64 2) := hBx.cell 0
 have ol := hBx.lt
 have m0 : W.cell? ⟨M, 0, none⟩ = some (.slice (some ⟨gR, 0, none⟩) 2 cR) := hM0.cell 0
 have ml := hM0.lt
 have rK := oI h0.KY hk
 have rf : W.frozen? ⟨gR, k, none⟩ = false := by obtain ⟨_, hx⟩ := h0.KY; exact hx.free k
 have rl : gR < W.heap.size := h0.lt (.inl rfl)
 have hk2 : (k : Int) < 2 := by omega
 have hk0 : (0 : Int) <= k := by omega
 have hMR : M ≠ gR := by obtain ⟨_, hx⟩ := h0.KY; exact hM0.ne hx (nbq rfl)
 have HN := hide Io
 have HMK : Hid (∀ w1, Below (W.heap.size + 1) ((W.setCell ⟨gR, k, none⟩ (ptr W.heap.size)).alloc (.cells #[.string ⟨#[]⟩, .int .i64 0, .int .i64 0] 85)) w1 -> w1.heap.size = W.heap.size + 1 -> (w1.cell? ⟨M, 0, none⟩ = some (.slice (some ⟨gR, 0, none⟩) 2 cR) ∧ w1.cell? ⟨M, 1, none⟩ = some (.slice (some ⟨gS, 0, none⟩) 2 cS) ∧ w1.cell? ⟨gR, k, none⟩ = some (.pointer (some ⟨W.heap.size, 0, none⟩)) ∧ w1.cell? ⟨gS, k, none⟩ = some (.pointer (some ⟨s k, 0, none⟩)) ∧ w1.frozen? ⟨gS, k, none⟩ = false ∧ (M < w1.heap.size ∧ gR < w1.heap.size ∧ gS < w1.heap.size) ∧ gR ≠ gS ∧ M ≠ gS) ∧ xw gR gS r s w (.returned (.bool true)) ((w1.setCell ⟨gS, k, none⟩ (ptr w1.heap.size)).alloc (.cells #[.string ⟨#[]⟩, .int .i64 0] 54))) := by
  intro w1 hb hs
  obtain ⟨p1, p2, p3⟩ := h0.make hk hb hs
  have hM1 : Is w1 M 132 [.slice (some ⟨gR, 0, none⟩) 2 cR, .slice (some ⟨gS, 0, none⟩) 2 cS, vT, vU, vE, vF, pv] := by
   have e1 := (hM0.other ⟨gR, k, none⟩ (ptr W.heap.size) hMR).alloc (.cells #[.string ⟨#[]⟩, .int .i64 0, .int .i64 0] 85)
   have e2 : ((W.setCell ⟨gR, k, none⟩ (ptr W.heap.size)).alloc (.cells #[.string ⟨#[]⟩, .int .i64 0, .int .i64 0] 85)).heap.size = W.heap.size + 1 := by simp
   exact e1.below (by rw [e2]; exact hb) e1.lt
  have c1 := oI p1 hk
  rw [Lk.ak] at c1
  have c2 := oI p2 hk
  obtain ⟨t1, x1⟩ := p1
  obtain ⟨t2, x2⟩ := p2
  refine ⟨⟨hM1.cell 0, hM1.cell 1, c1, c2, x2.free k, ⟨hM1.lt, x1.lt, x2.lt⟩, x1.ne x2 (nbq rfl), hM1.ne x2 (nbq rfl)⟩, p3.1, ?_, ?_⟩
  . obtain ⟨_, ⟨r', s', g1, g2⟩, _⟩ := p3
    exact ⟨r', s', g1, fun i hi => (g2 i hi).imp id (fun x => Nat.le_trans hbW.size x)⟩
  . exact (Only.of_below hbW _).trans p3.2.2 (fun _ x _ => x)
 clear h h0 hBx hbW hM hM0
 go_enter Tryz.func28, Tryz.ntmps28
 go_upto_region 2 with fail
 go_cut [] (fun w1 => Hid (Below (W.heap.size + 1) ((W.setCell ⟨gR, k, none⟩ (ptr W.heap.size)).alloc (.cells #[.string ⟨#[]⟩, .int .i64 0, .int .i64 0] 85)) w1 ∧ w1.heap.size = W.heap.size + 1))
 case first =>
  go_region_with (first | (go_at_call 51; refine (uh HN _).mono ?_; rintro e w1 ⟨rfl, rfl⟩))
  all_goals
   go_wp2_with fail
   go_meet
   exact ⟨⟨rfl, rfl, rfl, by simp, fun _ _ => rfl⟩, by simp⟩
 case rest =>
  obtain ⟨hb, hs⟩ := uh hcut
  obtain ⟨⟨n0, n1, cR', cS', cf, ⟨l1, l2, l3⟩, g1, g2⟩, hfin⟩ := uh HMK wc hb hs
  have jD := hide hfin
  have g1' := Ne.symm g1
  have g2' := Ne.symm g2
  clear hb hs hfin hcut HMK HN o0 ol m0 ml rK rf rl
  go_wp2_with fail
  go_ret
  exact uh jD
end Go.Proofs.YtbkpdapagfjmmaaGreatDoor
