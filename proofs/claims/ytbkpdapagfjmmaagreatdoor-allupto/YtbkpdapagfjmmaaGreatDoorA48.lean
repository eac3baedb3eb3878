import Derived.Test.YtbkpdapagfjmmaaGreatDoorA46
set_option linter.unusedVariables false
set_option maxRecDepth 100000
set_option maxHeartbeats 16000000
namespace Go.Proofs.YtbkpdapagfjmmaaGreatDoor
open Go.RowKit
theorem NY {w w' : World} {v : Value} {l : List ByteArray} {B : Nat} (h : Strs w v l) (hb : Below B w w') (hx : ∀ (x : Addr) (n c : Nat), v = .slice (some x) n c -> n ≠ 0 -> x.block < B) : Strs w' v l := by
 rcases h with h | ⟨g, o, cap, h1, h2, h3⟩
 . exact .inl h
 . by_cases h0 : l = []
   . subst h0
     exact .inl ⟨rfl, _, _, h1⟩
   . have hg := hx _ _ _ h1 (fun e => h0 (List.eq_nil_of_length_eq_zero e))
     refine .inr ⟨g, o, cap, h1, Nat.lt_of_lt_of_le h2 hb.size, fun i x hi => ?_⟩
     rw [hb.cell (p := ⟨g, o + i, none⟩) hg]
     exact h3 i x hi
theorem D6 (G : EG) (S : EV) (k : Nat) (a b c : Int) (st tt : ByteArray) (ha : Option Addr) (hl hc : Nat) (l : List ByteArray) (w : World) (h : EP G S w) (hk : k < 2) (hef : S.f k = S.e k) (hrow : (S.e k).row.length <= 2 ^ 39) (D7 : l.length <= 2 ^ 40) (hSt : Strs w (.slice ha hl hc) l) (hSX : ∀ (x : Addr) (n c : Nat), Value.slice ha hl hc = .slice (some x) n c -> n ≠ 0 -> x.block < G.b0) :
 Calls Tryz.prog 67 #[.pointer (some ⟨G.M, 0, none⟩), .agg #[.int .i64 9, .int .i64 a, .int .i64 b, .string st, .string tt, .int .i64 c, .slice ha hl hc], .int .i64 k] w fun r w' => r = .returned (.bool true) ∧ ∃ d' p', df G S w (S.to k ((S.e k).aW (pairs l) st.data.toList).2 d' p') w' := by
 have hBx := Is.new w 33 [.int .i64 9, .int .i64 a, .int .i64 b, .string st, .string tt, .int .i64 c, .slice ha hl hc]
 have hbW := (Below.refl w.heap.size w).alloc (Nat.le_refl _) (.cells #[.int .i64 9, .int .i64 a, .int .i64 b, .string st, .string tt, .int .i64 c, .slice ha hl hc] 33)
 have hop := h.op w.heap.size (Nat.le_refl _)
 have h0 := h.below hbW
 have QQ := hSt.below hbW (Nat.le_refl _)
 generalize hW : w.alloc (.cells #[.int .i64 9, .int .i64 a, .int .i64 b, .string st, .string tt, .int .i64 c, .slice ha hl hc] 33) = W at *
 have o0 : W.cell? ⟨w.heap.size, 0, none⟩ = some (.int .i64 9) := hBx.cell 0
 have o3 : W.cell? ⟨w.heap.size, 3, none⟩ = some (.string st) := hBx.cell 3
 have o6 : W.cell? ⟨w.heap.size, 6, none⟩ = some (.slice ha hl hc) := hBx.cell 6
 have ol := hBx.lt
 have m4 : W.cell? ⟨G.M, 4, none⟩ = some (.slice (some ⟨G.gE, 0, none⟩) 2 G.cE) := h0.made.cell 4
 have m5 : W.cell? ⟨G.M, 5, none⟩ = some (.slice (some ⟨G.gF, 0, none⟩) 2 G.cF) := h0.made.cell 5
 have eK := dQ h0.ve hk
 have fK := dQ h0.vg hk
 have ml := h0.made.lt
 have el : G.gE < W.heap.size := by obtain ⟨_, hx⟩ := h0.ve; exact hx.lt
 have fl : G.gF < W.heap.size := by obtain ⟨_, hx⟩ := h0.vg; exact hx.lt
 obtain ⟨hc1, hc2, hc3⟩ := h0.cap
 have hk2 : (k : Int) < 2 := by omega
 have hk0 : (0 : Int) <= k := by omega
 have VE : bs st.data.toList = st := by unfold bs; rfl
 have Xr : ∀ {S1 : EV} {w1 : World}, df G S W S1 w1 -> ¬ mf G S1 w.heap.size := fun hs hx => by
  rcases hs.2.1 _ hx with x | x
  . exact hop x
  . omega
 generalize hR : (S.e k).aW (pairs l) st.data.toList = R at *
 obtain ⟨⟨r1, r2, r3⟩, E'⟩ := R
 have HHD : Hid (∀ n, Calls Tryz.prog 20 #[.slice ha hl hc] (W.drewN n) fun r w1 => ∃ lv, r = .returned lv ∧ (w1.cell? ⟨w.heap.size, 3, none⟩ = some (.string st) ∧ w.heap.size < w1.heap.size) ∧ Hid (Calls Tryz.prog 19 #[.pointer (some ⟨S.eb k, 0, none⟩), lv, .string st] w1 fun r w2 => r = .returned (.tuple #[.int .i64 (r1 : Int), .int .i64 (r2 : Int), .int .i64 (r3 : Int)]) ∧ ∃ d', df G S W { S with e := Lk.up2 S.e k E', d := Lk.up2 S.d k d' } w2)) := by
  intro n
  have hbn : Below W.heap.size W (W.drewN n) := ⟨rfl, rfl, rfl, Nat.le_refl _, fun _ _ => rfl⟩
  refine (uD (.slice ha hl hc) l (W.drewN n) (by omega) (QQ.below hbn (Nat.le_refl _))).mono ?_
  rintro r w1 ⟨lv, rfl, hlo, hb1⟩
  have hb1 : Below W.heap.size W w1 := ⟨hb1.os, hb1.tape, hb1.output, hb1.size, hb1.block⟩
  have hB1 := hBx.below hb1 hBx.lt
  have h1 := h0.below hb1
  refine ⟨lv, rfl, ⟨hB1.cell 3, hB1.lt⟩, ?_⟩
  refine (NQ (S.eb k) W.heap.size (S.e k) (S.d k) (pairs l) lv st w1 (h1.pe k hk) h1.fx hlo).mono ?_
  rintro r w2 ⟨rfl, hP⟩
  rw [hR] at hP ⊢
  obtain ⟨d', est⟩ := h1.DW hk hP
  exact ⟨rfl, d', est.before hb1⟩
 have HTH : Hid (∀ w2 d', df G S W { S with e := Lk.up2 S.e k E', d := Lk.up2 S.d k d' } w2 -> Is w2 w.heap.size 33 [.int .i64 9, .int .i64 a, .int .i64 b, .string st, .string tt, .int .i64 c, .slice ha hl hc] ∧ ∀ n, Calls Tryz.prog 61 #[.slice ha hl hc] (w2.drewN n) fun r w3 => ∃ lv, r = .returned lv ∧ (w3.cell? ⟨w.heap.size, 3, none⟩ = some (.string st) ∧ w.heap.size < w3.heap.size) ∧ Hid (Calls Tryz.prog 110 #[.pointer (some ⟨S.rb k, 0, none⟩), lv, .string st] w3 fun r w4 => r = .returned (.tuple #[.int .i64 (r1 : Int), .int .i64 (r2 : Int), .int .i64 (r3 : Int)]) ∧ ∃ d' p', df G S w (S.to k E' d' p') w4)) := by
  intro w2 d' est
  have hB2 := hBx.only est.2.2 hop
  refine ⟨hB2, fun n => ?_⟩
  have hbn : Below w2.heap.size w2 (w2.drewN n) := ⟨rfl, rfl, rfl, Nat.le_refl _, fun _ _ => rfl⟩
  have hb0 : Below G.b0 W w2 := est.bel h0 (Below.refl _ W)
  refine (pU (.slice ha hl hc) l (w2.drewN n) (by omega) ?_).mono ?_
  . exact NY QQ (hb0.trans ⟨rfl, rfl, rfl, Nat.le_refl _, fun _ _ => rfl⟩) hSX
  rintro r w3 ⟨lv, rfl, hlo, hb3⟩
  have hb3 : Below w2.heap.size w2 w3 := ⟨hb3.os, hb3.tape, hb3.output, hb3.size, hb3.block⟩
  have hB3 := hB2.below hb3 hB2.lt
  have Su := est.after hb3
  refine ⟨lv, rfl, ⟨hB3.cell 3, hB3.lt⟩, ?_⟩
  have hw : Lk.Wf (S.f k) := by rw [hef]; exact (h.pe k hk).wf
  have Bl := D5 (S.rb k) w2.heap.size (S.f k) (S.p k) (pairs l) lv st.data.toList w3 (Su.1.re k hk) hw hlo (by rw [hef]; omega)
  rw [hef, VE, hR] at Bl
  refine Bl.mono ?_
  rintro r w4 ⟨rfl, hP⟩
  obtain ⟨p', Xt⟩ := Su.1.DX hk hP
  exact ⟨rfl, d', p', ((Su.trans Xt).before hbW)⟩
 clear h h0 hBx hbW hop Xr hef hrow hSt QQ hSX hR VE D7
 go_enter Tryz.func67, Tryz.ntmps67
 go_upto_region 5 with fail
 go_cut [9, 10, 11] (fun s9 s10 s11 w2 => s9 = .int .i64 (r1 : Int) ∧ s10 = .int .i64 (r2 : Int) ∧ s11 = .int .i64 (r3 : Int) ∧ Hid (∃ d', df G S W { S with e := Lk.up2 S.e k E', d := Lk.up2 S.d k d' } w2))
 case first =>
  go_region_with (first
   | (go_at_call 20; refine (uh HHD _).mono ?_; rintro r w1 ⟨lv, rfl, ⟨p3, pl⟩, HS1⟩)
   | (go_at_call 19; refine (uh HS1).mono ?_; rintro r w2 ⟨rfl, hE⟩; have HE := hide hE; clear hE))
  all_goals
   go_wp2_with fail
   go_meet
   exact ⟨rfl, rfl, rfl, HE⟩
 case rest =>
  obtain ⟨rfl, rfl, rfl, HE⟩ := hcut
  obtain ⟨d', hE⟩ := uh HE
  obtain ⟨hB2, hth⟩ := uh HTH wc d' hE
  have q3 : wc.cell? ⟨w.heap.size, 3, none⟩ = some (.string st) := hB2.cell 3
  have q6 : wc.cell? ⟨w.heap.size, 6, none⟩ = some (.slice ha hl hc) := hB2.cell 6
  have ql := hB2.lt
  have Xu := hide hth
  clear hE hB2 hth HE HTH HHD o0 o3 o6 ol m4 m5 eK fK ml el fl
  obtain ⟨wa, hwa⟩ : ∃ wa, wa = wc := ⟨_, rfl⟩
  subst hwa
  go_upto_region 6 with fail
  go_cut [12, 13, 14] (fun s12 s13 s14 w4 => s12 = .int .i64 (r1 : Int) ∧ s13 = .int .i64 (r2 : Int) ∧ s14 = .int .i64 (r3 : Int) ∧ Hid (∃ d' p', df G S w (S.to k E' d' p') w4))
  case first =>
   go_region_with (first
    | (go_at_call 61; refine (uh Xu _).mono ?_; rintro r w3 ⟨lv, rfl, ⟨p3, pl⟩, HS3⟩)
    | (go_at_call 110; refine (uh HS3).mono ?_; rintro r w4 ⟨rfl, hE⟩; have HE := hide hE; clear hE))
   all_goals
    go_wp2_with fail
    go_meet
    exact ⟨rfl, rfl, rfl, HE⟩
  case rest =>
   obtain ⟨rfl, rfl, rfl, HE⟩ := hcut
   go_wp2_with fail
   refine (zg _ _).mono ?_
   rintro r w5 ⟨rfl, rfl⟩
   go_wp2_with fail
   go_ret
   exact ⟨by first | rfl | simp, uh HE⟩
end Go.Proofs.YtbkpdapagfjmmaaGreatDoor
