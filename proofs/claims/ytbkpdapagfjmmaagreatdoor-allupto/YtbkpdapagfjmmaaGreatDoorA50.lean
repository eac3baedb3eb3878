import Derived.Test.YtbkpdapagfjmmaaGreatDoorA49
import Derived.Test.YtbkpdapagfjmmaaGreatDoorA51
import Derived.Test.YtbkpdapagfjmmaaGreatDoorA52
set_option linter.unusedVariables false
set_option maxRecDepth 100000
set_option maxHeartbeats 16000000
namespace Go.Proofs.YtbkpdapagfjmmaaGreatDoor
open Go.RowKit
def EV.mk2 (S : EV) (k b b2 : Nat) (e' : Lk.En) (d' : PD) (p' : RP) : EV := ⟨Lk.up2 S.eb k b, Lk.up2 S.rb k b2, Lk.up2 S.e k e', Lk.up2 S.f k e', Lk.up2 S.d k d', Lk.up2 S.p k p', Lk.up2 S.pp k []⟩
theorem EP.make {G : EG} {S : EV} {W w1 w2 : World} {k b b2 : Nat} {e' : Lk.En} {d' : PD} {p' : RP} (h : EP G S W) (hk : k < 2) (hb1 : Below W.heap.size W w1) (hb2 : Below w1.heap.size w1 w2) (h1 : kM w1 b e' d') (h2 : ∀ i, foot b d' i -> W.heap.size <= i) (h3 : aT True w2 b2 e' p') (h4 : ∀ i, aI b2 p' i -> w1.heap.size <= i) :
 df G S W (S.mk2 k b b2 e' d' p') (((w2.setCell ⟨G.gE, k, none⟩ (ptr b)).setCell ⟨G.gF, k, none⟩ (ptr b2)).setCell ⟨G.gP, k, none⟩ (.string (bs []))) := by
 have hs1 := hb1.size
 have hs2 := hb2.size
 have hb0 : G.b0 <= W.heap.size := by
  have := h.lo G.M (.inl (.inl rfl))
  have := h.made.lt
  omega
 have QR : Below W.heap.size W w2 := hb1.trans (hb2.mono hs1)
 have hE2 := h.below QR
 have hP2 : kM w2 b e' d' := h1.only (Only.of_below hb2 (fun _ => False)) (fun _ _ x => x)
 obtain ⟨hA, hAm⟩ := hE2.Xj hk hP2 (fun i hi => ⟨fun hx => by have := h.at_ hx; have := h2 i hi; omega, by have := h2 i hi; omega⟩)
 have hgE : ∀ i, aI b2 p' i -> i ≠ G.gE := fun i hi hx => by
  have h5 := h4 i hi
  have h6 := h.at_ (i := G.gE) (.inl (.inr (.inl rfl)))
  omega
 have hO1 : Only (· = G.gE) w2 (w2.setCell ⟨G.gE, k, none⟩ (ptr b)) := (Only.refl _ w2).set G.gE k _ (fun _ => rfl)
 have h3' := h3.only hO1 hgE
 obtain ⟨hB, hBm⟩ := hA.Xk hk h3' (fun i hi => ⟨fun hx => by
  have h5 := h4 i hi
  rcases hAm i hx with x | x
  . have := h.at_ x
    omega
  . have := h1.lt i x
    omega, by have := h4 i hi; omega⟩)
 have hC := hB.UA hk []
 have hO : Only (mf G S) W (((w2.setCell ⟨G.gE, k, none⟩ (ptr b)).setCell ⟨G.gF, k, none⟩ (ptr b2)).setCell ⟨G.gP, k, none⟩ (.string (bs []))) := (((Only.of_below QR _).set G.gE k _ (fun _ => .inl (.inr (.inl rfl)))).set G.gF k _ (fun _ => .inl (.inr (.inr (.inl rfl))))).set G.gP k _ (fun _ => .inl (.inr (.inr (.inr rfl))))
 refine ⟨hC.1, fun i hi => ?_, hO⟩
 have hi2 : mf G { S with eb := Lk.up2 S.eb k b, e := Lk.up2 S.e k e', d := Lk.up2 S.d k d', rb := Lk.up2 S.rb k b2, f := Lk.up2 S.f k e', p := Lk.up2 S.p k p' } i := hi
 rcases hBm i hi2 with x | x
 . rcases hAm i x with y | y
   . exact .inl y
   . exact .inr (h2 i y)
 . exact .inr (by have := h4 i x; omega)
theorem D8 (G : EG) (S : EV) (N k : Nat) (a b c : Int) (st tt : ByteArray) (ha : Option Addr) (hl hc : Nat) (w : World) (hI : EI G S N w) (hk : k < 2) (hN : N <= 2 ^ 36) (hbad : qJ a c) :
 Calls Tryz.prog 30 #[.pointer (some ⟨G.M, 0, none⟩), .agg #[.int .i64 8, .int .i64 a, .int .i64 b, .string st, .string tt, .int .i64 c, .slice ha hl hc], .int .i64 k] w (EPost G S (N + 12800) w) := by
 have h := hI.ep
 have hBx := Is.new w 33 [.int .i64 8, .int .i64 a, .int .i64 b, .string st, .string tt, .int .i64 c, .slice ha hl hc]
 have hbW := (Below.refl w.heap.size w).alloc (Nat.le_refl _) (.cells #[.int .i64 8, .int .i64 a, .int .i64 b, .string st, .string tt, .int .i64 c, .slice ha hl hc] 33)
 have hop := h.op w.heap.size (Nat.le_refl _)
 have h0 := h.below hbW
 generalize hW : w.alloc (.cells #[.int .i64 8, .int .i64 a, .int .i64 b, .string st, .string tt, .int .i64 c, .slice ha hl hc] 33) = W at *
 have o0 : W.cell? ⟨w.heap.size, 0, none⟩ = some (.int .i64 8) := hBx.cell 0
 have o1 : W.cell? ⟨w.heap.size, 1, none⟩ = some (.int .i64 a) := hBx.cell 1
 have o2 : W.cell? ⟨w.heap.size, 2, none⟩ = some (.int .i64 b) := hBx.cell 2
 have o3 : W.cell? ⟨w.heap.size, 3, none⟩ = some (.string st) := hBx.cell 3
 have o4 : W.cell? ⟨w.heap.size, 4, none⟩ = some (.string tt) := hBx.cell 4
 have o5 : W.cell? ⟨w.heap.size, 5, none⟩ = some (.int .i64 c) := hBx.cell 5
 have o6 : W.cell? ⟨w.heap.size, 6, none⟩ = some (.slice ha hl hc) := hBx.cell 6
 have ol := hBx.lt
 obtain ⟨hc1, hc2, hc3⟩ := h0.cap
 have ml := h0.made.lt
 have hk2 : (k : Int) < 2 := by omega
 have hk0 : (0 : Int) <= k := by omega
 have jD : Hid (EPost G S (N + 12800) w (.returned (.bool true)) W) := ⟨rfl, S, (df.refl h0).before hbW, hI.eq, hI.es.later (by omega)⟩
 have HP := hide (Qj a c hbad W)
 have HR := hide (NM a c hbad W)
 clear h h0 hBx hbW hop hI hN hbad
 go_enter Tryz.func30, Tryz.ntmps30
 go_wp2_with fail
 refine (uh HP).mono ?_
 rintro r w1 ⟨rfl, rfl⟩
 go_wp2_with fail
 refine (uh HR).mono ?_
 rintro r w2 ⟨rfl, rfl⟩
 go_wp2_with fail
 refine (zg _ _).mono ?_
 rintro r w3 ⟨rfl, rfl⟩
 go_wp2_with fail
 go_ret
 exact uh jD
theorem Ih (G : EG) (S : EV) (N k : Nat) (a b c : Int) (st tt : ByteArray) (ha : Option Addr) (hl hc : Nat) (w : World) (hI : EI G S N w) (hk : k < 2) (hN : N <= 2 ^ 36) (s win : Nat) (has : a = s) (hcw : c = win) (hs : s <= 1) (h1 : 1 <= win) (h2 : win <= 200) :
 Calls Tryz.prog 30 #[.pointer (some ⟨G.M, 0, none⟩), .agg #[.int .i64 8, .int .i64 a, .int .i64 b, .string st, .string tt, .int .i64 c, .slice ha hl hc], .int .i64 k] w (EPost G S (N + 12800) w) := by
 subst has hcw
 have h := hI.ep
 have hBx := Is.new w 33 [.int .i64 8, .int .i64 (s : Int), .int .i64 b, .string st, .string tt, .int .i64 (win : Int), .slice ha hl hc]
 have hbW := (Below.refl w.heap.size w).alloc (Nat.le_refl _) (.cells #[.int .i64 8, .int .i64 (s : Int), .int .i64 b, .string st, .string tt, .int .i64 (win : Int), .slice ha hl hc] 33)
 have hop := h.op w.heap.size (Nat.le_refl _)
 have h0 := h.below hbW
 generalize hW : w.alloc (.cells #[.int .i64 8, .int .i64 (s : Int), .int .i64 b, .string st, .string tt, .int .i64 (win : Int), .slice ha hl hc] 33) = W at *
 have o0 : W.cell? ⟨w.heap.size, 0, none⟩ = some (.int .i64 8) := hBx.cell 0
 have o1 : W.cell? ⟨w.heap.size, 1, none⟩ = some (.int .i64 (s : Int)) := hBx.cell 1
 have o2 : W.cell? ⟨w.heap.size, 2, none⟩ = some (.int .i64 b) := hBx.cell 2
 have o3 : W.cell? ⟨w.heap.size, 3, none⟩ = some (.string st) := hBx.cell 3
 have o4 : W.cell? ⟨w.heap.size, 4, none⟩ = some (.string tt) := hBx.cell 4
 have o5 : W.cell? ⟨w.heap.size, 5, none⟩ = some (.int .i64 (win : Int)) := hBx.cell 5
 have o6 : W.cell? ⟨w.heap.size, 6, none⟩ = some (.slice ha hl hc) := hBx.cell 6
 have ol := hBx.lt
 obtain ⟨hc1, hc2, hc3⟩ := h0.cap
 have ml := h0.made.lt
 have hk2 : (k : Int) < 2 := by omega
 have hk0 : (0 : Int) <= k := by omega
 have h0s : 0 < W.heap.size := by omega
 have HP := hide (OQ s win hs h1 h2 W h0s)
 have HR := hide (fun w1 => Ky s win hs h1 h2 w1)
 have HX : Hid (∀ w1 w2 b b2 d' p', Below W.heap.size W w1 -> Below w1.heap.size w1 w2 -> kM w1 b (Lk.En.new s win) d' -> (∀ i, foot b d' i -> W.heap.size <= i) -> aT True w2 b2 (Lk.En.new s win) p' -> (∀ i, aI b2 p' i -> w1.heap.size <= i) -> (Is w2 G.M 132 (Qp G) ∧ (∃ t, Is w2 G.gE 34 (ptr (S.eb 0) :: ptr (S.eb 1) :: t)) ∧ (∃ t, Is w2 G.gF 141 (ptr (S.rb 0) :: ptr (S.rb 1) :: t)) ∧ Is w2 G.gP 9 [.string (bs (S.pp 0)), .string (bs (S.pp 1))]) ∧ EPost G S (N + 12800) w (.returned (.bool true)) (((w2.setCell ⟨G.gE, k, none⟩ (ptr b)).setCell ⟨G.gF, k, none⟩ (ptr b2)).setCell ⟨G.gP, k, none⟩ (.string (bs [])))) := by
  intro w1 w2 b b2 d' p' k1 k2 k3 k4 k5 k6
  have hx := h0.below (k1.trans (k2.mono k1.size))
  refine ⟨⟨hx.made, hx.ve, hx.vg, hx.rowP⟩, rfl, _, (h0.make hk k1 k2 k3 k4 k5 k6).before hbW, ?_, hI.es.make hk hs h1 h2⟩
  show Lk.up2 S.f k _ = Lk.up2 S.e k _
  rw [hI.eq]
 have HOB := hide (fun w1 (hb : Below W.heap.size W w1) => hBx.below hb hBx.lt)
 clear h h0 hBx hbW hop hI hN hs h1 h2 h0s
 go_enter Tryz.func30, Tryz.ntmps30
 go_wp2_with fail
 refine (uh HP).mono ?_
 rintro r w1 ⟨b1, d1, rfl, hPE, hft, hb1⟩
 have hB1 := uh HOB w1 hb1
 have q1 : w1.cell? ⟨w.heap.size, 1, none⟩ = some (.int .i64 (s : Int)) := hB1.cell 1
 have q5 : w1.cell? ⟨w.heap.size, 5, none⟩ = some (.int .i64 (win : Int)) := hB1.cell 5
 have ql := hB1.lt
 have HX1 := hide (⟨hPE, hft, hb1⟩ : _ ∧ _ ∧ _)
 clear hPE hft hb1 hB1 HOB HP
 go_wp2_with fail
 refine (uh HR w1).mono ?_
 rintro r w2 ⟨b2, p2, rfl, hRE, Nz, hb2⟩
 obtain ⟨hPE, hft, hb1⟩ := uh HX1
 obtain ⟨⟨hM, hE, hF, hP⟩, hfin⟩ := uh HX w1 w2 b1 b2 d1 p2 hb1 hb2 hPE hft hRE Nz
 have m4 : w2.cell? ⟨G.M, 4, none⟩ = some (.slice (some ⟨G.gE, 0, none⟩) 2 G.cE) := hM.cell 4
 have m5 : w2.cell? ⟨G.M, 5, none⟩ = some (.slice (some ⟨G.gF, 0, none⟩) 2 G.cF) := hM.cell 5
 have m6 : w2.cell? ⟨G.M, 6, none⟩ = some (.slice (some ⟨G.gP, 0, none⟩) 2 G.cP) := hM.cell 6
 have eK := dQ hE hk
 have fK := dQ hF hk
 have pK : w2.cell? ⟨G.gP, k, none⟩ = some (.string (bs (S.pp k))) := by
  rw [hP.cell]
  have h2 : k = 0 ∨ k = 1 := by omega
  rcases h2 with rfl | rfl <;> rfl
 have pf := hP.free k
 have pl := hP.lt
 have ml2 := hM.lt
 obtain ⟨tE, hE⟩ := hE
 obtain ⟨tF, hF⟩ := hF
 have ef := hE.free k
 have el := hE.lt
 have ff := hF.free k
 have fl := hF.lt
 have nMP := hM.ne hP (nbq rfl)
 have nME := hM.ne hE (nbq rfl)
 have nMF := hM.ne hF (nbq rfl)
 have nEF := hE.ne hF (nbq rfl)
 have nEP := hE.ne hP (nbq rfl)
 have nFP := hF.ne hP (nbq rfl)
 have nFE := Ne.symm nEF
 have nPE := Ne.symm nEP
 have nPF := Ne.symm nFP
 have nEM := Ne.symm nME
 have nFM := Ne.symm nMF
 have jD := hide hfin
 clear hPE hft hb1 hM hE hF hP hfin hRE Nz hb2 HX HX1 HR q1 q5 ql o0 o1 o2 o3 o4 o5 o6 ol ml
 go_wp2_with fail
 refine (zg _ _).mono ?_
 rintro r w3 ⟨rfl, rfl⟩
 go_wp2_with fail
 go_ret
 exact uh jD
theorem pV {B : Nat} {w : World} {E : TypeId} {v : Value} {l : List Nat} {a b : Nat} (h : w.ownsRow B E 1 v l.length (l.map ptr)) (hl : l = [a, b]) : ∃ g cap t, v = .slice (some ⟨g, 0, none⟩) 2 cap ∧ B <= g ∧ 2 <= cap ∧ Is w g E (ptr a :: ptr b :: t) := by
 subst hl
 rcases h.2 with ⟨_, h0⟩ | ⟨g, cap, cur, rfl, hB, hg, hn, hc, hs, ht⟩
 . simp at h0
 . have hI : Is w g E cur.toList := by unfold Is; simpa using hg
   refine ⟨g, cap, cur.toList.drop 2, rfl, hB, hn, ?_⟩
   have e := List.take_append_drop 2 cur.toList
   have e2 : cur.toList.take 2 = [ptr a, ptr b] := by simpa using ht
   rw [e2] at e
   rw [<- e] at hI
   simpa using hI
def phi (q : Nat) : Nat := if q < 2 then 2 * q else 2 * (q - 2) + 1
theorem N9 (G : EG) (S : EV) (N k : Nat) (kd a b c : Int) (st tt : ByteArray) (ha : Option Addr) (hl hc : Nat) (l : List ByteArray) (w : World) (hI : EI G S N w) (hk : k < 2) (hN : N <= 2 ^ 36) (h8 : 8 <= kd) (h16 : kd <= 16) (hst : st.size <= 1048576) (hIa : I64 a) (D7 : l.length <= 2 ^ 40) (hSt : Strs w (.slice ha hl hc) l) (hSX : ∀ (x : Addr) (n c : Nat), Value.slice ha hl hc = .slice (some x) n c -> n ≠ 0 -> x.block < G.b0) :
 Calls Tryz.prog 30 #[.pointer (some ⟨G.M, 0, none⟩), .agg #[.int .i64 kd, .int .i64 a, .int .i64 b, .string st, .string tt, .int .i64 c, .slice ha hl hc], .int .i64 k] w (EPost G S (N + 1700 * (st.size + 8)) w) := by
 have later : ∀ M', M' <= N + 1700 * (st.size + 8) -> ∀ r W', EPost G S M' w r W' -> EPost G S (N + 1700 * (st.size + 8)) w r W' := by
  rintro M' hM r W' ⟨hr, S', h1, h2, h3⟩
  exact ⟨hr, S', h1, h2, h3.later hM⟩
 have Xw : -9223372036854775808 <= a ∧ a <= 9223372036854775807 := hIa
 obtain ⟨Xx, VG⟩ := Xw
 by_cases h9 : 9 <= kd ∧ kd <= 13
 . exact (KI G S N k kd a b c st tt ha hl hc w hI hk hN h9.1 h9.2 hIa l D7 hSt hSX).mono (later (N + 5000) (by omega))
 . have hkd : kd = 8 ∨ kd = 14 ∨ kd = 15 ∨ kd = 16 := by omega
   rcases hkd with rfl | rfl | rfl | rfl
   . by_cases hb : qJ a c
     . exact (D8 G S N k a b c st tt ha hl hc w hI hk hN hb).mono (later (N + 12800) (by omega))
     . obtain ⟨s, win, h1, h2, h3, h4, h5⟩ := H5 hb
       exact (Ih G S N k a b c st tt ha hl hc w hI hk hN s win h1 h2 h3 h4 h5).mono (later (N + 12800) (by omega))
   . exact (Ig G S N k a b c st tt ha hl hc w hI hk hN VG).mono (later (N) (by omega))
   . exact (KJ G S N k a b c st tt ha hl hc w hI hk hN (by omega)).mono (later (N + (2 * st.size + 10)) (by omega))
   . exact (KL G S N k a b c st tt ha hl hc w hI hk hN Xx VG (1 - k) (by omega) (by omega)).mono (later (N + 10) (by omega))
theorem Qx {w : World} {v : Value} {l : List ByteArray} (h : Strs w v l) (x : Addr) (n c : Nat) (e : v = .slice (some x) n c) (hn : n ≠ 0) : x.block < w.heap.size := by
 rcases h with ⟨rfl, a, c', rfl⟩ | ⟨g, o, cap, rfl, h2, h3⟩
 . cases e; exact absurd rfl hn
 . cases e; exact h2
theorem Oa (b : Int) : ∃ k : Nat, k < 2 ∧ bits .and .i64 b 1 = (k : Int) := by
 have h : ∀ x : BitVec 64, (x &&& 1#64).toNat = 0 ∨ (x &&& 1#64).toNat = 1 := by
  intro x
  rw [BitVec.toNat_and]
  have : (1#64).toNat = 2 ^ 1 - 1 := rfl
  rw [this, Nat.and_two_pow_sub_one_eq_mod]
  omega
 have e : bits .and .i64 b 1 = IntKind.i64.wrap (((BitVec.ofInt 64 b) &&& 1#64).toNat : Int) := rfl
 rw [e]
 rcases h (BitVec.ofInt 64 b) with h | h <;> rw [h]
 . exact ⟨0, by omega, rfl⟩
 . exact ⟨1, by omega, rfl⟩
structure AK where
 gR : Nat
 gS : Nat
 cR : Nat
 cS : Nat
 gT : Nat
 gU : Nat
 cT : Nat
 cU : Nat
structure AV where
 r : Nat -> Nat
 s : Nat -> Nat
 t : Nat -> Nat
 u : Nat -> Nat
 B : Nat -> Nat
 L : Nat -> List Lk.Hd
abbrev AK.rf (K : AK) (V : AV) : Nat -> Prop := RF K.gR K.gS V.r V.s
abbrev AK.tf (K : AK) (V : AV) : Nat -> Prop := TF K.gT K.gU V.t V.u
def Ip (G : EG) (K : AK) (X : Nat -> Prop) (V : AV) (w : World) : Prop := vG X G.b0 G.M K.gT K.gU K.cT K.cU (.slice (some ⟨K.gR, 0, none⟩) 2 K.cR) (.slice (some ⟨K.gS, 0, none⟩) 2 K.cS) (.slice (some ⟨G.gE, 0, none⟩) 2 G.cE) (.slice (some ⟨G.gF, 0, none⟩) 2 G.cF) (.slice (some ⟨G.gP, 0, none⟩) 2 G.cP) V.t V.u V.B V.L V.L w
structure AI (G : EG) (K : AK) (S : EV) (V : AV) (N : Nat) (w : World) : Prop where
 ei : EI G S N w
 gv : Qp G = [.slice (some ⟨K.gR, 0, none⟩) 2 K.cR, .slice (some ⟨K.gS, 0, none⟩) 2 K.cS, .slice (some ⟨K.gT, 0, none⟩) 2 K.cT, .slice (some ⟨K.gU, 0, none⟩) 2 K.cU, .slice (some ⟨G.gE, 0, none⟩) 2 G.cE, .slice (some ⟨G.gF, 0, none⟩) 2 G.cF, .slice (some ⟨G.gP, 0, none⟩) 2 G.cP]
 cap : 2 <= K.cR ∧ 2 <= K.cS
 rd : RDS K.gR K.gS V.r V.s w
 tb : Ip G K (mf G S) V w
 s1 : ∀ i, K.rf V i -> ¬ mf G S i
 s2 : ∀ i, K.tf V i -> ¬ mf G S i
 lo : ∀ i, K.rf V i -> G.b0 <= i
def Iq (G : EG) (K : AK) (N : Nat) (w : World) (e : Ending) (w' : World) : Prop := e = .returned (.bool true) ∧ (∃ S V, AI G K S V N w') ∧ Below G.b0 w w'
section
variable {G : EG} {K : AK} {S S' : EV} {V V' : AV} {N N' : Nat} {w w' : World} {X X' A : Nat -> Prop}
theorem Ip.tlt (h : Ip G K X V w) {i : Nat} (hi : K.tf V i) : i < w.heap.size := by
 rcases hi with rfl | rfl | ⟨j, hj, hi⟩
 . obtain ⟨_, hx⟩ := h.rowT
   exact hx.lt
 . obtain ⟨_, hx⟩ := h.zh
   exact hx.lt
 . obtain ⟨v, hv⟩ := h.tab j hj
   obtain ⟨x, hx⟩ := h.zi j hj
   rcases hi with rfl | rfl
   . exact hv.blk.lt
   . exact hx.blk.lt
theorem Ip.tlo (h : Ip G K X V w) {i : Nat} (hi : K.tf V i) : G.b0 <= i := by
 rcases hi with rfl | rfl | ⟨j, hj, hi⟩
 . exact h.hT
 . exact h.hU
 . rcases hi with rfl | rfl
   . exact h.ht j hj
   . exact h.hu j hj
theorem Ip.only (h : Ip G K X V w) (k : Only A w w') (hM : ¬ A G.M) (hA : ∀ i, K.tf V i -> ¬ A i) (hv : ∀ i T cs, Is w i T cs -> T = 112 ∨ T = 206 -> ¬ X i -> ¬ A i) (h0 : ¬ A 0) (hX : ∀ i, i < w.heap.size -> X' i -> X i) (hl : ∀ i, X' i -> i < w'.heap.size) : Ip G K X' V w' := by
 obtain ⟨a, ha⟩ := h.rowT
 obtain ⟨b, hb⟩ := h.zh
 refine ⟨h.made.only k hM, ⟨a, ha.only k (hA _ (.inl rfl))⟩, ⟨b, hb.only k (hA _ (.inr (.inl rfl)))⟩, fun j hj => ?_, fun j hj => ?_, h.net, h.neu, h.hM, h.hT, h.hU, h.ht, h.hu, h.fx.only k h0, h.h0, h.cT2, h.cU2⟩
 . obtain ⟨v, hv0⟩ := h.tab j hj
   refine ⟨v, ⟨hv0.blk.only k (hA _ (.inr (.inr ⟨j, hj, .inl rfl⟩))), ag hv0.own k (fun i hi => ?_), hv0.le, hv0.hB⟩, fun i hi hx => ?_, hl⟩
   . obtain ⟨cs, hc⟩ := iM hv0.own hi
     exact hv i _ cs hc (.inl rfl) (hv0.sx i hi)
   . exact hv0.sx i hi (hX i (hv0.own.lt i hi).2 hx)
 . obtain ⟨v, hv0⟩ := h.zi j hj
   refine ⟨v, ⟨hv0.blk.only k (hA _ (.inr (.inr ⟨j, hj, .inr rfl⟩))), ag hv0.own k (fun i hi => ?_), hv0.le, hv0.hB⟩, fun i hi hx => ?_, hl⟩
   . obtain ⟨cs, hc⟩ := iM hv0.own hi
     exact hv i _ cs hc (.inr rfl) (hv0.sx i hi)
   . exact hv0.sx i hi (hX i (hv0.own.lt i hi).2 hx)
theorem AI.rt (h : AI G K S V N w) {i : Nat} (hi : K.rf V i) : ¬ K.tf V i := by
 intro hx
 have hne := fun {T cs} (hI : Is w i T cs) h1 h2 h3 h4 => h.rd.apart hI h1 h2 h3 h4 hi
 rcases hx with rfl | rfl | ⟨j, hj, hx⟩
 . obtain ⟨_, hx⟩ := h.tb.rowT
   exact hne hx (nbq rfl) (nbq rfl) (nbq rfl) (nbq rfl)
 . obtain ⟨_, hx⟩ := h.tb.zh
   exact hne hx (nbq rfl) (nbq rfl) (nbq rfl) (nbq rfl)
 . obtain ⟨v, hv⟩ := h.tb.tab j hj
   obtain ⟨y, hy⟩ := h.tb.zi j hj
   rcases hx with rfl | rfl
   . exact hne hv.blk (nbq rfl) (nbq rfl) (nbq rfl) (nbq rfl)
   . exact hne hy.blk (nbq rfl) (nbq rfl) (nbq rfl) (nbq rfl)
theorem AI.UK (h : AI G K S V N w) : G.b0 <= w.heap.size := by
 have := h.ei.ep.lo G.M (.inl (.inl rfl))
 have := h.ei.ep.made.lt
 omega
theorem AI.later (h : AI G K S V N w) (hN : N <= N') : AI G K S V N' w := ⟨⟨h.ei.ep, h.ei.eq, h.ei.es.later hN⟩, h.gv, h.cap, h.rd, h.tb, h.s1, h.s2, h.lo⟩
theorem AI.below (h : AI G K S V N w) (k : Below w.heap.size w w') : AI G K S V N w' :=
 ⟨⟨h.ei.ep.below k, h.ei.eq, h.ei.es⟩, h.gv, h.cap, h.rd.below k, vG.below h.tb k, h.s1, h.s2, h.lo⟩
theorem AI.ends (h : AI G K S V N w) (hs : df G S w S' w') (hq : S'.f = S'.e) (hes : Lk.ES S'.e S'.pp N') : AI G K S' V N' w' := by
 have hnew : ∀ i, i < w.heap.size -> mf G S' i -> mf G S i := fun i hi hx => (hs.2.1 i hx).resolve_right (fun x => by omega)
 have h0 : ¬ mf G S 0 := fun hx => by have := h.ei.ep.lo 0 hx; have := h.ei.ep.h0; omega
 obtain ⟨a, ha⟩ := h.tb.rowT
 obtain ⟨b, hb⟩ := h.tb.zh
 refine ⟨⟨hs.1, hq, hes⟩, h.gv, h.cap, h.rd.only hs.2.2 h.s1, ?_, fun i hi hx => h.s1 i hi (hnew i (h.rd.lt hi) hx), fun i hi hx => h.s2 i hi (hnew i (Ip.tlt h.tb hi) hx), h.lo⟩
 have hT : Ip G K (mf G S') V w' := by
  refine ⟨?_, ⟨a, ha.only hs.2.2 (h.s2 _ (.inl rfl))⟩, ⟨b, hb.only hs.2.2 (h.s2 _ (.inr (.inl rfl)))⟩, fun j hj => ?_, fun j hj => ?_, h.tb.net, h.tb.neu, h.tb.hM, h.tb.hT, h.tb.hU, h.tb.ht, h.tb.hu, hs.1.fx, h.tb.h0, h.tb.cT2, h.tb.cU2⟩
  . have := hs.1.made
    rw [h.gv] at this
    exact this
  . obtain ⟨v, hv0⟩ := h.tb.tab j hj
    exact ⟨v, ⟨hv0.blk.only hs.2.2 (h.s2 _ (.inr (.inr ⟨j, hj, .inl rfl⟩))), ag hv0.own hs.2.2 hv0.sx, hv0.le, hv0.hB⟩, fun i hi hx => hv0.sx i hi (hnew i (hv0.own.lt i hi).2 hx), fun i hx => hs.1.at_ hx⟩
  . obtain ⟨v, hv0⟩ := h.tb.zi j hj
    exact ⟨v, ⟨hv0.blk.only hs.2.2 (h.s2 _ (.inr (.inr ⟨j, hj, .inr rfl⟩))), ag hv0.own hs.2.2 hv0.sx, hv0.le, hv0.hB⟩, fun i hi hx => hv0.sx i hi (hnew i (hv0.own.lt i hi).2 hx), fun i hx => hs.1.at_ hx⟩
 exact hT
theorem AI.reads (h : AI G K S V N w) {r' s' : Nat -> Nat} (hR : RDS K.gR K.gS r' s' w') (hg : ∀ i, RF K.gR K.gS r' s' i -> K.rf V i ∨ w.heap.size <= i) (hO : Only (K.rf V) w w') : AI G K S { V with r := r', s := s' } N w' := by
 have h0 : ¬ K.rf V 0 := fun hx => by have := h.lo 0 hx; have := h.ei.ep.h0; omega
 have hmf : ∀ i, mf G S i -> ¬ K.rf V i := fun i hi hx => h.s1 i hx hi
 refine ⟨⟨h.ei.ep.only hO hmf h0, h.ei.eq, h.ei.es⟩, h.gv, h.cap, hR, ?_, fun i hi hx => ?_, h.s2, fun i hi => ?_⟩
 . exact Ip.only (V := { V with r := r', s := s' }) (X := mf G S) (X' := mf G S) h.tb hO (hmf _ (.inl (.inl rfl))) (fun i hi hx => h.rt hx hi) (fun i T cs hI hT _ hx => by
    rcases hT with rfl | rfl
    . exact h.rd.apart hI (nbq rfl) (nbq rfl) (nbq rfl) (nbq rfl) hx
    . exact h.rd.apart hI (nbq rfl) (nbq rfl) (nbq rfl) (nbq rfl) hx) h0 (fun i _ x => x) (fun i hi => Nat.lt_of_lt_of_le (h.ei.ep.at_ hi) hO.size)
 . rcases hg i hi with x | x
   . exact h.s1 i x hx
   . have := h.ei.ep.at_ hx
     omega
 . rcases hg i hi with x | x
   . exact h.lo i x
   . have := h.UK
     omega
theorem AI.tables (h : AI G K S V N w) {t' u' B' : Nat -> Nat} {L' : Nat -> List Lk.Hd} (hR : Ip G K (mf G S) { V with t := t', u := u', B := B', L := L' } w') (hg : ∀ i, TF K.gT K.gU t' u' i -> K.tf V i ∨ w.heap.size <= i) (hO : Only (K.tf V) w w') : AI G K S { V with t := t', u := u', B := B', L := L' } N w' := by
 have h0 : ¬ K.tf V 0 := fun hx => by have := Ip.tlo h.tb hx; have := h.ei.ep.h0; omega
 refine ⟨⟨h.ei.ep.only hO (fun i hi hx => h.s2 i hx hi) h0, h.ei.eq, h.ei.es⟩, h.gv, h.cap, h.rd.only hO (fun i hi hx => h.rt hi hx), hR, h.s1, fun i hi hx => ?_, h.lo⟩
 rcases hg i hi with x | x
 . exact h.s2 i x hx
 . have := h.ei.ep.at_ hx
   omega
end
def Oc (q : Nat) : Nat := if q < 2 then 6 * q + 4 else 6 * (q - 2) + 5
theorem SC.ai {b M gp bd win : Nat} {w : World} (h : SC b M gp bd win 2 w) (h1 : 1 <= win) (h2 : win <= 200) (hfx : Fx w) (h0 : 0 < b) : ∃ G K S V, G.b0 = b ∧ G.M = M ∧ AI G K S V 25600 w := by
 obtain ⟨vs, ls, ob, d, p, hM, hls⟩ := h
 have e : ∀ q, q < 6 -> ls q = [ob q, ob (6 + q)] := fun q hq => by rw [hls q hq]; simp [List.range_succ]
 obtain ⟨gR, cR, tR, hvR, hbR, hcR, hIR⟩ := pV (hM.rows 0 (by omega)) (e 0 (by omega))
 obtain ⟨gS, cS, tS, hvS, hbS, hcS, hIS⟩ := pV (hM.rows 1 (by omega)) (e 1 (by omega))
 obtain ⟨gT, cT, tT, hvT, hbT, hcT, hIT⟩ := pV (hM.rows 2 (by omega)) (e 2 (by omega))
 obtain ⟨gU, cU, tU, hvU, hbU, hcU, hIU⟩ := pV (hM.rows 3 (by omega)) (e 3 (by omega))
 obtain ⟨gE, cE, tE, hvE, hbE, hcE, hIE⟩ := pV (hM.rows 4 (by omega)) (e 4 (by omega))
 obtain ⟨gF, cF, tF, hvF, hbF, hcF, hIF⟩ := pV (hM.rows 5 (by omega)) (e 5 (by omega))
 have hef : ∀ q i, q < 4 -> (ef ⟨fun k => ob (6 * k + 4), fun k => ob (6 * k + 5), fun k => Lk.En.new k win, fun k => Lk.En.new k win, fun k => d (6 * k + 4), fun k => p (6 * k + 5), fun _ => []⟩ q i ↔ mg ob d p (Oc q) i) := by
  intro q i hq
  unfold ef Oc mg
  by_cases hq2 : q < 2
  . have e4 : (6 * q + 4) % 6 = 4 := by omega
    simp only [if_pos hq2, e4]
  . have e5 : (6 * (q - 2) + 5) % 6 = 5 := by omega
    simp only [if_neg hq2, e5]
 have QW : ∀ q, q < 4 -> Oc q < 12 ∧ (Oc q % 6 = 4 ∨ Oc q % 6 = 5) := fun q hq => by unfold Oc; split <;> omega
 have hinj : ∀ q r, q < 4 -> r < 4 -> q ≠ r -> Oc q ≠ Oc r := fun q r hq hr hn => by unfold Oc; split <;> split <;> omega
 have Oe := hM.made
 rw [hvR, hvS, hvT, hvU, hvE, hvF] at Oe
 have hrow : ∀ q, q < 12 -> ∀ i, mg ob d p q i -> i ≠ M ∧ i ≠ gp ∧ i ≠ gR ∧ i ≠ gS ∧ i ≠ gT ∧ i ≠ gU ∧ i ≠ gE ∧ i ≠ gF := fun q hq i hi => by
  obtain ⟨s1, s2, s3⟩ := hM.sr q hq i hi
  refine ⟨s1, s2, fun x => s3 0 (by omega) ?_, fun x => s3 1 (by omega) ?_, fun x => s3 2 (by omega) ?_, fun x => s3 3 (by omega) ?_, fun x => s3 4 (by omega) ?_, fun x => s3 5 (by omega) ?_⟩
  . rw [hvR, x]; rfl
  . rw [hvS, x]; rfl
  . rw [hvT, x]; rfl
  . rw [hvU, x]; rfl
  . rw [hvE, x]; rfl
  . rw [hvF, x]; rfl
 have hone : ∀ k j, k < 2 -> j < 4 -> mg ob d p (6 * k + j) (ob (6 * k + j)) := fun k j hk hj => by
  unfold mg
  have e6 : (6 * k + j) % 6 = j := by omega
  simp only [e6]
  match j, hj with
  | 0, _ => trivial
  | 1, _ => trivial
  | 2, _ => trivial
  | 3, _ => trivial
 have hdis : ∀ k j k' j', k < 2 -> j < 4 -> k' < 2 -> j' < 4 -> (k ≠ k' ∨ j ≠ j') -> ob (6 * k + j) ≠ ob (6 * k' + j') := fun k j k' j' hk hj hk' hj' hn hx => by
  have := hM.sep (6 * k + j) (6 * k' + j') (by omega) (by omega) (by omega) _ (hone k j hk hj)
  rw [hx] at this
  exact this (hone k' j' hk' hj')
 have hP : ∀ k, k < 2 -> QA w (ob (6 * k)) (ob (6 * k + 1)) ∧ Tab w (ob (6 * k + 2)) bd [] gQ ∧ RTab w (ob (6 * k + 3)) bd [] gQ ∧ kM w (ob (6 * k + 4)) (Lk.En.new k win) (d (6 * k + 4)) ∧ aT True w (ob (6 * k + 5)) (Lk.En.new k win) (p (6 * k + 5)) := fun k hk => by
  have o0 := hM.obj (6 * k) (by omega)
  have o1 := hM.obj (6 * k + 1) (by omega)
  have o2 := hM.obj (6 * k + 2) (by omega)
  have o3 := hM.obj (6 * k + 3) (by omega)
  have o4 := hM.obj (6 * k + 4) (by omega)
  have o5 := hM.obj (6 * k + 5) (by omega)
  unfold oJ at o0 o1 o2 o3 o4 o5
  simp only [show 6 * k % 6 = 0 by omega, show (6 * k + 1) % 6 = 1 by omega, show (6 * k + 2) % 6 = 2 by omega, show (6 * k + 3) % 6 = 3 by omega, show (6 * k + 4) % 6 = 4 by omega, show (6 * k + 5) % 6 = 5 by omega, show (6 * k + 4) / 6 = k by omega, show (6 * k + 5) / 6 = k by omega] at o0 o1 o2 o3 o4 o5
  exact ⟨⟨⟨#[]⟩, ⟨#[]⟩, 0, o0, o1, fun _ => ⟨rfl, Nat.zero_le _⟩⟩, o2, o3, o4, o5⟩
 have hlo : ∀ k j, k < 2 -> j < 4 -> b <= ob (6 * k + j) := fun k j hk hj => (hM.inb _ (by omega) _ (hone k j hk hj)).1
 have hEP : EP ⟨b, M, gE, gF, gp, cE, cF, 2, .slice (some ⟨gR, 0, none⟩) 2 cR, .slice (some ⟨gS, 0, none⟩) 2 cS, .slice (some ⟨gT, 0, none⟩) 2 cT, .slice (some ⟨gU, 0, none⟩) 2 cU⟩ ⟨fun k => ob (6 * k + 4), fun k => ob (6 * k + 5), fun k => Lk.En.new k win, fun k => Lk.En.new k win, fun k => d (6 * k + 4), fun k => p (6 * k + 5), fun _ => []⟩ w := by
  refine ⟨Oe, ⟨tE, hIE⟩, ⟨tF, hIF⟩, hM.rowP, fun k hk => (hP k hk).2.2.2.1, fun k hk => (hP k hk).2.2.2.2, fun q r hq hr hqr i hi hx => ?_, fun q hq i hi hx => ?_, fun i hi => ?_, hfx, h0, hcE, hcF, Nat.le_refl _⟩
  . exact hM.sep _ _ (QW q hq).1 (QW r hr).1 (hinj q r hq hr hqr) i ((hef q i hq).1 hi) ((hef r i hr).1 hx)
  . obtain ⟨s1, s2, _, _, _, _, s3, s4⟩ := hrow _ (QW q hq).1 i ((hef q i hq).1 hi)
    rcases hx with hx | hx | hx | hx
    . exact s1 hx
    . exact s3 hx
    . exact s4 hx
    . exact s2 hx
  . rcases hi with (hi | hi | hi | hi) | ⟨q, hq, hi⟩
    . have hi : i = M := hi
      show b <= i
      rw [hi]
      exact hM.hM.1
    . have hi : i = gE := hi
      show b <= i
      omega
    . have hi : i = gF := hi
      show b <= i
      omega
    . have hi : i = gp := hi
      show b <= i
      rw [hi]
      exact hM.hM.2
    . exact (hM.inb _ (QW q hq).1 i ((hef q i hq).1 hi)).1
 have hmf : ∀ i, mf ⟨b, M, gE, gF, gp, cE, cF, 2, .slice (some ⟨gR, 0, none⟩) 2 cR, .slice (some ⟨gS, 0, none⟩) 2 cS, .slice (some ⟨gT, 0, none⟩) 2 cT, .slice (some ⟨gU, 0, none⟩) 2 cU⟩ ⟨fun k => ob (6 * k + 4), fun k => ob (6 * k + 5), fun k => Lk.En.new k win, fun k => Lk.En.new k win, fun k => d (6 * k + 4), fun k => p (6 * k + 5), fun _ => []⟩ i -> (i = M ∨ i = gE ∨ i = gF ∨ i = gp) ∨ ∃ q, q < 12 ∧ (q % 6 = 4 ∨ q % 6 = 5) ∧ mg ob d p q i := fun i hi => by
  rcases hi with hi | ⟨q, hq, hi⟩
  . exact .inl hi
  . exact .inr ⟨_, (QW q hq).1, (QW q hq).2, (hef q i hq).1 hi⟩
 have Fq : ∀ k j, k < 2 -> j < 4 -> ∀ {P : Prop}, mf _ _ (ob (6 * k + j)) -> P := fun k j hk hj {P} hx => by
  obtain ⟨s1, s2, _, _, _, _, s3, s4⟩ := hrow _ (show 6 * k + j < 12 by omega) _ (hone k j hk hj)
  rcases hmf _ hx with (x | x | x | x) | ⟨q, hq, hq2, x⟩
  . exact absurd x s1
  . exact absurd x s3
  . exact absurd x s4
  . exact absurd x s2
  . exact absurd x (hM.sep _ _ (by omega) hq (by omega) _ (hone k j hk hj))
 have hgrow : ∀ (g : Nat) (T : TypeId) (cs : List Value), Is w g T cs -> T ≠ 132 -> T ≠ 34 -> T ≠ 141 -> T ≠ 9 -> (∀ q, q < 12 -> ¬ mg ob d p q g) -> ∀ {P : Prop}, mf _ _ g -> P := fun g T cs hI n1 n2 n3 n4 hn {P} hx => by
  rcases hmf _ hx with (x | x | x | x) | ⟨q, hq, hq2, x⟩
  . exact absurd x (hI.ne Oe n1)
  . exact absurd x (hI.ne hIE n2)
  . exact absurd x (hI.ne hIF n3)
  . exact absurd x (hI.ne hM.rowP n4)
  . exact absurd x (hn q hq)
 refine ⟨_, ⟨gR, gS, cR, cS, gT, gU, cT, cU⟩, _, ⟨fun k => ob (6 * k), fun k => ob (6 * k + 1), fun k => ob (6 * k + 2), fun k => ob (6 * k + 3), fun _ => bd, fun _ => []⟩, rfl, rfl, ⟨hEP, rfl, Lk.ES.start h1 h2⟩, rfl, ⟨hcR, hcS⟩, ⟨⟨tR, hIR⟩, ⟨tS, hIS⟩, fun k hk => (hP k hk).1, fun j k hj hk hn => hdis j 0 k 0 hj (by omega) hk (by omega) (.inl hn), fun j k hj hk hn => hdis j 1 k 1 hj (by omega) hk (by omega) (.inl hn)⟩, ?_, fun i hi hx => ?_, fun i hi hx => ?_, fun i hi => ?_⟩
 . exact ⟨Oe, ⟨tT, hIT⟩, ⟨tU, hIU⟩, fun k hk => ⟨gQ, (hP k hk).2.1, fun i hi => (by cases hi), fun i hi => hEP.at_ hi⟩, fun k hk => ⟨gQ, (hP k hk).2.2.1, fun i hi => (by cases hi), fun i hi => hEP.at_ hi⟩, fun j k hj hk hn => hdis j 2 k 2 hj (by omega) hk (by omega) (.inl hn), fun j k hj hk hn => hdis j 3 k 3 hj (by omega) hk (by omega) (.inl hn), hM.hM.1, hbT, hbU, fun k hk => hlo k 2 hk (by omega), fun k hk => hlo k 3 hk (by omega), hfx, h0, hcT, hcU⟩
 . rcases hi with hi | hi | ⟨j, hj, hi | hi⟩
   . have hi : i = gR := hi
     subst hi
     exact hgrow _ _ _ hIR (nbq rfl) (nbq rfl) (nbq rfl) (nbq rfl) (fun q hq x => (hrow q hq _ x).2.2.1 rfl) hx
   . have hi : i = gS := hi
     subst hi
     exact hgrow _ _ _ hIS (nbq rfl) (nbq rfl) (nbq rfl) (nbq rfl) (fun q hq x => (hrow q hq _ x).2.2.2.1 rfl) hx
   . have hi : i = ob (6 * j) := hi
     subst hi
     exact Fq j 0 hj (by omega) hx
   . have hi : i = ob (6 * j + 1) := hi
     subst hi
     exact Fq j 1 hj (by omega) hx
 . rcases hi with hi | hi | ⟨j, hj, hi | hi⟩
   . have hi : i = gT := hi
     subst hi
     exact hgrow _ _ _ hIT (nbq rfl) (nbq rfl) (nbq rfl) (nbq rfl) (fun q hq x => (hrow q hq _ x).2.2.2.2.1 rfl) hx
   . have hi : i = gU := hi
     subst hi
     exact hgrow _ _ _ hIU (nbq rfl) (nbq rfl) (nbq rfl) (nbq rfl) (fun q hq x => (hrow q hq _ x).2.2.2.2.2.1 rfl) hx
   . have hi : i = ob (6 * j + 2) := hi
     subst hi
     exact Fq j 2 hj (by omega) hx
   . have hi : i = ob (6 * j + 3) := hi
     subst hi
     exact Fq j 3 hj (by omega) hx
 . rcases hi with hi | hi | ⟨j, hj, hi | hi⟩
   . have hi : i = gR := hi
     show b <= i
     omega
   . have hi : i = gS := hi
     show b <= i
     omega
   . have hi : i = ob (6 * j) := hi
     show b <= i
     rw [hi]
     exact hlo j 0 hj (by omega)
   . have hi : i = ob (6 * j + 1) := hi
     show b <= i
     rw [hi]
     exact hlo j 1 hj (by omega)
theorem SV (a0 : Int) (a1 : Int) (a2 : ByteArray) (w2 : a2.size <= maxLen) (w : World) :
 Calls Tryz.prog 27 #[.int .i64 a0, .int .i64 a1, .string a2] w fun e w' => e = .returned (.bool true) ∧ Below w.heap.size w w' := by
 have HP := hide (fun w => LW a0 a1 a2 w w2)
 have HQ := hide (fun w => Cj a0 a1 a2 w)
 generalize jm a0 a1 a2.data.toList = ps at *
 generalize Lk.aO a0 a1 a2.data.toList = pe at *
 go_enter Tryz.func27, Tryz.ntmps27
 go_wp2_with fail
 refine (uh HP _).mono ?_
 rintro e w1 ⟨rfl, hb1⟩
 go_wp2_with fail
 refine (uh HQ _).mono ?_
 rintro e w3 ⟨rfl, hb3⟩
 have hb := hb1.trans (hb3.mono hb1.size)
 clear hb1 hb3
 go_wp2_with fail
 refine (zg pe _).mono ?_
 rintro e w4 ⟨rfl, rfl⟩
 go_wp2_with fail
 go_ret
 exact ⟨rfl, hb⟩
section
variable (G : EG) (K : AK) (S : EV) (V : AV) (N k : Nat) (kd a b c : Int) (st tt : ByteArray) (ha : Option Addr) (hl hc : Nat) (l : List ByteArray) (w : World)
theorem OV (hI : AI G K S V N w) (hk : k < 2) (h2 : kd = 2 ∨ kd = 3) (hst : st.size <= 1048576) :
 Calls Tryz.prog 28 #[.pointer (some ⟨G.M, 0, none⟩), .agg #[.int .i64 kd, .int .i64 a, .int .i64 b, .string st, .string tt, .int .i64 c, .slice ha hl hc], .int .i64 k] w (Iq G K N w) := by
 have hM := hI.ei.ep.made
 rw [hI.gv] at hM
 have fin : ∀ e w', xw K.gR K.gS V.r V.s w e w' -> Iq G K N w e w' := by
  rintro e w' ⟨rfl, ⟨r', s', h1, h2⟩, h3⟩
  exact ⟨rfl, ⟨S, _, hI.reads h1 h2 h3⟩, h3.toBelow (fun i hi _ => hI.lo i hi) hI.UK⟩
 rcases h2 with rfl | rfl
 . exact (KU G.M K.gR K.gS K.cR K.cS _ _ _ _ _ V.r V.s k a b c st tt ha hl hc w hk hM hI.cap.1 hI.cap.2 hI.rd).mono fin
 . exact (Il G.M K.gR K.gS K.cR K.cS _ _ _ _ _ V.r V.s k a b c st tt ha hl hc w hk (by omega) hM hI.cap.1 hI.cap.2 hI.rd).mono fin
theorem QE (hI : AI G K S V N w) (hk : k < 2) (h4 : 4 <= kd) (h7 : kd <= 7) (hst : st.size <= 1048576) (D7 : l.length <= 2 ^ 40) (hSt : Strs w (.slice ha hl hc) l) (hSX : ∀ (x : Addr) (n c : Nat), Value.slice ha hl hc = .slice (some x) n c -> n ≠ 0 -> x.block < G.b0) :
 Calls Tryz.prog 29 #[.pointer (some ⟨G.M, 0, none⟩), .agg #[.int .i64 kd, .int .i64 a, .int .i64 b, .string st, .string tt, .int .i64 c, .slice ha hl hc], .int .i64 k] w (Iq G K N w) := by
 have hb0 := hI.UK
 have fin : ∀ e w', Ik (mf G S) G.b0 G.M K.gT K.gU K.cT K.cU (.slice (some ⟨K.gR, 0, none⟩) 2 K.cR) (.slice (some ⟨K.gS, 0, none⟩) 2 K.cS) (.slice (some ⟨G.gE, 0, none⟩) 2 G.cE) (.slice (some ⟨G.gF, 0, none⟩) 2 G.cF) (.slice (some ⟨G.gP, 0, none⟩) 2 G.cP) V.t V.u w e w' -> Iq G K N w e w' := by
  rintro e w' ⟨rfl, ⟨t', u', B', L', h1, h2⟩, h3⟩
  exact ⟨rfl, ⟨S, _, hI.tables h1 h2 h3.on⟩, h3.bel⟩
 have hkd : kd = 4 ∨ kd = 5 ∨ kd = 6 ∨ kd = 7 := by omega
 rcases hkd with rfl | rfl | rfl | rfl
 . by_cases hbad : a < 0 ∨ 200 < a
   . exact (yV _ G.b0 G.M K.gT K.gU K.cT K.cU _ _ _ _ _ V.t V.u V.B V.L k a b c st tt ha hl hc w hb0 hk hbad hI.tb).mono fin
   . obtain ⟨A, rfl⟩ : ∃ A : Nat, a = A := ⟨a.toNat, by omega⟩
     exact (Bv _ G.b0 G.M K.gT K.gU K.cT K.cU _ _ _ _ _ V.t V.u V.B V.L k A b c st tt ha hl hc w hb0 hk (by omega) hI.tb).mono fin
 . exact (vH _ G.b0 G.M K.gT K.gU K.cT K.cU _ _ _ _ _ V.t V.u V.B V.L k a b c st tt ha hl hc w hb0 hk l (by omega) hSt hSX hI.tb).mono fin
 . exact (yX _ G.b0 G.M K.gT K.gU K.cT K.cU _ _ _ _ _ V.t V.u V.B V.L k a b c st tt ha hl hc w hb0 hk (by omega) hI.tb).mono fin
 . exact (Bz _ G.b0 G.M K.gT K.gU K.cT K.cU _ _ _ _ _ V.t V.u V.B V.L k a b c st tt ha hl hc w hb0 hk l (by omega) hSt hSX hI.tb).mono fin
theorem UL (hI : AI G K S V N w) (hk : k < 2) (hN : N <= 2 ^ 36) (h8 : 8 <= kd) (h16 : kd <= 16) (hst : st.size <= 1048576) (hIa : I64 a) (D7 : l.length <= 2 ^ 40) (hSt : Strs w (.slice ha hl hc) l) (hSX : ∀ (x : Addr) (n c : Nat), Value.slice ha hl hc = .slice (some x) n c -> n ≠ 0 -> x.block < G.b0) :
 Calls Tryz.prog 30 #[.pointer (some ⟨G.M, 0, none⟩), .agg #[.int .i64 kd, .int .i64 a, .int .i64 b, .string st, .string tt, .int .i64 c, .slice ha hl hc], .int .i64 k] w (Iq G K (N + 1700 * (st.size + 8)) w) := by
 refine (N9 G S N k kd a b c st tt ha hl hc l w hI.ei hk hN h8 h16 hst hIa D7 hSt hSX).mono ?_
 rintro e w' ⟨rfl, S', h1, h2, h3⟩
 exact ⟨rfl, ⟨S', V, hI.ends h1 h2 h3⟩, h1.bel hI.ei.ep (Below.refl _ w)⟩
end
theorem Ir (bd win : Nat) (hbd : bd <= 200) (hw1 : 1 <= win) (hw2 : win <= 200) (w : World) (blk off len cap : Nat) (ops : Nat -> Sc.OpJ) (hfx : Fx w) (hS : Sc.D9 w blk off len ops) (hsum : Sc.nJ ops len <= 1048576) :
 Calls Tryz.prog 10 #[.int .i64 bd, .int .i64 win, .slice (some ⟨blk, off, none⟩) len cap, .int .i64 1, .int .i64 16] w fun e w' => e = .returned (.bool true) ∧ Below w.heap.size w w' := by
 have h0 := hfx.1
 have h8l := Sc.xm ops len
 have hlen : len <= 131072 := by omega
 have HFX := hide hfx
 have HSM := hide hsum
 clear hfx hsum
 go_enter Tryz.func10, Tryz.ntmps10
 go_wp2_with fail
 refine (SG bd win hbd hw1 hw2 w h0).mono ?_
 rintro e w1 ⟨rfl, hmk, hb1⟩
 obtain ⟨G, K, S0, V0, hGb, hGM, hI0⟩ := hmk.ai hw1 hw2 ((uh HFX).below hb1 h0) h0
 unfold ptr
 rw [<- hGM]
 have HG := hide hGb
 have HR0 : Hid (AI G K S0 V0 (25600 + 1700 * Sc.nJ ops 0) w1 ∧ Below w.heap.size w w1) := ⟨hI0, hb1⟩
 clear hmk hb1 hI0 hGM hGb
 go_wp2_with fail
 go_loopw [13] (fun k wr => ∃ (i : Nat) (S : EV) (V : AV), i <= len ∧ k = .int .i64 i ∧ Hid (AI G K S V (25600 + 1700 * Sc.nJ ops i) wr ∧ Below w.heap.size w wr)) (fun k _ => len - (intOf k).toNat)
 case atStart => exact ⟨0, S0, V0, Nat.zero_le _, rfl, HR0⟩
 case round =>
  clear HR0
  obtain ⟨i, S, V, hi, rfl, HR⟩ := hrel
  by_cases hlt : i < len
  . have hlt' : (i : Int) < len := by omega
    have Yt : (i : Int) < 1152921504606846976 := by omega
    obtain ⟨hI, hbel⟩ := uh HR
    obtain ⟨hok, hcs⟩ := hS.2 i hlt
    have hcell : ∀ j, j < 7 -> wr.cell? ⟨blk, off + i * 7 + j, none⟩ = (ops i).vals[j]? := fun j hj => (hbel.cell (p := ⟨blk, off + i * 7 + j, none⟩) hS.1).trans (hcs j hj)
    have hsi : Sc.nJ ops (i + 1) = Sc.nJ ops i + ((ops i).s.size + 8) := rfl
    have hsl : Sc.nJ ops (i + 1) <= 1048576 := Nat.le_trans (Sc.KQ ops (by omega)) (uh HSM)
    have HNX : Hid (Sc.nJ ops (i + 1) = Sc.nJ ops i + ((ops i).s.size + 8) ∧ Sc.nJ ops (i + 1) <= 1048576) := ⟨hsi, hsl⟩
    generalize ops i = o at *
    obtain ⟨kd, a, b, s, tt, n, ha, hl, hc, l⟩ := o
    have c0 := hcell 0 (by omega)
    have c1 := hcell 1 (by omega)
    have c2 := hcell 2 (by omega)
    have c3 := hcell 3 (by omega)
    have c4 := hcell 4 (by omega)
    have c5 := hcell 5 (by omega)
    have c6 := hcell 6 (by omega)
    simp only [Sc.OpJ.vals, List.getElem?_cons_zero, List.getElem?_cons_succ, Nat.add_zero] at c0 c1 c2 c3 c4 c5 c6
    have hblk : blk < wr.heap.size := Nat.lt_of_lt_of_le hS.1 hbel.size
    have hbw := hbel.alloc hbel.size (.cells #[.int .i64 kd, .int .i64 a, .int .i64 b, .string s, .string tt, .int .i64 n, .slice ha hl hc] 33)
    have hIW : AI G K S V (25600 + 1700 * Sc.nJ ops i) (wr.alloc (.cells #[.int .i64 kd, .int .i64 a, .int .i64 b, .string s, .string tt, .int .i64 n, .slice ha hl hc] 33)) := hI.below ((Below.refl wr.heap.size wr).alloc (Nat.le_refl _) _)
    have QF : Hid (AI G K S V (25600 + 1700 * Sc.nJ ops (i + 1)) (wr.alloc (.cells #[.int .i64 kd, .int .i64 a, .int .i64 b, .string s, .string tt, .int .i64 n, .slice ha hl hc] 33)) ∧ Below w.heap.size w (wr.alloc (.cells #[.int .i64 kd, .int .i64 a, .int .i64 b, .string s, .string tt, .int .i64 n, .slice ha hl hc] 33))) := ⟨hIW.later (by have := (uh HNX).1; omega), hbw⟩
    have HOK := hide hok
    have HIW := hide (⟨hIW, hbw⟩ : _ ∧ _)
    clear hcell hcs hok hI hbel hsi hsl hIW hbw HR
    have HST := hide (fun (x : Addr) (n' c' : Nat) (hx : Value.slice ha hl hc = .slice (some x) n' c') (hn' : n' ≠ 0) => (by rw [uh HG]; exact Qx (uh HOK).strs x n' c' hx hn' : x.block < G.b0))
    have HSR := hide ((uh HOK).strs.below (uh HIW).2 (Nat.le_refl _))
    have HLL : Hid (l.length <= 2 ^ 40) := by have := (uh HOK).h; simp only at this; exact hide (by omega)
    have HSS : Hid (s.size <= 1048576) := (uh HOK).s
    obtain ⟨k, hk, hkb⟩ := Oa b
    by_cases h2 : kd < 1
    . clear HIW HOK
      go_wp2_with fail
      go_roundw
      case rel => exact ⟨i + 1, S, V, by omega, by go_num, QF⟩
      case measure => simp [intOf]; omega
    by_cases h3 : 16 < kd
    . clear HIW HOK
      go_wp2_with fail
      go_roundw
      case rel => exact ⟨i + 1, S, V, by omega, by go_num, QF⟩
      case measure => simp [intOf]; omega
    clear QF
    by_cases hk1 : kd = 1
    . subst hk1
      have HC := hide ((SV a n s (by have := uh HSS; unfold maxLen; omega) (wr.alloc (.cells #[.int .i64 1, .int .i64 a, .int .i64 b, .string s, .string tt, .int .i64 n, .slice ha hl hc] 33))).mono (fun e w' hx => (⟨hx.1, ⟨S, V, (uh HIW).1.below hx.2⟩, by rw [uh HG]; exact hx.2.mono (uh HIW).2.size⟩ : Iq G K (25600 + 1700 * Sc.nJ ops i) _ e w')))
      go_wp2_with fail
      refine (uh HC).mono ?_
      rintro e w2 ⟨rfl, ⟨S2, V2, hI2⟩, hb2⟩
      have HR2 : Hid (AI G K S2 V2 (25600 + 1700 * Sc.nJ ops (i + 1)) w2 ∧ Below w.heap.size w w2) := ⟨hI2.later (by have := (uh HNX).1; omega), (uh HIW).2.trans (by rw [<- uh HG]; exact hb2)⟩
      clear hI2 hb2 HC HIW HOK
      go_wp2_with fail
      go_roundw
      case rel => exact ⟨i + 1, S2, V2, by omega, by go_num, HR2⟩
      case measure => simp [intOf]; omega
    by_cases UM : kd = 2 ∨ kd = 3
    . rcases UM with rfl | rfl
      . have HC := hide (OV G K S V (25600 + 1700 * Sc.nJ ops i) k 2 a b n s tt ha hl hc _ (uh HIW).1 hk (.inl rfl) (uh HSS))
        go_wp2_with fail
        refine (uh HC).mono ?_
        rintro e w2 ⟨rfl, ⟨S2, V2, hI2⟩, hb2⟩
        have HR2 : Hid (AI G K S2 V2 (25600 + 1700 * Sc.nJ ops (i + 1)) w2 ∧ Below w.heap.size w w2) := ⟨hI2.later (by have := (uh HNX).1; omega), (uh HIW).2.trans (by rw [<- uh HG]; exact hb2)⟩
        clear hI2 hb2 HC HIW HOK
        go_wp2_with fail
        go_roundw
        case rel => exact ⟨i + 1, S2, V2, by omega, by go_num, HR2⟩
        case measure => simp [intOf]; omega
      . have HC := hide (OV G K S V (25600 + 1700 * Sc.nJ ops i) k 3 a b n s tt ha hl hc _ (uh HIW).1 hk (.inr rfl) (uh HSS))
        go_wp2_with fail
        refine (uh HC).mono ?_
        rintro e w2 ⟨rfl, ⟨S2, V2, hI2⟩, hb2⟩
        have HR2 : Hid (AI G K S2 V2 (25600 + 1700 * Sc.nJ ops (i + 1)) w2 ∧ Below w.heap.size w w2) := ⟨hI2.later (by have := (uh HNX).1; omega), (uh HIW).2.trans (by rw [<- uh HG]; exact hb2)⟩
        clear hI2 hb2 HC HIW HOK
        go_wp2_with fail
        go_roundw
        case rel => exact ⟨i + 1, S2, V2, by omega, by go_num, HR2⟩
        case measure => simp [intOf]; omega
    have n1 : (kd == 1) = false := by rw [beq_eq_false_iff_ne]; omega
    have n2 : (kd == 2) = false := by rw [beq_eq_false_iff_ne]; omega
    have n3 : (kd == 3) = false := by rw [beq_eq_false_iff_ne]; omega
    have n4 : (4 : Int) <= kd := by omega
    by_cases h7 : kd <= 7
    . have HC := hide (QE G K S V (25600 + 1700 * Sc.nJ ops i) k kd a b n s tt ha hl hc l _ (uh HIW).1 hk n4 h7 (uh HSS) (uh HLL) (uh HSR) (uh HST))
      clear hk1 UM
      go_wp2_with fail
      refine (uh HC).mono ?_
      rintro e w2 ⟨rfl, ⟨S2, V2, hI2⟩, hb2⟩
      have HR2 : Hid (AI G K S2 V2 (25600 + 1700 * Sc.nJ ops (i + 1)) w2 ∧ Below w.heap.size w w2) := ⟨hI2.later (by have := (uh HNX).1; omega), (uh HIW).2.trans (by rw [<- uh HG]; exact hb2)⟩
      clear hI2 hb2 HC HIW HOK
      go_wp2_with fail
      go_roundw
      case rel => exact ⟨i + 1, S2, V2, by omega, by go_num, HR2⟩
      case measure => simp [intOf]; omega
    have h8 : 8 <= kd := by omega
    have h16 : kd <= 16 := by omega
    have HC := hide (UL G K S V (25600 + 1700 * Sc.nJ ops i) k kd a b n s tt ha hl hc l _ (uh HIW).1 hk (by have h1 := (uh HNX).1; have h2 := (uh HNX).2; omega) h8 h16 (uh HSS) (uh HOK).a (uh HLL) (uh HSR) (uh HST))
    clear hk1 UM
    go_wp2_with fail
    refine (uh HC).mono ?_
    rintro e w2 ⟨rfl, ⟨S2, V2, hI2⟩, hb2⟩
    have HR2 : Hid (AI G K S2 V2 (25600 + 1700 * Sc.nJ ops (i + 1)) w2 ∧ Below w.heap.size w w2) := ⟨hI2.later (by have := (uh HNX).1; omega), (uh HIW).2.trans (by rw [<- uh HG]; exact hb2)⟩
    clear hI2 hb2 HC HIW HOK
    go_wp2_with fail
    go_roundw
    case rel => exact ⟨i + 1, S2, V2, by omega, by go_num, HR2⟩
    case measure => simp [intOf]; omega
  . have hlt' : ¬ (i : Int) < len := by omega
    go_wp2_with fail
    go_ret
    exact ⟨rfl, (uh HR).2⟩
theorem Iu (bd win : Nat) (hbd : bd <= 200) (hw1 : 1 <= win) (hw2 : win <= 200) (w : World) (h0 : 0 < w.heap.size) (ad : Option Addr) (cap : Nat) :
 Calls Tryz.prog 10 #[.int .i64 bd, .int .i64 win, .slice ad 0 cap, .int .i64 1, .int .i64 16] w fun e w' => e = .returned (.bool true) ∧ Below w.heap.size w w' := by
 go_enter Tryz.func10, Tryz.ntmps10
 go_wp2_with fail
 refine (SG bd win hbd hw1 hw2 w h0).mono ?_
 rintro e w1 ⟨rfl, _, hb1⟩
 unfold ptr
 go_wp2_with fail
 refine wp_loop_rounds 1 ?_
 rw [rounds_succ]
 go_wp2_with fail
 go_ret
 exact ⟨rfl, hb1⟩
theorem all_some (w : World) (blk off len cap : Nat) (ops : Nat -> Sc.OpJ) (hfx : Fx w) (hS : Sc.D9 w blk off len ops) (hsum : Sc.nJ ops len <= 1048576) :
 Calls Tryz.prog 9 #[.slice (some ⟨blk, off, none⟩) len cap] w fun e w' => e = .returned (.bool true) ∧ Below w.heap.size w w' := by
 have HC := hide (Ir 100 20 (by omega) (by omega) (by omega) w blk off len cap ops hfx hS hsum)
 clear hfx hS hsum
 go_enter Tryz.func9, Tryz.ntmps9
 go_wp2_with fail
 refine (uh HC).mono ?_
 rintro e w1 ⟨rfl, hb1⟩
 go_wp2_with fail
 go_ret
 exact ⟨rfl, hb1⟩
theorem all_none (w : World) (h0 : 0 < w.heap.size) (ad : Option Addr) (cap : Nat) :
 Calls Tryz.prog 9 #[.slice ad 0 cap] w fun e w' => e = .returned (.bool true) ∧ Below w.heap.size w w' := by
 have HC := hide (Iu 100 20 (by omega) (by omega) (by omega) w h0 ad cap)
 go_enter Tryz.func9, Tryz.ntmps9
 go_wp2_with fail
 refine (uh HC).mono ?_
 rintro e w1 ⟨rfl, hb1⟩
 go_wp2_with fail
 go_ret
 exact ⟨rfl, hb1⟩
end Go.Proofs.YtbkpdapagfjmmaaGreatDoor
