import Derived.Test.YtbkpdapagfjmmaaGreatDoorA42
import Derived.Test.YtbkpdapagfjmmaaGreatDoorA43
import Derived.Test.YtbkpdapagfjmmaaGreatDoorA44
set_option linter.unusedVariables false
set_option maxRecDepth 100000
set_option maxHeartbeats 16000000
namespace Go.Proofs.YtbkpdapagfjmmaaGreatDoor
open Go.RowKit
structure EG where
 b0 : Nat
 M : Nat
 gE : Nat
 gF : Nat
 gP : Nat
 cE : Nat
 cF : Nat
 cP : Nat
 vR : Value
 vS : Value
 vT : Value
 vU : Value
structure EV where
 eb : Nat -> Nat
 rb : Nat -> Nat
 e : Nat -> Lk.En
 f : Nat -> Lk.En
 d : Nat -> PD
 p : Nat -> RP
 pp : Nat -> Lk.Bs
def ef (S : EV) (q i : Nat) : Prop := if q < 2 then foot (S.eb q) (S.d q) i else aI (S.rb (q - 2)) (S.p (q - 2)) i
def eg (G : EG) (i : Nat) : Prop := i = G.M ∨ i = G.gE ∨ i = G.gF ∨ i = G.gP
def mf (G : EG) (S : EV) (i : Nat) : Prop := eg G i ∨ ∃ q, q < 4 ∧ ef S q i
def Qp (G : EG) : List Value := [G.vR, G.vS, G.vT, G.vU, .slice (some ⟨G.gE, 0, none⟩) 2 G.cE, .slice (some ⟨G.gF, 0, none⟩) 2 G.cF, .slice (some ⟨G.gP, 0, none⟩) 2 G.cP]
structure EP (G : EG) (S : EV) (w : World) : Prop where
 made : Is w G.M 132 (Qp G)
 ve : ∃ t, Is w G.gE 34 (ptr (S.eb 0) :: ptr (S.eb 1) :: t)
 vg : ∃ t, Is w G.gF 141 (ptr (S.rb 0) :: ptr (S.rb 1) :: t)
 rowP : Is w G.gP 9 [.string (bs (S.pp 0)), .string (bs (S.pp 1))]
 pe : ∀ k, k < 2 -> kM w (S.eb k) (S.e k) (S.d k)
 re : ∀ k, k < 2 -> aT True w (S.rb k) (S.f k) (S.p k)
 sep : ∀ q r, q < 4 -> r < 4 -> q ≠ r -> ∀ i, ef S q i -> ¬ ef S r i
 Lh : ∀ q, q < 4 -> ∀ i, ef S q i -> ¬ eg G i
 lo : ∀ i, mf G S i -> G.b0 <= i
 fx : Fx w
 h0 : 0 < G.b0
 cap : 2 <= G.cE ∧ 2 <= G.cF ∧ 2 <= G.cP
def df (G : EG) (S : EV) (w : World) (S' : EV) (w' : World) : Prop := EP G S' w' ∧ (∀ i, mf G S' i -> mf G S i ∨ w.heap.size <= i) ∧ Only (mf G S) w w'
section
variable {G : EG} {S S1 S2 : EV} {w w' w1 w2 : World} {k : Nat}
theorem kJ {q i : Nat} (h : q < 2) : ef S q i ↔ foot (S.eb q) (S.d q) i := by unfold ef; rw [if_pos h]
theorem kK {q i : Nat} : ef S (q + 2) i ↔ aI (S.rb q) (S.p q) i := by
 unfold ef
 rw [if_neg (by omega), Nat.add_sub_cancel]
theorem EP.at_ (h : EP G S w) {i : Nat} (hi : mf G S i) : i < w.heap.size := by
 rcases hi with (rfl | rfl | rfl | rfl) | ⟨q, hq, hi⟩
 . exact h.made.lt
 . obtain ⟨t, ht⟩ := h.ve
   exact ht.lt
 . obtain ⟨t, ht⟩ := h.vg
   exact ht.lt
 . exact h.rowP.lt
 . by_cases hq2 : q < 2
   . exact (h.pe q hq2).lt _ ((kJ hq2).1 hi)
   . obtain ⟨r, rfl⟩ : ∃ r, q = r + 2 := ⟨q - 2, by omega⟩
     exact (h.re r (by omega)).lt (kK.1 hi)
theorem EP.only {A : Nat -> Prop} (h : EP G S w) (k : Only A w w') (hn : ∀ i, mf G S i -> ¬ A i) (h0 : ¬ A 0) : EP G S w' := by
 obtain ⟨t, ht⟩ := h.ve
 obtain ⟨u, hu⟩ := h.vg
 exact ⟨h.made.only k (hn _ (.inl (.inl rfl))), ⟨t, ht.only k (hn _ (.inl (.inr (.inl rfl))))⟩, ⟨u, hu.only k (hn _ (.inl (.inr (.inr (.inl rfl)))))⟩, h.rowP.only k (hn _ (.inl (.inr (.inr (.inr rfl))))), fun j hj => (h.pe j hj).only k (fun i hi => hn i (.inr ⟨j, by omega, (kJ hj).2 hi⟩)), fun j hj => (h.re j hj).only k (fun i hi => hn i (.inr ⟨j + 2, by omega, kK.2 hi⟩)), h.sep, h.Lh, h.lo, h.fx.only k h0, h.h0, h.cap⟩
theorem EP.below (h : EP G S w) (k : Below w.heap.size w w') : EP G S w' := h.only (Only.of_below k (fun _ => False)) (fun _ _ x => x) (fun x => x)
theorem df.refl (h : EP G S w) : df G S w S w := ⟨h, fun _ x => .inl x, Only.refl _ _⟩
theorem df.trans (h1 : df G S w S1 w1) (h2 : df G S1 w1 S2 w2) : df G S w S2 w2 := by
 obtain ⟨a1, a2, a3⟩ := h1
 obtain ⟨c1, c2, c3⟩ := h2
 refine ⟨c1, fun i hi => ?_, a3.trans c3 (fun i hi hlt => ?_)⟩
 . rcases c2 i hi with x | x
   . exact a2 i x
   . exact .inr (Nat.le_trans a3.size x)
 . rcases a2 i hi with x | x
   . exact x
   . omega
theorem df.after (h : df G S w S1 w1) (k : Below w1.heap.size w1 w2) : df G S w S1 w2 := ⟨h.1.below k, h.2.1, h.2.2.below k⟩
theorem df.before (h : df G S w1 S1 w2) (k : Below w.heap.size w w1) : df G S w S1 w2 := ⟨h.1, fun i hi => (h.2.1 i hi).imp id (fun x => Nat.le_trans k.size x), (Only.of_below k _).trans h.2.2 (fun _ x _ => x)⟩
theorem df.bel (h : df G S w S1 w1) (hS : EP G S w) {w0 : World} (hb : Below G.b0 w0 w) : Below G.b0 w0 w1 := hb.trans (h.2.2.toBelow (fun i hi _ => hS.lo i hi) (by have := hS.lo G.M (.inl (.inl rfl)); have := hS.made.lt; omega))
theorem EP.turn (h : EP G S w) {q : Nat} (hq : q < 4) {S' : EV} (hO : Only (ef S q) w w') (hother : ∀ r, r < 4 -> r ≠ q -> ∀ i, ef S' r i ↔ ef S r i) (hnew : ∀ i, ef S' q i -> ef S q i ∨ w.heap.size <= i) (hE : S'.eb = S.eb) (hR : S'.rb = S.rb) (hP : S'.pp = S.pp) (hpe : ∀ j, j < 2 -> kM w' (S'.eb j) (S'.e j) (S'.d j)) (hre : ∀ j, j < 2 -> aT True w' (S'.rb j) (S'.f j) (S'.p j)) : df G S w S' w' := by
 obtain ⟨t, ht⟩ := h.ve
 obtain ⟨u, hu⟩ := h.vg
 have hm : ∀ i, eg G i -> ¬ ef S q i := fun i hi hx => h.Lh q hq i hx hi
 have hmf : ∀ i, mf G S' i -> mf G S i ∨ w.heap.size <= i := fun i hi => by
  rcases hi with hi | ⟨r, hr, hi⟩
  . exact .inl (.inl hi)
  . by_cases hrq : r = q
    . subst hrq
      rcases hnew i hi with x | x
      . exact .inl (.inr ⟨r, hr, x⟩)
      . exact .inr x
    . exact .inl (.inr ⟨r, hr, (hother r hr hrq i).1 hi⟩)
 have hb0 : G.b0 <= w.heap.size := by
  have := h.lo G.M (.inl (.inl rfl))
  have := h.made.lt
  omega
 refine ⟨⟨h.made.only hO (hm _ (.inl rfl)), ⟨t, ?_⟩, ⟨u, ?_⟩, ?_, hpe, hre, fun a r ha hr har i hi hx => ?_, fun r hr i hi hx => ?_, fun i hi => ?_, h.fx.only hO (fun hx => ?_), h.h0, h.cap⟩, hmf, hO.mono (fun i hi => .inr ⟨q, hq, hi⟩)⟩
 . rw [hE]; exact ht.only hO (hm _ (.inr (.inl rfl)))
 . rw [hR]; exact hu.only hO (hm _ (.inr (.inr (.inl rfl))))
 . rw [hP]; exact h.rowP.only hO (hm _ (.inr (.inr (.inr rfl))))
 . have hold : ∀ r, r < 4 -> r ≠ q -> ∀ i, ef S' r i -> i < w.heap.size := fun r hr hrq i hi => h.at_ (.inr ⟨r, hr, (hother r hr hrq i).1 hi⟩)
   by_cases haq : a = q
   . subst haq
     have hrq : r ≠ a := Ne.symm har
     rcases hnew i hi with x | x
     . exact h.sep a r ha hr har i x ((hother r hr hrq i).1 hx)
     . have := hold r hr hrq i hx
       omega
   . have hi' := (hother a ha haq i).1 hi
     by_cases hrq : r = q
     . subst hrq
       rcases hnew i hx with x | x
       . exact h.sep a r ha hr har i hi' x
       . have := hold a ha haq i hi
         omega
     . exact h.sep a r ha hr har i hi' ((hother r hr hrq i).1 hx)
 . by_cases hrq : r = q
   . subst hrq
     rcases hnew i hi with x | x
     . exact h.Lh r hr i x hx
     . have := h.at_ (i := i) (.inl hx)
       omega
   . exact h.Lh r hr i ((hother r hr hrq i).1 hi) hx
 . rcases hmf i hi with x | x
   . exact h.lo i x
   . omega
 . have := h.lo 0 (.inr ⟨q, hq, hx⟩)
   have := h.h0
   omega
theorem EP.DW (h : EP G S w) (hk : k < 2) {e' : Lk.En} (hP : iO w (S.eb k) (S.d k) e' w') : ∃ d', df G S w { S with e := Lk.up2 S.e k e', d := Lk.up2 S.d k d' } w' := by
 obtain ⟨d', h1, h2, h3⟩ := hP
 have hO : Only (ef S k) w w' := h3.mono (fun i hi => (kJ hk).2 hi)
 refine ⟨d', h.turn (q := k) (by omega) hO (fun r hr hrk i => ?_) (fun i hi => ?_) rfl rfl rfl (fun j hj => ?_) (fun j hj => ?_)⟩
 . by_cases hr2 : r < 2
   . rw [kJ hr2, kJ hr2]
     simp only [Lk.ae _ _ hrk]
   . obtain ⟨s, rfl⟩ : ∃ s, r = s + 2 := ⟨r - 2, by omega⟩
     rw [kK, kK]
 . have hi := (kJ hk).1 hi
   simp only [Lk.ak] at hi
   exact (h2 i hi).imp (fun x => (kJ hk).2 x) id
 . by_cases hjk : j = k
   . subst hjk
     simp only [Lk.ak]
     exact h1
   . simp only [Lk.ae _ _ hjk]
     exact (h.pe j hj).only hO (fun i hi hx => h.sep j k (by omega) (by omega) hjk i ((kJ hj).2 hi) hx)
 . exact (h.re j hj).only hO (fun i hi hx => h.sep (j + 2) k (by omega) (by omega) (by omega) i (kK.2 hi) hx)
theorem EP.DX (h : EP G S w) (hk : k < 2) {e' : Lk.En} (hP : aj True w (S.rb k) (S.p k) e' w') : ∃ p', df G S w { S with f := Lk.up2 S.f k e', p := Lk.up2 S.p k p' } w' := by
 obtain ⟨p', h1, h2, h3⟩ := hP
 have hO : Only (ef S (k + 2)) w w' := h3.mono (fun i hi => kK.2 hi)
 refine ⟨p', h.turn (q := k + 2) (by omega) hO (fun r hr hrk i => ?_) (fun i hi => ?_) rfl rfl rfl (fun j hj => ?_) (fun j hj => ?_)⟩
 . by_cases hr2 : r < 2
   . rw [kJ hr2, kJ hr2]
   . obtain ⟨s, rfl⟩ : ∃ s, r = s + 2 := ⟨r - 2, by omega⟩
     rw [kK, kK]
     simp only [Lk.ae _ _ (show s ≠ k by omega)]
 . have hi := kK.1 hi
   simp only [Lk.ak] at hi
   exact (h2 i hi).imp (fun x => kK.2 x) id
 . exact (h.pe j hj).only hO (fun i hi hx => h.sep j (k + 2) (by omega) (by omega) (by omega) i ((kJ hj).2 hi) hx)
 . by_cases hjk : j = k
   . subst hjk
     simp only [Lk.ak]
     exact h1
   . simp only [Lk.ae _ _ hjk]
     exact (h.re j hj).only hO (fun i hi hx => h.sep (j + 2) (k + 2) (by omega) (by omega) (by omega) i (kK.2 hi) hx)
theorem EP.UA (h : EP G S w) (hk : k < 2) (x : Lk.Bs) : df G S w { S with pp := Lk.up2 S.pp k x } (w.setCell ⟨G.gP, k, none⟩ (.string (bs x))) := by
 obtain ⟨t, ht⟩ := h.ve
 obtain ⟨u, hu⟩ := h.vg
 have hO : Only (· = G.gP) w (w.setCell ⟨G.gP, k, none⟩ (.string (bs x))) := (Only.refl _ w).set G.gP k _ (fun _ => rfl)
 have hm : ∀ q, q < 4 -> ∀ i, ef S q i -> i ≠ G.gP := fun q hq i hi hx => h.Lh q hq i hi (.inr (.inr (.inr hx)))
 refine ⟨⟨h.made.only hO (h.made.ne h.rowP (nbq rfl)), ⟨t, ht.only hO (ht.ne h.rowP (nbq rfl))⟩, ⟨u, hu.only hO (hu.ne h.rowP (nbq rfl))⟩, ?_, fun j hj => (h.pe j hj).only hO (fun i hi => hm j (by omega) i ((kJ hj).2 hi)), fun j hj => (h.re j hj).only hO (fun i hi => hm (j + 2) (by omega) i (kK.2 hi)), h.sep, h.Lh, h.lo, h.fx.only hO (fun hx => ?_), h.h0, h.cap⟩, fun i hi => .inl hi, hO.mono (fun i hi => .inl (.inr (.inr (.inr hi))))⟩
 . have := h.rowP.set k (.string (bs x))
   have h2 : k = 0 ∨ k = 1 := by omega
   rcases h2 with rfl | rfl
   . simpa [Lk.up2] using this
   . simpa [Lk.up2] using this
 . have := h.lo G.gP (.inl (.inr (.inr (.inr rfl))))
   have := h.h0
   have hx : 0 = G.gP := hx
   omega
theorem Fh {g : Nat} {T : TypeId} {f : Nat -> Nat} {t : List Value} (h : Is w g T (ptr (f 0) :: ptr (f 1) :: t)) (hk : k < 2) (x : Nat) : Is (w.setCell ⟨g, k, none⟩ (ptr x)) g T (ptr (Lk.up2 f k x 0) :: ptr (Lk.up2 f k x 1) :: t) := by
 have := h.set k (ptr x)
 have h2 : k = 0 ∨ k = 1 := by omega
 rcases h2 with rfl | rfl
 . simpa [Lk.up2] using this
 . simpa [Lk.up2] using this
theorem dQ {g : Nat} {T : TypeId} {f : Nat -> Nat} (h : ∃ t, Is w g T (ptr (f 0) :: ptr (f 1) :: t)) (hk : k < 2) : w.cell? ⟨g, k, none⟩ = some (.pointer (some ⟨f k, 0, none⟩)) := by
 obtain ⟨t, h⟩ := h
 rw [h.cell]
 have h2 : k = 0 ∨ k = 1 := by omega
 rcases h2 with rfl | rfl <;> rfl
theorem EP.Xj (h : EP G S w) (hk : k < 2) {b : Nat} {e' : Lk.En} {d' : PD} (h1 : kM w b e' d') (h2 : ∀ i, foot b d' i -> ¬ mf G S i ∧ G.b0 <= i) :
 EP G { S with eb := Lk.up2 S.eb k b, e := Lk.up2 S.e k e', d := Lk.up2 S.d k d' } (w.setCell ⟨G.gE, k, none⟩ (ptr b)) ∧ ∀ i, mf G { S with eb := Lk.up2 S.eb k b, e := Lk.up2 S.e k e', d := Lk.up2 S.d k d' } i -> mf G S i ∨ foot b d' i := by
 obtain ⟨t, ht⟩ := h.ve
 obtain ⟨u, hu⟩ := h.vg
 have hO : Only (· = G.gE) w (w.setCell ⟨G.gE, k, none⟩ (ptr b)) := (Only.refl _ w).set G.gE k _ (fun _ => rfl)
 have hm : ∀ q, q < 4 -> ∀ i, ef S q i -> i ≠ G.gE := fun q hq i hi hx => h.Lh q hq i hi (.inr (.inl hx))
 have hef : ∀ q, q < 4 -> ∀ i, ef { S with eb := Lk.up2 S.eb k b, e := Lk.up2 S.e k e', d := Lk.up2 S.d k d' } q i -> (q ≠ k ∧ ef S q i) ∨ (q = k ∧ foot b d' i) := by
  intro q hq i hi
  by_cases hqk : q = k
  . subst hqk
    have hi := (kJ hk).1 hi
    simp only [Lk.ak] at hi
    exact .inr ⟨rfl, hi⟩
  . refine .inl ⟨hqk, ?_⟩
    by_cases hq2 : q < 2
    . have hi := (kJ hq2).1 hi
      simp only [Lk.ae _ _ hqk] at hi
      exact (kJ hq2).2 hi
    . obtain ⟨s, rfl⟩ : ∃ s, q = s + 2 := ⟨q - 2, by omega⟩
      exact kK.2 (kK.1 hi)
 have hmf : ∀ i, mf G { S with eb := Lk.up2 S.eb k b, e := Lk.up2 S.e k e', d := Lk.up2 S.d k d' } i -> mf G S i ∨ foot b d' i := fun i hi => by
  rcases hi with hi | ⟨q, hq, hi⟩
  . exact .inl (.inl hi)
  . rcases hef q hq i hi with ⟨_, x⟩ | ⟨_, x⟩
    . exact .inl (.inr ⟨q, hq, x⟩)
    . exact .inr x
 refine ⟨⟨h.made.only hO (h.made.ne ht (nbq rfl)), ⟨t, Fh ht hk b⟩, ⟨u, hu.only hO (hu.ne ht (nbq rfl))⟩, h.rowP.only hO (h.rowP.ne ht (nbq rfl)), fun j hj => ?_, fun j hj => (h.re j hj).only hO (fun i hi => hm (j + 2) (by omega) i (kK.2 hi)), fun q r hq hr hqr i hi hx => ?_, fun q hq i hi hx => ?_, fun i hi => ?_, h.fx.only hO (fun hx => ?_), h.h0, h.cap⟩, hmf⟩
 . by_cases hjk : j = k
   . subst hjk
     simp only [Lk.ak]
     exact h1.only hO (fun i hi hx => (h2 i hi).1 (.inl (.inr (.inl hx))))
   . simp only [Lk.ae _ _ hjk]
     exact (h.pe j hj).only hO (fun i hi => hm j (by omega) i ((kJ hj).2 hi))
 . rcases hef q hq i hi with ⟨a, x⟩ | ⟨a, x⟩ <;> rcases hef r hr i hx with ⟨c, y⟩ | ⟨c, y⟩
   . exact h.sep q r hq hr hqr i x y
   . exact (h2 i y).1 (.inr ⟨q, hq, x⟩)
   . exact (h2 i x).1 (.inr ⟨r, hr, y⟩)
   . omega
 . rcases hef q hq i hi with ⟨_, x⟩ | ⟨_, x⟩
   . exact h.Lh q hq i x hx
   . exact (h2 i x).1 (.inl hx)
 . rcases hmf i hi with x | x
   . exact h.lo i x
   . exact (h2 i x).2
 . have := h.lo G.gE (.inl (.inr (.inl rfl)))
   have := h.h0
   have hx : 0 = G.gE := hx
   omega
theorem EP.Xk (h : EP G S w) (hk : k < 2) {b : Nat} {e' : Lk.En} {p' : RP} (h1 : aT True w b e' p') (h2 : ∀ i, aI b p' i -> ¬ mf G S i ∧ G.b0 <= i) :
 EP G { S with rb := Lk.up2 S.rb k b, f := Lk.up2 S.f k e', p := Lk.up2 S.p k p' } (w.setCell ⟨G.gF, k, none⟩ (ptr b)) ∧ ∀ i, mf G { S with rb := Lk.up2 S.rb k b, f := Lk.up2 S.f k e', p := Lk.up2 S.p k p' } i -> mf G S i ∨ aI b p' i := by
 obtain ⟨t, ht⟩ := h.ve
 obtain ⟨u, hu⟩ := h.vg
 have hO : Only (· = G.gF) w (w.setCell ⟨G.gF, k, none⟩ (ptr b)) := (Only.refl _ w).set G.gF k _ (fun _ => rfl)
 have hm : ∀ q, q < 4 -> ∀ i, ef S q i -> i ≠ G.gF := fun q hq i hi hx => h.Lh q hq i hi (.inr (.inr (.inl hx)))
 have hef : ∀ q, q < 4 -> ∀ i, ef { S with rb := Lk.up2 S.rb k b, f := Lk.up2 S.f k e', p := Lk.up2 S.p k p' } q i -> (q ≠ k + 2 ∧ ef S q i) ∨ (q = k + 2 ∧ aI b p' i) := by
  intro q hq i hi
  by_cases hqk : q = k + 2
  . subst hqk
    have hi := kK.1 hi
    simp only [Lk.ak] at hi
    exact .inr ⟨rfl, hi⟩
  . refine .inl ⟨hqk, ?_⟩
    by_cases hq2 : q < 2
    . have hi := (kJ hq2).1 hi
      exact (kJ hq2).2 hi
    . obtain ⟨s, rfl⟩ : ∃ s, q = s + 2 := ⟨q - 2, by omega⟩
      have hi := kK.1 hi
      simp only [Lk.ae _ _ (show s ≠ k by omega)] at hi
      exact kK.2 hi
 have hmf : ∀ i, mf G { S with rb := Lk.up2 S.rb k b, f := Lk.up2 S.f k e', p := Lk.up2 S.p k p' } i -> mf G S i ∨ aI b p' i := fun i hi => by
  rcases hi with hi | ⟨q, hq, hi⟩
  . exact .inl (.inl hi)
  . rcases hef q hq i hi with ⟨_, x⟩ | ⟨_, x⟩
    . exact .inl (.inr ⟨q, hq, x⟩)
    . exact .inr x
 refine ⟨⟨h.made.only hO (h.made.ne hu (nbq rfl)), ⟨t, ht.only hO (ht.ne hu (nbq rfl))⟩, ⟨u, Fh hu hk b⟩, h.rowP.only hO (h.rowP.ne hu (nbq rfl)), fun j hj => (h.pe j hj).only hO (fun i hi => hm j (by omega) i ((kJ hj).2 hi)), fun j hj => ?_, fun q r hq hr hqr i hi hx => ?_, fun q hq i hi hx => ?_, fun i hi => ?_, h.fx.only hO (fun hx => ?_), h.h0, h.cap⟩, hmf⟩
 . by_cases hjk : j = k
   . subst hjk
     simp only [Lk.ak]
     exact h1.only hO (fun i hi hx => (h2 i hi).1 (.inl (.inr (.inr (.inl hx)))))
   . simp only [Lk.ae _ _ hjk]
     exact (h.re j hj).only hO (fun i hi => hm (j + 2) (by omega) i (kK.2 hi))
 . rcases hef q hq i hi with ⟨a, x⟩ | ⟨a, x⟩ <;> rcases hef r hr i hx with ⟨c, y⟩ | ⟨c, y⟩
   . exact h.sep q r hq hr hqr i x y
   . exact (h2 i y).1 (.inr ⟨q, hq, x⟩)
   . exact (h2 i x).1 (.inr ⟨r, hr, y⟩)
   . omega
 . rcases hef q hq i hi with ⟨_, x⟩ | ⟨_, x⟩
   . exact h.Lh q hq i x hx
   . exact (h2 i x).1 (.inl hx)
 . rcases hmf i hi with x | x
   . exact h.lo i x
   . exact (h2 i x).2
 . have := h.lo G.gF (.inl (.inr (.inr (.inl rfl))))
   have := h.h0
   have hx : 0 = G.gF := hx
   omega
end
end Go.Proofs.YtbkpdapagfjmmaaGreatDoor
