import Derived.Test.YtbkpdapagfjmmaaGreatDoorA47
import Derived.Deep.RegionWith
import Derived.Deep.RegionLaw
set_option linter.unusedVariables false
set_option maxRecDepth 100000
set_option maxHeartbeats 16000000
namespace Go.Proofs.YtbkpdapagfjmmaaGreatDoor
open Go.RowKit
def mkT (q : Nat) : TypeId := match q with
 | 0 => 133
 | 1 => 52
 | 2 => 135
 | 3 => 138
 | 4 => 34
 | _ => 141
theorem six (p : Nat -> Prop) (h0 : p 0) (h1 : p 1) (h2 : p 2) (h3 : p 3) (h4 : p 4) (h5 : p 5) : ∀ q, q < 6 -> p q := fun q hq => match q, hq with
 | 0, _ => h0
 | 1, _ => h1
 | 2, _ => h2
 | 3, _ => h3
 | 4, _ => h4
 | 5, _ => h5
theorem oH (q : Nat) (hq : q < 6) : mkT q ≠ 132 := six (fun q => mkT q ≠ 132) (nbq rfl) (nbq rfl) (nbq rfl) (nbq rfl) (nbq rfl) (nbq rfl) q hq
theorem Qs (q : Nat) (hq : q < 6) : mkT q ≠ 9 := six (fun q => mkT q ≠ 9) (nbq rfl) (nbq rfl) (nbq rfl) (nbq rfl) (nbq rfl) (nbq rfl) q hq
theorem Sv (q r : Nat) (hq : q < 6) (hr : r < 6) (h : q ≠ r) : mkT q ≠ mkT r := by
 refine six (fun q => q ≠ r -> mkT q ≠ mkT r) ?_ ?_ ?_ ?_ ?_ ?_ q hq h <;> refine six (fun r => _ ≠ r -> mkT _ ≠ mkT r) ?_ ?_ ?_ ?_ ?_ ?_ r hr <;> intro h <;> first | exact absurd rfl h | exact nbq rfl
theorem KN (q : Nat) (hq : q < 6) : (Tryz.prog.info? (mkT q)).map (fun i => (i.zero, i.size, i.bytes)) = some (some (.pointer none), 1, 8) := by
 refine six (fun q => (Tryz.prog.info? (mkT q)).map (fun i => (i.zero, i.size, i.bytes)) = some (some (.pointer none), 1, 8)) ?_ ?_ ?_ ?_ ?_ ?_ q hq <;> kernel_rfl
structure Mk (b M gp : Nat) (vs : Nat -> Value) (ls : Nat -> List Nat) (m : Nat) (P : Nat -> World -> Prop) (F : Nat -> Nat -> Prop) (w : World) : Prop where
 made : Is w M 132 [vs 0, vs 1, vs 2, vs 3, vs 4, vs 5, .slice (some ⟨gp, 0, none⟩) 2 2]
 rowP : Is w gp 9 [.string ⟨#[]⟩, .string ⟨#[]⟩]
 rows : ∀ q, q < 6 -> w.ownsRow b (mkT q) 1 (vs q) (ls q).length ((ls q).map ptr)
 obj : ∀ q, q < m -> P q w
 inb : ∀ q, q < m -> ∀ i, F q i -> b <= i ∧ i < w.heap.size
 sep : ∀ q r, q < m -> r < m -> q ≠ r -> ∀ i, F q i -> ¬ F r i
 sr : ∀ q, q < m -> ∀ i, F q i -> i ≠ M ∧ i ≠ gp ∧ ∀ r, r < 6 -> (vs r).ownBlock ≠ some i
 st : ∀ q, q < m -> ∀ (A : Nat -> Prop) (u u' : World), P q u -> Only A u u' -> (∀ i, F q i -> ¬ A i) -> P q u'
 hM : b <= M ∧ b <= gp
section
variable {b M gp m : Nat} {vs : Nat -> Value} {ls : Nat -> List Nat} {P P' : Nat -> World -> Prop} {F F' : Nat -> Nat -> Prop} {w w1 : World}
theorem Mk.below (h : Mk b M gp vs ls m P F w) (hb : Below w.heap.size w w1) : Mk b M gp vs ls m P F w1 :=
 ⟨h.made.below hb h.made.lt, h.rowP.below hb h.rowP.lt, fun q hq => own_below (h.rows q hq) hb, fun q hq => h.st q hq _ _ _ (h.obj q hq) (Only.of_below hb (fun _ => False)) (fun _ _ x => x), fun q hq i hi => ⟨(h.inb q hq i hi).1, Nat.lt_of_lt_of_le (h.inb q hq i hi).2 hb.size⟩, h.sep, h.sr, h.st, h.hM⟩
theorem Mk.add (h : Mk b M gp vs ls m P F w) (hb : Below w.heap.size w w1) (hP : ∀ q, q < m -> P' q = P q) (hF : ∀ q, q < m -> F' q = F q) (h1 : P' m w1) (h2 : ∀ i, F' m i -> w.heap.size <= i ∧ i < w1.heap.size) (h3 : ∀ (A : Nat -> Prop) (u u' : World), P' m u -> Only A u u' -> (∀ i, F' m i -> ¬ A i) -> P' m u') : Mk b M gp vs ls (m + 1) P' F' w1 := by
 have hw := h.below hb
 have hbs : b <= w.heap.size := by have := h.hM.1; have := h.made.lt; omega
 have cas : ∀ q, q < m + 1 -> q < m ∨ q = m := fun q hq => by omega
 refine ⟨hw.made, hw.rowP, hw.rows, fun q hq => ?_, fun q hq i hi => ?_, fun q r hq hr hqr i hi hx => ?_, fun q hq i hi => ?_, fun q hq => ?_, h.hM⟩
 . rcases cas q hq with hq | rfl
   . rw [hP q hq]; exact hw.obj q hq
   . exact h1
 . rcases cas q hq with hq | rfl
   . rw [hF q hq] at hi; exact hw.inb q hq i hi
   . exact ⟨Nat.le_trans hbs (h2 i hi).1, (h2 i hi).2⟩
 . rcases cas q hq with hq | rfl <;> rcases cas r hr with hr | rfl
   . rw [hF q hq] at hi; rw [hF r hr] at hx; exact h.sep q r hq hr hqr i hi hx
   . rw [hF q hq] at hi
     have := (h.inb q hq i hi).2
     have := (h2 i hx).1
     omega
   . rw [hF r hr] at hx
     have := (h.inb r hr i hx).2
     have := (h2 i hi).1
     omega
   . exact hqr rfl
 . rcases cas q hq with hq | rfl
   . rw [hF q hq] at hi; exact h.sr q hq i hi
   . have hge := (h2 i hi).1
     refine ⟨fun e => ?_, fun e => ?_, fun r hr e => ?_⟩
     . have := h.made.lt; omega
     . have := h.rowP.lt; omega
     . have := ((h.rows r hr).lt i e).2; omega
 . rcases cas q hq with hq | rfl
   . rw [hP q hq, hF q hq]; exact h.st q hq
   . exact h3
theorem Mk.push (h : Mk b M gp vs ls m P F w) {q : Nat} (hq : q < 6) {x : Nat} {v2 : Value} (hO : Only (fun i => (vs q).ownBlock = some i) w w1) (ho : w1.ownsRow b (mkT q) 1 v2 ((ls q).length + 1) ((ls q).map ptr ++ [ptr x])) (hv : ∀ i, v2.ownBlock = some i -> (vs q).ownBlock = some i ∨ w.heap.size <= i) :
 Mk b M gp (Lk.up2 vs q v2) (Lk.up2 ls q (ls q ++ [x])) m P F (w1.setCell ⟨M, q, none⟩ v2) := by
 have hnM : ∀ i, (vs q).ownBlock = some i -> i ≠ M := fun i hi e => by
  subst e
  exact own_ne (h.rows q hq) h.made (oH q hq).symm hi.symm
 have hnP : ∀ i, (vs q).ownBlock = some i -> i ≠ gp := fun i hi e => by
  subst e
  exact own_ne (h.rows q hq) h.rowP (Qs q hq).symm hi.symm
 have hM1 := h.made.only hO (fun e => hnM M e rfl)
 have hP1 := h.rowP.only hO (fun e => hnP gp e rfl)
 have hO2 : Only (· = M) w1 (w1.setCell ⟨M, q, none⟩ v2) := (Only.refl _ w1).set M q _ (fun _ => rfl)
 refine ⟨?_, hP1.only hO2 (hP1.ne hM1 (nbq rfl)), fun r hr => ?_, fun r hr => h.st r hr _ _ _ (h.st r hr _ _ _ (h.obj r hr) hO (fun i hi hx => (h.sr r hr i hi).2.2 q hq hx)) hO2 (fun i hi hx => (h.sr r hr i hi).1 hx), fun r hr i hi => ⟨(h.inb r hr i hi).1, ?_⟩, h.sep, fun r hr i hi => ⟨(h.sr r hr i hi).1, (h.sr r hr i hi).2.1, fun s hs e => ?_⟩, h.st, h.hM⟩
 . have := hM1.set q v2
   have hc : [vs 0, vs 1, vs 2, vs 3, vs 4, vs 5, Value.slice (some ⟨gp, 0, none⟩) 2 2].set q v2 = [Lk.up2 vs q v2 0, Lk.up2 vs q v2 1, Lk.up2 vs q v2 2, Lk.up2 vs q v2 3, Lk.up2 vs q v2 4, Lk.up2 vs q v2 5, Value.slice (some ⟨gp, 0, none⟩) 2 2] := by
    refine six (fun q => [vs 0, vs 1, vs 2, vs 3, vs 4, vs 5, Value.slice (some ⟨gp, 0, none⟩) 2 2].set q v2 = [Lk.up2 vs q v2 0, Lk.up2 vs q v2 1, Lk.up2 vs q v2 2, Lk.up2 vs q v2 3, Lk.up2 vs q v2 4, Lk.up2 vs q v2 5, Value.slice (some ⟨gp, 0, none⟩) 2 2]) ?_ ?_ ?_ ?_ ?_ ?_ q hq <;> simp [Lk.up2]
   rw [hc] at this
   exact this
 . by_cases hrq : r = q
   . subst hrq
     rw [Lk.ak, Lk.ak]
     have ho' : w1.ownsRow b (mkT r) 1 v2 (ls r ++ [x]).length ((ls r ++ [x]).map ptr) := by simpa using ho
     exact ag ho' hO2 (fun i hi e => by
      have e : i = M := e
      subst e
      exact own_ne ho' hM1 (oH r hr).symm hi.symm)
   . rw [Lk.ae _ _ hrq, Lk.ae _ _ hrq]
     have h1 := ag (h.rows r hr) hO (fun i hi e => by
      obtain ⟨cs, hc⟩ := iM (h.rows q hq) e
      exact own_ne (h.rows r hr) hc (Sv q r hq hr (Ne.symm hrq)) hi.symm)
     exact ag h1 hO2 (fun i hi e => by
      have e : i = M := e
      subst e
      exact own_ne h1 hM1 (oH r hr).symm hi.symm)
 . have := (h.inb r hr i hi).2
   have := hO.size
   simp
   omega
 . by_cases hsq : s = q
   . subst hsq
     rw [Lk.ak] at e
     rcases hv i e with y | y
     . exact (h.sr r hr i hi).2.2 s hs y
     . have := (h.inb r hr i hi).2
       omega
   . rw [Lk.ae _ _ hsq] at e
     exact (h.sr r hr i hi).2.2 s hs e
theorem Mk.app (h : Mk b M gp vs ls m P F w) {q : Nat} (hq : q < 6) (x : Nat) (hl : (ls q).length <= 5) (tS ty : TypeId) (hu : Tryz.prog.underlying tS = some (.slice (mkT q))) :
 ∃ a cap w1, (Builtin.append_ #[tS, tS] ty #[vs q, .slice (some ⟨w.heap.size, 0, none⟩) 1 1]).run Tryz.prog (w.alloc (.cells #[ptr x] (mkT q))) = .ok (.slice (some a) ((ls q).length + 1) cap) w1 ∧ (w1.cell? ⟨M, q, none⟩ = some (vs q) ∧ w1.frozen? ⟨M, q, none⟩ = false ∧ M < w1.heap.size) ∧ Mk b M gp (Lk.up2 vs q (.slice (some a) ((ls q).length + 1) cap)) (Lk.up2 ls q (ls q ++ [x])) m P F (w1.setCell ⟨M, q, none⟩ (.slice (some a) ((ls q).length + 1) cap)) ∧ ∀ w0, Below b w0 w -> Below b w0 (w1.setCell ⟨M, q, none⟩ (.slice (some a) ((ls q).length + 1) cap)) := by
 obtain ⟨i, hi, hz0, hz1, hz2⟩ := info_parts (KN q hq)
 have hbs : b <= w.heap.size := by have := h.hM.1; have := h.made.lt; omega
 have hI := Is.new w (mkT q) [ptr x]
 obtain ⟨v', w', hr, h1, h2, _, h4⟩ := run_append_own_at (P := Tryz.prog) (w.alloc (.cells #[ptr x] (mkT q))) b tS ty (mkT q) i (.pointer none) 1 8 hu hi hz0 hz1 hz2 rfl (by omega) (vs q) (ls q).length ((ls q).map ptr) ((h.rows q hq).alloc _) ⟨w.heap.size, 0, none⟩ 1 1 [ptr x] rfl
  (fun j u hj => by
   have e : (⟨w.heap.size, 0, none⟩ : Addr).add j = ⟨w.heap.size, j, none⟩ := by unfold Addr.add; split <;> simp_all
   rw [e]
   exact (hI.cell j).trans hj)
  (fun u hu => by simp at hu; subst hu; rfl)
  (by unfold maxLen; omega) (by omega) (by simp; omega)
 have hO1 : Only (fun i => (vs q).ownBlock = some i) w (w.alloc (.cells #[ptr x] (mkT q))) := (Only.refl _ w).alloc _
 have hO2 : Only (fun i => (vs q).ownBlock = some i) w w' := hO1.trans ((Only.gV h2).mono (fun i hi => hi.symm)) (fun _ x _ => x)
 obtain ⟨a, cap, hf⟩ : ∃ a cap, v' = .slice (some a) ((ls q).length + 1) cap := by
  rcases h1.2 with ⟨_, h0⟩ | ⟨g, cap, cur, h, _⟩
  . simp at h0
  . exact ⟨⟨g, 0, none⟩, cap, h⟩
 subst hf
 have hM1 := h.made.only hO2 (fun e => own_ne (h.rows q hq) h.made (oH q hq).symm e.symm)
 refine ⟨a, cap, w', hr, ⟨?_, hM1.free q, hM1.lt⟩, h.push hq hO2 h1 (fun j hj => ?_), fun w0 hb => hb.trans ((hO2.toBelow (fun i hi _ => ((h.rows q hq).lt i hi).1) hbs).setCell h.hM.1 _)⟩
 . rw [hM1.cell]
   exact six (fun q => [vs 0, vs 1, vs 2, vs 3, vs 4, vs 5, Value.slice (some ⟨gp, 0, none⟩) 2 2][q]? = some (vs q)) rfl rfl rfl rfl rfl rfl q hq
 . rcases h4 with h4 | h4
   . rw [h4] at hj; exact .inl hj
   . rw [h4] at hj
     injection hj with hj
     exact .inr (by simp at hj; omega)
end
theorem N8 {w : World} {B g cap : Nat} {T : TypeId} {l : List Nat} {x : Nat} (h : w.ownsRow B T 1 (.slice (some ⟨g, 0, none⟩) (l.length + 1) cap) (l ++ [x]).length ((l ++ [x]).map ptr)) : w.cell? ⟨g, l.length, none⟩ = some (ptr x) ∧ g < w.heap.size ∧ l.length + 1 <= cap := by
 rcases h.2 with ⟨h0, _⟩ | ⟨g', cap', cur, h0, hB, hg, hn, hc, hs, ht⟩
 . cases h0
 . have h0 : some (⟨g, 0, none⟩ : Addr) = some ⟨g', 0, none⟩ ∧ cap = cap' := by injection h0 with e1 e2 e3; exact ⟨e1, e3⟩
   obtain ⟨e1, rfl⟩ := h0
   injection e1 with e1
   injection e1 with e1
   subst e1
   have hI : Is w g T cur.toList := by unfold Is; simpa using hg
   refine ⟨?_, hI.lt, by simpa using hn⟩
   rw [hI.cell]
   have e := congrArg (fun l' => l'[l.length]?) ht
   simp only [List.length_append, List.length_cons, List.length_nil, Nat.mul_one] at e
   rw [List.getElem?_take_of_lt (by omega)] at e
   rw [e]
   simp
theorem Ii (w : World) : Calls Tryz.prog 51 #[] w fun r w' => r = .returned (.pointer (some ⟨w.heap.size, 0, none⟩)) ∧ w' = w.alloc (.cells #[.string ⟨#[]⟩, .int .i64 0, .int .i64 0] 85) := by
 go_enter Tryz.func51, Tryz.ntmps51
 go_wp2
 go_ret
 exact ⟨rfl, rfl⟩
def obP (win : Nat) (ob : Nat -> Nat) (d : Nat -> PD) (p : Nat -> RP) (q : Nat) (w : World) : Prop := if q % 2 = 0 then kM w (ob q) (Lk.En.new (q / 2) win) (d q) else aT True w (ob q) (Lk.En.new (q / 2) win) (p q)
def obF (ob : Nat -> Nat) (d : Nat -> PD) (p : Nat -> RP) (q i : Nat) : Prop := if q % 2 = 0 then foot (ob q) (d q) i else aI (ob q) (p q) i
theorem xh (w : World) (c d : Obj) : Below w.heap.size w ((w.alloc c).alloc d).drew := by
 have h := ((Below.refl w.heap.size w).alloc (Nat.le_refl _) c).alloc (by simp) d
 exact ⟨h.os, h.tape, h.output, h.size, h.block⟩
def MkN (b M gp win n : Nat) (w : World) : Prop := ∃ vs ls ob d p, Mk b M gp vs ls (2 * n) (obP win ob d p) (obF ob d p) w ∧ (∀ q, q < 6 -> (ls q).length = n) ∧ ls 4 = (List.range n).map (fun k => ob (2 * k)) ∧ ls 5 = (List.range n).map (fun k => ob (2 * k + 1))
theorem Mk.c {b M gp m : Nat} {vs : Nat -> Value} {ls : Nat -> List Nat} {P : Nat -> World -> Prop} {F : Nat -> Nat -> Prop} {w : World} (h : Mk b M gp vs ls m P F w) (q : Nat) (hq : q < 6) : w.cell? ⟨M, q, none⟩ = some (vs q) := by
 rw [h.made.cell]
 exact six (fun q => [vs 0, vs 1, vs 2, vs 3, vs 4, vs 5, Value.slice (some ⟨gp, 0, none⟩) 2 2][q]? = some (vs q)) rfl rfl rfl rfl rfl rfl q hq
def oJ (bd win : Nat) (ob : Nat -> Nat) (d : Nat -> PD) (p : Nat -> RP) (q : Nat) (w : World) : Prop := match q % 6 with
 | 0 => Is w (ob q) 85 [.string ⟨#[]⟩, .int .i64 0, .int .i64 0]
 | 1 => Is w (ob q) 54 [.string ⟨#[]⟩, .int .i64 0]
 | 2 => Tab w (ob q) bd [] gQ
 | 3 => RTab w (ob q) bd [] gQ
 | 4 => kM w (ob q) (Lk.En.new (q / 6) win) (d q)
 | _ => aT True w (ob q) (Lk.En.new (q / 6) win) (p q)
def mg (ob : Nat -> Nat) (d : Nat -> PD) (p : Nat -> RP) (q i : Nat) : Prop := match q % 6 with
 | 0 => i = ob q
 | 1 => i = ob q
 | 2 => i = ob q
 | 3 => i = ob q
 | 4 => foot (ob q) (d q) i
 | _ => aI (ob q) (p q) i
theorem QB {bd win : Nat} {ob : Nat -> Nat} {d : Nat -> PD} {p : Nat -> RP} {q : Nat} {A : Nat -> Prop} {u u' : World} (h : oJ bd win ob d p q u) (hO : Only A u u') (hn : ∀ i, mg ob d p q i -> ¬ A i) : oJ bd win ob d p q u' := by
 unfold oJ mg at *
 split at h
 . rename_i e; simp only [e] at hn; exact h.only hO (hn _ rfl)
 . rename_i e; simp only [e] at hn; exact h.only hO (hn _ rfl)
 . rename_i e; simp only [e] at hn; exact ⟨h.blk.only hO (hn _ rfl), World.ownsRow_nil _ _ _ _, h.le, h.hB⟩
 . rename_i e; simp only [e] at hn; exact ⟨h.blk.only hO (hn _ rfl), World.ownsRow_nil _ _ _ _, h.le, h.hB⟩
 . rename_i e; simp only [e] at hn; exact h.only hO hn
 . rename_i e0 e1 e2 e3 e4
   have f0 : q % 6 ≠ 0 := e0
   have f1 : q % 6 ≠ 1 := e1
   have f2 : q % 6 ≠ 2 := e2
   have f3 : q % 6 ≠ 3 := e3
   have f4 : q % 6 ≠ 4 := e4
   have e : q % 6 = 5 := by omega
   simp only [e] at hn
   exact h.only hO hn
theorem Mk.QT {b M gp m bd win : Nat} {vs : Nat -> Value} {ls : Nat -> List Nat} {ob : Nat -> Nat} {d : Nat -> PD} {p : Nat -> RP} {w w1 : World} (h : Mk b M gp vs ls m (oJ bd win ob d p) (mg ob d p) w) (hb : Below w.heap.size w w1) (x : Nat) (d' : PD) (p' : RP) (h1 : oJ bd win (Lk.up2 ob m x) (Lk.up2 d m d') (Lk.up2 p m p') m w1) (h2 : ∀ i, mg (Lk.up2 ob m x) (Lk.up2 d m d') (Lk.up2 p m p') m i -> w.heap.size <= i ∧ i < w1.heap.size) :
 Mk b M gp vs ls (m + 1) (oJ bd win (Lk.up2 ob m x) (Lk.up2 d m d') (Lk.up2 p m p')) (mg (Lk.up2 ob m x) (Lk.up2 d m d') (Lk.up2 p m p')) w1 := by
 refine h.add hb (fun q hq => ?_) (fun q hq => ?_) h1 h2 (fun A u u' hp hO hn => QB hp hO hn)
 . funext u; unfold oJ; rw [Lk.ae _ _ (show q ≠ m by omega), Lk.ae _ _ (show q ≠ m by omega), Lk.ae _ _ (show q ≠ m by omega)]
 . funext u; unfold mg; rw [Lk.ae _ _ (show q ≠ m by omega), Lk.ae _ _ (show q ≠ m by omega), Lk.ae _ _ (show q ≠ m by omega)]
section
variable {b M gp n bd win : Nat} {vs : Nat -> Value} {ls : Nat -> List Nat} {ob : Nat -> Nat} {d : Nat -> PD} {p : Nat -> RP} {w w1 : World}
theorem Mk.add0 (h : Mk b M gp vs ls (6 * n) (oJ bd win ob d p) (mg ob d p) w) (hb : Below w.heap.size w w1) {x : Nat} (h1 : Is w1 x 85 [.string ⟨#[]⟩, .int .i64 0, .int .i64 0]) (h2 : w.heap.size <= x) : ∃ d p, Mk b M gp vs ls (6 * n + 1) (oJ bd win (Lk.up2 ob (6 * n) x) d p) (mg (Lk.up2 ob (6 * n) x) d p) w1 := by
 have e : 6 * n % 6 = 0 := by omega
 refine ⟨_, _, h.QT hb x (BD 0) (BF 0) ?_ (fun i hi => ?_)⟩
 . unfold oJ; simp only [e, Lk.ak]; exact h1
 . unfold mg at hi; simp only [e, Lk.ak] at hi; subst hi; exact ⟨h2, h1.lt⟩
theorem Mk.add1 (h : Mk b M gp vs ls (6 * n + 1) (oJ bd win ob d p) (mg ob d p) w) (hb : Below w.heap.size w w1) {x : Nat} (h1 : Is w1 x 54 [.string ⟨#[]⟩, .int .i64 0]) (h2 : w.heap.size <= x) : ∃ d p, Mk b M gp vs ls (6 * n + 2) (oJ bd win (Lk.up2 ob (6 * n + 1) x) d p) (mg (Lk.up2 ob (6 * n + 1) x) d p) w1 := by
 have e : (6 * n + 1) % 6 = 1 := by omega
 refine ⟨_, _, h.QT hb x (BD 0) (BF 0) ?_ (fun i hi => ?_)⟩
 . unfold oJ; simp only [e, Lk.ak]; exact h1
 . unfold mg at hi; simp only [e, Lk.ak] at hi; subst hi; exact ⟨h2, h1.lt⟩
theorem Mk.XA (h : Mk b M gp vs ls (6 * n + 2) (oJ bd win ob d p) (mg ob d p) w) (hb : Below w.heap.size w w1) {x : Nat} (h1 : Tab w1 x bd [] gQ) (h2 : w.heap.size <= x) : ∃ d p, Mk b M gp vs ls (6 * n + 3) (oJ bd win (Lk.up2 ob (6 * n + 2) x) d p) (mg (Lk.up2 ob (6 * n + 2) x) d p) w1 := by
 have e : (6 * n + 2) % 6 = 2 := by omega
 refine ⟨_, _, h.QT hb x (BD 0) (BF 0) ?_ (fun i hi => ?_)⟩
 . unfold oJ; simp only [e, Lk.ak]; exact h1
 . unfold mg at hi; simp only [e, Lk.ak] at hi; subst hi; exact ⟨h2, h1.blk.lt⟩
theorem Mk.XB (h : Mk b M gp vs ls (6 * n + 3) (oJ bd win ob d p) (mg ob d p) w) (hb : Below w.heap.size w w1) {x : Nat} (h1 : RTab w1 x bd [] gQ) (h2 : w.heap.size <= x) : ∃ d p, Mk b M gp vs ls (6 * n + 4) (oJ bd win (Lk.up2 ob (6 * n + 3) x) d p) (mg (Lk.up2 ob (6 * n + 3) x) d p) w1 := by
 have e : (6 * n + 3) % 6 = 3 := by omega
 refine ⟨_, _, h.QT hb x (BD 0) (BF 0) ?_ (fun i hi => ?_)⟩
 . unfold oJ; simp only [e, Lk.ak]; exact h1
 . unfold mg at hi; simp only [e, Lk.ak] at hi; subst hi; exact ⟨h2, h1.blk.lt⟩
theorem Mk.add4 (h : Mk b M gp vs ls (6 * n + 4) (oJ bd win ob d p) (mg ob d p) w) (hb : Below w.heap.size w w1) {x : Nat} {d' : PD} (h1 : kM w1 x (Lk.En.new n win) d') (h2 : ∀ i, foot x d' i -> w.heap.size <= i) : ∃ d p, Mk b M gp vs ls (6 * n + 5) (oJ bd win (Lk.up2 ob (6 * n + 4) x) d p) (mg (Lk.up2 ob (6 * n + 4) x) d p) w1 := by
 have e : (6 * n + 4) % 6 = 4 := by omega
 have e1 : (6 * n + 4) / 6 = n := by omega
 refine ⟨_, _, h.QT hb x d' (BF 0) ?_ (fun i hi => ?_)⟩
 . unfold oJ; simp only [e, Lk.ak, e1]; exact h1
 . unfold mg at hi; simp only [e, Lk.ak] at hi; exact ⟨h2 i hi, h1.lt i hi⟩
theorem Mk.add5 (h : Mk b M gp vs ls (6 * n + 5) (oJ bd win ob d p) (mg ob d p) w) (hb : Below w.heap.size w w1) {x : Nat} {p' : RP} (h1 : aT True w1 x (Lk.En.new n win) p') (h2 : ∀ i, aI x p' i -> w.heap.size <= i) : ∃ d p, Mk b M gp vs ls (6 * (n + 1)) (oJ bd win (Lk.up2 ob (6 * n + 5) x) d p) (mg (Lk.up2 ob (6 * n + 5) x) d p) w1 := by
 have e : (6 * n + 5) % 6 = 5 := by omega
 have e1 : (6 * n + 5) / 6 = n := by omega
 refine ⟨_, _, h.QT hb x (BD 0) p' ?_ (fun i hi => ?_)⟩
 . unfold oJ; simp only [e, Lk.ak, e1]; exact h1
 . unfold mg at hi; simp only [e, Lk.ak] at hi; exact ⟨h2 i hi, h1.lt hi⟩
end
theorem QC (w : World) (T : TypeId) (cs : List Value) (d : Obj) : Is ((w.alloc (.cells cs.toArray T)).alloc d).drew w.heap.size T cs := by
 have h := (Is.new w T cs).alloc d
 exact h.below ⟨rfl, rfl, rfl, Nat.le_refl _, fun _ _ => rfl⟩ h.lt
def SC (b M gp bd win n : Nat) (w : World) : Prop := ∃ vs ls ob d p, Mk b M gp vs ls (6 * n) (oJ bd win ob d p) (mg ob d p) w ∧ ∀ q, q < 6 -> ls q = (List.range n).map (fun k => ob (6 * k + q))
theorem SE {ob ob' : Nat -> Nat} {n q x : Nat} {l : List Nat} (h : l = (List.range n).map (fun k => ob (6 * k + q))) (hq : q < 6) (h1 : ∀ i, i < 6 * n -> ob' i = ob i) (h2 : ob' (6 * n + q) = x) : l ++ [x] = (List.range (n + 1)).map (fun k => ob' (6 * k + q)) := by
 rw [h, List.range_succ, List.map_append]
 congr 1
 . refine List.map_congr_left (fun k hk => ?_)
   have := List.mem_range.1 hk
   rw [h1 _ (by omega)]
 . simp only [List.map_cons, List.map_nil, h2]
theorem SG (bd win : Nat) (hbd : bd <= 200) (hw1 : 1 <= win) (hw2 : win <= 200) (w : World) (h0w : 0 < w.heap.size) :
 Calls Tryz.prog 26 #[.int .i64 bd, .int .i64 win, .int .i64 16] w fun e w' =>
  e = .returned (.tuple #[ptr (w.heap.size + 1), .bool true]) ∧ SC w.heap.size (w.heap.size + 1) w.heap.size bd win 2 w' ∧ Below w.heap.size w w' := by
 obtain ⟨i0, hi0, hz0, hz1, hz2⟩ := info_parts (KN 0 (by omega))
 go_enter Tryz.func26, Tryz.ntmps26
 go_wp2_with fail
 go_loopw [9] (fun k wr => ∃ (n : Nat), n <= 2 ∧ k = .int .i64 n ∧ Hid (SC w.heap.size (w.heap.size + 1) w.heap.size bd win n wr ∧ Below w.heap.size w wr)) (fun k _ => 2 - (intOf k).toNat)
 case atStart =>
  refine ⟨0, by omega, rfl, ⟨fun _ => gQ, fun _ => [], fun _ => 0, fun _ => BD 0, fun _ => BF 0, ⟨?_, ?_, fun q hq => World.ownsRow_nil _ _ _ _, fun q hq => by omega, fun q hq => by omega, fun q r hq => by omega, fun q hq => by omega, fun q hq => by omega, by omega, by omega⟩, fun q hq => rfl⟩, by ((repeat' (first | exact Below.refl _ _ | assumption | apply Below.drew | apply Below.alloc | apply Below.setCell)) <;> (simp <;> omega))⟩
  . have := Is.new (w.alloc (.cells #[.string ⟨#[]⟩, .string ⟨#[]⟩] 9)) 132 [gQ, gQ, gQ, gQ, gQ, gQ, .slice (some ⟨w.heap.size, 0, none⟩) 2 2]
    simpa using this
  . have := (Is.new w 9 [.string ⟨#[]⟩, .string ⟨#[]⟩]).alloc (.cells #[gQ, gQ, gQ, gQ, gQ, gQ, .slice (some ⟨w.heap.size, 0, none⟩) 2 2] 132)
    simpa using this
 case round =>
  obtain ⟨n, hn, rfl, HR⟩ := hrel
  by_cases hlt : n < 2
  . have hlt' : (n : Int) < 2 := by omega
    obtain ⟨⟨vs, ls, ob, d, p, hM, hl4⟩, hbel⟩ := uh HR
    have hll : ∀ q, q < 6 -> (ls q).length = n := fun q hq => by rw [hl4 q hq]; simp
    have hl5 : True := trivial
    have m0 := hM.c 0 (by omega)
    have hMl := hM.made.lt
    have VH : w.heap.size < wr.heap.size := by omega
    obtain ⟨va, vc, hv0⟩ := aJ (hM.rows 0 (by omega))
    have hl0 := hll 0 (by omega)
    rw [hv0, hl0] at m0
    have hR0 : wr.ownsRow w.heap.size 133 1 (.slice va n vc) n ((ls 0).map ptr) := by have := hM.rows 0 (by omega); rw [hv0, hl0] at this; exact this
    have hsz := hbel.size
    have HQ : Hid (∀ Wx w1 g1 cap1, Below wr.heap.size wr Wx -> Is Wx wr.heap.size 85 [.string ⟨#[]⟩, .int .i64 0, .int .i64 0] -> Wx.grownBy w1 (Value.slice va n vc).ownBlock -> w1.ownsRow w.heap.size 133 1 (.slice (some ⟨g1, 0, none⟩) (n + 1) cap1) (n + 1) ((ls 0).map ptr ++ [ptr wr.heap.size]) -> ((Value.slice va n vc).ownBlock = some g1 ∨ Wx.heap.size <= g1) -> (w1.cell? ⟨w.heap.size + 1, 0, none⟩ = some (.slice va n vc) ∧ w1.frozen? ⟨w.heap.size + 1, 0, none⟩ = false ∧ w.heap.size + 1 < w1.heap.size) ∧ ∀ w7, w7 = w1.setCell ⟨w.heap.size + 1, 0, none⟩ (.slice (some ⟨g1, 0, none⟩) (n + 1) cap1) -> ∃ g1 cap1 d1 p1, Hid (Mk w.heap.size (w.heap.size + 1) w.heap.size (Lk.up2 vs 0 (.slice (some ⟨g1, 0, none⟩) (n + 1) cap1)) (Lk.up2 ls 0 (ls 0 ++ [wr.heap.size])) (6 * n + 1) (oJ bd win (Lk.up2 ob (6 * n) wr.heap.size) d1 p1) (mg (Lk.up2 ob (6 * n) wr.heap.size) d1 p1) w7 ∧ Below w.heap.size w w7)) := by
     intro Wx w1 g1 cap1 k1 krd k2 k3 k4
     obtain ⟨d1, p1, hMa⟩ := hM.add0 k1 krd (Nat.le_refl _)
     rw [hl0] at hv0
     rw [<- hv0] at k2 k4
     have hO : Only (fun i => (vs 0).ownBlock = some i) wr w1 := (Only.of_below k1 _).trans ((Only.gV k2).mono (fun i hi => hi.symm)) (fun _ x _ => x)
     have hM1 := hM.made.only hO (fun e => own_ne (hM.rows 0 (by omega)) hM.made (oH 0 (by omega)).symm e.symm)
     have hc0 : w1.cell? ⟨w.heap.size + 1, 0, none⟩ = some (vs 0) := hM1.cell 0
     rw [hv0] at hc0
     have hOx : Only (fun i => (vs 0).ownBlock = some i) Wx w1 := (Only.gV k2).mono (fun i hi => hi.symm)
     refine ⟨⟨hc0, hM1.free 0, hM1.lt⟩, fun w7 hw7 => ⟨g1, cap1, d1, p1, ?_⟩⟩
     subst hw7
     refine ⟨hMa.push (q := 0) (by omega) hOx (by rw [hl0]; exact k3) (fun i hi => ?_), hbel.trans ((hO.toBelow (fun i hi _ => ((hM.rows 0 (by omega)).lt i hi).1) hsz).setCell (by simp) _)⟩
     have hi : some g1 = some i := hi
     injection hi with hi
     subst hi
     exact k4
    have HRW : Hid (∀ Wx, Below wr.heap.size wr Wx -> Wx.ownsRow w.heap.size 133 1 (.slice va n vc) n ((ls 0).map ptr)) := fun Wx k1 => own_below hR0 k1
    have VI := hide (⟨hll, hl4, hl5⟩ : _ ∧ _ ∧ _)
    have hlp : ((ls 0).map ptr).length = n := by rw [List.length_map, hl0]
    clear hM hR0 hv0 hll hl4 hl5 HR hbel hl0
    go_wp2_with fail
    go_cut [] (fun wc => ∃ g1 cap1 d1 p1, Hid (Mk w.heap.size (w.heap.size + 1) w.heap.size (Lk.up2 vs 0 (.slice (some ⟨g1, 0, none⟩) (n + 1) cap1)) (Lk.up2 ls 0 (ls 0 ++ [wr.heap.size])) (6 * n + 1) (oJ bd win (Lk.up2 ob (6 * n) wr.heap.size) d1 p1) (mg (Lk.up2 ob (6 * n) wr.heap.size) d1 p1) wc ∧ Below w.heap.size w wc))
    case first =>
     go_region_law (first
      | (refine step_append_lies _ rfl _ _ 125 rfl w.heap.size 133 i0 (.pointer none) 1 8 Tryz.underlying125 hi0 hz0 hz1 hz2 rfl (Nat.succ_pos 0) (.slice va n vc) n ((ls 0).map ptr) rfl (uh HRW _ ?_) ⟨wr.heap.size + 1, 0, none⟩ 1 1 [ptr wr.heap.size] rfl rfl ?_ ?_ ?_ ?_ ?_ ?_ (wr.heap.size + 1 + 1) ?_ ?_
         exact xh wr _ _
         (refine vM _ _ _ _ ?_; simp)
         simp [Value.oneCell', ptr]
         omega
         (unfold maxLen; omega)
         omega
         (simp; omega)
         simp
         intro g1 cap1 w1 ho1 hg1 OJ hlt1
         obtain ⟨⟨z7, zf, zl⟩, hP7⟩ := uh HQ _ w1 g1 cap1 (xh wr _ _) (QC wr _ _ _) hg1 ho1 (by rcases OJ with h | h; exact .inl h; exact .inr (by rw [h]; simp))
         have HP7 := hide hP7
         clear ho1 hg1 OJ hP7)
      | (go_simp; go_at_call 51; refine (Ii _).mono ?_; rintro e w' ⟨rfl, rfl⟩))
     all_goals
      go_wp2_with fail
      go_meet
      exact uh HP7 _ rfl
    case rest =>
     obtain ⟨g1, cap1, dA, pA, HM1⟩ := hcut
     obtain ⟨hM1, hb1⟩ := uh HM1
     obtain ⟨hll, hl4, hl5⟩ := uh VI
     obtain ⟨vs1, UG⟩ : ∃ f, f = Lk.up2 vs 0 (.slice (some ⟨g1, 0, none⟩) (n + 1) cap1) := ⟨_, rfl⟩
     obtain ⟨ls1, TE⟩ : ∃ f, f = Lk.up2 ls 0 (ls 0 ++ [wr.heap.size]) := ⟨_, rfl⟩
     have hn1 : ∀ q, q < 6 -> q ≠ 0 -> ls1 q = ls q := fun q hq h => by rw [TE, Lk.ae _ _ h]
     have hk0 : ls1 0 = ls 0 ++ [wr.heap.size] := by rw [TE, Lk.ak]
     have hw0 : vs1 0 = .slice (some ⟨g1, 0, none⟩) (n + 1) cap1 := by rw [UG, Lk.ak]
     rw [<- UG, <- TE] at hM1
     clear UG TE HM1 VI
     have KW : ∀ q, q < 6 -> (ls q).length <= 5 := fun q hq => by have := hll q hq; omega
     have hbR := (Below.refl wc.heap.size wc).alloc (Nat.le_refl _) (.cells #[.string ⟨#[]⟩, .int .i64 0] 54)
     have VJ : Below w.heap.size w (wc.alloc (.cells #[.string ⟨#[]⟩, .int .i64 0] 54)) := hb1.alloc hb1.size _
     have m1 := hM1.c 1 (by omega)
     have hMl := hM1.made.lt
     have VH : w.heap.size < wc.heap.size := by omega
     obtain ⟨dB, pB, VK⟩ := hM1.add1 hbR (Is.new wc 54 [.string ⟨#[]⟩, .int .i64 0]) (Nat.le_refl _)
     obtain ⟨a3, c3, w3, hr3, ⟨z3, zf3, zl3⟩, hM3, PM⟩ := VK.app (q := 1) (by omega) wc.heap.size (by rw [hn1 1 (by omega) (by omega)]; exact KW 1 (by omega)) 126 126 Tryz.underlying126
     rw [World.size_alloc] at hr3
     have hb3 := PM w VJ
     have HA3 : Hid ((Builtin.append_ #[126, 126] 126 #[vs1 1, .slice (some ⟨wc.heap.size + 1, 0, none⟩) 1 1]).run Tryz.prog ((wc.alloc (.cells #[.string ⟨#[]⟩, .int .i64 0] 54)).alloc (.cells #[ptr wc.heap.size] 52)) = .ok (.slice (some a3) ((ls1 1).length + 1) c3) w3) := hr3
     have hR3 := hM3.rows 0 (by omega)
     rw [Lk.ae _ _ (show 0 ≠ 1 by omega), Lk.ae _ _ (show 0 ≠ 1 by omega), hw0, hk0] at hR3
     have UH := hll 0 (by omega)
     rw [<- UH] at hR3
     obtain ⟨x1, x2, x3⟩ := N8 hR3
     rw [UH] at x1 x3
     have q0 := hM3.c 0 (by omega)
     rw [Lk.ae _ _ (show 0 ≠ 1 by omega), hw0] at q0
     unfold ptr at x1
     have HM3 := hide (⟨hM3, hb3⟩ : _ ∧ _)
     have HLL := hide (⟨hll, hl4, hl5, hn1, hk0, KW⟩ : _ ∧ _ ∧ _ ∧ _ ∧ _ ∧ _)
     have VL := x2
     simp only [World.size_setCell] at VL
     generalize hV1 : vs1 1 = V1 at *
     clear hM1 VK hM3 hb1 hb3 PM hR3 hbR VJ hr3 hll hl4 hl5 hn1 hk0 KW UH hV1
     go_wp2_with (at_builtin; refine Lib.wpList_append_run _ rfl _ _ _ _ rfl _ _ rfl rfl _ _ (uh HA3) ?_)
     refine (tV bd hbd _).mono ?_
     rintro e w5 ⟨t', rfl, ht', hT5, hb5⟩
     obtain ⟨hM3, hb3⟩ := uh HM3
     obtain ⟨dC, pC, hM5⟩ := hM3.XA hb5 hT5 ht'
     have HM5 := hide (⟨hM5, hb3.trans (hb5.mono hb3.size)⟩ : _ ∧ _)
     clear hM5 hM3 hb3 HM3 HA3 hT5 hb5 ht' q0 x1 x2 x3 VL z3 zf3 zl3 m1 hMl VH hw0
     go_wp2_with fail
     refine (qC bd hbd _).mono ?_
     rintro e w6 ⟨u', rfl, hu', hU6, hb6⟩
     obtain ⟨hM5, hb5⟩ := uh HM5
     obtain ⟨dD, pD, hM6⟩ := hM5.XB hb6 hU6 hu'
     have VM := hb5.trans (hb6.mono hb5.size)
     clear hM5 hb5 HM5 hU6 hb6 hu'
     obtain ⟨hll, hl4, hl5, hn1, hk0, KW⟩ := uh HLL
     obtain ⟨vs6, VN⟩ : ∃ f, f = Lk.up2 vs1 1 (.slice (some a3) ((ls1 1).length + 1) c3) := ⟨_, rfl⟩
     obtain ⟨ls6, SH⟩ : ∃ f, f = Lk.up2 ls1 1 (ls1 1 ++ [wc.heap.size]) := ⟨_, rfl⟩
     rw [<- VN, <- SH] at hM6
     have hn6 : ∀ q, q < 6 -> 2 <= q -> ls6 q = ls q := fun q hq h => by rw [SH, Lk.ae _ _ (by omega), hn1 q hq (by omega)]
     have QU : ls6 0 = ls 0 ++ [wr.heap.size] := by rw [SH, Lk.ae _ _ (by omega), hk0]
     have QV : ls6 1 = ls 1 ++ [wc.heap.size] := by rw [SH, Lk.ak, hn1 1 (by omega) (by omega)]
     obtain ⟨a7, c7, w7, hr7, ⟨z7, zf7, zl7⟩, hM7, VO⟩ := hM6.app (q := 2) (by omega) t' (by rw [hn6 2 (by omega) (by omega)]; exact KW 2 (by omega)) 127 127 Tryz.underlying127
     obtain ⟨a9, c9, w9, hr9, ⟨z9, zf9, zl9⟩, hM9, VP⟩ := hM7.app (q := 3) (by omega) u' (by rw [Lk.ae _ _ (by omega), hn6 3 (by omega) (by omega)]; exact KW 3 (by omega)) 128 128 Tryz.underlying128
     have hb9 := VP w (VO w VM)
     have m2 := hM6.c 2 (by omega)
     have m3 := hM7.c 3 (by omega)
     rw [Lk.ae _ _ (show 3 ≠ 2 by omega)] at m3 z9
     rw [World.size_setCell] at hr9
     simp only [Lk.ae _ _ (show 3 ≠ 2 by omega)] at hr9 hM9 hb9
     have ml6 := hM6.made.lt
     have XC : w.heap.size < w6.heap.size := by omega
     have ml7 := hM7.made.lt
     have HA7 : Hid ((Builtin.append_ #[127, 127] 127 #[vs6 2, .slice (some ⟨w6.heap.size, 0, none⟩) 1 1]).run Tryz.prog (w6.alloc (.cells #[ptr t'] 135)) = .ok (.slice (some a7) ((ls6 2).length + 1) c7) w7) := hr7
     have HA9 : Hid ((Builtin.append_ #[128, 128] 128 #[vs6 3, .slice (some ⟨w7.heap.size, 0, none⟩) 1 1]).run Tryz.prog ((w7.setCell ⟨w.heap.size + 1, 2, none⟩ (.slice (some a7) ((ls6 2).length + 1) c7)).alloc (.cells #[ptr u'] 138)) = .ok (.slice (some a9) ((ls6 3).length + 1) c9) w9) := hr9
     have HM9 := hide (⟨hM9, hb9⟩ : _ ∧ _)
     have VQ := hide (⟨hn6, QU, QV⟩ : _ ∧ _ ∧ _)
     generalize vs6 2 = V2 at *
     generalize vs6 3 = V3 at *
     clear hM6 hM7 hM9 hb9 VM VO VP hr7 hr9 hll hl4 hl5 hn1 hk0 KW hn6 QU QV VN SH
     go_wp2_with (at_builtin; first | refine Lib.wpList_append_run _ rfl _ _ _ _ rfl _ _ rfl rfl _ _ (uh HA7) ?_ | refine Lib.wpList_append_run _ rfl _ _ _ _ rfl _ _ rfl rfl _ _ (uh HA9) ?_)
     refine (zg _ _).mono ?_
     rintro r w10 ⟨rfl, rfl⟩
     clear HA7 HA9 m2 m3 z7 zf7 zl7 z9 zf9 zl9 ml6 XC ml7
     go_wp2_with fail
     obtain ⟨hM9, hb9⟩ := uh HM9
     refine (OQ n win (by omega) hw1 hw2 _ (by have := hM9.made.lt; omega)).mono ?_
     rintro r w11 ⟨b1, d1', rfl, hPE, hft, QD⟩
     obtain ⟨dE, pE, SI⟩ := hM9.add4 QD hPE hft
     have VR := hide (⟨SI, hb9.trans (QD.mono hb9.size)⟩ : _ ∧ _)
     clear SI hM9 hb9 HM9 hPE hft QD
     go_wp2_with fail
     refine (Ky n win (by omega) hw1 hw2 _).mono ?_
     rintro r w12 ⟨b2, p2', rfl, hRE, Nz, QR⟩
     obtain ⟨SI, QD⟩ := uh VR
     obtain ⟨dG, pG, SK⟩ := SI.add5 QR hRE Nz
     have SL := QD.trans (QR.mono QD.size)
     clear SI QD VR hRE Nz QR
     obtain ⟨hll, hl4, hl5, _, _, KW⟩ := uh HLL
     obtain ⟨hn6, QU, QV⟩ := uh VQ
     obtain ⟨vsA, VS⟩ : ∃ f, f = Lk.up2 (Lk.up2 vs6 2 (.slice (some a7) ((ls6 2).length + 1) c7)) 3 (.slice (some a9) ((ls6 3).length + 1) c9) := ⟨_, rfl⟩
     obtain ⟨lsA, Iz⟩ : ∃ f, f = Lk.up2 (Lk.up2 ls6 2 (ls6 2 ++ [t'])) 3 (ls6 3 ++ [u']) := ⟨_, rfl⟩
     rw [<- VS, <- Iz] at SK
     have hA4 : lsA 4 = ls 4 := by rw [Iz, Lk.ae _ _ (by omega), Lk.ae _ _ (by omega), hn6 4 (by omega) (by omega)]
     have hA5 : lsA 5 = ls 5 := by rw [Iz, Lk.ae _ _ (by omega), Lk.ae _ _ (by omega), hn6 5 (by omega) (by omega)]
     have hAl : (lsA 0).length = n + 1 ∧ (lsA 1).length = n + 1 ∧ (lsA 2).length = n + 1 ∧ (lsA 3).length = n + 1 := by
      have e0 := hll 0 (by omega)
      have e1 := hll 1 (by omega)
      have e2 := hll 2 (by omega)
      have e3 := hll 3 (by omega)
      refine ⟨?_, ?_, ?_, ?_⟩
      . rw [Iz, Lk.ae _ _ (by omega), Lk.ae _ _ (by omega), QU]; simp [e0]
      . rw [Iz, Lk.ae _ _ (by omega), Lk.ae _ _ (by omega), QV]; simp [e1]
      . rw [Iz, Lk.ae _ _ (by omega), Lk.ak, hn6 2 (by omega) (by omega)]; simp [e2]
      . rw [Iz, Lk.ak, hn6 3 (by omega) (by omega)]; simp [e3]
     obtain ⟨a13, c13, w13, VT, ⟨z13, Ym, Yn⟩, TG, SN⟩ := SK.app (q := 4) (by omega) b1 (by rw [hA4]; exact KW 4 (by omega)) 129 129 Tryz.underlying129
     obtain ⟨a14, c14, w14, TI, ⟨z14, Yo, Yp⟩, UI, SS⟩ := TG.app (q := 5) (by omega) b2 (by rw [Lk.ae _ _ (by omega), hA5]; exact KW 5 (by omega)) 130 130 Tryz.underlying130
     have UJ := SS w (SN w SL)
     have m4 := SK.c 4 (by omega)
     have m5 := TG.c 5 (by omega)
     rw [Lk.ae _ _ (show 5 ≠ 4 by omega)] at m5 z14
     rw [World.size_setCell] at TI
     simp only [Lk.ae _ _ (show 5 ≠ 4 by omega)] at TI UI UJ
     have Yq := SK.made.lt
     have XD : w.heap.size < w12.heap.size := by omega
     have Yr := TG.made.lt
     have XE : Hid ((Builtin.append_ #[129, 129] 129 #[vsA 4, .slice (some ⟨w12.heap.size, 0, none⟩) 1 1]).run Tryz.prog (w12.alloc (.cells #[ptr b1] 34)) = .ok (.slice (some a13) ((lsA 4).length + 1) c13) w13) := VT
     have XF : Hid ((Builtin.append_ #[130, 130] 130 #[vsA 5, .slice (some ⟨w13.heap.size, 0, none⟩) 1 1]).run Tryz.prog ((w13.setCell ⟨w.heap.size + 1, 4, none⟩ (.slice (some a13) ((lsA 4).length + 1) c13)).alloc (.cells #[ptr b2] 141)) = .ok (.slice (some a14) ((lsA 5).length + 1) c14) w14) := TI
     have jD : Hid (SC w.heap.size (w.heap.size + 1) w.heap.size bd win (n + 1) (w14.setCell ⟨w.heap.size + 1, 5, none⟩ (.slice (some a14) ((lsA 5).length + 1) c14)) ∧ Below w.heap.size w (w14.setCell ⟨w.heap.size + 1, 5, none⟩ (.slice (some a14) ((lsA 5).length + 1) c14))) := by
      refine ⟨⟨_, _, _, _, _, UI, fun q hq => ?_⟩, UJ⟩
      have hlow : ∀ i, i < 6 * n -> Lk.up2 (Lk.up2 (Lk.up2 (Lk.up2 (Lk.up2 (Lk.up2 ob (6 * n) wr.heap.size) (6 * n + 1) wc.heap.size) (6 * n + 2) t') (6 * n + 3) u') (6 * n + 4) b1) (6 * n + 5) b2 i = ob i := fun i hi => by
       rw [Lk.ae _ _ (by omega), Lk.ae _ _ (by omega), Lk.ae _ _ (by omega), Lk.ae _ _ (by omega), Lk.ae _ _ (by omega), Lk.ae _ _ (by omega)]
      have hrow : ∀ q l x, q < 6 -> l = ls q -> Lk.up2 (Lk.up2 (Lk.up2 (Lk.up2 (Lk.up2 (Lk.up2 ob (6 * n) wr.heap.size) (6 * n + 1) wc.heap.size) (6 * n + 2) t') (6 * n + 3) u') (6 * n + 4) b1) (6 * n + 5) b2 (6 * n + q) = x -> l ++ [x] = (List.range (n + 1)).map (fun k => Lk.up2 (Lk.up2 (Lk.up2 (Lk.up2 (Lk.up2 (Lk.up2 ob (6 * n) wr.heap.size) (6 * n + 1) wc.heap.size) (6 * n + 2) t') (6 * n + 3) u') (6 * n + 4) b1) (6 * n + 5) b2 (6 * k + q)) := fun q l x hq hl hx => SE (hl.trans (hl4 q hq)) hq hlow hx
      refine six (fun q => Lk.up2 (Lk.up2 lsA 4 (lsA 4 ++ [b1])) 5 (lsA 5 ++ [b2]) q = (List.range (n + 1)).map (fun k => Lk.up2 (Lk.up2 (Lk.up2 (Lk.up2 (Lk.up2 (Lk.up2 ob (6 * n) wr.heap.size) (6 * n + 1) wc.heap.size) (6 * n + 2) t') (6 * n + 3) u') (6 * n + 4) b1) (6 * n + 5) b2 (6 * k + q))) ?_ ?_ ?_ ?_ ?_ ?_ q hq
      . rw [Lk.ae _ _ (by omega), Lk.ae _ _ (by omega), Iz, Lk.ae _ _ (by omega), Lk.ae _ _ (by omega), QU]
        refine hrow 0 _ _ (by omega) rfl ?_
        rw [Lk.ae _ _ (by omega), Lk.ae _ _ (by omega), Lk.ae _ _ (by omega), Lk.ae _ _ (by omega), Lk.ae _ _ (by omega)]
        exact Lk.ak _ _ _
      . rw [Lk.ae _ _ (by omega), Lk.ae _ _ (by omega), Iz, Lk.ae _ _ (by omega), Lk.ae _ _ (by omega), QV]
        refine hrow 1 _ _ (by omega) rfl ?_
        rw [Lk.ae _ _ (by omega), Lk.ae _ _ (by omega), Lk.ae _ _ (by omega), Lk.ae _ _ (by omega), Lk.ak]
      . rw [Lk.ae _ _ (by omega), Lk.ae _ _ (by omega), Iz, Lk.ae _ _ (by omega), Lk.ak, hn6 2 (by omega) (by omega)]
        refine hrow 2 _ _ (by omega) rfl ?_
        rw [Lk.ae _ _ (by omega), Lk.ae _ _ (by omega), Lk.ae _ _ (by omega), Lk.ak]
      . rw [Lk.ae _ _ (by omega), Lk.ae _ _ (by omega), Iz, Lk.ak, hn6 3 (by omega) (by omega)]
        refine hrow 3 _ _ (by omega) rfl ?_
        rw [Lk.ae _ _ (by omega), Lk.ae _ _ (by omega), Lk.ak]
      . rw [Lk.ae _ _ (by omega), Lk.ak, hA4]
        refine hrow 4 _ _ (by omega) rfl ?_
        rw [Lk.ae _ _ (by omega), Lk.ak]
      . rw [Lk.ak, hA5]
        exact hrow 5 _ _ (by omega) rfl (Lk.ak _ _ _)
     generalize vsA 4 = V4 at *
     generalize vsA 5 = V5 at *
     clear SK TG UI UJ SL SN SS VT TI hll hl4 hl5 KW hn6 QU QV VS Iz hA4 hA5 hAl HLL VQ
     go_wp2_with (at_builtin; first | refine Lib.wpList_append_run _ rfl _ _ _ _ rfl _ _ rfl rfl _ _ (uh XE) ?_ | refine Lib.wpList_append_run _ rfl _ _ _ _ rfl _ _ rfl rfl _ _ (uh XF) ?_)
     refine (zg _ _).mono ?_
     rintro r w15 ⟨rfl, rfl⟩
     go_wp2_with fail
     go_roundw
     case rel => exact ⟨n + 1, by omega, by go_num, jD⟩
     case measure => simp [intOf]; omega
  . have hlt' : ¬ (n : Int) < 2 := by omega
    obtain rfl : n = 2 := by omega
    go_wp2_with fail
    go_ret2
    exact ⟨rfl, uh HR⟩
end Go.Proofs.YtbkpdapagfjmmaaGreatDoor
