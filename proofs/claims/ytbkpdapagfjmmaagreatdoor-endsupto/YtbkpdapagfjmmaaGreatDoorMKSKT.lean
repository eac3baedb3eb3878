import Derived.Test.YtbkpdapagfjmmaaGreatDoorMKOKP
import Derived.Test.YtbkpdapagfjmmaaGreatDoorMU1U3
import Derived.Test.YtbkpdapagfjmmaaGreatDoorMS1L5
import Derived.Deep.RegionWith
import Derived.Deep.RegionLaw
import Derived.Test.YtbkpdapagfjmmaaGreatDoorMQ2KJ
set_option linter.unusedVariables false
set_option maxRecDepth 100000
set_option maxHeartbeats 16000000
namespace Go.Proofs.YtbkpdapagfjmmaaGreatDoor
open Go.RowKit
def mkT (q : Nat) : TypeId := match q with
  | 0 => 133
  | 1 => 52
  | 2 => 135
  | 3 => 138
  | 4 => 34
  | _ => 141
theorem six (p : Nat → Prop) (h0 : p 0) (h1 : p 1) (h2 : p 2) (h3 : p 3) (h4 : p 4) (h5 : p 5) : ∀ q, q < 6 → p q := fun q hq => match q, hq with
  | 0, _ => h0
  | 1, _ => h1
  | 2, _ => h2
  | 3, _ => h3
  | 4, _ => h4
  | 5, _ => h5
theorem mkT_made (q : Nat) (hq : q < 6) : mkT q ≠ 132 := six (fun q => mkT q ≠ 132) (nbq rfl) (nbq rfl) (nbq rfl) (nbq rfl) (nbq rfl) (nbq rfl) q hq
theorem mkT_str (q : Nat) (hq : q < 6) : mkT q ≠ 9 := six (fun q => mkT q ≠ 9) (nbq rfl) (nbq rfl) (nbq rfl) (nbq rfl) (nbq rfl) (nbq rfl) q hq
theorem mkT_ne (q r : Nat) (hq : q < 6) (hr : r < 6) (h : q ≠ r) : mkT q ≠ mkT r := by
  refine six (fun q => q ≠ r → mkT q ≠ mkT r) ?_ ?_ ?_ ?_ ?_ ?_ q hq h <;> refine six (fun r => _ ≠ r → mkT _ ≠ mkT r) ?_ ?_ ?_ ?_ ?_ ?_ r hr <;> intro h <;> first | exact absurd rfl h | exact nbq rfl
theorem info_mk (q : Nat) (hq : q < 6) : (Tryz.prog.info? (mkT q)).map (fun i => (i.zero, i.size, i.bytes)) = some (some (.pointer none), 1, 8) := by
  refine six (fun q => (Tryz.prog.info? (mkT q)).map (fun i => (i.zero, i.size, i.bytes)) = some (some (.pointer none), 1, 8)) ?_ ?_ ?_ ?_ ?_ ?_ q hq <;> kernel_rfl
structure Mk (b M gp : Nat) (vs : Nat → Value) (ls : Nat → List Nat) (m : Nat) (P : Nat → World → Prop) (F : Nat → Nat → Prop) (w : World) : Prop where
  made : Is w M 132 [vs 0, vs 1, vs 2, vs 3, vs 4, vs 5, .slice (some ⟨gp, 0, none⟩) 2 2]
  rowP : Is w gp 9 [.string ⟨#[]⟩, .string ⟨#[]⟩]
  rows : ∀ q, q < 6 → w.ownsRow b (mkT q) 1 (vs q) (ls q).length ((ls q).map ptr)
  obj : ∀ q, q < m → P q w
  inb : ∀ q, q < m → ∀ i, F q i → b ≤ i ∧ i < w.heap.size
  sep : ∀ q r, q < m → r < m → q ≠ r → ∀ i, F q i → ¬ F r i
  sr : ∀ q, q < m → ∀ i, F q i → i ≠ M ∧ i ≠ gp ∧ ∀ r, r < 6 → (vs r).ownBlock ≠ some i
  st : ∀ q, q < m → ∀ (A : Nat → Prop) (u u' : World), P q u → Only A u u' → (∀ i, F q i → ¬ A i) → P q u'
  hM : b ≤ M ∧ b ≤ gp
section
variable {b M gp m : Nat} {vs : Nat → Value} {ls : Nat → List Nat} {P P' : Nat → World → Prop} {F F' : Nat → Nat → Prop} {w w1 : World}
theorem Mk.below (h : Mk b M gp vs ls m P F w) (hb : Below w.heap.size w w1) : Mk b M gp vs ls m P F w1 :=
  ⟨h.made.below hb h.made.lt, h.rowP.below hb h.rowP.lt, fun q hq => own_below (h.rows q hq) hb, fun q hq => h.st q hq _ _ _ (h.obj q hq) (Only.of_below hb (fun _ => False)) (fun _ _ x => x), fun q hq i hi => ⟨(h.inb q hq i hi).1, Nat.lt_of_lt_of_le (h.inb q hq i hi).2 hb.size⟩, h.sep, h.sr, h.st, h.hM⟩
theorem Mk.add (h : Mk b M gp vs ls m P F w) (hb : Below w.heap.size w w1) (hP : ∀ q, q < m → P' q = P q) (hF : ∀ q, q < m → F' q = F q) (h1 : P' m w1) (h2 : ∀ i, F' m i → w.heap.size ≤ i ∧ i < w1.heap.size) (h3 : ∀ (A : Nat → Prop) (u u' : World), P' m u → Only A u u' → (∀ i, F' m i → ¬ A i) → P' m u') : Mk b M gp vs ls (m + 1) P' F' w1 := by
  have hw := h.below hb
  have hbs : b ≤ w.heap.size := by have := h.hM.1; have := h.made.lt; omega
  have cas : ∀ q, q < m + 1 → q < m ∨ q = m := fun q hq => by omega
  refine ⟨hw.made, hw.rowP, hw.rows, fun q hq => ?_, fun q hq i hi => ?_, fun q r hq hr hqr i hi hx => ?_, fun q hq i hi => ?_, fun q hq => ?_, h.hM⟩
  · rcases cas q hq with hq | rfl
    · rw [hP q hq]; exact hw.obj q hq
    · exact h1
  · rcases cas q hq with hq | rfl
    · rw [hF q hq] at hi; exact hw.inb q hq i hi
    · exact ⟨Nat.le_trans hbs (h2 i hi).1, (h2 i hi).2⟩
  · rcases cas q hq with hq | rfl <;> rcases cas r hr with hr | rfl
    · rw [hF q hq] at hi; rw [hF r hr] at hx; exact h.sep q r hq hr hqr i hi hx
    · rw [hF q hq] at hi
      have := (h.inb q hq i hi).2
      have := (h2 i hx).1
      omega
    · rw [hF r hr] at hx
      have := (h.inb r hr i hx).2
      have := (h2 i hi).1
      omega
    · exact hqr rfl
  · rcases cas q hq with hq | rfl
    · rw [hF q hq] at hi; exact h.sr q hq i hi
    · have hge := (h2 i hi).1
      refine ⟨fun e => ?_, fun e => ?_, fun r hr e => ?_⟩
      · have := h.made.lt; omega
      · have := h.rowP.lt; omega
      · have := ((h.rows r hr).lt i e).2; omega
  · rcases cas q hq with hq | rfl
    · rw [hP q hq, hF q hq]; exact h.st q hq
    · exact h3
theorem Mk.push (h : Mk b M gp vs ls m P F w) {q : Nat} (hq : q < 6) {x : Nat} {v2 : Value} (hO : Only (fun i => (vs q).ownBlock = some i) w w1) (ho : w1.ownsRow b (mkT q) 1 v2 ((ls q).length + 1) ((ls q).map ptr ++ [ptr x])) (hv : ∀ i, v2.ownBlock = some i → (vs q).ownBlock = some i ∨ w.heap.size ≤ i) :
    Mk b M gp (Lk.up2 vs q v2) (Lk.up2 ls q (ls q ++ [x])) m P F (w1.setCell ⟨M, q, none⟩ v2) := by
  have hnM : ∀ i, (vs q).ownBlock = some i → i ≠ M := fun i hi e => by
    subst e
    exact own_ne (h.rows q hq) h.made (mkT_made q hq).symm hi.symm
  have hnP : ∀ i, (vs q).ownBlock = some i → i ≠ gp := fun i hi e => by
    subst e
    exact own_ne (h.rows q hq) h.rowP (mkT_str q hq).symm hi.symm
  have hM1 := h.made.only hO (fun e => hnM M e rfl)
  have hP1 := h.rowP.only hO (fun e => hnP gp e rfl)
  have hO2 : Only (· = M) w1 (w1.setCell ⟨M, q, none⟩ v2) := (Only.refl _ w1).set M q _ (fun _ => rfl)
  refine ⟨?_, hP1.only hO2 (hP1.ne hM1 (nbq rfl)), fun r hr => ?_, fun r hr => h.st r hr _ _ _ (h.st r hr _ _ _ (h.obj r hr) hO (fun i hi hx => (h.sr r hr i hi).2.2 q hq hx)) hO2 (fun i hi hx => (h.sr r hr i hi).1 hx), fun r hr i hi => ⟨(h.inb r hr i hi).1, ?_⟩, h.sep, fun r hr i hi => ⟨(h.sr r hr i hi).1, (h.sr r hr i hi).2.1, fun s hs e => ?_⟩, h.st, h.hM⟩
  · have := hM1.set q v2
    have hc : [vs 0, vs 1, vs 2, vs 3, vs 4, vs 5, Value.slice (some ⟨gp, 0, none⟩) 2 2].set q v2 = [Lk.up2 vs q v2 0, Lk.up2 vs q v2 1, Lk.up2 vs q v2 2, Lk.up2 vs q v2 3, Lk.up2 vs q v2 4, Lk.up2 vs q v2 5, Value.slice (some ⟨gp, 0, none⟩) 2 2] := by
      refine six (fun q => [vs 0, vs 1, vs 2, vs 3, vs 4, vs 5, Value.slice (some ⟨gp, 0, none⟩) 2 2].set q v2 = [Lk.up2 vs q v2 0, Lk.up2 vs q v2 1, Lk.up2 vs q v2 2, Lk.up2 vs q v2 3, Lk.up2 vs q v2 4, Lk.up2 vs q v2 5, Value.slice (some ⟨gp, 0, none⟩) 2 2]) ?_ ?_ ?_ ?_ ?_ ?_ q hq <;> simp [Lk.up2]
    rw [hc] at this
    exact this
  · by_cases hrq : r = q
    · subst hrq
      rw [Lk.up2_same, Lk.up2_same]
      have ho' : w1.ownsRow b (mkT r) 1 v2 (ls r ++ [x]).length ((ls r ++ [x]).map ptr) := by simpa using ho
      exact own_only ho' hO2 (fun i hi e => by
        have e : i = M := e
        subst e
        exact own_ne ho' hM1 (mkT_made r hr).symm hi.symm)
    · rw [Lk.up2_other _ _ hrq, Lk.up2_other _ _ hrq]
      have h1 := own_only (h.rows r hr) hO (fun i hi e => by
        obtain ⟨cs, hc⟩ := own_is (h.rows q hq) e
        exact own_ne (h.rows r hr) hc (mkT_ne q r hq hr (Ne.symm hrq)) hi.symm)
      exact own_only h1 hO2 (fun i hi e => by
        have e : i = M := e
        subst e
        exact own_ne h1 hM1 (mkT_made r hr).symm hi.symm)
  · have := (h.inb r hr i hi).2
    have := hO.size
    simp
    omega
  · by_cases hsq : s = q
    · subst hsq
      rw [Lk.up2_same] at e
      rcases hv i e with y | y
      · exact (h.sr r hr i hi).2.2 s hs y
      · have := (h.inb r hr i hi).2
        omega
    · rw [Lk.up2_other _ _ hsq] at e
      exact (h.sr r hr i hi).2.2 s hs e
theorem Mk.app (h : Mk b M gp vs ls m P F w) {q : Nat} (hq : q < 6) (x : Nat) (hl : (ls q).length ≤ 5) (tS ty : TypeId) (hu : Tryz.prog.underlying tS = some (.slice (mkT q))) :
    ∃ a cap w1, (Builtin.append_ #[tS, tS] ty #[vs q, .slice (some ⟨w.heap.size, 0, none⟩) 1 1]).run Tryz.prog (w.alloc (.cells #[ptr x] (mkT q))) = .ok (.slice (some a) ((ls q).length + 1) cap) w1 ∧ (w1.cell? ⟨M, q, none⟩ = some (vs q) ∧ w1.frozen? ⟨M, q, none⟩ = false ∧ M < w1.heap.size) ∧ Mk b M gp (Lk.up2 vs q (.slice (some a) ((ls q).length + 1) cap)) (Lk.up2 ls q (ls q ++ [x])) m P F (w1.setCell ⟨M, q, none⟩ (.slice (some a) ((ls q).length + 1) cap)) ∧ ∀ w0, Below b w0 w → Below b w0 (w1.setCell ⟨M, q, none⟩ (.slice (some a) ((ls q).length + 1) cap)) := by
  obtain ⟨i, hi, hz0, hz1, hz2⟩ := info_parts (info_mk q hq)
  have hbs : b ≤ w.heap.size := by have := h.hM.1; have := h.made.lt; omega
  have hI := Is.new w (mkT q) [ptr x]
  obtain ⟨v', w', hr, h1, h2, _, h4⟩ := run_append_own_at (P := Tryz.prog) (w.alloc (.cells #[ptr x] (mkT q))) b tS ty (mkT q) i (.pointer none) 1 8 hu hi hz0 hz1 hz2 rfl (by omega) (vs q) (ls q).length ((ls q).map ptr) ((h.rows q hq).alloc _) ⟨w.heap.size, 0, none⟩ 1 1 [ptr x] rfl
    (fun j u hj => by
      have e : (⟨w.heap.size, 0, none⟩ : Addr).add j = ⟨w.heap.size, j, none⟩ := by unfold Addr.add; split <;> simp_all
      rw [e]
      exact (hI.cell j).trans hj)
    (fun u hu => by simp at hu; subst hu; rfl)
    (by unfold maxLen; omega) (by omega) (by simp; omega)
  have hO1 : Only (fun i => (vs q).ownBlock = some i) w (w.alloc (.cells #[ptr x] (mkT q))) := (Only.refl _ w).alloc _
  have hO2 : Only (fun i => (vs q).ownBlock = some i) w w' := hO1.trans ((Only.of_grown h2).mono (fun i hi => hi.symm)) (fun _ x _ => x)
  obtain ⟨a, cap, hf⟩ : ∃ a cap, v' = .slice (some a) ((ls q).length + 1) cap := by
    rcases h1.2 with ⟨_, h0⟩ | ⟨g, cap, cur, h, _⟩
    · simp at h0
    · exact ⟨⟨g, 0, none⟩, cap, h⟩
  subst hf
  have hM1 := h.made.only hO2 (fun e => own_ne (h.rows q hq) h.made (mkT_made q hq).symm e.symm)
  refine ⟨a, cap, w', hr, ⟨?_, hM1.free q, hM1.lt⟩, h.push hq hO2 h1 (fun j hj => ?_), fun w0 hb => hb.trans ((hO2.toBelow (fun i hi _ => ((h.rows q hq).lt i hi).1) hbs).setCell h.hM.1 _)⟩
  · rw [hM1.cell]
    exact six (fun q => [vs 0, vs 1, vs 2, vs 3, vs 4, vs 5, Value.slice (some ⟨gp, 0, none⟩) 2 2][q]? = some (vs q)) rfl rfl rfl rfl rfl rfl q hq
  · rcases h4 with h4 | h4
    · rw [h4] at hj; exact .inl hj
    · rw [h4] at hj
      injection hj with hj
      exact .inr (by simp at hj; omega)
end
end Go.Proofs.YtbkpdapagfjmmaaGreatDoor

namespace Go.Proofs.YtbkpdapagfjmmaaGreatDoor
open Go.RowKit
theorem row_last {w : World} {B g cap : Nat} {T : TypeId} {l : List Nat} {x : Nat} (h : w.ownsRow B T 1 (.slice (some ⟨g, 0, none⟩) (l.length + 1) cap) (l ++ [x]).length ((l ++ [x]).map ptr)) : w.cell? ⟨g, l.length, none⟩ = some (ptr x) ∧ g < w.heap.size ∧ l.length + 1 ≤ cap := by
  rcases h.2 with ⟨h0, _⟩ | ⟨g', cap', cur, h0, hB, hg, hn, hc, hs, ht⟩
  · cases h0
  · have h0 : some (⟨g, 0, none⟩ : Addr) = some ⟨g', 0, none⟩ ∧ cap = cap' := by injection h0 with e1 e2 e3; exact ⟨e1, e3⟩
    obtain ⟨e1, rfl⟩ := h0
    injection e1 with e1
    injection e1 with e1
    subst e1
    have hI : Is w g T cur.toList := by unfold Is; simpa using hg
    refine ⟨?_, hI.lt, by simpa using hn⟩
    rw [hI.cell]
    have e := congrArg (fun l' => l'[l.length]?) ht
    simp only [List.length_append, List.length_cons, List.length_nil, Nat.mul_one] at e
    rw [List.getElem?_take_of_lt (by omega)] at e
    rw [e]
    simp
theorem newReader6 (w : World) : Calls Tryz.prog 51 #[] w fun r w' => r = .returned (.pointer (some ⟨w.heap.size, 0, none⟩)) ∧ w' = w.alloc (.cells #[.string ⟨#[]⟩, .int .i64 0, .int .i64 0] 85) := by
  go_enter Tryz.func51, Tryz.ntmps51
  go_wp2
  go_ret
  exact ⟨rfl, rfl⟩
def obP (win : Nat) (ob : Nat → Nat) (d : Nat → PD) (p : Nat → RP) (q : Nat) (w : World) : Prop := if q % 2 = 0 then PEnd w (ob q) (Lk.En.new (q / 2) win) (d q) else REnd True w (ob q) (Lk.En.new (q / 2) win) (p q)
def obF (ob : Nat → Nat) (d : Nat → PD) (p : Nat → RP) (q i : Nat) : Prop := if q % 2 = 0 then foot (ob q) (d q) i else rfoot (ob q) (p q) i
theorem Mk.addE {b M gp n win : Nat} {vs : Nat → Value} {ls : Nat → List Nat} {ob : Nat → Nat} {d : Nat → PD} {p : Nat → RP} {w w1 : World} (h : Mk b M gp vs ls (2 * n) (obP win ob d p) (obF ob d p) w) (hb : Below w.heap.size w w1) {x : Nat} {d' : PD} (h1 : PEnd w1 x (Lk.En.new n win) d') (h2 : ∀ i, foot x d' i → w.heap.size ≤ i) :
    Mk b M gp vs ls (2 * n + 1) (obP win (Lk.up2 ob (2 * n) x) (Lk.up2 d (2 * n) d') p) (obF (Lk.up2 ob (2 * n) x) (Lk.up2 d (2 * n) d') p) w1 := by
  have e0 : 2 * n % 2 = 0 := by omega
  have e1 : 2 * n / 2 = n := by omega
  have eF : ∀ i, obF (Lk.up2 ob (2 * n) x) (Lk.up2 d (2 * n) d') p (2 * n) i ↔ foot x d' i := fun i => by unfold obF; rw [if_pos e0, Lk.up2_same, Lk.up2_same]
  have eP : ∀ u, obP win (Lk.up2 ob (2 * n) x) (Lk.up2 d (2 * n) d') p (2 * n) u ↔ PEnd u x (Lk.En.new n win) d' := fun u => by unfold obP; rw [if_pos e0, Lk.up2_same, Lk.up2_same, e1]
  refine h.add hb (fun q hq => ?_) (fun q hq => ?_) ((eP _).2 h1) (fun i hi => ?_) (fun A u u' hp hO hn => ?_)
  · funext u; unfold obP; rw [Lk.up2_other _ _ (show q ≠ 2 * n by omega), Lk.up2_other _ _ (show q ≠ 2 * n by omega)]
  · funext u; unfold obF; rw [Lk.up2_other _ _ (show q ≠ 2 * n by omega), Lk.up2_other _ _ (show q ≠ 2 * n by omega)]
  · have hi := (eF i).1 hi
    exact ⟨h2 i hi, h1.lt i hi⟩
  · exact (eP _).2 (((eP _).1 hp).only hO (fun i hi => hn i ((eF i).2 hi)))
theorem Mk.addF {b M gp n win : Nat} {vs : Nat → Value} {ls : Nat → List Nat} {ob : Nat → Nat} {d : Nat → PD} {p : Nat → RP} {w w1 : World} (h : Mk b M gp vs ls (2 * n + 1) (obP win ob d p) (obF ob d p) w) (hb : Below w.heap.size w w1) {x : Nat} {p' : RP} (h1 : REnd True w1 x (Lk.En.new n win) p') (h2 : ∀ i, rfoot x p' i → w.heap.size ≤ i) :
    Mk b M gp vs ls (2 * (n + 1)) (obP win (Lk.up2 ob (2 * n + 1) x) d (Lk.up2 p (2 * n + 1) p')) (obF (Lk.up2 ob (2 * n + 1) x) d (Lk.up2 p (2 * n + 1) p')) w1 := by
  have e0 : ¬ (2 * n + 1) % 2 = 0 := by omega
  have e1 : (2 * n + 1) / 2 = n := by omega
  have eF : ∀ i, obF (Lk.up2 ob (2 * n + 1) x) d (Lk.up2 p (2 * n + 1) p') (2 * n + 1) i ↔ rfoot x p' i := fun i => by unfold obF; rw [if_neg e0, Lk.up2_same, Lk.up2_same]
  have eP : ∀ u, obP win (Lk.up2 ob (2 * n + 1) x) d (Lk.up2 p (2 * n + 1) p') (2 * n + 1) u ↔ REnd True u x (Lk.En.new n win) p' := fun u => by unfold obP; rw [if_neg e0, Lk.up2_same, Lk.up2_same, e1]
  refine h.add hb (fun q hq => ?_) (fun q hq => ?_) ((eP _).2 h1) (fun i hi => ?_) (fun A u u' hp hO hn => ?_)
  · funext u; unfold obP; rw [Lk.up2_other _ _ (show q ≠ 2 * n + 1 by omega), Lk.up2_other _ _ (show q ≠ 2 * n + 1 by omega)]
  · funext u; unfold obF; rw [Lk.up2_other _ _ (show q ≠ 2 * n + 1 by omega), Lk.up2_other _ _ (show q ≠ 2 * n + 1 by omega)]
  · have hi := (eF i).1 hi
    exact ⟨h2 i hi, h1.lt hi⟩
  · exact (eP _).2 (((eP _).1 hp).only hO (fun i hi => hn i ((eF i).2 hi)))
theorem below_two1 (w : World) (c d : Obj) : Below w.heap.size w ((w.alloc c).alloc d).drew := by
  have h := ((Below.refl w.heap.size w).alloc (Nat.le_refl _) c).alloc (by simp) d
  exact ⟨h.os, h.tape, h.output, h.size, h.block⟩
def MkN (b M gp win n : Nat) (w : World) : Prop := ∃ vs ls ob d p, Mk b M gp vs ls (2 * n) (obP win ob d p) (obF ob d p) w ∧ (∀ q, q < 6 → (ls q).length = n) ∧ ls 4 = (List.range n).map (fun k => ob (2 * k)) ∧ ls 5 = (List.range n).map (fun k => ob (2 * k + 1))
theorem Mk.c {b M gp m : Nat} {vs : Nat → Value} {ls : Nat → List Nat} {P : Nat → World → Prop} {F : Nat → Nat → Prop} {w : World} (h : Mk b M gp vs ls m P F w) (q : Nat) (hq : q < 6) : w.cell? ⟨M, q, none⟩ = some (vs q) := by
  rw [h.made.cell]
  exact six (fun q => [vs 0, vs 1, vs 2, vs 3, vs 4, vs 5, Value.slice (some ⟨gp, 0, none⟩) 2 2][q]? = some (vs q)) rfl rfl rfl rfl rfl rfl q hq
theorem made6 (bd win : Nat) (hbd : bd ≤ 200) (hw1 : 1 ≤ win) (hw2 : win ≤ 200) (w : World) (h0w : 0 < w.heap.size) :
    Calls Tryz.prog 26 #[.int .i64 bd, .int .i64 win, .int .i64 16] w fun e w' =>
      e = .returned (.tuple #[ptr (w.heap.size + 1), .bool true]) ∧ MkN w.heap.size (w.heap.size + 1) w.heap.size win 2 w' ∧ Below w.heap.size w w' := by
  obtain ⟨i0, hi0, hz0, hz1, hz2⟩ := info_parts (info_mk 0 (by omega))
  go_enter Tryz.func26, Tryz.ntmps26
  go_wp2_with fail
  go_loopw [9] (fun k wr => ∃ (n : Nat), n ≤ 2 ∧ k = .int .i64 n ∧ Hid (MkN w.heap.size (w.heap.size + 1) w.heap.size win n wr ∧ Below w.heap.size w wr)) (fun k _ => 2 - (intOf k).toNat)
  case atStart =>
    refine ⟨0, by omega, rfl, ⟨fun _ => nilS, fun _ => [], fun _ => 0, fun _ => newD 0, fun _ => newP 0, ⟨?_, ?_, fun q hq => World.ownsRow_nil _ _ _ _, fun q hq => by omega, fun q hq => by omega, fun q r hq => by omega, fun q hq => by omega, fun q hq => by omega, by omega, by omega⟩, fun q hq => rfl, rfl, rfl⟩, by ((repeat' (first | exact Below.refl _ _ | assumption | apply Below.drew | apply Below.alloc | apply Below.setCell)) <;> (simp <;> omega))⟩
    · have := Is.new (w.alloc (.cells #[.string ⟨#[]⟩, .string ⟨#[]⟩] 9)) 132 [nilS, nilS, nilS, nilS, nilS, nilS, .slice (some ⟨w.heap.size, 0, none⟩) 2 2]
      simpa using this
    · have := (Is.new w 9 [.string ⟨#[]⟩, .string ⟨#[]⟩]).alloc (.cells #[nilS, nilS, nilS, nilS, nilS, nilS, .slice (some ⟨w.heap.size, 0, none⟩) 2 2] 132)
      simpa using this
  case round =>
    obtain ⟨n, hn, rfl, HR⟩ := hrel
    by_cases hlt : n < 2
    · have hlt' : (n : Int) < 2 := by omega
      obtain ⟨⟨vs, ls, ob, d, p, hM, hll, hl4, hl5⟩, hbel⟩ := uh HR
      have m0 := hM.c 0 (by omega)
      have hMl := hM.made.lt
      have hMl2 : w.heap.size < wr.heap.size := by omega
      obtain ⟨va, vc, hv0⟩ := row_form (hM.rows 0 (by omega))
      have hl0 := hll 0 (by omega)
      rw [hv0, hl0] at m0
      have hR0 : wr.ownsRow w.heap.size 133 1 (.slice va n vc) n ((ls 0).map ptr) := by have := hM.rows 0 (by omega); rw [hv0, hl0] at this; exact this
      have hsz := hbel.size
      have HQ : Hid (∀ Wx w1 g1 cap1, Below wr.heap.size wr Wx → Wx.grownBy w1 (Value.slice va n vc).ownBlock → w1.ownsRow w.heap.size 133 1 (.slice (some ⟨g1, 0, none⟩) (n + 1) cap1) (n + 1) ((ls 0).map ptr ++ [ptr wr.heap.size]) → ((Value.slice va n vc).ownBlock = some g1 ∨ Wx.heap.size ≤ g1) → (w1.cell? ⟨w.heap.size + 1, 0, none⟩ = some (.slice va n vc) ∧ w1.frozen? ⟨w.heap.size + 1, 0, none⟩ = false ∧ w.heap.size + 1 < w1.heap.size) ∧ ∀ w7, w7 = w1.setCell ⟨w.heap.size + 1, 0, none⟩ (.slice (some ⟨g1, 0, none⟩) (n + 1) cap1) → ∃ g1 cap1, Hid (Mk w.heap.size (w.heap.size + 1) w.heap.size (Lk.up2 vs 0 (.slice (some ⟨g1, 0, none⟩) (n + 1) cap1)) (Lk.up2 ls 0 (ls 0 ++ [wr.heap.size])) (2 * n) (obP win ob d p) (obF ob d p) w7 ∧ Below w.heap.size w w7)) := by
        intro Wx w1 g1 cap1 k1 k2 k3 k4
        rw [hl0] at hv0
        rw [← hv0] at k2 k4
        have hO : Only (fun i => (vs 0).ownBlock = some i) wr w1 := (Only.of_below k1 _).trans ((Only.of_grown k2).mono (fun i hi => hi.symm)) (fun _ x _ => x)
        have hM1 := hM.made.only hO (fun e => own_ne (hM.rows 0 (by omega)) hM.made (mkT_made 0 (by omega)).symm e.symm)
        have hc0 : w1.cell? ⟨w.heap.size + 1, 0, none⟩ = some (vs 0) := hM1.cell 0
        rw [hv0] at hc0
        refine ⟨⟨hc0, hM1.free 0, hM1.lt⟩, fun w7 hw7 => ⟨g1, cap1, ?_⟩⟩
        subst hw7
        refine ⟨hM.push (q := 0) (by omega) hO (by rw [hl0]; exact k3) (fun i hi => ?_), hbel.trans ((hO.toBelow (fun i hi _ => ((hM.rows 0 (by omega)).lt i hi).1) hsz).setCell (by simp) _)⟩
        have hi : some g1 = some i := hi
        injection hi with hi
        subst hi
        exact k4.imp id (fun x => Nat.le_trans k1.size x)
      have HRW : Hid (∀ Wx, Below wr.heap.size wr Wx → Wx.ownsRow w.heap.size 133 1 (.slice va n vc) n ((ls 0).map ptr)) := fun Wx k1 => own_below hR0 k1
      have hll3 := hide (⟨hll, hl4, hl5⟩ : _ ∧ _ ∧ _)
      have hlp : ((ls 0).map ptr).length = n := by rw [List.length_map, hl0]
      clear hM hR0 hv0 hll hl4 hl5 HR hbel hl0
      go_wp2_with fail
      go_cut [] (fun wc => ∃ g1 cap1, Hid (Mk w.heap.size (w.heap.size + 1) w.heap.size (Lk.up2 vs 0 (.slice (some ⟨g1, 0, none⟩) (n + 1) cap1)) (Lk.up2 ls 0 (ls 0 ++ [wr.heap.size])) (2 * n) (obP win ob d p) (obF ob d p) wc ∧ Below w.heap.size w wc))
      case first =>
        go_region_law (first
          | (refine step_append_lies _ rfl _ _ 125 rfl w.heap.size 133 i0 (.pointer none) 1 8 Tryz.underlying125 hi0 hz0 hz1 hz2 rfl (Nat.succ_pos 0) (.slice va n vc) n ((ls 0).map ptr) rfl (uh HRW _ ?_) ⟨wr.heap.size + 1, 0, none⟩ 1 1 [ptr wr.heap.size] rfl rfl ?_ ?_ ?_ ?_ ?_ ?_ (wr.heap.size + 1 + 1) ?_ ?_
             exact below_two1 wr _ _
             (refine one_new_at _ _ _ _ ?_; simp)
             simp [Value.oneCell', ptr]
             omega
             (unfold maxLen; omega)
             omega
             (simp; omega)
             simp
             intro g1 cap1 w1 ho1 hg1 hor1 hlt1
             obtain ⟨⟨z7, zf, zl⟩, hP7⟩ := uh HQ _ w1 g1 cap1 (below_two1 wr _ _) hg1 ho1 (by rcases hor1 with h | h; exact .inl h; exact .inr (by rw [h]; simp))
             have HP7 := hide hP7
             clear ho1 hg1 hor1 hP7)
          | (go_simp; go_at_call 51; refine (newReader6 _).mono ?_; rintro e w' ⟨rfl, rfl⟩))
        all_goals
          go_wp2_with fail
          go_meet
          exact uh HP7 _ rfl
      case rest =>
        obtain ⟨g1, cap1, HM1⟩ := hcut
        obtain ⟨hM1, hb1⟩ := uh HM1
        obtain ⟨hll, hl4, hl5⟩ := uh hll3
        obtain ⟨vs1, hvs1⟩ : ∃ f, f = Lk.up2 vs 0 (.slice (some ⟨g1, 0, none⟩) (n + 1) cap1) := ⟨_, rfl⟩
        obtain ⟨ls1, hls1⟩ : ∃ f, f = Lk.up2 ls 0 (ls 0 ++ [wr.heap.size]) := ⟨_, rfl⟩
        have hn1 : ∀ q, q < 6 → q ≠ 0 → ls1 q = ls q := fun q hq h => by rw [hls1, Lk.up2_other _ _ h]
        have hk0 : ls1 0 = ls 0 ++ [wr.heap.size] := by rw [hls1, Lk.up2_same]
        have hw0 : vs1 0 = .slice (some ⟨g1, 0, none⟩) (n + 1) cap1 := by rw [hvs1, Lk.up2_same]
        rw [← hvs1, ← hls1] at hM1
        clear hvs1 hls1 HM1 hll3
        have hl5' : ∀ q, q < 6 → (ls q).length ≤ 5 := fun q hq => by have := hll q hq; omega
        have hbR := (Below.refl wc.heap.size wc).alloc (Nat.le_refl _) (.cells #[.string ⟨#[]⟩, .int .i64 0] 54)
        have hbR1 : Below w.heap.size w (wc.alloc (.cells #[.string ⟨#[]⟩, .int .i64 0] 54)) := hb1.alloc hb1.size _
        have m1 := hM1.c 1 (by omega)
        have hMl := hM1.made.lt
        have hMl2 : w.heap.size < wc.heap.size := by omega
        obtain ⟨a3, c3, w3, hr3, ⟨z3, zf3, zl3⟩, hM3, hbl3⟩ := (hM1.below hbR).app (q := 1) (by omega) wc.heap.size (by rw [hn1 1 (by omega) (by omega)]; exact hl5' 1 (by omega)) 126 126 Tryz.underlying126
        rw [World.size_alloc] at hr3
        have hb3 := hbl3 w hbR1
        have HA3 : Hid ((Builtin.append_ #[126, 126] 126 #[vs1 1, .slice (some ⟨wc.heap.size + 1, 0, none⟩) 1 1]).run Tryz.prog ((wc.alloc (.cells #[.string ⟨#[]⟩, .int .i64 0] 54)).alloc (.cells #[ptr wc.heap.size] 52)) = .ok (.slice (some a3) ((ls1 1).length + 1) c3) w3) := hr3
        have hR3 := hM3.rows 0 (by omega)
        rw [Lk.up2_other _ _ (show 0 ≠ 1 by omega), Lk.up2_other _ _ (show 0 ≠ 1 by omega), hw0, hk0] at hR3
        have hll0 := hll 0 (by omega)
        rw [← hll0] at hR3
        obtain ⟨x1, x2, x3⟩ := row_last hR3
        rw [hll0] at x1 x3
        have q0 := hM3.c 0 (by omega)
        rw [Lk.up2_other _ _ (show 0 ≠ 1 by omega), hw0] at q0
        unfold ptr at x1
        have HM3 := hide (⟨hM3, hb3⟩ : _ ∧ _)
        have HLL := hide (⟨hll, hl4, hl5, hn1, hk0, hl5'⟩ : _ ∧ _ ∧ _ ∧ _ ∧ _ ∧ _)
        have hx2' := x2
        simp only [World.size_setCell] at hx2'
        generalize hV1 : vs1 1 = V1 at *
        clear hM1 hM3 hb1 hb3 hbl3 hR3 hbR hbR1 hr3 hll hl4 hl5 hn1 hk0 hl5' hll0 hV1
        go_wp2_with (at_builtin; refine Lib.wpList_append_run _ rfl _ _ _ _ rfl _ _ rfl rfl _ _ (uh HA3) ?_)
        refine (newTable_ok bd hbd _).mono ?_
        rintro e w5 ⟨t', rfl, ht', hT5, hb5⟩
        obtain ⟨hM3, hb3⟩ := uh HM3
        have HM5 := hide (⟨hM3.below hb5, hb3.trans (hb5.mono hb3.size)⟩ : _ ∧ _)
        clear hM3 hb3 HM3 HA3 hT5 hb5 ht' q0 x1 x2 x3 hx2' z3 zf3 zl3 m1 hMl hMl2 hw0
        go_wp2_with fail
        refine (rnewTable_ok bd hbd _).mono ?_
        rintro e w6 ⟨u', rfl, hu', hU6, hb6⟩
        obtain ⟨hM5, hb5⟩ := uh HM5
        have hM6 := hM5.below hb6
        have hb6' := hb5.trans (hb6.mono hb5.size)
        clear hM5 hb5 HM5 hU6 hb6 hu'
        obtain ⟨hll, hl4, hl5, hn1, hk0, hl5'⟩ := uh HLL
        obtain ⟨vs6, hvs6⟩ : ∃ f, f = Lk.up2 vs1 1 (.slice (some a3) ((ls1 1).length + 1) c3) := ⟨_, rfl⟩
        obtain ⟨ls6, hls6⟩ : ∃ f, f = Lk.up2 ls1 1 (ls1 1 ++ [wc.heap.size]) := ⟨_, rfl⟩
        rw [← hvs6, ← hls6] at hM6
        have hn6 : ∀ q, q < 6 → 2 ≤ q → ls6 q = ls q := fun q hq h => by rw [hls6, Lk.up2_other _ _ (by omega), hn1 q hq (by omega)]
        have hk60 : ls6 0 = ls 0 ++ [wr.heap.size] := by rw [hls6, Lk.up2_other _ _ (by omega), hk0]
        have hk61 : ls6 1 = ls 1 ++ [wc.heap.size] := by rw [hls6, Lk.up2_same, hn1 1 (by omega) (by omega)]
        obtain ⟨a7, c7, w7, hr7, ⟨z7, zf7, zl7⟩, hM7, hbl7⟩ := hM6.app (q := 2) (by omega) t' (by rw [hn6 2 (by omega) (by omega)]; exact hl5' 2 (by omega)) 127 127 Tryz.underlying127
        obtain ⟨a9, c9, w9, hr9, ⟨z9, zf9, zl9⟩, hM9, hbl9⟩ := hM7.app (q := 3) (by omega) u' (by rw [Lk.up2_other _ _ (by omega), hn6 3 (by omega) (by omega)]; exact hl5' 3 (by omega)) 128 128 Tryz.underlying128
        have hb9 := hbl9 w (hbl7 w hb6')
        have m2 := hM6.c 2 (by omega)
        have m3 := hM7.c 3 (by omega)
        rw [Lk.up2_other _ _ (show 3 ≠ 2 by omega)] at m3 z9
        rw [World.size_setCell] at hr9
        simp only [Lk.up2_other _ _ (show 3 ≠ 2 by omega)] at hr9 hM9 hb9
        have ml6 := hM6.made.lt
        have ml62 : w.heap.size < w6.heap.size := by omega
        have ml7 := hM7.made.lt
        have HA7 : Hid ((Builtin.append_ #[127, 127] 127 #[vs6 2, .slice (some ⟨w6.heap.size, 0, none⟩) 1 1]).run Tryz.prog (w6.alloc (.cells #[ptr t'] 135)) = .ok (.slice (some a7) ((ls6 2).length + 1) c7) w7) := hr7
        have HA9 : Hid ((Builtin.append_ #[128, 128] 128 #[vs6 3, .slice (some ⟨w7.heap.size, 0, none⟩) 1 1]).run Tryz.prog ((w7.setCell ⟨w.heap.size + 1, 2, none⟩ (.slice (some a7) ((ls6 2).length + 1) c7)).alloc (.cells #[ptr u'] 138)) = .ok (.slice (some a9) ((ls6 3).length + 1) c9) w9) := hr9
        have HM9 := hide (⟨hM9, hb9⟩ : _ ∧ _)
        have HLL6 := hide (⟨hn6, hk60, hk61⟩ : _ ∧ _ ∧ _)
        generalize vs6 2 = V2 at *
        generalize vs6 3 = V3 at *
        clear hM6 hM7 hM9 hb9 hb6' hbl7 hbl9 hr7 hr9 hll hl4 hl5 hn1 hk0 hl5' hn6 hk60 hk61 hvs6 hls6
        go_wp2_with (at_builtin; first | refine Lib.wpList_append_run _ rfl _ _ _ _ rfl _ _ rfl rfl _ _ (uh HA7) ?_ | refine Lib.wpList_append_run _ rfl _ _ _ _ rfl _ _ rfl rfl _ _ (uh HA9) ?_)
        refine (num4 _ _).mono ?_
        rintro r w10 ⟨rfl, rfl⟩
        clear HA7 HA9 m2 m3 z7 zf7 zl7 z9 zf9 zl9 ml6 ml62 ml7
        go_wp2_with fail
        obtain ⟨hM9, hb9⟩ := uh HM9
        refine (new_ok n win (by omega) hw1 hw2 _ (by have := hM9.made.lt; omega)).mono ?_
        rintro r w11 ⟨b1, d1, rfl, hPE, hft, hb11⟩
        have HM11 := hide (⟨hM9.addE hb11 hPE hft, hb9.trans (hb11.mono hb9.size)⟩ : _ ∧ _)
        clear hM9 hb9 HM9 hPE hft hb11
        go_wp2_with fail
        refine (rnew_ok n win (by omega) hw1 hw2 _).mono ?_
        rintro r w12 ⟨b2, p2, rfl, hRE, hft2, hb12⟩
        obtain ⟨hM11, hb11⟩ := uh HM11
        have hM12 := hM11.addF hb12 hRE hft2
        have hb12' := hb11.trans (hb12.mono hb11.size)
        clear hM11 hb11 HM11 hRE hft2 hb12
        obtain ⟨hll, hl4, hl5, _, _, hl5'⟩ := uh HLL
        obtain ⟨hn6, hk60, hk61⟩ := uh HLL6
        obtain ⟨vsA, hvsA⟩ : ∃ f, f = Lk.up2 (Lk.up2 vs6 2 (.slice (some a7) ((ls6 2).length + 1) c7)) 3 (.slice (some a9) ((ls6 3).length + 1) c9) := ⟨_, rfl⟩
        obtain ⟨lsA, hlsA⟩ : ∃ f, f = Lk.up2 (Lk.up2 ls6 2 (ls6 2 ++ [t'])) 3 (ls6 3 ++ [u']) := ⟨_, rfl⟩
        rw [← hvsA, ← hlsA] at hM12
        have hA4 : lsA 4 = ls 4 := by rw [hlsA, Lk.up2_other _ _ (by omega), Lk.up2_other _ _ (by omega), hn6 4 (by omega) (by omega)]
        have hA5 : lsA 5 = ls 5 := by rw [hlsA, Lk.up2_other _ _ (by omega), Lk.up2_other _ _ (by omega), hn6 5 (by omega) (by omega)]
        have hAl : (lsA 0).length = n + 1 ∧ (lsA 1).length = n + 1 ∧ (lsA 2).length = n + 1 ∧ (lsA 3).length = n + 1 := by
          have e0 := hll 0 (by omega)
          have e1 := hll 1 (by omega)
          have e2 := hll 2 (by omega)
          have e3 := hll 3 (by omega)
          refine ⟨?_, ?_, ?_, ?_⟩
          · rw [hlsA, Lk.up2_other _ _ (by omega), Lk.up2_other _ _ (by omega), hk60]; simp [e0]
          · rw [hlsA, Lk.up2_other _ _ (by omega), Lk.up2_other _ _ (by omega), hk61]; simp [e1]
          · rw [hlsA, Lk.up2_other _ _ (by omega), Lk.up2_same, hn6 2 (by omega) (by omega)]; simp [e2]
          · rw [hlsA, Lk.up2_same, hn6 3 (by omega) (by omega)]; simp [e3]
        obtain ⟨a13, c13, w13, hr13, ⟨z13, zf13, zl13⟩, hM13, hbl13⟩ := hM12.app (q := 4) (by omega) b1 (by rw [hA4]; exact hl5' 4 (by omega)) 129 129 Tryz.underlying129
        obtain ⟨a14, c14, w14, hr14, ⟨z14, zf14, zl14⟩, hM14, hbl14⟩ := hM13.app (q := 5) (by omega) b2 (by rw [Lk.up2_other _ _ (by omega), hA5]; exact hl5' 5 (by omega)) 130 130 Tryz.underlying130
        have hb14 := hbl14 w (hbl13 w hb12')
        have m4 := hM12.c 4 (by omega)
        have m5 := hM13.c 5 (by omega)
        rw [Lk.up2_other _ _ (show 5 ≠ 4 by omega)] at m5 z14
        rw [World.size_setCell] at hr14
        simp only [Lk.up2_other _ _ (show 5 ≠ 4 by omega)] at hr14 hM14 hb14
        have ml12 := hM12.made.lt
        have ml122 : w.heap.size < w12.heap.size := by omega
        have ml13 := hM13.made.lt
        have HA13 : Hid ((Builtin.append_ #[129, 129] 129 #[vsA 4, .slice (some ⟨w12.heap.size, 0, none⟩) 1 1]).run Tryz.prog (w12.alloc (.cells #[ptr b1] 34)) = .ok (.slice (some a13) ((lsA 4).length + 1) c13) w13) := hr13
        have HA14 : Hid ((Builtin.append_ #[130, 130] 130 #[vsA 5, .slice (some ⟨w13.heap.size, 0, none⟩) 1 1]).run Tryz.prog ((w13.setCell ⟨w.heap.size + 1, 4, none⟩ (.slice (some a13) ((lsA 4).length + 1) c13)).alloc (.cells #[ptr b2] 141)) = .ok (.slice (some a14) ((lsA 5).length + 1) c14) w14) := hr14
        have HFIN : Hid (MkN w.heap.size (w.heap.size + 1) w.heap.size win (n + 1) (w14.setCell ⟨w.heap.size + 1, 5, none⟩ (.slice (some a14) ((lsA 5).length + 1) c14)) ∧ Below w.heap.size w (w14.setCell ⟨w.heap.size + 1, 5, none⟩ (.slice (some a14) ((lsA 5).length + 1) c14))) := by
          refine ⟨⟨_, _, _, _, _, hM14, fun q hq => ?_, ?_, ?_⟩, hb14⟩
          · refine six (fun q => (Lk.up2 (Lk.up2 lsA 4 (lsA 4 ++ [b1])) 5 (lsA 5 ++ [b2]) q).length = n + 1) ?_ ?_ ?_ ?_ ?_ ?_ q hq
            · rw [Lk.up2_other _ _ (by omega), Lk.up2_other _ _ (by omega)]; exact hAl.1
            · rw [Lk.up2_other _ _ (by omega), Lk.up2_other _ _ (by omega)]; exact hAl.2.1
            · rw [Lk.up2_other _ _ (by omega), Lk.up2_other _ _ (by omega)]; exact hAl.2.2.1
            · rw [Lk.up2_other _ _ (by omega), Lk.up2_other _ _ (by omega)]; exact hAl.2.2.2
            · rw [Lk.up2_other _ _ (by omega), Lk.up2_same, hA4]; simp [hll 4 (by omega)]
            · rw [Lk.up2_same, hA5]; simp [hll 5 (by omega)]
          · rw [Lk.up2_other _ _ (show 4 ≠ 5 by omega), Lk.up2_same, hA4, hl4, List.range_succ, List.map_append]
            congr 1
            · refine List.map_congr_left (fun k hk => ?_)
              have := List.mem_range.1 hk
              rw [Lk.up2_other _ _ (by omega), Lk.up2_other _ _ (by omega)]
            · simp only [List.map_cons, List.map_nil]
              rw [Lk.up2_other _ _ (by omega), Lk.up2_same]
          · rw [Lk.up2_same, hA5, hl5, List.range_succ, List.map_append]
            congr 1
            · refine List.map_congr_left (fun k hk => ?_)
              have := List.mem_range.1 hk
              rw [Lk.up2_other _ _ (by omega), Lk.up2_other _ _ (by omega)]
            · simp only [List.map_cons, List.map_nil]
              rw [Lk.up2_same]
        generalize vsA 4 = V4 at *
        generalize vsA 5 = V5 at *
        clear hM12 hM13 hM14 hb14 hb12' hbl13 hbl14 hr13 hr14 hll hl4 hl5 hl5' hn6 hk60 hk61 hvsA hlsA hA4 hA5 hAl HLL HLL6
        go_wp2_with (at_builtin; first | refine Lib.wpList_append_run _ rfl _ _ _ _ rfl _ _ rfl rfl _ _ (uh HA13) ?_ | refine Lib.wpList_append_run _ rfl _ _ _ _ rfl _ _ rfl rfl _ _ (uh HA14) ?_)
        refine (num4 _ _).mono ?_
        rintro r w15 ⟨rfl, rfl⟩
        go_wp2_with fail
        go_roundw
        case rel => exact ⟨n + 1, by omega, by go_num, HFIN⟩
        case measure => simp [intOf]; omega
    · have hlt' : ¬ (n : Int) < 2 := by omega
      obtain rfl : n = 2 := by omega
      go_wp2_with fail
      go_ret2
      exact ⟨rfl, uh HR⟩
end Go.Proofs.YtbkpdapagfjmmaaGreatDoor
