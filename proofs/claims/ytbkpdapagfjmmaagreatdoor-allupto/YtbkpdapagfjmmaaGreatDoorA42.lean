import Derived.Deep.RegionWith
import Derived.Deep.RegionLaw
import Derived.Test.YtbkpdapagfjmmaaGreatDoorRows
import Derived.SliceStrings
import Derived.OpenShut
import Derived.Test.YtbkpdapagfjmmaaGreatDoorA41
set_option linter.unusedVariables false
set_option maxRecDepth 100000
set_option maxHeartbeats 16000000
namespace Go.Proofs.YtbkpdapagfjmmaaGreatDoor
open Go.RowKit
def mkT (q : Nat) : TypeId := match q with
 | 0 => 133
 | 1 => 52
 | 2 => 135
 | 3 => 138
 | 4 => 34
 | _ => 141
theorem six (p : Nat -> Prop) (h0 : p 0) (h1 : p 1) (h2 : p 2) (h3 : p 3) (h4 : p 4) (h5 : p 5) : ∀ q, q < 6 -> p q := fun q hq => match q, hq with
 | 0, _ => h0
 | 1, _ => h1
 | 2, _ => h2
 | 3, _ => h3
 | 4, _ => h4
 | 5, _ => h5
theorem oH (q : Nat) (hq : q < 6) : mkT q ≠ 132 := six (fun q => mkT q ≠ 132) (nbq rfl) (nbq rfl) (nbq rfl) (nbq rfl) (nbq rfl) (nbq rfl) q hq
theorem Qs (q : Nat) (hq : q < 6) : mkT q ≠ 9 := six (fun q => mkT q ≠ 9) (nbq rfl) (nbq rfl) (nbq rfl) (nbq rfl) (nbq rfl) (nbq rfl) q hq
theorem Sv (q r : Nat) (hq : q < 6) (hr : r < 6) (h : q ≠ r) : mkT q ≠ mkT r := by
 refine six (fun q => q ≠ r -> mkT q ≠ mkT r) ?_ ?_ ?_ ?_ ?_ ?_ q hq h <;> refine six (fun r => _ ≠ r -> mkT _ ≠ mkT r) ?_ ?_ ?_ ?_ ?_ ?_ r hr <;> intro h <;> first | exact absurd rfl h | exact nbq rfl
theorem KN (q : Nat) (hq : q < 6) : (Tryz.prog.info? (mkT q)).map (fun i => (i.zero, i.size, i.bytes)) = some (some (.pointer none), 1, 8) := by
 refine six (fun q => (Tryz.prog.info? (mkT q)).map (fun i => (i.zero, i.size, i.bytes)) = some (some (.pointer none), 1, 8)) ?_ ?_ ?_ ?_ ?_ ?_ q hq <;> kernel_rfl
structure Mk (b M gp : Nat) (vs : Nat -> Value) (ls : Nat -> List Nat) (m : Nat) (P : Nat -> World -> Prop) (F : Nat -> Nat -> Prop) (w : World) : Prop where
 made : Is w M 132 [vs 0, vs 1, vs 2, vs 3, vs 4, vs 5, .slice (some ⟨gp, 0, none⟩) 2 2]
 rowP : Is w gp 9 [.string ⟨#[]⟩, .string ⟨#[]⟩]
 rows : ∀ q, q < 6 -> w.ownsRow b (mkT q) 1 (vs q) (ls q).length ((ls q).map ptr)
 obj : ∀ q, q < m -> P q w
 inb : ∀ q, q < m -> ∀ i, F q i -> b <= i ∧ i < w.heap.size
 sep : ∀ q r, q < m -> r < m -> q ≠ r -> ∀ i, F q i -> ¬ F r i
 sr : ∀ q, q < m -> ∀ i, F q i -> i ≠ M ∧ i ≠ gp ∧ ∀ r, r < 6 -> (vs r).ownBlock ≠ some i
 st : ∀ q, q < m -> ∀ (A : Nat -> Prop) (u u' : World), P q u -> Only A u u' -> (∀ i, F q i -> ¬ A i) -> P q u'
 hM : b <= M ∧ b <= gp
section
variable {b M gp m : Nat} {vs : Nat -> Value} {ls : Nat -> List Nat} {P P' : Nat -> World -> Prop} {F F' : Nat -> Nat -> Prop} {w w1 : World}
theorem Mk.below (h : Mk b M gp vs ls m P F w) (hb : Below w.heap.size w w1) : Mk b M gp vs ls m P F w1 :=
 ⟨h.made.below hb h.made.lt, h.rowP.below hb h.rowP.lt, fun q hq => own_below (h.rows q hq) hb, fun q hq => h.st q hq _ _ _ (h.obj q hq) (Only.of_below hb (fun _ => False)) (fun _ _ x => x), fun q hq i hi => ⟨(h.inb q hq i hi).1, Nat.lt_of_lt_of_le (h.inb q hq i hi).2 hb.size⟩, h.sep, h.sr, h.st, h.hM⟩
theorem Mk.add (h : Mk b M gp vs ls m P F w) (hb : Below w.heap.size w w1) (hP : ∀ q, q < m -> P' q = P q) (hF : ∀ q, q < m -> F' q = F q) (h1 : P' m w1) (h2 : ∀ i, F' m i -> w.heap.size <= i ∧ i < w1.heap.size) (h3 : ∀ (A : Nat -> Prop) (u u' : World), P' m u -> Only A u u' -> (∀ i, F' m i -> ¬ A i) -> P' m u') : Mk b M gp vs ls (m + 1) P' F' w1 := by
 have hw := h.below hb
 have hbs : b <= w.heap.size := by have := h.hM.1; have := h.made.lt; omega
 have cas : ∀ q, q < m + 1 -> q < m ∨ q = m := fun q hq => by omega
 refine ⟨hw.made, hw.rowP, hw.rows, fun q hq => ?_, fun q hq i hi => ?_, fun q r hq hr hqr i hi hx => ?_, fun q hq i hi => ?_, fun q hq => ?_, h.hM⟩
 . rcases cas q hq with hq | rfl
   . rw [hP q hq]; exact hw.obj q hq
   . exact h1
 . rcases cas q hq with hq | rfl
   . rw [hF q hq] at hi; exact hw.inb q hq i hi
   . exact ⟨Nat.le_trans hbs (h2 i hi).1, (h2 i hi).2⟩
 . rcases cas q hq with hq | rfl <;> rcases cas r hr with hr | rfl
   . rw [hF q hq] at hi; rw [hF r hr] at hx; exact h.sep q r hq hr hqr i hi hx
   . rw [hF q hq] at hi
     have := (h.inb q hq i hi).2
     have := (h2 i hx).1
     omega
   . rw [hF r hr] at hx
     have := (h.inb r hr i hx).2
     have := (h2 i hi).1
     omega
   . exact hqr rfl
 . rcases cas q hq with hq | rfl
   . rw [hF q hq] at hi; exact h.sr q hq i hi
   . have hge := (h2 i hi).1
     refine ⟨fun e => ?_, fun e => ?_, fun r hr e => ?_⟩
     . have := h.made.lt; omega
     . have := h.rowP.lt; omega
     . have := ((h.rows r hr).lt i e).2; omega
 . rcases cas q hq with hq | rfl
   . rw [hP q hq, hF q hq]; exact h.st q hq
   . exact h3
theorem Mk.push (h : Mk b M gp vs ls m P F w) {q : Nat} (hq : q < 6) {x : Nat} {v2 : Value} (hO : Only (fun i => (vs q).ownBlock = some i) w w1) (ho : w1.ownsRow b (mkT q) 1 v2 ((ls q).length + 1) ((ls q).map ptr ++ [ptr x])) (hv : ∀ i, v2.ownBlock = some i -> (vs q).ownBlock = some i ∨ w.heap.size <= i) :
 Mk b M gp (Lk.up2 vs q v2) (Lk.up2 ls q (ls q ++ [x])) m P F (w1.setCell ⟨M, q, none⟩ v2) := by
 have hnM : ∀ i, (vs q).ownBlock = some i -> i ≠ M := fun i hi e => by
  subst e
  exact own_ne (h.rows q hq) h.made (oH q hq).symm hi.symm
 have hnP : ∀ i, (vs q).ownBlock = some i -> i ≠ gp := fun i hi e => by
  subst e
  exact own_ne (h.rows q hq) h.rowP (Qs q hq).symm hi.symm
 have hM1 := h.made.only hO (fun e => hnM M e rfl)
 have hP1 := h.rowP.only hO (fun e => hnP gp e rfl)
 have hO2 : Only (· = M) w1 (w1.setCell ⟨M, q, none⟩ v2) := (Only.refl _ w1).set M q _ (fun _ => rfl)
 refine ⟨?_, hP1.only hO2 (hP1.ne hM1 (nbq rfl)), fun r hr => ?_, fun r hr => h.st r hr _ _ _ (h.st r hr _ _ _ (h.obj r hr) hO (fun i hi hx => (h.sr r hr i hi).2.2 q hq hx)) hO2 (fun i hi hx => (h.sr r hr i hi).1 hx), fun r hr i hi => ⟨(h.inb r hr i hi).1, ?_⟩, h.sep, fun r hr i hi => ⟨(h.sr r hr i hi).1, (h.sr r hr i hi).2.1, fun s hs e => ?_⟩, h.st, h.hM⟩
 . have := hM1.set q v2
   have hc : [vs 0, vs 1, vs 2, vs 3, vs 4, vs 5, Value.slice (some ⟨gp, 0, none⟩) 2 2].set q v2 = [Lk.up2 vs q v2 0, Lk.up2 vs q v2 1, Lk.up2 vs q v2 2, Lk.up2 vs q v2 3, Lk.up2 vs q v2 4, Lk.up2 vs q v2 5, Value.slice (some ⟨gp, 0, none⟩) 2 2] := by
    refine six (fun q => [vs 0, vs 1, vs 2, vs 3, vs 4, vs 5, Value.slice (some ⟨gp, 0, none⟩) 2 2].set q v2 = [Lk.up2 vs q v2 0, Lk.up2 vs q v2 1, Lk.up2 vs q v2 2, Lk.up2 vs q v2 3, Lk.up2 vs q v2 4, Lk.up2 vs q v2 5, Value.slice (some ⟨gp, 0, none⟩) 2 2]) ?_ ?_ ?_ ?_ ?_ ?_ q hq <;> simp [Lk.up2]
   rw [hc] at this
   exact this
 . by_cases hrq : r = q
   . subst hrq
     rw [Lk.ak, Lk.ak]
     have ho' : w1.ownsRow b (mkT r) 1 v2 (ls r ++ [x]).length ((ls r ++ [x]).map ptr) := by simpa using ho
     exact ag ho' hO2 (fun i hi e => by
      have e : i = M := e
      subst e
      exact own_ne ho' hM1 (oH r hr).symm hi.symm)
   . rw [Lk.ae _ _ hrq, Lk.ae _ _ hrq]
     have h1 := ag (h.rows r hr) hO (fun i hi e => by
      obtain ⟨cs, hc⟩ := iM (h.rows q hq) e
      exact own_ne (h.rows r hr) hc (Sv q r hq hr (Ne.symm hrq)) hi.symm)
     exact ag h1 hO2 (fun i hi e => by
      have e : i = M := e
      subst e
      exact own_ne h1 hM1 (oH r hr).symm hi.symm)
 . have := (h.inb r hr i hi).2
   have := hO.size
   simp
   omega
 . by_cases hsq : s = q
   . subst hsq
     rw [Lk.ak] at e
     rcases hv i e with y | y
     . exact (h.sr r hr i hi).2.2 s hs y
     . have := (h.inb r hr i hi).2
       omega
   . rw [Lk.ae _ _ hsq] at e
     exact (h.sr r hr i hi).2.2 s hs e
theorem Mk.app (h : Mk b M gp vs ls m P F w) {q : Nat} (hq : q < 6) (x : Nat) (hl : (ls q).length <= 5) (tS ty : TypeId) (hu : Tryz.prog.underlying tS = some (.slice (mkT q))) :
 ∃ a cap w1, (Builtin.append_ #[tS, tS] ty #[vs q, .slice (some ⟨w.heap.size, 0, none⟩) 1 1]).run Tryz.prog (w.alloc (.cells #[ptr x] (mkT q))) = .ok (.slice (some a) ((ls q).length + 1) cap) w1 ∧ (w1.cell? ⟨M, q, none⟩ = some (vs q) ∧ w1.frozen? ⟨M, q, none⟩ = false ∧ M < w1.heap.size) ∧ Mk b M gp (Lk.up2 vs q (.slice (some a) ((ls q).length + 1) cap)) (Lk.up2 ls q (ls q ++ [x])) m P F (w1.setCell ⟨M, q, none⟩ (.slice (some a) ((ls q).length + 1) cap)) ∧ ∀ w0, Below b w0 w -> Below b w0 (w1.setCell ⟨M, q, none⟩ (.slice (some a) ((ls q).length + 1) cap)) := by
 obtain ⟨i, hi, hz0, hz1, hz2⟩ := info_parts (KN q hq)
 have hbs : b <= w.heap.size := by have := h.hM.1; have := h.made.lt; omega
 have hI := Is.new w (mkT q) [ptr x]
 obtain ⟨v', w', hr, h1, h2, _, h4⟩ := run_append_own_at (P := Tryz.prog) (w.alloc (.cells #[ptr x] (mkT q))) b tS ty (mkT q) i (.pointer none) 1 8 hu hi hz0 hz1 hz2 rfl (by omega) (vs q) (ls q).length ((ls q).map ptr) ((h.rows q hq).alloc _) ⟨w.heap.size, 0, none⟩ 1 1 [ptr x] rfl
  (fun j u hj => by
   have e : (⟨w.heap.size, 0, none⟩ : Addr).add j = ⟨w.heap.size, j, none⟩ := by unfold Addr.add; split <;> simp_all
   rw [e]
   exact (hI.cell j).trans hj)
  (fun u hu => by simp at hu; subst hu; rfl)
  (by unfold maxLen; omega) (by omega) (by simp; omega)
 have hO1 : Only (fun i => (vs q).ownBlock = some i) w (w.alloc (.cells #[ptr x] (mkT q))) := (Only.refl _ w).alloc _
 have hO2 : Only (fun i => (vs q).ownBlock = some i) w w' := hO1.trans ((Only.gV h2).mono (fun i hi => hi.symm)) (fun _ x _ => x)
 obtain ⟨a, cap, hf⟩ : ∃ a cap, v' = .slice (some a) ((ls q).length + 1) cap := by
  rcases h1.2 with ⟨_, h0⟩ | ⟨g, cap, cur, h, _⟩
  . simp at h0
  . exact ⟨⟨g, 0, none⟩, cap, h⟩
 subst hf
 have hM1 := h.made.only hO2 (fun e => own_ne (h.rows q hq) h.made (oH q hq).symm e.symm)
 refine ⟨a, cap, w', hr, ⟨?_, hM1.free q, hM1.lt⟩, h.push hq hO2 h1 (fun j hj => ?_), fun w0 hb => hb.trans ((hO2.toBelow (fun i hi _ => ((h.rows q hq).lt i hi).1) hbs).setCell h.hM.1 _)⟩
 . rw [hM1.cell]
   exact six (fun q => [vs 0, vs 1, vs 2, vs 3, vs 4, vs 5, Value.slice (some ⟨gp, 0, none⟩) 2 2][q]? = some (vs q)) rfl rfl rfl rfl rfl rfl q hq
 . rcases h4 with h4 | h4
   . rw [h4] at hj; exact .inl hj
   . rw [h4] at hj
     injection hj with hj
     exact .inr (by simp at hj; omega)
end
theorem N8 {w : World} {B g cap : Nat} {T : TypeId} {l : List Nat} {x : Nat} (h : w.ownsRow B T 1 (.slice (some ⟨g, 0, none⟩) (l.length + 1) cap) (l ++ [x]).length ((l ++ [x]).map ptr)) : w.cell? ⟨g, l.length, none⟩ = some (ptr x) ∧ g < w.heap.size ∧ l.length + 1 <= cap := by
 rcases h.2 with ⟨h0, _⟩ | ⟨g', cap', cur, h0, hB, hg, hn, hc, hs, ht⟩
 . cases h0
 . have h0 : some (⟨g, 0, none⟩ : Addr) = some ⟨g', 0, none⟩ ∧ cap = cap' := by injection h0 with e1 e2 e3; exact ⟨e1, e3⟩
   obtain ⟨e1, rfl⟩ := h0
   injection e1 with e1
   injection e1 with e1
   subst e1
   have hI : Is w g T cur.toList := by unfold Is; simpa using hg
   refine ⟨?_, hI.lt, by simpa using hn⟩
   rw [hI.cell]
   have e := congrArg (fun l' => l'[l.length]?) ht
   simp only [List.length_append, List.length_cons, List.length_nil, Nat.mul_one] at e
   rw [List.getElem?_take_of_lt (by omega)] at e
   rw [e]
   simp
theorem Ii (w : World) : Calls Tryz.prog 51 #[] w fun r w' => r = .returned (.pointer (some ⟨w.heap.size, 0, none⟩)) ∧ w' = w.alloc (.cells #[.string ⟨#[]⟩, .int .i64 0, .int .i64 0] 85) := by
 go_enter Tryz.func51, Tryz.ntmps51
 go_wp2
 go_ret
 exact ⟨rfl, rfl⟩
def obP (win : Nat) (ob : Nat -> Nat) (d : Nat -> PD) (p : Nat -> RP) (q : Nat) (w : World) : Prop := if q % 2 = 0 then kM w (ob q) (Lk.En.new (q / 2) win) (d q) else aT True w (ob q) (Lk.En.new (q / 2) win) (p q)
def obF (ob : Nat -> Nat) (d : Nat -> PD) (p : Nat -> RP) (q i : Nat) : Prop := if q % 2 = 0 then foot (ob q) (d q) i else aI (ob q) (p q) i
theorem xh (w : World) (c d : Obj) : Below w.heap.size w ((w.alloc c).alloc d).drew := by
 have h := ((Below.refl w.heap.size w).alloc (Nat.le_refl _) c).alloc (by simp) d
 exact ⟨h.os, h.tape, h.output, h.size, h.block⟩
def MkN (b M gp win n : Nat) (w : World) : Prop := ∃ vs ls ob d p, Mk b M gp vs ls (2 * n) (obP win ob d p) (obF ob d p) w ∧ (∀ q, q < 6 -> (ls q).length = n) ∧ ls 4 = (List.range n).map (fun k => ob (2 * k)) ∧ ls 5 = (List.range n).map (fun k => ob (2 * k + 1))
theorem Mk.c {b M gp m : Nat} {vs : Nat -> Value} {ls : Nat -> List Nat} {P : Nat -> World -> Prop} {F : Nat -> Nat -> Prop} {w : World} (h : Mk b M gp vs ls m P F w) (q : Nat) (hq : q < 6) : w.cell? ⟨M, q, none⟩ = some (vs q) := by
 rw [h.made.cell]
 exact six (fun q => [vs 0, vs 1, vs 2, vs 3, vs 4, vs 5, Value.slice (some ⟨gp, 0, none⟩) 2 2][q]? = some (vs q)) rfl rfl rfl rfl rfl rfl q hq
end Go.Proofs.YtbkpdapagfjmmaaGreatDoor

namespace Go.Proofs.YtbkpdapagfjmmaaGreatDoor.Sc
open Go.ChangeShapes Go.WideShapes Go.ChangeAt Go.RowKit Go.Deep
structure OpJ where
 kd : Int
 a : Int
 b : Int
 s : ByteArray
 t : ByteArray
 n : Int
 ha : Option Addr
 hl : Nat
 hc : Nat
 h : List ByteArray
def OpJ.vals (o : OpJ) : List Value := [.int .i64 o.kd, .int .i64 o.a, .int .i64 o.b, .string o.s, .string o.t, .int .i64 o.n, .slice o.ha o.hl o.hc]
structure OpJ.Ok (w : World) (o : OpJ) : Prop where
 s : o.s.size <= 1048576
 h : o.h.length <= 1048576
 strs : Strs w (.slice o.ha o.hl o.hc) o.h
 kd : -9223372036854775808 <= o.kd ∧ o.kd <= 9223372036854775807
 a : -9223372036854775808 <= o.a ∧ o.a <= 9223372036854775807
 n : -9223372036854775808 <= o.n ∧ o.n <= 9223372036854775807
def D9 (w : World) (blk off len : Nat) (ops : Nat -> OpJ) : Prop := blk < w.heap.size ∧ ∀ i, i < len -> (ops i).Ok w ∧ ∀ j, j < 7 -> w.cell? ⟨blk, off + i * 7 + j, none⟩ = (ops i).vals[j]?
theorem KO : Tryz.prog.cellsOf 33 = 7 := by kernel_rfl
theorem cells3 : Tryz.prog.cellsOf 3 = 1 := by kernel_rfl
theorem Qu : Tryz.prog.cellsOf 31 = 1 := by kernel_rfl
theorem KP {H : Type} {d : DataW H} {l : List (DataW H)} (h : d ∈ l) : Rows.uptoBulk d <= Rows.uptoBulkAll l := by
 induction l with
 | nil => cases h
 | cons x r ih =>
   simp only [Rows.uptoBulkAll]
   rcases List.mem_cons.1 h with e | e
   . subst e; omega
   . have := ih e; omega
theorem length_le {H : Type} (l : List (DataW H)) (hp : ∀ d ∈ l, 1 <= Rows.uptoBulk d) : l.length <= Rows.uptoBulkAll l := by
 induction l with
 | nil => simp
 | cons x r ih =>
   have h1 := hp x (by simp)
   have h2 := ih (fun d hd => hp d (by simp [hd]))
   simp only [Rows.uptoBulkAll, List.length_cons]
   omega
theorem one_le {H : Type} (d : DataW H) : 1 <= Rows.uptoBulk d := by
 cases d with
 | lit l => cases l <;> simp [Rows.uptoBulk]
 | nil => simp [Rows.uptoBulk]
 | ptr d => simp [Rows.uptoBulk]
 | slice elems spare => simp [Rows.uptoBulk]
 | agg parts => simp [Rows.uptoBulk]
 | iface t d => simp [Rows.uptoBulk]
 | map entries => simp [Rows.uptoBulk]
 | held h => simp [Rows.uptoBulk]
theorem add_plain (b off i : Nat) : (⟨b, off, none⟩ : Addr).add i = ⟨b, off + i, none⟩ := by unfold Addr.add; split <;> simp_all
theorem Ea {H : Type} (l : List ByteArray) : (strs (H := H) l).length = l.length := by simp [strs]
theorem Qv {H : Type} {enc : TypeId × Value -> H} {w : World} {spare : Nat -> Bool} {held : Bool} {fuel : Nat} {cs : List Value} {x : DataW H × List MemPlace}
 (h : DataW.trod enc Tryz.prog w 0 spare held fuel 31 cs = some x) : ∃ sv ls, cs = [sv] ∧ Strs w sv ls ∧ ls.length <= Rows.uptoBulk x.1 := by
 rcases open_strings Tryz.underlying31 Tryz.underlying9 nN h with ⟨rfl, rfl⟩ | ⟨a, len, cap, ss, rfl, _, hlc, _, hsl, rfl, hc, _⟩
 . exact ⟨_, [], rfl, .inl ⟨rfl, _, _, rfl⟩, by simp⟩
 . have hlen : len <= ss.length := by rw [hsl]; split <;> omega
   refine ⟨_, ss.take len, rfl, ?_, ?_⟩
   . by_cases h0 : len = 0
     . subst h0
       exact .inl ⟨by simp, _, _, rfl⟩
     . obtain ⟨blk, off, spot⟩ := a
       have e0 := hc 0 (by omega)
       have hsp : spot = none := World.cell?_spot (by simpa [Addr.add] using e0)
       subst hsp
       refine .inr ⟨blk, off, cap, by rw [List.length_take, Nat.min_eq_left hlen], World.block_lt_of_cell? _ _ e0, fun i y hy => ?_⟩
       have hi : i < len := by
        have := (List.getElem?_eq_some_iff.1 hy).1
        rw [List.length_take] at this
        omega
       rw [List.getElem?_take_of_lt hi] at hy
       have := hc i (by omega)
       rw [add_plain] at this
       rw [this]
       simp [List.getD, hy]
   . simp only [Rows.uptoBulk]
     have := length_le (strs (H := H) (ss.take len)) (fun d _ => one_le d)
     rw [Ea] at this
     omega
theorem Qw {H : Type} {enc : TypeId × Value -> H} {w : World} {spare : Nat -> Bool} {held : Bool} {fuel : Nat} {cs : List Value} {x : DataW H × List MemPlace}
 (h : DataW.trod enc Tryz.prog w 0 spare held fuel 33 cs = some x) : ∃ o : OpJ, cs = o.vals ∧ o.s.size + 8 <= Rows.uptoBulk x.1 ∧ o.h.length <= Rows.uptoBulk x.1 ∧ Strs w (.slice o.ha o.hl o.hc) o.h ∧ (-9223372036854775808 <= o.kd ∧ o.kd <= 9223372036854775807) ∧ (-9223372036854775808 <= o.a ∧ o.a <= 9223372036854775807) ∧ (-9223372036854775808 <= o.n ∧ o.n <= 9223372036854775807) := by
 obtain ⟨xs, n, _, rfl, hl, hlen, hf⟩ := DataW.trod_struct Tryz.underlying33 h
 rw [KO] at hl
 match cs, hl with
 | [c0, c1, c2, c3, c4, c5, c6], _ =>
 match xs, hlen with
 | [y0, y1, y2, y3, y4, y5, y6], _ =>
 have f0 : DataW.trod enc Tryz.prog w 0 spare held n 3 (([c0, c1, c2, c3, c4, c5, c6].drop 0).take (Tryz.prog.cellsOf 3)) = some y0 := hf 0 _ rfl
 rw [cells3] at f0
 have f1 : DataW.trod enc Tryz.prog w 0 spare held n 3 (([c0, c1, c2, c3, c4, c5, c6].drop 1).take (Tryz.prog.cellsOf 3)) = some y1 := hf 1 _ rfl
 rw [cells3] at f1
 have f2 : DataW.trod enc Tryz.prog w 0 spare held n 3 (([c0, c1, c2, c3, c4, c5, c6].drop 2).take (Tryz.prog.cellsOf 3)) = some y2 := hf 2 _ rfl
 rw [cells3] at f2
 have f3 : DataW.trod enc Tryz.prog w 0 spare held n 9 (([c0, c1, c2, c3, c4, c5, c6].drop 3).take (Tryz.prog.cellsOf 9)) = some y3 := hf 3 _ rfl
 rw [nN] at f3
 have f4 : DataW.trod enc Tryz.prog w 0 spare held n 9 (([c0, c1, c2, c3, c4, c5, c6].drop 4).take (Tryz.prog.cellsOf 9)) = some y4 := hf 4 _ rfl
 rw [nN] at f4
 have f5 : DataW.trod enc Tryz.prog w 0 spare held n 3 (([c0, c1, c2, c3, c4, c5, c6].drop 5).take (Tryz.prog.cellsOf 3)) = some y5 := hf 5 _ rfl
 rw [cells3] at f5
 have f6 : DataW.trod enc Tryz.prog w 0 spare held n 31 (([c0, c1, c2, c3, c4, c5, c6].drop 6).take (Tryz.prog.cellsOf 31)) = some y6 := hf 6 _ rfl
 rw [Qu] at f6
 simp only [List.drop_zero, List.drop_succ_cons, List.take_succ_cons, List.take_zero] at f0 f1 f2 f3 f4 f5 f6
 obtain ⟨kd, e0, rfl, wf0⟩ := DataW.trod_int Tryz.underlying3 f0
 obtain ⟨a, e1, rfl, wf1⟩ := DataW.trod_int Tryz.underlying3 f1
 obtain ⟨b, e2, rfl, _⟩ := DataW.trod_int Tryz.underlying3 f2
 obtain ⟨s, e3, rfl, _⟩ := DataW.trod_string Tryz.underlying9 f3
 obtain ⟨t, e4, rfl, _⟩ := DataW.trod_string Tryz.underlying9 f4
 obtain ⟨m, e5, rfl, wf5⟩ := DataW.trod_int Tryz.underlying3 f5
 obtain ⟨sv, ls, e6, VF, hl6⟩ := Qv f6
 have hsl : ∃ ha hl hc, sv = Value.slice ha hl hc := by
  rcases VF with ⟨_, a, c, rfl⟩ | ⟨g, o, cap, rfl, _⟩
  . exact ⟨_, _, _, rfl⟩
  . exact ⟨_, _, _, rfl⟩
 obtain ⟨ha, hl, hc, rfl⟩ := hsl
 simp only [List.cons.injEq, and_true] at e0 e1 e2 e3 e4 e5 e6
 subst e0 e1 e2 e3 e4 e5 e6
 refine ⟨⟨kd, a, b, s, t, m, ha, hl, hc, ls⟩, rfl, ?_, ?_, VF, bounds_i64 wf0, bounds_i64 wf1, bounds_i64 wf5⟩
 . have h6 := one_le y6.1
   simp only [List.map_cons, List.map_nil, Rows.uptoBulk, Rows.uptoBulkAll]
   rw [af]
   omega
 . simp only [List.map_cons, List.map_nil, Rows.uptoBulk, Rows.uptoBulkAll]
   omega
def nJ (ops : Nat -> OpJ) : Nat -> Nat
 | 0 => 0
 | n + 1 => nJ ops n + ((ops n).s.size + 8)
theorem xm (ops : Nat -> OpJ) : ∀ (n : Nat), 8 * n <= nJ ops n
 | 0 => Nat.zero_le _
 | n + 1 => by
   have := xm ops n
   rw [nJ]
   omega
theorem KQ (ops : Nat -> OpJ) {n m : Nat} (h : n <= m) : nJ ops n <= nJ ops m := by
 induction h with
 | refl => exact Nat.le_refl _
 | step _ ih => exact Nat.le_trans ih (Nat.le_add_right _ _)
theorem vC {H : Type} (a b : List (DataW H)) : Rows.uptoBulkAll (a ++ b) = Rows.uptoBulkAll a + Rows.uptoBulkAll b := by
 induction a with
 | nil => simp [Rows.uptoBulkAll]
 | cons x a ih =>
   simp only [List.cons_append, Rows.uptoBulkAll, ih]
   omega
theorem KR {H : Type} (ops : Nat -> OpJ) (D : Nat -> DataW H) : ∀ (n : Nat), (∀ i, i < n -> (ops i).s.size + 8 <= Rows.uptoBulk (D i)) -> nJ ops n <= Rows.uptoBulkAll ((List.range n).map D)
 | 0, _ => Nat.zero_le _
 | n + 1, h => by
   have h1 := KR ops D n (fun i hi => h i (by omega))
   have h2 := h n (by omega)
   rw [List.range_succ, List.map_append, vC]
   simp only [nJ, List.map_cons, List.map_nil, Rows.uptoBulkAll]
   omega
theorem Ij {H : Type} {enc : TypeId × Value -> H} {w : World} {spare : Nat -> Bool} {held : Bool} {fuel : Nat} {ad : Option Addr} {len cap : Nat} {x : DataW H × List MemPlace}
 (h : DataW.trod enc Tryz.prog w 0 spare held fuel 22 [.slice ad len cap] = some x) (hk : Rows.uptoBulk x.1 <= 1048576) :
 len = 0 ∨ ∃ blk off ops, ad = some ⟨blk, off, none⟩ ∧ len <= 1048576 ∧ D9 w blk off len ops ∧ nJ ops len <= 1048576 := by
 rcases open_slice Tryz.underlying22 h with ⟨hcs, _⟩ | ⟨a, len', cap', m, n, D, Pl, hcs, _, hlc, _, hmm, rfl, hx⟩
 . simp at hcs
   exact .inl hcs.2.1
 . simp at hcs
   obtain ⟨rfl, rfl, rfl⟩ := hcs
   by_cases h0 : len = 0
   . exact .inl h0
   right
   have hlm : len <= m := by rw [hmm]; split <;> omega
   simp only [Rows.uptoBulk] at hk
   have hlen : len <= Rows.uptoBulkAll ((List.range len).map D) := by
    have := length_le ((List.range len).map D) (fun d _ => one_le d)
    simpa using this
   rw [KO] at hx
   obtain ⟨blk, off, spot⟩ := a
   have hsp : spot = none := by
    obtain ⟨cs', h1, _⟩ := hx 0 (by omega)
    obtain ⟨_, hl', hc⟩ := World.cells?_some h1
    have e := hc 0 (by omega)
    have hz : ((⟨blk, off, spot⟩ : Addr).add (0 * 7)).add 0 = ⟨blk, off, spot⟩ := by simp [Addr.add]
    rw [hz, List.getElem?_eq_getElem (by omega)] at e
    exact World.cell?_spot e
   subst hsp
   have hops : ∀ i, i < len -> ∃ o : OpJ, (o.Ok w ∧ (∀ j, j < 7 -> w.cell? ⟨blk, off + i * 7 + j, none⟩ = o.vals[j]?) ∧ o.s.size + 8 <= Rows.uptoBulk (D i)) := by
    intro i hi
    obtain ⟨cs', h1, h2⟩ := hx i (by omega)
    obtain ⟨o, rfl, ho, ho2, hstr, r0, r1, r5⟩ := Qw h2
    refine ⟨o, ⟨?_, ?_, hstr, r0, r1, r5⟩, ?_, ho⟩
    . have hmem : D i ∈ (List.range len).map D := List.mem_map.2 ⟨i, List.mem_range.2 hi, rfl⟩
      have := KP hmem
      simp only at ho
      omega
    . have hmem : D i ∈ (List.range len).map D := List.mem_map.2 ⟨i, List.mem_range.2 hi, rfl⟩
      have := KP hmem
      simp only at ho2
      omega
    . intro j hj
      obtain ⟨_, hl', hc⟩ := World.cells?_some h1
      have e := hc j hj
      rw [add_plain, add_plain] at e
      exact e
   haveI : Inhabited OpJ := ⟨⟨0, 0, 0, ⟨#[]⟩, ⟨#[]⟩, 0, none, 0, 0, []⟩⟩
   obtain ⟨ops, hops⟩ := choose_lt hops
   refine ⟨blk, off, ops, rfl, by omega, ⟨?_, fun i hi => ⟨(hops i hi).1, (hops i hi).2.1⟩⟩, ?_⟩
   . obtain ⟨cs', h1, _⟩ := hx 0 (by omega)
     have := World.cells?_block h1 (by omega)
     simpa [Addr.add] using this
   . have := KR ops D len (fun i hi => (hops i hi).2.2)
     omega
end Go.Proofs.YtbkpdapagfjmmaaGreatDoor.Sc

namespace Go.Proofs.YtbkpdapagfjmmaaGreatDoor
open Go.RowKit
theorem pV {B : Nat} {w : World} {E : TypeId} {v : Value} {l : List Nat} {a b : Nat} (h : w.ownsRow B E 1 v l.length (l.map ptr)) (hl : l = [a, b]) : ∃ g cap t, v = .slice (some ⟨g, 0, none⟩) 2 cap ∧ B <= g ∧ 2 <= cap ∧ Is w g E (ptr a :: ptr b :: t) := by
 subst hl
 rcases h.2 with ⟨_, h0⟩ | ⟨g, cap, cur, rfl, hB, hg, hn, hc, hs, ht⟩
 . simp at h0
 . have hI : Is w g E cur.toList := by unfold Is; simpa using hg
   refine ⟨g, cap, cur.toList.drop 2, rfl, hB, hn, ?_⟩
   have e := List.take_append_drop 2 cur.toList
   have e2 : cur.toList.take 2 = [ptr a, ptr b] := by simpa using ht
   rw [e2] at e
   rw [<- e] at hI
   simpa using hI
def phi (q : Nat) : Nat := if q < 2 then 2 * q else 2 * (q - 2) + 1
theorem N9 (G : EG) (S : EV) (N k : Nat) (kd a b c : Int) (st tt : ByteArray) (ha : Option Addr) (hl hc : Nat) (l : List ByteArray) (w : World) (hI : EI G S N w) (hk : k < 2) (hN : N <= 2 ^ 36) (h8 : 8 <= kd) (h16 : kd <= 16) (hst : st.size <= 1048576) (hIa : I64 a) (D7 : l.length <= 2 ^ 40) (hSt : Strs w (.slice ha hl hc) l) (hSX : ∀ (x : Addr) (n c : Nat), Value.slice ha hl hc = .slice (some x) n c -> n ≠ 0 -> x.block < G.b0) :
 Calls Tryz.prog 30 #[.pointer (some ⟨G.M, 0, none⟩), .agg #[.int .i64 kd, .int .i64 a, .int .i64 b, .string st, .string tt, .int .i64 c, .slice ha hl hc], .int .i64 k] w (EPost G S (N + 1700 * (st.size + 8)) w) := by
 have later : ∀ M', M' <= N + 1700 * (st.size + 8) -> ∀ r W', EPost G S M' w r W' -> EPost G S (N + 1700 * (st.size + 8)) w r W' := by
  rintro M' hM r W' ⟨hr, S', h1, h2, h3⟩
  exact ⟨hr, S', h1, h2, h3.later hM⟩
 have Xw : -9223372036854775808 <= a ∧ a <= 9223372036854775807 := hIa
 obtain ⟨Xx, VG⟩ := Xw
 by_cases h9 : 9 <= kd ∧ kd <= 13
 . exact (KI G S N k kd a b c st tt ha hl hc w hI hk hN h9.1 h9.2 hIa l D7 hSt hSX).mono (later (N + 5000) (by omega))
 . have hkd : kd = 8 ∨ kd = 14 ∨ kd = 15 ∨ kd = 16 := by omega
   rcases hkd with rfl | rfl | rfl | rfl
   . by_cases hb : qJ a c
     . exact (D8 G S N k a b c st tt ha hl hc w hI hk hN hb).mono (later (N + 12800) (by omega))
     . obtain ⟨s, win, h1, h2, h3, h4, h5⟩ := H5 hb
       exact (Ih G S N k a b c st tt ha hl hc w hI hk hN s win h1 h2 h3 h4 h5).mono (later (N + 12800) (by omega))
   . exact (Ig G S N k a b c st tt ha hl hc w hI hk hN VG).mono (later (N) (by omega))
   . exact (KJ G S N k a b c st tt ha hl hc w hI hk hN (by omega)).mono (later (N + (2 * st.size + 10)) (by omega))
   . exact (KL G S N k a b c st tt ha hl hc w hI hk hN Xx VG (1 - k) (by omega) (by omega)).mono (later (N + 10) (by omega))
theorem Qx {w : World} {v : Value} {l : List ByteArray} (h : Strs w v l) (x : Addr) (n c : Nat) (e : v = .slice (some x) n c) (hn : n ≠ 0) : x.block < w.heap.size := by
 rcases h with ⟨rfl, a, c', rfl⟩ | ⟨g, o, cap, rfl, h2, h3⟩
 . cases e; exact absurd rfl hn
 . cases e; exact h2
theorem Oa (b : Int) : ∃ k : Nat, k < 2 ∧ bits .and .i64 b 1 = (k : Int) := by
 have h : ∀ x : BitVec 64, (x &&& 1#64).toNat = 0 ∨ (x &&& 1#64).toNat = 1 := by
  intro x
  rw [BitVec.toNat_and]
  have : (1#64).toNat = 2 ^ 1 - 1 := rfl
  rw [this, Nat.and_two_pow_sub_one_eq_mod]
  omega
 have e : bits .and .i64 b 1 = IntKind.i64.wrap (((BitVec.ofInt 64 b) &&& 1#64).toNat : Int) := rfl
 rw [e]
 rcases h (BitVec.ofInt 64 b) with h | h <;> rw [h]
 . exact ⟨0, by omega, rfl⟩
 . exact ⟨1, by omega, rfl⟩
end Go.Proofs.YtbkpdapagfjmmaaGreatDoor
