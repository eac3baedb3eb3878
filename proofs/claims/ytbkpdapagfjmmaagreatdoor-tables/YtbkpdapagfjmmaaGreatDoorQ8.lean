/-
  Walks: what a script of tables has made: two readers, two tables of each side.
-/
import Derived.Test.YtbkpdapagfjmmaaGreatDoorQ4
import Derived.Deep.RegionWith
import Derived.Deep.RegionLaw
namespace Go.Proofs.YtbkpdapagfjmmaaGreatDoor
open Go.RowKit

theorem info4R : (Tryz.prog.info? 133).map (fun i => (i.zero, i.size, i.bytes)) = some (some (.pointer none), 1, 8) := by kernel_rfl
theorem info4S : (Tryz.prog.info? 52).map (fun i => (i.zero, i.size, i.bytes)) = some (some (.pointer none), 1, 8) := by kernel_rfl
theorem info4T : (Tryz.prog.info? 135).map (fun i => (i.zero, i.size, i.bytes)) = some (some (.pointer none), 1, 8) := by kernel_rfl
theorem info4U : (Tryz.prog.info? 138).map (fun i => (i.zero, i.size, i.bytes)) = some (some (.pointer none), 1, 8) := by kernel_rfl

theorem newReader4 (w : World) : Calls Tryz.prog 51 #[] w fun r w' => r = .returned (.pointer (some ⟨w.heap.size, 0, none⟩)) ∧ w' = w.alloc (.cells #[.string ⟨#[]⟩, .int .i64 0, .int .i64 0] 85) := by
  go_enter Tryz.func51, Tryz.ntmps51
  go_wp2
  go_ret
  exact ⟨rfl, rfl⟩

theorem KeepsT.setAt {w : World} {M : Nat} {T : TypeId} {cs : List Value} (hM : Is w M T cs) (i : Nat) (x : Value) : KeepsT T w (w.setCell ⟨M, i, none⟩ x) := fun _ _ _ hT hI => hI.other _ _ (hI.ne hM hT)
theorem Tab.keepsE {w w' : World} {t B : Nat} {L : List Lk.Hd} {v : Value} {e : TypeId} (h : Tab w t B L v) (K : KeepsT e w w') (h1 : 90 ≠ e) (h2 : 112 ≠ e) : Tab w' t B L v := ⟨K _ _ _ h1 h.blk, K.own h2 h.own, h.le, h.hB⟩
theorem RTab.keepsE {w w' : World} {t B : Nat} {L : List Lk.Hd} {v : Value} {e : TypeId} (h : RTab w t B L v) (K : KeepsT e w w') (h1 : 196 ≠ e) (h2 : 206 ≠ e) : RTab w' t B L v := ⟨K _ _ _ h1 h.blk, K.own h2 h.own, h.le, h.hB⟩

/-- While they are made. -/
structure Making4 (b M bd : Nat) (pv : Value) (w : World) (vR vS vT vU : Value) (rs ss ts us : List Nat) : Prop where
  made : Is w M 132 [vR, vS, vT, vU, nilS, nilS, pv]
  R : w.ownsRow b 133 1 vR rs.length (rs.map ptr)
  S : w.ownsRow b 52 1 vS ss.length (ss.map ptr)
  T : w.ownsRow b 135 1 vT ts.length (ts.map ptr)
  U : w.ownsRow b 138 1 vU us.length (us.map ptr)
  tab : ∀ x ∈ ts, b ≤ x ∧ Tab w x bd [] nilS
  rtab : ∀ x ∈ us, b ≤ x ∧ RTab w x bd [] nilS
  ndt : ts.Nodup
  ndu : us.Nodup

section
variable {b M bd : Nat} {pv : Value} {w w1 : World} {vR vS vT vU : Value} {rs ss ts us : List Nat}

theorem Making4.below (h : Making4 b M bd pv w vR vS vT vU rs ss ts us) (hb : Below w.heap.size w w1) : Making4 b M bd pv w1 vR vS vT vU rs ss ts us :=
  ⟨h.made.below hb h.made.lt, own_below h.R hb, own_below h.S hb, own_below h.T hb, own_below h.U hb, fun x hx => ⟨(h.tab x hx).1, (h.tab x hx).2.below hb⟩, fun x hx => ⟨(h.rtab x hx).1, (h.rtab x hx).2.below hb⟩, h.ndt, h.ndu⟩

theorem nodup_snoc {l : List Nat} {x : Nat} (h : l.Nodup) (hx : x ∉ l) : (l ++ [x]).Nodup := by
  rw [List.nodup_append]
  refine ⟨h, by simp, ?_⟩
  intro a ha c hc e
  simp at hc
  subst hc
  subst e
  exact hx ha

theorem Making4.pushR {x : Nat} {v2 : Value} (h : Making4 b M bd pv w vR vS vT vU rs ss ts us) (K : KeepsT 133 w w1) (ho : w1.ownsRow b 133 1 v2 (rs.length + 1) (rs.map ptr ++ [ptr x])) :
    Making4 b M bd pv (w1.setCell ⟨M, 0, none⟩ v2) v2 vS vT vU (rs ++ [x]) ss ts us := by
  have hM1 := K _ _ _ (Nat.ne_of_beq_eq_false rfl) h.made
  have K2 := KeepsT.setAt hM1 0 v2
  refine ⟨hM1.set 0 v2, K2.own (Nat.ne_of_beq_eq_false rfl) (by simpa using ho), K2.own (Nat.ne_of_beq_eq_false rfl) (K.own (Nat.ne_of_beq_eq_false rfl) h.S), K2.own (Nat.ne_of_beq_eq_false rfl) (K.own (Nat.ne_of_beq_eq_false rfl) h.T), K2.own (Nat.ne_of_beq_eq_false rfl) (K.own (Nat.ne_of_beq_eq_false rfl) h.U), fun y hy => ⟨(h.tab y hy).1, (((h.tab y hy).2.keepsE K (Nat.ne_of_beq_eq_false rfl) (Nat.ne_of_beq_eq_false rfl)).keepsE K2 (Nat.ne_of_beq_eq_false rfl) (Nat.ne_of_beq_eq_false rfl))⟩, fun y hy => ⟨(h.rtab y hy).1, (((h.rtab y hy).2.keepsE K (Nat.ne_of_beq_eq_false rfl) (Nat.ne_of_beq_eq_false rfl)).keepsE K2 (Nat.ne_of_beq_eq_false rfl) (Nat.ne_of_beq_eq_false rfl))⟩, h.ndt, h.ndu⟩

theorem Making4.pushS {x : Nat} {v2 : Value} (h : Making4 b M bd pv w vR vS vT vU rs ss ts us) (K : KeepsT 52 w w1) (ho : w1.ownsRow b 52 1 v2 (ss.length + 1) (ss.map ptr ++ [ptr x])) :
    Making4 b M bd pv (w1.setCell ⟨M, 1, none⟩ v2) vR v2 vT vU rs (ss ++ [x]) ts us := by
  have hM1 := K _ _ _ (Nat.ne_of_beq_eq_false rfl) h.made
  have K2 := KeepsT.setAt hM1 1 v2
  refine ⟨hM1.set 1 v2, K2.own (Nat.ne_of_beq_eq_false rfl) (K.own (Nat.ne_of_beq_eq_false rfl) h.R), K2.own (Nat.ne_of_beq_eq_false rfl) (by simpa using ho), K2.own (Nat.ne_of_beq_eq_false rfl) (K.own (Nat.ne_of_beq_eq_false rfl) h.T), K2.own (Nat.ne_of_beq_eq_false rfl) (K.own (Nat.ne_of_beq_eq_false rfl) h.U), fun y hy => ⟨(h.tab y hy).1, (((h.tab y hy).2.keepsE K (Nat.ne_of_beq_eq_false rfl) (Nat.ne_of_beq_eq_false rfl)).keepsE K2 (Nat.ne_of_beq_eq_false rfl) (Nat.ne_of_beq_eq_false rfl))⟩, fun y hy => ⟨(h.rtab y hy).1, (((h.rtab y hy).2.keepsE K (Nat.ne_of_beq_eq_false rfl) (Nat.ne_of_beq_eq_false rfl)).keepsE K2 (Nat.ne_of_beq_eq_false rfl) (Nat.ne_of_beq_eq_false rfl))⟩, h.ndt, h.ndu⟩

theorem Making4.pushT {x : Nat} {v2 : Value} (h : Making4 b M bd pv w vR vS vT vU rs ss ts us) (K : KeepsT 135 w w1) (ho : w1.ownsRow b 135 1 v2 (ts.length + 1) (ts.map ptr ++ [ptr x])) (hx : Tab w x bd [] nilS) (hbx : b ≤ x) (hnx : x ∉ ts) :
    Making4 b M bd pv (w1.setCell ⟨M, 2, none⟩ v2) vR vS v2 vU rs ss (ts ++ [x]) us := by
  have hM1 := K _ _ _ (Nat.ne_of_beq_eq_false rfl) h.made
  have K2 := KeepsT.setAt hM1 2 v2
  refine ⟨hM1.set 2 v2, K2.own (Nat.ne_of_beq_eq_false rfl) (K.own (Nat.ne_of_beq_eq_false rfl) h.R), K2.own (Nat.ne_of_beq_eq_false rfl) (K.own (Nat.ne_of_beq_eq_false rfl) h.S), K2.own (Nat.ne_of_beq_eq_false rfl) (by simpa using ho), K2.own (Nat.ne_of_beq_eq_false rfl) (K.own (Nat.ne_of_beq_eq_false rfl) h.U), fun y hy => ?_, fun y hy => ⟨(h.rtab y hy).1, (((h.rtab y hy).2.keepsE K (Nat.ne_of_beq_eq_false rfl) (Nat.ne_of_beq_eq_false rfl)).keepsE K2 (Nat.ne_of_beq_eq_false rfl) (Nat.ne_of_beq_eq_false rfl))⟩, nodup_snoc h.ndt hnx, h.ndu⟩
  rcases List.mem_append.1 hy with hy | hy
  · exact ⟨(h.tab y hy).1, (((h.tab y hy).2.keepsE K (Nat.ne_of_beq_eq_false rfl) (Nat.ne_of_beq_eq_false rfl)).keepsE K2 (Nat.ne_of_beq_eq_false rfl) (Nat.ne_of_beq_eq_false rfl))⟩
  · simp at hy
    subst hy
    exact ⟨hbx, ((hx.keepsE K (Nat.ne_of_beq_eq_false rfl) (Nat.ne_of_beq_eq_false rfl)).keepsE K2 (Nat.ne_of_beq_eq_false rfl) (Nat.ne_of_beq_eq_false rfl))⟩

theorem Making4.pushU {x : Nat} {v2 : Value} (h : Making4 b M bd pv w vR vS vT vU rs ss ts us) (K : KeepsT 138 w w1) (ho : w1.ownsRow b 138 1 v2 (us.length + 1) (us.map ptr ++ [ptr x])) (hx : RTab w x bd [] nilS) (hbx : b ≤ x) (hnx : x ∉ us) :
    Making4 b M bd pv (w1.setCell ⟨M, 3, none⟩ v2) vR vS vT v2 rs ss ts (us ++ [x]) := by
  have hM1 := K _ _ _ (Nat.ne_of_beq_eq_false rfl) h.made
  have K2 := KeepsT.setAt hM1 3 v2
  refine ⟨hM1.set 3 v2, K2.own (Nat.ne_of_beq_eq_false rfl) (K.own (Nat.ne_of_beq_eq_false rfl) h.R), K2.own (Nat.ne_of_beq_eq_false rfl) (K.own (Nat.ne_of_beq_eq_false rfl) h.S), K2.own (Nat.ne_of_beq_eq_false rfl) (K.own (Nat.ne_of_beq_eq_false rfl) h.T), K2.own (Nat.ne_of_beq_eq_false rfl) (by simpa using ho), fun y hy => ⟨(h.tab y hy).1, (((h.tab y hy).2.keepsE K (Nat.ne_of_beq_eq_false rfl) (Nat.ne_of_beq_eq_false rfl)).keepsE K2 (Nat.ne_of_beq_eq_false rfl) (Nat.ne_of_beq_eq_false rfl))⟩, fun y hy => ?_, h.ndt, nodup_snoc h.ndu hnx⟩
  rcases List.mem_append.1 hy with hy | hy
  · exact ⟨(h.rtab y hy).1, (((h.rtab y hy).2.keepsE K (Nat.ne_of_beq_eq_false rfl) (Nat.ne_of_beq_eq_false rfl)).keepsE K2 (Nat.ne_of_beq_eq_false rfl) (Nat.ne_of_beq_eq_false rfl))⟩
  · simp at hy
    subst hy
    exact ⟨hbx, ((hx.keepsE K (Nat.ne_of_beq_eq_false rfl) (Nat.ne_of_beq_eq_false rfl)).keepsE K2 (Nat.ne_of_beq_eq_false rfl) (Nat.ne_of_beq_eq_false rfl))⟩

theorem two_of4 {rs : List Nat} (h : rs.length = 2) : ∃ a b, rs = [a, b] := by
  match rs, h with
  | [a, b], _ => exact ⟨a, b, rfl⟩
theorem row_of4 {B : Nat} {w : World} {E : TypeId} {v : Value} {a b : Nat} (h : w.ownsRow B E 1 v [a, b].length ([a, b].map ptr)) : ∃ g cap t, v = .slice (some ⟨g, 0, none⟩) 2 cap ∧ B ≤ g ∧ 2 ≤ cap ∧ Is w g E (ptr a :: ptr b :: t) := by
  rcases h.2 with ⟨_, h0⟩ | ⟨g, cap, cur, rfl, hB, hg, hn, hc, hs, ht⟩
  · simp at h0
  · have hI : Is w g E cur.toList := by unfold Is; simpa using hg
    refine ⟨g, cap, cur.toList.drop 2, rfl, hB, hn, ?_⟩
    have e := List.take_append_drop 2 cur.toList
    have e2 : cur.toList.take 2 = [ptr a, ptr b] := by simpa using ht
    rw [e2] at e
    rw [← e] at hI
    simpa using hI

theorem Making4.rigs (h : Making4 b M bd pv w vR vS vT vU rs ss ts us) (h0 : 0 < b) (hM : b ≤ M) (ht : ts.length = 2) (hu : us.length = 2) (hfx : Fx w) : ∃ gT gU cT cU t u, Rigs b M gT gU cT cU vR vS pv t u (fun _ => bd) (fun _ => []) (fun _ => []) w := by
  obtain ⟨t0, t1, rfl⟩ := two_of4 ht
  obtain ⟨u0, u1, rfl⟩ := two_of4 hu
  obtain ⟨gT, cT, tT, rfl, a1, a2, a3⟩ := row_of4 h.T
  obtain ⟨gU, cU, tU, rfl, c1, c2, c3⟩ := row_of4 h.U
  have e0 := h.tab t0 (by simp)
  have e1 := h.tab t1 (by simp)
  have f0 := h.rtab u0 (by simp)
  have f1 := h.rtab u1 (by simp)
  have n1 := h.ndt
  have n2 := h.ndu
  simp at n1 n2
  have two : ∀ (p : Nat → Prop), p 0 → p 1 → ∀ k, k < 2 → p k := fun p p0 p1 k hk => match k, hk with
    | 0, _ => p0
    | 1, _ => p1
  refine ⟨gT, gU, cT, cU, fun k => if k = 0 then t0 else t1, fun k => if k = 0 then u0 else u1, h.made, ⟨tT, a3⟩, ⟨tU, c3⟩, two _ ⟨_, e0.2⟩ ⟨_, e1.2⟩, two _ ⟨_, f0.2⟩ ⟨_, f1.2⟩, ?_, ?_, hM, a1, c1, two _ e0.1 e1.1, two _ f0.1 f1.1, hfx, h0, a2, c2⟩
  · intro j k hj hk e
    match j, k, hj, hk with
    | 0, 0, _, _ => exact absurd rfl e
    | 0, 1, _, _ => exact n1
    | 1, 0, _, _ => exact Ne.symm n1
    | 1, 1, _, _ => exact absurd rfl e
  · intro j k hj hk e
    match j, k, hj, hk with
    | 0, 0, _, _ => exact absurd rfl e
    | 0, 1, _, _ => exact n2
    | 1, 0, _, _ => exact Ne.symm n2
    | 1, 1, _, _ => exact absurd rfl e
end
end Go.Proofs.YtbkpdapagfjmmaaGreatDoor
