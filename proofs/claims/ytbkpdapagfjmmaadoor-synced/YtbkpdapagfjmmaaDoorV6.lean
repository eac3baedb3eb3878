/-
  Walks: Expand.
-/
import Derived.Test.YtbkpdapagfjmmaaDoorV5
namespace Go.Proofs.YtbkpdapagfjmmaaDoor
open Go.RowKit

def XPost (w : World) (t B : Nat) (X : Lk.XR) (e : Ending) (w' : World) : Prop :=
  match X with
  | .ok hs L2 => (∃ lv v', e = .returned (.tuple #[lv, .int .i64 0, .int .i64 0]) ∧ w'.ownsRow w.heap.size 44 2 lv hs.length (hdsV hs) ∧ Tab w' t B L2 v' ∧ (lv.ownBlock = none ∨ lv.ownBlock ≠ v'.ownBlock) ∧ hs.length ≤ 6) ∧ Turns t w w'
  | .err ec q => e = .returned (.tuple #[.slice none 0 0, .int .i64 (ec : Int), .int .i64 (q : Int)]) ∧ Below w.heap.size w w'

namespace Lk
theorem exR_err (B : Nat) (s : Bs) : ∀ (n : Nat) (L : List Hd) (p e q : Nat), exR B s n L p = .err e q → e = 8 ∨ e = 9
  | 0, L, p, e, q, h => by
    rw [exR] at h
    split at h
    · cases h
    · cases h; exact .inl rfl
  | n + 1, L, p, e, q, h => by
    rw [exR] at h
    split at h
    · cases h
    · cases hp : partR B L s p with
      | bad q' => rw [hp] at h; cases h; exact .inr rfl
      | ok hl q' =>
        rw [hp] at h
        simp only at h
        cases hx : exR B s n hl.2 q' with
        | ok a b => rw [hx] at h; cases h
        | err e' q2 =>
          rw [hx] at h
          cases h
          exact exR_err B s n hl.2 q' _ _ hx
end Lk

set_option maxHeartbeats 1000000 in
set_option maxRecDepth 100000 in
theorem expand_any (t B : Nat) (L : List Lk.Hd) (v : Value) (s : ByteArray) (w : World) (hs : s.size ≤ 2 ^ 48) (hT : Tab w t B L v) (hfx : Fx w) (X : Lk.XR) (HX : Hid (Lk.exR B s.data.toList 6 L 0 = X)) :
    Calls Tryd.prog 14 #[.pointer (some ⟨t, 0, none⟩), .string s] w (XPost w t B X) := by
  obtain ⟨va, vcap, hv⟩ := own_form hT.own
  generalize hvn : L.length = vn at hv
  subst hv
  have h0 := hfx.1
  have HVN := hide hvn
  clear hvn
  have hI0 := Is.new w 70 [.string s, .int .i64 0, weighV, .int .i64 ((B : Int) - Lk.weights L), .slice va vn vcap]
  have hb0 := (Below.refl w.heap.size w).alloc (Nat.le_refl _) (.cells #[.string s, .int .i64 0, weighV, .int .i64 ((B : Int) - Lk.weights L), .slice va vn vcap] 70)
  have hK0 : Blk (w.alloc (.cells #[.string s, .int .i64 0, weighV, .int .i64 ((B : Int) - Lk.weights L), .slice va vn vcap] 70)) w.heap.size s 0 B L (.slice va vn vcap) :=
    ⟨hI0, hT.own.alloc _, hT.le, hT.hB, hfx.below hb0 h0, by omega⟩
  have HC := hide (bheaders_any w.heap.size s 0 B L (.slice va vn vcap) _ hs (Nat.zero_le _) hK0 X HX)
  have c0 := hT.blk.cell 0
  have c1 := hT.blk.cell 1
  have c2 := hT.blk.cell 2
  simp only [List.getElem?_cons_zero, List.getElem?_cons_succ] at c0 c1 c2
  have htl := hT.blk.lt
  have HT := hide hT
  have HB0 := hide hb0
  clear hI0 hK0 hT hb0
  go_enter Tryd.func14, Tryd.ntmps14
  go_wp2_with fail
  refine (unhide HC).mono ?_
  rintro e w1 ⟨hm, hT1⟩
  have hbel : Below w.heap.size w w1 := Turns.toBelow (unhide HB0) hT1 (Nat.le_refl _) (by simp)
  cases X with
  | err ec q =>
    obtain ⟨rfl, L', v', hK1⟩ := hm
    have hec : ((ec : Int) != 0) = true := by
      rw [bne_iff_ne]
      rcases Lk.exR_err _ _ _ _ _ _ _ (unhide HX) with rfl | rfl <;> decide
    have d1 := hK1.blk.cell 1
    simp only [List.getElem?_cons_zero, List.getElem?_cons_succ] at d1
    clear hK1
    go_wp2_with fail
    go_quiet (fail)
    go_wp2_with fail
    go_ret3
    exact ⟨rfl, Below.drewN hbel _⟩
  | ok hl L2 =>
    obtain ⟨lv, q, v', rfl, ho1, hK1, hdis, hl6⟩ := hm
    obtain ⟨wa, wcap, hv'⟩ := own_form hK1.own
    generalize hwn : L2.length = wn at hv'
    subst hv'
    clear hwn
    have hTab1 := (unhide HT).below hbel
    have hne : t ≠ w.heap.size := by omega
    have d2 := hK1.blk.cell 2
    have d3 := hK1.blk.cell 3
    have d4 := hK1.blk.cell 4
    have e0 := hTab1.blk.cell 0
    have e1 := hTab1.blk.cell 1
    have e2 := hTab1.blk.cell 2
    have f0 := hTab1.blk.free 0
    have f1 := hTab1.blk.free 1
    have f2 := hTab1.blk.free 2
    simp only [List.getElem?_cons_zero, List.getElem?_cons_succ] at d2 d3 d4 e0 e1 e2
    have HK1 := hide hK1
    have HTab1 := hide hTab1
    have HO1 := hide ho1
    clear hK1 hTab1 ho1
    go_wp2_with fail
    go_ret3
    have hTT := (((Below.turns hbel t).set 0 weighV).set 1 (.int .i64 ((B : Int) - Lk.weights L2))).set 2 (.slice wa wn wcap)
    have hg : w1.grownBy _ (some t) := (((Turns.refl t w1).set 0 weighV).set 1 (.int .i64 ((B : Int) - Lk.weights L2))).set 2 (.slice wa wn wcap)
    have hob := own_base (B := w.heap.size) (by simp) (unhide HO1)
    refine ⟨⟨lv, _, rfl, own_turns hob (unhide HTab1).blk (Nat.ne_of_beq_eq_false rfl) hg, ⟨?_, own_turns (unhide HK1).own (unhide HTab1).blk (Nat.ne_of_beq_eq_false rfl) hg, (unhide HK1).le, (unhide HK1).hB⟩, hdis, hl6⟩, hTT⟩
    exact (((unhide HTab1).blk.set 0 weighV).set 1 (.int .i64 ((B : Int) - Lk.weights L2))).set 2 (.slice wa wn wcap)
end Go.Proofs.YtbkpdapagfjmmaaDoor
