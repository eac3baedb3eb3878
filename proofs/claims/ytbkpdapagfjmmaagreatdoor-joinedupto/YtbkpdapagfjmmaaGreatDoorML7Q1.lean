import Derived.Test.YtbkpdapagfjmmaaGreatDoorML3L4
import Derived.Test.YtbkpdapagfjmmaaGreatDoorML5L6
import Derived.Test.YtbkpdapagfjmmaaGreatDoorMV4V5
import Derived.Test.YtbkpdapagfjmmaaGreatDoorMV6FH
/-
  Walks: the document's blocks: a part.
-/
namespace Go.Proofs.YtbkpdapagfjmmaaGreatDoor
open Go.RowKit

/-- Nothing that was there has turned but blocks b and u. -/
structure Two (b u : Nat) (w w' : World) : Prop where
  os : w'.os = w.os
  tape : w'.tape = w.tape
  output : w'.output = w.output
  size : w.heap.size ≤ w'.heap.size
  block : ∀ k, k < w.heap.size → k ≠ b → k ≠ u → w'.heap[k]? = w.heap[k]?

theorem Two.refl (b u : Nat) (w : World) : Two b u w w := ⟨rfl, rfl, rfl, Nat.le_refl _, fun _ _ _ _ => rfl⟩
theorem Two.trans {b u : Nat} {w w1 w2 : World} (h : Two b u w w1) (k : Two b u w1 w2) : Two b u w w2 :=
  ⟨k.os.trans h.os, k.tape.trans h.tape, k.output.trans h.output, Nat.le_trans h.size k.size, fun i hi h1 h2 => (k.block i (Nat.lt_of_lt_of_le hi h.size) h1 h2).trans (h.block i hi h1 h2)⟩
theorem Two.ofB {b u : Nat} {w w' : World} (h : Turns b w w') : Two b u w w' := ⟨h.os, h.tape, h.output, h.size, fun k hk h1 _ => h.block k hk (by simpa using h1)⟩
theorem Two.ofU {b u : Nat} {w w' : World} (h : Turns u w w') : Two b u w w' := ⟨h.os, h.tape, h.output, h.size, fun k hk _ h2 => h.block k hk (by simpa using h2)⟩
theorem Two.below {b u : Nat} {w w1 w2 : World} (h : Two b u w w1) (k : Below w1.heap.size w1 w2) : Two b u w w2 := h.trans (Two.ofB (Below.turns k b))
theorem Two.alloc {b u : Nat} {w w1 : World} (h : Two b u w w1) (o : Obj) : Two b u w (w1.alloc o) := h.below ((Below.refl _ _).alloc (Nat.le_refl _) o)
theorem Two.drewN {b u : Nat} {w w1 : World} (h : Two b u w w1) (n : Nat) : Two b u w (w1.drewN n) := ⟨h.os, h.tape, h.output, h.size, h.block⟩
theorem Two.setFar {b u : Nat} {w w1 : World} (h : Two b u w w1) {a : Addr} (ha : w.heap.size ≤ a.block) (x : Value) : Two b u w (w1.setCell a x) :=
  ⟨h.os, h.tape, h.output, by simpa using h.size, fun k hk h1 h2 => (heap_setCell_other _ _ _ _ (by omega)).trans (h.block k hk h1 h2)⟩
theorem Two.is {b u i : Nat} {w w' : World} {T : TypeId} {cs : List Value} (h : Two b u w w') (hI : Is w i T cs) (h1 : i ≠ b) (h2 : i ≠ u) : Is w' i T cs := by
  unfold Is
  rw [h.block i hI.lt h1 h2]
  exact hI
theorem Two.own {b u : Nat} {w w' : World} {B size n : Nat} {e : TypeId} {v : Value} {xs : List Value} (h : Two b u w w') (ho : w.ownsRow B e size v n xs) (h1 : some b ≠ v.ownBlock) (h2 : some u ≠ v.ownBlock) : w'.ownsRow B e size v n xs := by
  refine ⟨ho.1, ?_⟩
  rcases ho.2 with h0 | ⟨g, cap, cur, rfl, hB, hg, h3⟩
  · exact .inl h0
  · simp [Value.ownBlock] at h1 h2
    exact .inr ⟨g, cap, cur, rfl, hB, (h.block g (lt_of_block hg) (fun e => h1 e.symm) (fun e => h2 e.symm)).trans hg, h3⟩
theorem Two.toBelow {b u B : Nat} {w w1 w2 : World} (h : Below B w w1) (k : Two b u w1 w2) (hb : B ≤ b) (hu : B ≤ u) (hB : B ≤ w1.heap.size) : Below B w w2 :=
  h.trans ⟨k.os, k.tape, k.output, k.size, fun i hi => k.block i (by omega) (by omega) (by omega)⟩

theorem RTab.turns {w w' : World} {t u B : Nat} {L : List Lk.Hd} {v : Value} {cs : List Value} {T : TypeId} (h : RTab w t B L v) (hT : Turns u w w') (hI : Is w u T cs) (h1 : T ≠ 206) (hne : t ≠ u) : RTab w' t B L v :=
  ⟨h.blk.grown hT (by simpa using hne), rown_turns h.own hI h1 hT, h.le, h.hB⟩

namespace Lk
theorem partR_ge {B : Nat} {L : List Hd} {s : Bs} {p : Nat} {hl : Hd × List Hd} {q : Nat} (hp : p ≤ s.length) (hL : weights L ≤ B) (hB : B ≤ 200) (h : partR B L s p = .ok hl q) : p < q ∧ q ≤ s.length := by
  unfold partR at h
  cases hn : numR s p with
  | bad q => rw [hn] at h; cases h
  | ok n q1 =>
    have hq := numR_ge hp hn
    rw [hn] at h
    simp only at h
    split at h
    · unfold entR at h
      cases he : (ents L)[n / 2]? with
      | none => rw [he] at h; cases h
      | some x => rw [he] at h; cases h; exact hq
    · cases hf : freshR L (n / 2) s q1 with
      | bad q => rw [hf] at h; cases h
      | ok x q2 =>
        rw [hf] at h
        cases h
        have h5 := (freshR_len hL hB hq.2 hf).2.2
        have h6 := freshR_ge hq.2 hf
        omega
end Lk

/-- What a part leaves. -/
def PaPost (w : World) (b u : Nat) (s : ByteArray) (B : Nat) (v : Value) (R : Lk.PR (Lk.Hd × List Lk.Hd)) (e : Ending) (w' : World) : Prop :=
  (match R with
    | .ok hl q => e = .returned (hdA hl.1) ∧ RB w' b s q (-1) ∧ ∃ v', RTab w' u B hl.2 v' ∧ NewOr w.heap.size v v'
    | .bad q => (∃ x, e = .returned (hdA x)) ∧ ∃ p', RB w' b s p' q) ∧ Two b u w w'

theorem RB.other {w : World} {b : Nat} {s : ByteArray} {p : Nat} {z : Int} (h : RB w b s p z) (a : Addr) (x : Value) (hne : b ≠ a.block) : RB (w.setCell a x) b s p z := Is.other h a x hne
theorem RB.alloc {w : World} {b : Nat} {s : ByteArray} {p : Nat} {z : Int} (h : RB w b s p z) (o : Obj) : RB (w.alloc o) b s p z := Is.alloc h o
theorem RB.below {w w' : World} {b : Nat} {s : ByteArray} {p : Nat} {z : Int} (h : RB w b s p z) (hb : Below w.heap.size w w') : RB w' b s p z := Is.below h hb (Is.lt h)
theorem RB.set1 {w : World} {b : Nat} {s : ByteArray} {p : Nat} {z : Int} (h : RB w b s p z) : b < w.heap.size := Is.lt h

theorem RTab.far {w : World} {u B H : Nat} {L : List Lk.Hd} {v : Value} (h : RTab w u B L v) (hne : ∀ k, v.ownBlock = some k → k ≠ H) (hu : u ≠ H) (i : Nat) (x : Value) : RTab (w.setCell ⟨H, i, none⟩ x) u B L v := by
  refine ⟨h.blk.other _ _ hu, h.own.kept (grownBy_set w H i x) ?_, h.le, h.hB⟩
  cases hv : Value.ownBlock v with
  | none => exact .inl rfl
  | some k => exact .inr (by have := hne k hv; simpa using this)

set_option maxHeartbeats 1000000 in
set_option maxRecDepth 100000 in
theorem rbpart_none (b u : Nat) (s : ByteArray) (p q B : Nat) (L : List Lk.Hd) (v : Value) (w : World) (hs : s.size ≤ 2 ^ 48) (hp : p ≤ s.size) (hI : RB w b s p (-1)) (hT : RTab w u B L v) (hn : Lk.numR s.data.toList p = .bad q) :
    Calls Tryz.prog 105 #[.pointer (some ⟨b, 0, none⟩), .pointer (some ⟨u, 0, none⟩)] w (PaPost w b u s B v (.bad q)) := by
  have hC := rbnumber_any b s p (w.alloc (.cells #[.string ⟨#[]⟩, .string ⟨#[]⟩] 206)) hs hp (hI.alloc _)
  rw [hn] at hC
  have HC := hide hC
  have HX := hide (Is.new w 206 [.string ⟨#[]⟩, .string ⟨#[]⟩])
  have hT0 := (Two.refl b u w).alloc (.cells #[.string ⟨#[]⟩, .string ⟨#[]⟩] 206)
  have hbl : b < w.heap.size := Is.lt hI
  have hq : (0 : Int) ≤ q := by omega
  have HT := hide (hT.alloc (.cells #[.string ⟨#[]⟩, .string ⟨#[]⟩] 206))
  have HN := hide (hT.blk.ne hI (Nat.ne_of_beq_eq_false rfl))
  have HI0 := hide (hI.alloc (.cells #[.string ⟨#[]⟩, .string ⟨#[]⟩] 206))
  clear hI hn hC hT
  go_enter Tryz.func105, Tryz.ntmps105
  go_wp2_with fail
  refine (unhide HC).mono ?_
  rintro e w1 ⟨⟨rfl, hI1⟩, hT1⟩
  have HX1 := hide ((unhide HX).grown hT1 (by simp; omega))
  have HT1 := hide ((unhide HT).turns hT1 (unhide HI0) (Nat.ne_of_beq_eq_false rfl) (unhide HN))
  have HI1 := hide hI1
  have hTT1 := hT0.trans (Two.ofB (u := u) hT1)
  clear hI1 hT1
  go_wp2_with fail
  refine (rall_any u B L v _ (unhide HT1)).mono ?_
  rintro e w2 ⟨v2, rfl, _, hb2⟩
  have hX2 := (unhide HX1).below hb2 (unhide HX1).lt
  have hI2 := (unhide HI1).below hb2
  have hTT2 := hTT1.below hb2
  have c2 : w2.cell? ⟨b, 2, none⟩ = some (.int .i64 q) := hI2.cell 2
  have c0 := hX2.cell 0
  have c1 := hX2.cell 1
  have f0 := hX2.free 0
  have f1 := hX2.free 1
  have hXl := hX2.lt
  simp only [List.getElem?_cons_zero, List.getElem?_cons_succ] at c0 c1
  have HI2 := hide hI2
  clear hI2 hX2 hb2
  have hTT := (hTT2.setFar (a := ⟨w.heap.size, 0, none⟩) (Nat.le_refl _) (.string (bs zeroHd.n))).setFar (a := ⟨w.heap.size, 1, none⟩) (Nat.le_refl _) (.string (bs zeroHd.v))
  go_wp2_with fail
  exact bodyPost_ret (v := hdA zeroHd) (by simp [results, Tryz.results105, go_sem, c0, c1, zeroHd, bs]) rfl ⟨⟨⟨zeroHd, rfl⟩, p, ((unhide HI2).other _ _ (by simp; omega)).other _ _ (by simp; omega)⟩, hTT⟩

set_option maxHeartbeats 2000000 in
set_option maxRecDepth 100000 in
theorem rbpart_even (b u : Nat) (s : ByteArray) (p n q B : Nat) (L : List Lk.Hd) (v : Value) (w : World) (hs : s.size ≤ 2 ^ 48) (hp : p ≤ s.size) (hI : RB w b s p (-1)) (hT : RTab w u B L v) (hn : Lk.numR s.data.toList p = .ok n q) (h2 : n % 2 = 0) :
    Calls Tryz.prog 105 #[.pointer (some ⟨b, 0, none⟩), .pointer (some ⟨u, 0, none⟩)] w (PaPost w b u s B v (match Lk.entR L (n / 2) q with | .ok h q => .ok (h, L) q | .bad q => .bad q)) := by
  have hC := rbnumber_any b s p (w.alloc (.cells #[.string ⟨#[]⟩, .string ⟨#[]⟩] 206)) hs hp (hI.alloc _)
  rw [hn] at hC
  have hq := Lk.numR_ge (by rw [← size_list]; exact hp) hn
  rw [← size_list] at hq
  have hnl := Lk.numR_le hn
  have HC := hide hC
  have HX := hide (Is.new w 206 [.string ⟨#[]⟩, .string ⟨#[]⟩])
  have hT0 := (Two.refl b u w).alloc (.cells #[.string ⟨#[]⟩, .string ⟨#[]⟩] 206)
  have hbl : b < w.heap.size := Is.lt hI
  have hul := hT.blk.lt
  have HT := hide (hT.alloc (.cells #[.string ⟨#[]⟩, .string ⟨#[]⟩] 206))
  have HVL := hide (fun k (hk : v.ownBlock = some k) => (hT.own.lt k hk).2)
  have HN := hide (hT.blk.ne hI (Nat.ne_of_beq_eq_false rfl))
  have HI0 := hide (hI.alloc (.cells #[.string ⟨#[]⟩, .string ⟨#[]⟩] 206))
  have hr : Int.tmod (n : Int) 2 = 0 := by rw [rem2, h2]; rfl
  generalize hRR : (match Lk.entR L (n / 2) q with | .ok h q => Lk.PR.ok (h, L) q | .bad q => .bad q) = RR
  have HRR := hide hRR
  clear hRR
  have hd := quo2 n
  clear hI hn hC hT
  go_enter Tryz.func105, Tryz.ntmps105
  go_wp2_with fail
  refine (unhide HC).mono ?_
  rintro e w1 ⟨⟨rfl, hI1⟩, hT1⟩
  have HX1 := hide ((unhide HX).grown hT1 (by simp; omega))
  have HT1 := hide ((unhide HT).turns hT1 (unhide HI0) (Nat.ne_of_beq_eq_false rfl) (unhide HN))
  have HI1 := hide hI1
  have hTT1 := hT0.trans (Two.ofB (u := u) hT1)
  clear hI1 hT1
  go_wp2_with fail
  refine (rall_any u B L v _ (unhide HT1)).mono ?_
  rintro e w2 ⟨v2, rfl, ho2, hb2⟩
  have hX2 := (unhide HX1).below hb2 (unhide HX1).lt
  have hI2 := (unhide HI1).below hb2
  have hTT2 := hTT1.below hb2
  have HT2 := hide ((unhide HT1).below hb2)
  have c2 : w2.cell? ⟨b, 2, none⟩ = some (.int .i64 (-1)) := hI2.cell 2
  have c1 : w2.cell? ⟨b, 1, none⟩ = some (.int .i64 q) := hI2.cell 1
  have x0 := hX2.cell 0
  have x1 := hX2.cell 1
  have f0 := hX2.free 0
  have f1 := hX2.free 1
  have hXl := hX2.lt
  simp only [List.getElem?_cons_zero, List.getElem?_cons_succ] at x0 x1
  obtain ⟨la, lc, hlv⟩ := row_form ho2
  subst hlv
  have HO2 := hide ho2
  have HI2 := hide hI2
  have HX2 := hide hX2
  have HB2 := hide hb2
  clear hI2 hX2 hb2 ho2
  by_cases hlt : n / 2 < (Lk.ents L).length
  · obtain ⟨x, hx⟩ : ∃ x, (Lk.ents L)[n / 2]? = some x := ⟨_, List.getElem?_eq_getElem hlt⟩
    have hR : RR = .ok (x, L) q := by rw [← unhide HRR]; unfold Lk.entR; rw [hx]
    subst hR
    clear HRR
    obtain ⟨g, gc, hform, _⟩ := (unhide HO2).form (by omega)
    cases hform
    obtain ⟨hg2, y0, y1⟩ := row_at2 (unhide HO2) hx
    generalize hm : n / 2 = m at *
    have HM := hide hm
    have hm9 : m ≤ 134217728 := by omega
    have hlt' : ¬ ((Lk.ents L).length : Int) ≤ (m : Int) := by omega
    have hlt2 : (m : Int) < (Lk.ents L).length := by omega
    clear hx hm
    have hTT := (hTT2.setFar (a := ⟨w.heap.size, 0, none⟩) (Nat.le_refl _) (.string (bs x.n))).setFar (a := ⟨w.heap.size, 1, none⟩) (Nat.le_refl _) (.string (bs x.v))
    go_wp2_with fail
    refine bodyPost_ret (v := hdA x) (by simp [results, Tryz.results105, go_sem, x0, x1]) rfl ⟨⟨rfl, ((unhide HI2).other _ _ (by simp; omega)).other _ _ (by simp; omega), v, ?_, .inl rfl⟩, hTT⟩
    have hfar : ∀ k, v.ownBlock = some k → k ≠ w.heap.size := fun k hk => by have := (unhide HVL) k hk; omega
    exact ((unhide HT2).far hfar (by omega) 0 _).far hfar (by omega) 1 _
  · have hx : (Lk.ents L)[n / 2]? = none := List.getElem?_eq_none (by omega)
    have hR : RR = .bad (q - 1) := by rw [← unhide HRR]; unfold Lk.entR; rw [hx]
    subst hR
    clear HRR
    generalize hm : n / 2 = m at *
    have HM := hide hm
    have hm9 : m ≤ 134217728 := by omega
    have hlt' : ((Lk.ents L).length : Int) ≤ (m : Int) := by omega
    clear hx hm
    go_wp2_with fail
    refine (rfail_any b s q ((q : Int) - 1) _ (unhide HI2)).mono ?_
    rintro e w3 ⟨rfl, hI3, hT3⟩
    have hX3 := (unhide HX2).grown hT3 (by simp; omega)
    have z0 := hX3.cell 0
    have z1 := hX3.cell 1
    have g0 := hX3.free 0
    have g1 := hX3.free 1
    have hXl3 := hX3.lt
    simp only [List.getElem?_cons_zero, List.getElem?_cons_succ] at z0 z1
    have HI3 := hide hI3
    clear hX3 hI3 x0 x1 f0 f1
    have hTT := ((hTT2.trans (Two.ofB (u := u) hT3)).setFar (a := ⟨w.heap.size, 0, none⟩) (Nat.le_refl _) (.string (bs zeroHd.n))).setFar (a := ⟨w.heap.size, 1, none⟩) (Nat.le_refl _) (.string (bs zeroHd.v))
    go_wp2_with fail
    refine bodyPost_ret (v := hdA zeroHd) (by simp [results, Tryz.results105, go_sem, z0, z1, zeroHd, bs]) rfl ⟨⟨⟨zeroHd, rfl⟩, q, ?_⟩, hTT⟩
    rw [show ((q - 1 : Nat) : Int) = (q : Int) - 1 by omega]
    exact ((unhide HI3).other _ _ (by simp; omega)).other _ _ (by simp; omega)
end Go.Proofs.YtbkpdapagfjmmaaGreatDoor

/-
  What a script of tables has made.
-/
namespace Go.Proofs.YtbkpdapagfjmmaaGreatDoor
open Go.RowKit

def upd {α : Type} (f : Nat → α) (k : Nat) (x : α) : Nat → α := fun i => if i = k then x else f i
theorem upd_same {α : Type} (f : Nat → α) (k : Nat) (x : α) : upd f k x k = x := by simp [upd]
theorem upd_other {α : Type} (f : Nat → α) {k i : Nat} (x : α) (h : i ≠ k) : upd f k x i = f i := by simp [upd, h]

theorem Tab.turns4 {w w' : World} {t u B : Nat} {L : List Lk.Hd} {v : Value} {cs : List Value} {T : TypeId} (h : Tab w t B L v) (hT : Turns u w w') (hI : Is w u T cs) (h1 : T ≠ 112) (hne : t ≠ u) : Tab w' t B L v :=
  ⟨h.blk.grown hT (by simpa using hne), own_turns h.own hI h1 hT, h.le, h.hB⟩

/-- Two tables of each side; of the program's the entries are LT, of the document's LU. -/
structure Rigs (b0 M gT gU cT cU : Nat) (vR vS pv : Value) (t u B : Nat → Nat) (LT LU : Nat → List Lk.Hd) (w : World) : Prop where
  made : Is w M 132 [vR, vS, .slice (some ⟨gT, 0, none⟩) 2 cT, .slice (some ⟨gU, 0, none⟩) 2 cU, nilS, nilS, pv]
  rowT : ∃ tl, Is w gT 135 (ptr (t 0) :: ptr (t 1) :: tl)
  rowU : ∃ tl, Is w gU 138 (ptr (u 0) :: ptr (u 1) :: tl)
  tab : ∀ k, k < 2 → ∃ v, Tab w (t k) (B k) (LT k) v
  rtab : ∀ k, k < 2 → ∃ v, RTab w (u k) (B k) (LU k) v
  net : ∀ j k, j < 2 → k < 2 → j ≠ k → t j ≠ t k
  neu : ∀ j k, j < 2 → k < 2 → j ≠ k → u j ≠ u k
  hM : b0 ≤ M
  hT : b0 ≤ gT
  hU : b0 ≤ gU
  ht : ∀ k, k < 2 → b0 ≤ t k
  hu : ∀ k, k < 2 → b0 ≤ u k
  fx : Fx w
  h0 : 0 < b0
  cT2 : 2 ≤ cT
  cU2 : 2 ≤ cU

theorem pair_at {w : World} {g : Nat} {T : TypeId} {f : Nat → Nat} (h : ∃ tl, Is w g T (ptr (f 0) :: ptr (f 1) :: tl)) {k : Nat} (hk : k < 2) : w.cell? ⟨g, k, none⟩ = some (ptr (f k)) := by
  obtain ⟨tl, hI⟩ := h
  rw [hI.cell]
  match k, hk with
  | 0, _ => rfl
  | 1, _ => rfl
theorem pair_free {w : World} {g : Nat} {T : TypeId} {f : Nat → Nat} (h : ∃ tl, Is w g T (ptr (f 0) :: ptr (f 1) :: tl)) (k : Nat) : w.frozen? ⟨g, k, none⟩ = false := by
  obtain ⟨tl, hI⟩ := h
  exact hI.free k
theorem pair_set {w : World} {g : Nat} {T : TypeId} {f : Nat → Nat} (h : ∃ tl, Is w g T (ptr (f 0) :: ptr (f 1) :: tl)) {k : Nat} (hk : k < 2) (x : Nat) : ∃ tl, Is (w.setCell ⟨g, k, none⟩ (ptr x)) g T (ptr (upd f k x 0) :: ptr (upd f k x 1) :: tl) := by
  obtain ⟨tl, hI⟩ := h
  have := hI.set k (ptr x)
  match k, hk with
  | 0, _ => exact ⟨tl, this⟩
  | 1, _ => exact ⟨tl, this⟩

section
variable {b0 M gT gU cT cU : Nat} {vR vS pv : Value} {t u B : Nat → Nat} {LT LU : Nat → List Lk.Hd} {w w' : World}

theorem Rigs.below (h : Rigs b0 M gT gU cT cU vR vS pv t u B LT LU w) (hb : Below w.heap.size w w') : Rigs b0 M gT gU cT cU vR vS pv t u B LT LU w' := by
  obtain ⟨tT, a1⟩ := h.rowT
  obtain ⟨tU, a2⟩ := h.rowU
  refine ⟨h.made.below hb h.made.lt, ⟨tT, a1.below hb a1.lt⟩, ⟨tU, a2.below hb a2.lt⟩, fun k hk => ?_, fun k hk => ?_, h.net, h.neu, h.hM, h.hT, h.hU, h.ht, h.hu, h.fx.below hb h.fx.1, h.h0, h.cT2, h.cU2⟩
  · obtain ⟨v, hv⟩ := h.tab k hk
    exact ⟨v, hv.below hb⟩
  · obtain ⟨v, hv⟩ := h.rtab k hk
    exact ⟨v, hv.below hb⟩

theorem Rigs.setT (h : Rigs b0 M gT gU cT cU vR vS pv t u B LT LU w) {k : Nat} (hk : k < 2) (hT : Turns (t k) w w') {L' : List Lk.Hd} (hTab : ∃ v', Tab w' (t k) (B k) L' v') : Rigs b0 M gT gU cT cU vR vS pv t u B (upd LT k L') LU w' := by
  obtain ⟨tT, a1⟩ := h.rowT
  obtain ⟨tU, a2⟩ := h.rowU
  obtain ⟨v0, hv0⟩ := h.tab k hk
  refine ⟨h.made.grown hT (by simpa using h.made.ne hv0.blk (Nat.ne_of_beq_eq_false rfl)), ⟨tT, a1.grown hT (by simpa using a1.ne hv0.blk (Nat.ne_of_beq_eq_false rfl))⟩, ⟨tU, a2.grown hT (by simpa using a2.ne hv0.blk (Nat.ne_of_beq_eq_false rfl))⟩, fun j hj => ?_, fun j hj => ?_, h.net, h.neu, h.hM, h.hT, h.hU, h.ht, h.hu, h.fx.grown hT (by have := h.ht k hk; have := h.h0; simp; omega), h.h0, h.cT2, h.cU2⟩
  · by_cases e : j = k
    · subst e
      rw [upd_same]
      exact hTab
    · rw [upd_other _ _ e]
      obtain ⟨v, hv⟩ := h.tab j hj
      exact ⟨v, hv.turns4 hT hv0.blk (Nat.ne_of_beq_eq_false rfl) (h.net j k hj hk e)⟩
  · obtain ⟨v, hv⟩ := h.rtab j hj
    exact ⟨v, hv.turns hT hv0.blk (Nat.ne_of_beq_eq_false rfl) (hv.blk.ne hv0.blk (Nat.ne_of_beq_eq_false rfl))⟩

theorem Rigs.setU (h : Rigs b0 M gT gU cT cU vR vS pv t u B LT LU w) {k : Nat} (hk : k < 2) (hT : Turns (u k) w w') {L' : List Lk.Hd} (hTab : ∃ v', RTab w' (u k) (B k) L' v') : Rigs b0 M gT gU cT cU vR vS pv t u B LT (upd LU k L') w' := by
  obtain ⟨tT, a1⟩ := h.rowT
  obtain ⟨tU, a2⟩ := h.rowU
  obtain ⟨v0, hv0⟩ := h.rtab k hk
  refine ⟨h.made.grown hT (by simpa using h.made.ne hv0.blk (Nat.ne_of_beq_eq_false rfl)), ⟨tT, a1.grown hT (by simpa using a1.ne hv0.blk (Nat.ne_of_beq_eq_false rfl))⟩, ⟨tU, a2.grown hT (by simpa using a2.ne hv0.blk (Nat.ne_of_beq_eq_false rfl))⟩, fun j hj => ?_, fun j hj => ?_, h.net, h.neu, h.hM, h.hT, h.hU, h.ht, h.hu, h.fx.grown hT (by have := h.hu k hk; have := h.h0; simp; omega), h.h0, h.cT2, h.cU2⟩
  · obtain ⟨v, hv⟩ := h.tab j hj
    exact ⟨v, hv.turns4 hT hv0.blk (Nat.ne_of_beq_eq_false rfl) (hv.blk.ne hv0.blk (Nat.ne_of_beq_eq_false rfl))⟩
  · by_cases e : j = k
    · subst e
      rw [upd_same]
      exact hTab
    · rw [upd_other _ _ e]
      obtain ⟨v, hv⟩ := h.rtab j hj
      exact ⟨v, hv.turns hT hv0.blk (Nat.ne_of_beq_eq_false rfl) (h.neu j k hj hk e)⟩

theorem Rigs.put (h : Rigs b0 M gT gU cT cU vR vS pv t u B LT LU w) {k : Nat} (hk : k < 2) {t' u' A : Nat} {v v' : Value} (hT : Tab w t' A [] v) (hU : RTab w u' A [] v') (ht : b0 ≤ t') (hu : b0 ≤ u') (hnt : ∀ j, j < 2 → t j ≠ t') (hnu : ∀ j, j < 2 → u j ≠ u') :
    Rigs b0 M gT gU cT cU vR vS pv (upd t k t') (upd u k u') (upd B k A) (upd LT k []) (upd LU k []) ((w.setCell ⟨gT, k, none⟩ (ptr t')).setCell ⟨gU, k, none⟩ (ptr u')) := by
  have r1 := h.rowT
  have r2 := h.rowU
  obtain ⟨tT, a1⟩ := r1
  obtain ⟨tU, a2⟩ := r2
  have h1 : Turns gT w (w.setCell ⟨gT, k, none⟩ (ptr t')) := (Turns.refl _ _).set k _
  have hgg : gT ≠ gU := a1.ne a2 (Nat.ne_of_beq_eq_false rfl)
  have a2' := a2.other ⟨gT, k, none⟩ (ptr t') (Ne.symm hgg)
  have h2 : Turns gU (w.setCell ⟨gT, k, none⟩ (ptr t')) ((w.setCell ⟨gT, k, none⟩ (ptr t')).setCell ⟨gU, k, none⟩ (ptr u')) := (Turns.refl _ _).set k _
  have keepT : ∀ {s C : Nat} {L : List Lk.Hd} {x : Value}, Tab w s C L x → Tab ((w.setCell ⟨gT, k, none⟩ (ptr t')).setCell ⟨gU, k, none⟩ (ptr u')) s C L x := fun hs =>
    (hs.turns4 h1 a1 (Nat.ne_of_beq_eq_false rfl) (hs.blk.ne a1 (Nat.ne_of_beq_eq_false rfl))).turns4 h2 a2' (Nat.ne_of_beq_eq_false rfl) (hs.blk.ne a2 (Nat.ne_of_beq_eq_false rfl))
  have keepU : ∀ {s C : Nat} {L : List Lk.Hd} {x : Value}, RTab w s C L x → RTab ((w.setCell ⟨gT, k, none⟩ (ptr t')).setCell ⟨gU, k, none⟩ (ptr u')) s C L x := fun hs =>
    (hs.turns h1 a1 (Nat.ne_of_beq_eq_false rfl) (hs.blk.ne a1 (Nat.ne_of_beq_eq_false rfl))).turns h2 a2' (Nat.ne_of_beq_eq_false rfl) (hs.blk.ne a2 (Nat.ne_of_beq_eq_false rfl))
  obtain ⟨tT', b1⟩ := pair_set ⟨tT, a1⟩ hk t'
  refine ⟨(h.made.other _ _ (h.made.ne a1 (Nat.ne_of_beq_eq_false rfl))).other _ _ (h.made.ne a2 (Nat.ne_of_beq_eq_false rfl)), ⟨tT', b1.other _ _ hgg⟩, pair_set ⟨tU, a2'⟩ hk u', fun j hj => ?_, fun j hj => ?_, fun i j hi hj e => ?_, fun i j hi hj e => ?_, h.hM, h.hT, h.hU, fun j hj => ?_, fun j hj => ?_,
    (h.fx.grown h1 (by have := h.hT; have := h.h0; simp; omega)).grown h2 (by have := h.hU; have := h.h0; simp; omega), h.h0, h.cT2, h.cU2⟩
  · by_cases e : j = k
    · subst e
      simp only [upd_same]
      exact ⟨_, keepT hT⟩
    · simp only [upd_other _ _ e]
      obtain ⟨x, hx⟩ := h.tab j hj
      exact ⟨x, keepT hx⟩
  · by_cases e : j = k
    · subst e
      simp only [upd_same]
      exact ⟨_, keepU hU⟩
    · simp only [upd_other _ _ e]
      obtain ⟨x, hx⟩ := h.rtab j hj
      exact ⟨x, keepU hx⟩
  · by_cases e1 : i = k
    · subst e1
      rw [upd_same, upd_other _ _ (Ne.symm e)]
      exact (hnt j hj).symm
    · by_cases e2 : j = k
      · subst e2
        rw [upd_same, upd_other _ _ e1]
        exact hnt i hi
      · rw [upd_other _ _ e1, upd_other _ _ e2]
        exact h.net i j hi hj e
  · by_cases e1 : i = k
    · subst e1
      rw [upd_same, upd_other _ _ (Ne.symm e)]
      exact (hnu j hj).symm
    · by_cases e2 : j = k
      · subst e2
        rw [upd_same, upd_other _ _ e1]
        exact hnu i hi
      · rw [upd_other _ _ e1, upd_other _ _ e2]
        exact h.neu i j hi hj e
  · by_cases e : j = k
    · subst e; rw [upd_same]; exact ht
    · rw [upd_other _ _ e]; exact h.ht j hj
  · by_cases e : j = k
    · subst e; rw [upd_same]; exact hu
    · rw [upd_other _ _ e]; exact h.hu j hj
end
end Go.Proofs.YtbkpdapagfjmmaaGreatDoor
