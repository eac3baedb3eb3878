import Derived.Test.YtbkpdapagfjmmaaGreatDoorV1
import Derived.Test.YtbkpdapagfjmmaaGreatDoorMN1Spec4
/-
  Walks: parts of a block.
-/
namespace Go.Proofs.YtbkpdapagfjmmaaGreatDoor
open Go.RowKit

/-- The reader of blocks: it is at p of the text s, and its table keeps L. -/
structure Blk (w : World) (b : Nat) (s : ByteArray) (p B : Nat) (L : List Lk.Hd) (v : Value) : Prop where
  blk : Is w b 208 [.string s, .int .i64 p, weighV, .int .i64 ((B : Int) - Lk.weights L), v]
  own : w.ownsRow 0 112 2 v L.length (hdsV L)
  le : Lk.weights L ≤ B
  hB : B ≤ 200
  fx : Fx w
  b0 : 0 ≠ b

theorem Blk.turns {w w' : World} {b : Nat} {s : ByteArray} {p q B : Nat} {L : List Lk.Hd} {v : Value} (h : Blk w b s p B L v) (hT : Turns b w w') (hI : Is w' b 208 [.string s, .int .i64 q, weighV, .int .i64 ((B : Int) - Lk.weights L), v]) : Blk w' b s q B L v :=
  ⟨hI, own_turns h.own h.blk (Nat.ne_of_beq_eq_false rfl) hT, h.le, h.hB, h.fx.grown hT (by simpa using h.b0), h.b0⟩
theorem Blk.below {w w' : World} {b : Nat} {s : ByteArray} {p B : Nat} {L : List Lk.Hd} {v : Value} (h : Blk w b s p B L v) (hb : Below w.heap.size w w') : Blk w' b s p B L v :=
  ⟨h.blk.below hb h.blk.lt, own_below h.own hb, h.le, h.hB, h.fx.below hb h.fx.1, h.b0⟩
theorem Blk.alloc {w : World} {b : Nat} {s : ByteArray} {p B : Nat} {L : List Lk.Hd} {v : Value} (h : Blk w b s p B L v) (o : Obj) : Blk (w.alloc o) b s p B L v :=
  h.below ((Below.refl _ _).alloc (Nat.le_refl _) o)

theorem Turns.setFar {b : Nat} {w w1 : World} (h : Turns b w w1) {a : Addr} (ha : w.heap.size ≤ a.block) (v : Value) : Turns b w (w1.setCell a v) :=
  ⟨h.os, h.tape, h.output, by simpa using h.size, fun i hi hn => by
    rw [heap_setCell_other _ _ _ _ (by omega)]
    exact h.block i hi hn⟩

def hdOf : Lk.PR Lk.Hd → Lk.Hd
  | .ok h _ => h
  | .bad _ => zeroHd
theorem set1 {w : World} {b : Nat} {T : TypeId} {a x y : Value} {more : List Value} (h : Is w b T (a :: x :: more)) : Is (w.setCell ⟨b, 1, none⟩ y) b T (a :: y :: more) := h.set 1 y

set_option maxHeartbeats 1000000 in
set_option maxRecDepth 100000 in
theorem bentry_some (b : Nat) (s : ByteArray) (p i B : Nat) (L : List Lk.Hd) (v : Value) (h : Lk.Hd) (w : World) (hi : i ≤ 2 ^ 40) (hK : Blk w b s p B L v) (he : (Lk.ents L)[i]? = some h) :
    Calls Tryz.prog 178 #[.pointer (some ⟨b, 0, none⟩), .int .i64 i] w fun e w' => e = .returned (.tuple #[hdA h, .bool true]) ∧ Below w.heap.size w w' := by
  have hK0 := hK.alloc (.cells #[.string ⟨#[]⟩, .string ⟨#[]⟩] 112)
  have HC := hide (entry_any b 2 i 0 L v _ hK0.blk.lt hi hK0.fx (hK0.blk.cell 4) hK0.own)
  have HE := hide he
  have HB := hide ((Below.refl w.heap.size w).alloc (Nat.le_refl _) (.cells #[.string ⟨#[]⟩, .string ⟨#[]⟩] 112))
  have HX := hide (Is.new w 112 [.string ⟨#[]⟩, .string ⟨#[]⟩])
  clear hK hK0 he
  go_enter Tryz.func178, Tryz.ntmps178
  go_wp2_with fail
  refine (unhide HC).mono ?_
  rintro e w1 ⟨hr, hb⟩
  rw [unhide HE] at hr
  subst hr
  simp only [Option.getD, Option.isSome]
  have hX1 := (unhide HX).below hb (by simp)
  have hbel := (unhide HB).trans (hb.mono (by simp))
  have c0 := hX1.cell 0
  have c1 := hX1.cell 1
  have f0 := hX1.free 0
  have f1 := hX1.free 1
  have hXl := hX1.lt
  simp only [List.getElem?_cons_zero, List.getElem?_cons_succ] at c0 c1
  clear hb hX1
  go_wp2_with fail
  exact bodyPost_ret (v := .tuple #[hdA h, .bool true]) (by simp [results, Tryz.results178, go_sem, c0, c1, hXl]) rfl ⟨rfl, ((hbel.setCell (Nat.le_refl _) _).setCell (Nat.le_refl _) _).alloc (by simpa using hbel.size) _⟩

set_option maxHeartbeats 1000000 in
set_option maxRecDepth 100000 in
theorem bentry_none (b : Nat) (s : ByteArray) (p i B : Nat) (L : List Lk.Hd) (v : Value) (w : World) (hi : i ≤ 2 ^ 40) (hp : 0 < p) (hps : p ≤ 2 ^ 50) (hK : Blk w b s p B L v) (he : (Lk.ents L)[i]? = none) :
    Calls Tryz.prog 178 #[.pointer (some ⟨b, 0, none⟩), .int .i64 i] w fun e w' => e = .returned (.tuple #[hdA zeroHd, .bool false]) ∧ Blk w' b s (p - 1) B L v ∧ Turns b w w' := by
  have hK0 := hK.alloc (.cells #[.string ⟨#[]⟩, .string ⟨#[]⟩] 112)
  have HC := hide (entry_any b 2 i 0 L v _ hK0.blk.lt hi hK0.fx (hK0.blk.cell 4) hK0.own)
  have HE := hide he
  have HK := hide hK
  have HK0 := hide hK0
  have HB := hide ((Below.refl w.heap.size w).alloc (Nat.le_refl _) (.cells #[.string ⟨#[]⟩, .string ⟨#[]⟩] 112))
  have HX := hide (Is.new w 112 [.string ⟨#[]⟩, .string ⟨#[]⟩])
  clear hK hK0 he
  go_enter Tryz.func178, Tryz.ntmps178
  go_wp2_with fail
  refine (unhide HC).mono ?_
  rintro e w1 ⟨hr, hb⟩
  rw [unhide HE] at hr
  subst hr
  simp only [Option.getD, Option.isSome]
  have hX1 := (unhide HX).below hb (by simp)
  have hbel := (unhide HB).trans (hb.mono (by simp))
  have hK1 := (unhide HK0).below hb
  have c0 := hX1.cell 0
  have c1 := hX1.cell 1
  have f0 := hX1.free 0
  have f1 := hX1.free 1
  have hXl := hX1.lt
  have d1 := hK1.blk.cell 1
  have g1 := hK1.blk.free 1
  have hbl := hK1.blk.lt
  simp only [List.getElem?_cons_zero, List.getElem?_cons_succ] at c0 c1 d1
  have hne : ¬ w.heap.size = b := fun e => hX1.ne hK1.blk (Nat.ne_of_beq_eq_false rfl) e
  have hne' : ¬ b = w.heap.size := fun e => hne e.symm
  have HK1 := hide hK1
  have HX1 := hide hX1
  clear hb hX1 hK1
  go_wp2_with fail
  have hz : ((p : Int) - 1) = ((p - 1 : Nat) : Int) := by omega
  refine bodyPost_ret (v := .tuple #[hdA zeroHd, .bool false]) (by simp [results, Tryz.results178, go_sem, c0, c1, hXl, zeroHd, bs]) rfl ⟨rfl, ?_, ?_⟩
  · rw [hz]
    exact (unhide HK).turns ((((((Below.turns hbel b).set 1 _).setFar (Nat.le_refl _) _).setFar (Nat.le_refl _) _).alloc _)) ((((set1 (unhide HK1).blk).other _ _ hne').other _ _ hne').alloc _)
  · exact ((((Below.turns hbel b).set 1 _).setFar (Nat.le_refl _) _).setFar (Nat.le_refl _) _).alloc _

theorem bentry_any (b : Nat) (s : ByteArray) (p i B : Nat) (L : List Lk.Hd) (v : Value) (w : World) (hi : i ≤ 2 ^ 40) (hp : 0 < p) (hps : p ≤ 2 ^ 50) (hK : Blk w b s p B L v) :
    Calls Tryz.prog 178 #[.pointer (some ⟨b, 0, none⟩), .int .i64 i] w fun e w' => e = .returned (.tuple #[hdA (hdOf (Lk.entR L i p)), .bool (Lk.entR L i p).good]) ∧ Blk w' b s (Lk.entR L i p).at B L v ∧ Turns b w w' := by
  unfold Lk.entR
  cases he : (Lk.ents L)[i]? with
  | none => exact bentry_none b s p i B L v w hi hp hps hK he
  | some h =>
    refine (bentry_some b s p i B L v h w hi hK he).mono ?_
    rintro e w' ⟨rfl, hb⟩
    exact ⟨rfl, hK.below hb, Below.turns hb b⟩

def textOf : Lk.PR Lk.Bs → Lk.Bs
  | .ok t _ => t
  | .bad _ => []
theorem textV_eq (r : Lk.PR Lk.Bs) : textV r = .tuple #[.string (bs (textOf r)), .bool r.good] := by cases r <;> rfl

theorem bwritten_name (b : Nat) (s : ByteArray) (p B : Nat) (L : List Lk.Hd) (v : Value) (w : World) (hs : s.size ≤ 2 ^ 48) (hp : p ≤ s.size) (hK : Blk w b s p B L v) :
    Calls Tryz.prog 187 #[.pointer (some ⟨b, 0, none⟩), nameR] w fun e w' =>
      e = .returned (.tuple #[.string (bs (textOf (Lk.textR true s.data.toList p))), .bool (Lk.textR true s.data.toList p).good]) ∧ Blk w' b s (Lk.textR true s.data.toList p).at B L v ∧ Turns b w w' := by
  refine (written_name b s p _ w hs hp _ (hide rfl) hK.blk).mono ?_
  rintro e w' ⟨rfl, hI, hT⟩
  exact ⟨by rw [textV_eq], hK.turns hT hI, hT⟩
theorem bwritten_value (b : Nat) (s : ByteArray) (p B : Nat) (L : List Lk.Hd) (v : Value) (w : World) (hs : s.size ≤ 2 ^ 48) (hp : p ≤ s.size) (hK : Blk w b s p B L v) :
    Calls Tryz.prog 187 #[.pointer (some ⟨b, 0, none⟩), valueR] w fun e w' =>
      e = .returned (.tuple #[.string (bs (textOf (Lk.textR false s.data.toList p))), .bool (Lk.textR false s.data.toList p).good]) ∧ Blk w' b s (Lk.textR false s.data.toList p).at B L v ∧ Turns b w w' := by
  refine (written_value b s p _ w hs hp _ (hide rfl) hK.blk).mono ?_
  rintro e w' ⟨rfl, hI, hT⟩
  exact ⟨by rw [textV_eq], hK.turns hT hI, hT⟩

end Go.Proofs.YtbkpdapagfjmmaaGreatDoor

/-
  Walks: a part of a block.
-/
namespace Go.Proofs.YtbkpdapagfjmmaaGreatDoor
open Go.RowKit

namespace Lk
theorem numR_le {s : Bs} {p n q : Nat} (h : numR s p = .ok n q) : n ≤ 268435455 := by
  unfold numR at h
  cases e : rd 0 0 (s.drop p) with
  | short => rw [e] at h; cases h
  | bad k => rw [e] at h; cases h
  | ok m k => rw [e] at h; cases h; exact (rd_canon0 e).2
theorem textR_at {name : Bool} {s : Bs} {p : Nat} (hp : p ≤ s.length) : p ≤ (textR name s p).at ∧ (textR name s p).at ≤ s.length := by
  cases h : textR name s p with
  | ok t q => have := textR_ge hp h; simp only [PR.at]; omega
  | bad q => have := textR_bad hp h; simp only [PR.at]; omega
theorem nameR_at {L : List Hd} {k : Nat} {s : Bs} {p : Nat} {t : Bs} {q : Nat} (hp : p ≤ s.length) (h : nameR L k s p = .ok t q) : p ≤ q ∧ q ≤ s.length := by
  unfold nameR at h
  split at h
  · have := textR_ge hp h; omega
  · unfold entR at h
    cases e : (ents L)[k - 1]? with
    | none => rw [e] at h; cases h
    | some x => rw [e] at h; cases h; omega
theorem freshR_len {L : List Hd} {k : Nat} {s : Bs} {p : Nat} {h : Hd} {q B : Nat} (hL : weights L ≤ B) (hB : B ≤ 200) (hp : p ≤ s.length) (hf : freshR L k s p = .ok h q) : h.n.length ≤ 200 ∧ h.v.length ≤ 32 ∧ q ≤ s.length := by
  unfold freshR at hf
  cases e : nameR L k s p with
  | bad q => rw [e] at hf; cases hf
  | ok n q1 =>
    rw [e] at hf
    have h1 := nameR_at hp e
    simp only at hf
    cases e2 : textR false s q1 with
    | bad q => rw [e2] at hf; cases hf
    | ok v q2 =>
      rw [e2] at hf
      have h2 := textR_ge h1.2 e2
      cases hf
      refine ⟨?_, h2.2.2, h2.2.1⟩
      unfold nameR at e
      split at e
      · have := textR_ge hp e; simp only; omega
      · unfold entR at e
        cases e3 : (ents L)[k - 1]? with
        | none => rw [e3] at e; cases e
        | some x =>
          rw [e3] at e
          cases e
          have hm := List.mem_of_getElem? e3
          unfold ents at hm
          rw [List.mem_append] at hm
          rcases hm with hm | hm
          · simp [fixedL] at hm
            rcases hm with rfl | rfl | rfl | rfl <;> simp
          · have := weights_mem hm
            unfold Hd.weight at this
            simp only
            omega
end Lk

set_option maxHeartbeats 1000000 in
set_option maxRecDepth 100000 in
theorem bname_zero (b : Nat) (s : ByteArray) (p B : Nat) (L : List Lk.Hd) (v : Value) (w : World) (hs : s.size ≤ 2 ^ 48) (hp : p ≤ s.size) (hK : Blk w b s p B L v) :
    Calls Tryz.prog 186 #[.pointer (some ⟨b, 0, none⟩), .int .i64 0] w fun e w' =>
      e = .returned (.tuple #[.string (bs (textOf (Lk.textR true s.data.toList p))), .bool (Lk.textR true s.data.toList p).good]) ∧ Blk w' b s (Lk.textR true s.data.toList p).at B L v ∧ Turns b w w' := by
  have HC := hide (fun w (hK : Blk w b s p B L v) => bwritten_name b s p B L v w hs hp hK)
  have HK := hide hK
  clear hK
  generalize Lk.textR true s.data.toList p = R at *
  go_enter Tryz.func186, Tryz.ntmps186
  go_wp2_with fail
  refine (nameRule_any _).mono ?_
  rintro e w1 ⟨rfl, hb⟩
  go_wp2_with fail
  refine (unhide HC _ ((unhide HK).below hb)).mono ?_
  rintro e w2 ⟨rfl, hK2, hT⟩
  go_wp2_with fail
  go_ret2
  exact ⟨rfl, hK2, (Below.turns hb b).trans hT⟩

set_option maxHeartbeats 1000000 in
set_option maxRecDepth 100000 in
theorem bname_ent (b : Nat) (s : ByteArray) (p k B : Nat) (L : List Lk.Hd) (v : Value) (w : World) (hk : 0 < k) (hk2 : k ≤ 2 ^ 40) (hp : 0 < p) (hps : p ≤ 2 ^ 50) (hK : Blk w b s p B L v) :
    Calls Tryz.prog 186 #[.pointer (some ⟨b, 0, none⟩), .int .i64 k] w fun e w' =>
      e = .returned (.tuple #[.string (bs (hdOf (Lk.entR L (k - 1) p)).n), .bool (Lk.entR L (k - 1) p).good]) ∧ Blk w' b s (Lk.entR L (k - 1) p).at B L v ∧ Turns b w w' := by
  have HC := hide (fun w (hK : Blk w b s p B L v) => bentry_any b s p (k - 1) B L v w (by omega) hp hps hK)
  have HK := hide hK
  have hk0 : ((k : Int) == 0) = false := by rw [beq_eq_false_iff_ne]; omega
  clear hK
  generalize Lk.entR L (k - 1) p = R at *
  rw [show ((k - 1 : Nat) : Int) = (k : Int) - 1 by omega] at HC
  go_enter Tryz.func186, Tryz.ntmps186
  go_wp2_with fail
  refine (unhide HC _ (unhide HK)).mono ?_
  rintro e w2 ⟨rfl, hK2, hT⟩
  go_wp2_with fail
  go_ret2
  exact ⟨rfl, hK2.alloc _, hT.alloc _⟩

def nameOf : Lk.PR Lk.Bs → Lk.Bs
  | .ok t _ => t
  | .bad _ => []
theorem bname_any (b : Nat) (s : ByteArray) (p k B : Nat) (L : List Lk.Hd) (v : Value) (w : World) (hs : s.size ≤ 2 ^ 48) (hk2 : k ≤ 2 ^ 40) (hp : 0 < p) (hps : p ≤ s.size) (hK : Blk w b s p B L v) :
    Calls Tryz.prog 186 #[.pointer (some ⟨b, 0, none⟩), .int .i64 k] w fun e w' =>
      e = .returned (.tuple #[.string (bs (nameOf (Lk.nameR L k s.data.toList p))), .bool (Lk.nameR L k s.data.toList p).good]) ∧ Blk w' b s (Lk.nameR L k s.data.toList p).at B L v ∧ Turns b w w' := by
  unfold Lk.nameR
  by_cases hk : k = 0
  · subst hk
    rw [if_pos rfl]
    refine (bname_zero b s p B L v w hs hps hK).mono ?_
    rintro e w' ⟨rfl, h1, h2⟩
    refine ⟨?_, h1, h2⟩
    cases Lk.textR true s.data.toList p <;> rfl
  · rw [if_neg hk]
    refine (bname_ent b s p k B L v w (by omega) hk2 hp (by omega) hK).mono ?_
    rintro e w' ⟨rfl, h1, h2⟩
    cases hr : Lk.entR L (k - 1) p with
    | ok h q => rw [hr] at h1; exact ⟨rfl, h1, h2⟩
    | bad q => rw [hr] at h1; exact ⟨rfl, h1, h2⟩

set_option maxHeartbeats 1000000 in
set_option maxRecDepth 100000 in
theorem bfresh_any (b : Nat) (s : ByteArray) (p k B : Nat) (L : List Lk.Hd) (v : Value) (w : World) (hs : s.size ≤ 2 ^ 48) (hk2 : k ≤ 2 ^ 40) (hp : 0 < p) (hps : p ≤ s.size) (hK : Blk w b s p B L v) :
    Calls Tryz.prog 179 #[.pointer (some ⟨b, 0, none⟩), .int .i64 k] w fun e w' =>
      (∃ hx, e = .returned (.tuple #[hdA hx, .bool (Lk.freshR L k s.data.toList p).good]) ∧ ∀ h q, Lk.freshR L k s.data.toList p = .ok h q → hx = h) ∧ Blk w' b s (Lk.freshR L k s.data.toList p).at B L v ∧ Turns b w w' := by
  have HK0 := hide (hK.alloc (.cells #[.string ⟨#[]⟩, .string ⟨#[]⟩] 112))
  have HX := hide (Is.new w 112 [.string ⟨#[]⟩, .string ⟨#[]⟩])
  have hT0 := (Turns.refl b w).alloc (.cells #[.string ⟨#[]⟩, .string ⟨#[]⟩] 112)
  have hbl := hK.blk.lt
  have HK := hide hK
  clear hK
  cases hn : Lk.nameR L k s.data.toList p with
  | bad q =>
    have hR : Lk.freshR L k s.data.toList p = .bad q := by unfold Lk.freshR; rw [hn]
    rw [hR]
    have hC := bname_any b s p k B L v _ hs hk2 hp hps (unhide HK0)
    rw [hn] at hC
    have HC := hide hC
    clear hC hR hn
    go_enter Tryz.func179, Tryz.ntmps179
    go_wp2_with fail
    refine (unhide HC).mono ?_
    rintro e w1 ⟨rfl, hK1, hT1⟩
    simp only [nameOf, Lk.PR.good, Lk.PR.at] at hK1 ⊢
    have hX1 := (unhide HX).grown hT1 (by simp; omega)
    have c0 := hX1.cell 0
    have c1 := hX1.cell 1
    have f0 := hX1.free 0
    have f1 := hX1.free 1
    have hXl := hX1.lt
    simp only [List.getElem?_cons_zero, List.getElem?_cons_succ] at c0 c1
    have HK1 := hide hK1
    clear hK1 hX1
    go_wp2_with fail
    have hTT := ((hT0.trans hT1).setFar (a := ⟨w.heap.size, 0, none⟩) (Nat.le_refl _) (.string (bs zeroHd.n))).setFar (a := ⟨w.heap.size, 1, none⟩) (Nat.le_refl _) (.string (bs zeroHd.v))
    refine bodyPost_ret (v := .tuple #[hdA zeroHd, .bool false]) (by simp [results, Tryz.results179, go_sem, c0, c1, zeroHd, bs]) rfl ⟨⟨zeroHd, rfl, fun h q e => by cases e⟩, (unhide HK).turns hTT ((((unhide HK1).blk.other _ _ (by simp; omega)).other _ _ (by simp; omega))), hTT⟩
  | ok t q =>
    have hqb := Lk.nameR_at (L := L) (k := k) (s := s.data.toList) (by rw [← size_list]; exact hps) hn
    rw [← size_list] at hqb
    have hC := bname_any b s p k B L v _ hs hk2 hp hps (unhide HK0)
    rw [hn] at hC
    have HC := hide hC
    have HC2 := hide (fun w (hK : Blk w b s q B L v) => bwritten_value b s q B L v w hs (by omega) hK)
    have hfr : (Lk.freshR L k s.data.toList p).good = (Lk.textR false s.data.toList q).good ∧ (Lk.freshR L k s.data.toList p).at = (Lk.textR false s.data.toList q).at ∧ ∀ h q', Lk.freshR L k s.data.toList p = .ok h q' → (⟨t, textOf (Lk.textR false s.data.toList q)⟩ : Lk.Hd) = h := by
      unfold Lk.freshR
      rw [hn]
      simp only
      cases Lk.textR false s.data.toList q with
      | bad q' => exact ⟨rfl, rfl, fun _ _ e => by cases e⟩
      | ok u q' => exact ⟨rfl, rfl, fun _ _ e => by cases e; rfl⟩
    obtain ⟨hg, ha, hh⟩ := hfr
    rw [hg, ha]
    have HH := hide hh
    clear hC hn hg ha hh
    generalize Lk.textR false s.data.toList q = R2 at *
    go_enter Tryz.func179, Tryz.ntmps179
    go_wp2_with fail
    refine (unhide HC).mono ?_
    rintro e w1 ⟨rfl, hK1, hT1⟩
    simp only [nameOf, Lk.PR.good, Lk.PR.at] at hK1 ⊢
    have hX1 := (unhide HX).grown hT1 (by simp; omega)
    have HX1 := hide hX1
    have HK1 := hide hK1
    clear hK1 hX1
    go_wp2_with fail
    refine (valueRule_any _).mono ?_
    rintro e w2 ⟨rfl, hb2⟩
    go_wp2_with fail
    refine (unhide HC2 _ ((unhide HK1).below hb2)).mono ?_
    rintro e w3 ⟨rfl, hK3, hT3⟩
    have hX3 := ((unhide HX1).below hb2 (unhide HX1).lt).grown hT3 (by simp; omega)
    have c0 := hX3.cell 0
    have c1 := hX3.cell 1
    have f0 := hX3.free 0
    have f1 := hX3.free 1
    have hXl := hX3.lt
    simp only [List.getElem?_cons_zero, List.getElem?_cons_succ] at c0 c1
    have hTT := ((((hT0.trans hT1).below hb2).trans hT3).setFar (a := ⟨w.heap.size, 0, none⟩) (Nat.le_refl _) (.string (bs t))).setFar (a := ⟨w.heap.size, 1, none⟩) (Nat.le_refl _) (.string (bs (textOf R2)))
    have HK3 := hide hK3
    clear hK3 hX3
    go_wp2_with fail
    refine bodyPost_ret (v := .tuple #[hdA ⟨t, textOf R2⟩, .bool R2.good]) (by simp [results, Tryz.results179, go_sem, c0, c1]) rfl ⟨⟨⟨t, textOf R2⟩, rfl, unhide HH⟩, (unhide HK).turns hTT ((((unhide HK3).blk.other _ _ (by simp; omega)).other _ _ (by simp; omega))), hTT⟩
end Go.Proofs.YtbkpdapagfjmmaaGreatDoor
