/-
  Walks: parts of a block.
-/
import Derived.Test.YtbkpdapagfjmmaaGreatDoorV1
namespace Go.Proofs.YtbkpdapagfjmmaaGreatDoor
open Go.RowKit

/-- The reader of blocks: it is at p of the text s, and its table keeps L. -/
structure Blk (w : World) (b : Nat) (s : ByteArray) (p B : Nat) (L : List Lk.Hd) (v : Value) : Prop where
  blk : Is w b 208 [.string s, .int .i64 p, weighV, .int .i64 ((B : Int) - Lk.weights L), v]
  own : w.ownsRow 0 112 2 v L.length (hdsV L)
  le : Lk.weights L ≤ B
  hB : B ≤ 200
  fx : Fx w
  b0 : 0 ≠ b

theorem Blk.turns {w w' : World} {b : Nat} {s : ByteArray} {p q B : Nat} {L : List Lk.Hd} {v : Value} (h : Blk w b s p B L v) (hT : Turns b w w') (hI : Is w' b 208 [.string s, .int .i64 q, weighV, .int .i64 ((B : Int) - Lk.weights L), v]) : Blk w' b s q B L v :=
  ⟨hI, own_turns h.own h.blk (Nat.ne_of_beq_eq_false rfl) hT, h.le, h.hB, h.fx.grown hT (by simpa using h.b0), h.b0⟩
theorem Blk.below {w w' : World} {b : Nat} {s : ByteArray} {p B : Nat} {L : List Lk.Hd} {v : Value} (h : Blk w b s p B L v) (hb : Below w.heap.size w w') : Blk w' b s p B L v :=
  ⟨h.blk.below hb h.blk.lt, own_below h.own hb, h.le, h.hB, h.fx.below hb h.fx.1, h.b0⟩
theorem Blk.alloc {w : World} {b : Nat} {s : ByteArray} {p B : Nat} {L : List Lk.Hd} {v : Value} (h : Blk w b s p B L v) (o : Obj) : Blk (w.alloc o) b s p B L v :=
  h.below ((Below.refl _ _).alloc (Nat.le_refl _) o)

theorem Turns.setFar {b : Nat} {w w1 : World} (h : Turns b w w1) {a : Addr} (ha : w.heap.size ≤ a.block) (v : Value) : Turns b w (w1.setCell a v) :=
  ⟨h.os, h.tape, h.output, by simpa using h.size, fun i hi hn => by
    rw [heap_setCell_other _ _ _ _ (by omega)]
    exact h.block i hi hn⟩

def hdOf : Lk.PR Lk.Hd → Lk.Hd
  | .ok h _ => h
  | .bad _ => zeroHd
theorem set1 {w : World} {b : Nat} {T : TypeId} {a x y : Value} {more : List Value} (h : Is w b T (a :: x :: more)) : Is (w.setCell ⟨b, 1, none⟩ y) b T (a :: y :: more) := h.set 1 y

set_option maxHeartbeats 1000000 in
set_option maxRecDepth 100000 in
theorem bentry_some (b : Nat) (s : ByteArray) (p i B : Nat) (L : List Lk.Hd) (v : Value) (h : Lk.Hd) (w : World) (hi : i ≤ 2 ^ 40) (hK : Blk w b s p B L v) (he : (Lk.ents L)[i]? = some h) :
    Calls Tryz.prog 178 #[.pointer (some ⟨b, 0, none⟩), .int .i64 i] w fun e w' => e = .returned (.tuple #[hdA h, .bool true]) ∧ Below w.heap.size w w' := by
  have hK0 := hK.alloc (.cells #[.string ⟨#[]⟩, .string ⟨#[]⟩] 112)
  have HC := hide (entry_any b 2 i 0 L v _ hK0.blk.lt hi hK0.fx (hK0.blk.cell 4) hK0.own)
  have HE := hide he
  have HB := hide ((Below.refl w.heap.size w).alloc (Nat.le_refl _) (.cells #[.string ⟨#[]⟩, .string ⟨#[]⟩] 112))
  have HX := hide (Is.new w 112 [.string ⟨#[]⟩, .string ⟨#[]⟩])
  clear hK hK0 he
  go_enter Tryz.func178, Tryz.ntmps178
  go_wp2_with fail
  refine (unhide HC).mono ?_
  rintro e w1 ⟨hr, hb⟩
  rw [unhide HE] at hr
  subst hr
  simp only [Option.getD, Option.isSome]
  have hX1 := (unhide HX).below hb (by simp)
  have hbel := (unhide HB).trans (hb.mono (by simp))
  have c0 := hX1.cell 0
  have c1 := hX1.cell 1
  have f0 := hX1.free 0
  have f1 := hX1.free 1
  have hXl := hX1.lt
  simp only [List.getElem?_cons_zero, List.getElem?_cons_succ] at c0 c1
  clear hb hX1
  go_wp2_with fail
  exact bodyPost_ret (v := .tuple #[hdA h, .bool true]) (by simp [results, Tryz.results178, go_sem, c0, c1, hXl]) rfl ⟨rfl, ((hbel.setCell (Nat.le_refl _) _).setCell (Nat.le_refl _) _).alloc (by simpa using hbel.size) _⟩

set_option maxHeartbeats 1000000 in
set_option maxRecDepth 100000 in
theorem bentry_none (b : Nat) (s : ByteArray) (p i B : Nat) (L : List Lk.Hd) (v : Value) (w : World) (hi : i ≤ 2 ^ 40) (hp : 0 < p) (hps : p ≤ 2 ^ 50) (hK : Blk w b s p B L v) (he : (Lk.ents L)[i]? = none) :
    Calls Tryz.prog 178 #[.pointer (some ⟨b, 0, none⟩), .int .i64 i] w fun e w' => e = .returned (.tuple #[hdA zeroHd, .bool false]) ∧ Blk w' b s (p - 1) B L v ∧ Turns b w w' := by
  have hK0 := hK.alloc (.cells #[.string ⟨#[]⟩, .string ⟨#[]⟩] 112)
  have HC := hide (entry_any b 2 i 0 L v _ hK0.blk.lt hi hK0.fx (hK0.blk.cell 4) hK0.own)
  have HE := hide he
  have HK := hide hK
  have HK0 := hide hK0
  have HB := hide ((Below.refl w.heap.size w).alloc (Nat.le_refl _) (.cells #[.string ⟨#[]⟩, .string ⟨#[]⟩] 112))
  have HX := hide (Is.new w 112 [.string ⟨#[]⟩, .string ⟨#[]⟩])
  clear hK hK0 he
  go_enter Tryz.func178, Tryz.ntmps178
  go_wp2_with fail
  refine (unhide HC).mono ?_
  rintro e w1 ⟨hr, hb⟩
  rw [unhide HE] at hr
  subst hr
  simp only [Option.getD, Option.isSome]
  have hX1 := (unhide HX).below hb (by simp)
  have hbel := (unhide HB).trans (hb.mono (by simp))
  have hK1 := (unhide HK0).below hb
  have c0 := hX1.cell 0
  have c1 := hX1.cell 1
  have f0 := hX1.free 0
  have f1 := hX1.free 1
  have hXl := hX1.lt
  have d1 := hK1.blk.cell 1
  have g1 := hK1.blk.free 1
  have hbl := hK1.blk.lt
  simp only [List.getElem?_cons_zero, List.getElem?_cons_succ] at c0 c1 d1
  have hne : ¬ w.heap.size = b := fun e => hX1.ne hK1.blk (Nat.ne_of_beq_eq_false rfl) e
  have hne' : ¬ b = w.heap.size := fun e => hne e.symm
  have HK1 := hide hK1
  have HX1 := hide hX1
  clear hb hX1 hK1
  go_wp2_with fail
  have hz : ((p : Int) - 1) = ((p - 1 : Nat) : Int) := by omega
  refine bodyPost_ret (v := .tuple #[hdA zeroHd, .bool false]) (by simp [results, Tryz.results178, go_sem, c0, c1, hXl, zeroHd, bs]) rfl ⟨rfl, ?_, ?_⟩
  · rw [hz]
    exact (unhide HK).turns ((((((Below.turns hbel b).set 1 _).setFar (Nat.le_refl _) _).setFar (Nat.le_refl _) _).alloc _)) ((((set1 (unhide HK1).blk).other _ _ hne').other _ _ hne').alloc _)
  · exact ((((Below.turns hbel b).set 1 _).setFar (Nat.le_refl _) _).setFar (Nat.le_refl _) _).alloc _

theorem bentry_any (b : Nat) (s : ByteArray) (p i B : Nat) (L : List Lk.Hd) (v : Value) (w : World) (hi : i ≤ 2 ^ 40) (hp : 0 < p) (hps : p ≤ 2 ^ 50) (hK : Blk w b s p B L v) :
    Calls Tryz.prog 178 #[.pointer (some ⟨b, 0, none⟩), .int .i64 i] w fun e w' => e = .returned (.tuple #[hdA (hdOf (Lk.entR L i p)), .bool (Lk.entR L i p).good]) ∧ Blk w' b s (Lk.entR L i p).at B L v ∧ Turns b w w' := by
  unfold Lk.entR
  cases he : (Lk.ents L)[i]? with
  | none => exact bentry_none b s p i B L v w hi hp hps hK he
  | some h =>
    refine (bentry_some b s p i B L v h w hi hK he).mono ?_
    rintro e w' ⟨rfl, hb⟩
    exact ⟨rfl, hK.below hb, Below.turns hb b⟩

def textOf : Lk.PR Lk.Bs → Lk.Bs
  | .ok t _ => t
  | .bad _ => []
theorem textV_eq (r : Lk.PR Lk.Bs) : textV r = .tuple #[.string (bs (textOf r)), .bool r.good] := by cases r <;> rfl

theorem bwritten_name (b : Nat) (s : ByteArray) (p B : Nat) (L : List Lk.Hd) (v : Value) (w : World) (hs : s.size ≤ 2 ^ 48) (hp : p ≤ s.size) (hK : Blk w b s p B L v) :
    Calls Tryz.prog 187 #[.pointer (some ⟨b, 0, none⟩), nameR] w fun e w' =>
      e = .returned (.tuple #[.string (bs (textOf (Lk.textR true s.data.toList p))), .bool (Lk.textR true s.data.toList p).good]) ∧ Blk w' b s (Lk.textR true s.data.toList p).at B L v ∧ Turns b w w' := by
  refine (written_name b s p _ w hs hp _ (hide rfl) hK.blk).mono ?_
  rintro e w' ⟨rfl, hI, hT⟩
  exact ⟨by rw [textV_eq], hK.turns hT hI, hT⟩
theorem bwritten_value (b : Nat) (s : ByteArray) (p B : Nat) (L : List Lk.Hd) (v : Value) (w : World) (hs : s.size ≤ 2 ^ 48) (hp : p ≤ s.size) (hK : Blk w b s p B L v) :
    Calls Tryz.prog 187 #[.pointer (some ⟨b, 0, none⟩), valueR] w fun e w' =>
      e = .returned (.tuple #[.string (bs (textOf (Lk.textR false s.data.toList p))), .bool (Lk.textR false s.data.toList p).good]) ∧ Blk w' b s (Lk.textR false s.data.toList p).at B L v ∧ Turns b w w' := by
  refine (written_value b s p _ w hs hp _ (hide rfl) hK.blk).mono ?_
  rintro e w' ⟨rfl, hI, hT⟩
  exact ⟨by rw [textV_eq], hK.turns hT hI, hT⟩

end Go.Proofs.YtbkpdapagfjmmaaGreatDoor
