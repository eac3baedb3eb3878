import Derived.Test.YtbkpdapagfjmmaaGreatDoorA30
set_option linter.unusedVariables false
set_option maxRecDepth 100000
set_option maxHeartbeats 16000000
namespace Go.Proofs.YtbkpdapagfjmmaaGreatDoor
open Go.RowKit
structure Blk (w : World) (b : Nat) (s : ByteArray) (p B : Nat) (L : List Lk.Hd) (v : Value) : Prop where
 blk : Is w b 208 [.string s, .int .i64 p, aU, .int .i64 ((B : Int) - Lk.weights L), v]
 own : w.ownsRow 0 112 2 v L.length (aQ L)
 le : Lk.weights L <= B
 hB : B <= 200
 fx : Fx w
 b0 : 0 ≠ b
theorem Blk.turns {w w' : World} {b : Nat} {s : ByteArray} {p q B : Nat} {L : List Lk.Hd} {v : Value} (h : Blk w b s p B L v) (hT : Turns b w w') (hI : Is w' b 208 [.string s, .int .i64 q, aU, .int .i64 ((B : Int) - Lk.weights L), v]) : Blk w' b s q B L v :=
 ⟨hI, iP h.own h.blk (nbq rfl) hT, h.le, h.hB, h.fx.grown hT (by simpa using h.b0), h.b0⟩
theorem Blk.below {w w' : World} {b : Nat} {s : ByteArray} {p B : Nat} {L : List Lk.Hd} {v : Value} (h : Blk w b s p B L v) (hb : Below w.heap.size w w') : Blk w' b s p B L v :=
 ⟨h.blk.below hb h.blk.lt, own_below h.own hb, h.le, h.hB, h.fx.below hb h.fx.1, h.b0⟩
theorem Blk.alloc {w : World} {b : Nat} {s : ByteArray} {p B : Nat} {L : List Lk.Hd} {v : Value} (h : Blk w b s p B L v) (o : Obj) : Blk (w.alloc o) b s p B L v :=
 h.below ((Below.refl _ _).alloc (Nat.le_refl _) o)
theorem Turns.aY {b : Nat} {w w1 : World} (h : Turns b w w1) {a : Addr} (ha : w.heap.size <= a.block) (v : Value) : Turns b w (w1.setCell a v) :=
 ⟨h.os, h.tape, h.output, by simpa using h.size, fun i hi hn => by
  rw [heap_setCell_other _ _ _ _ (by omega)]
  exact h.block i hi hn⟩
def QN : Lk.PR Lk.Hd -> Lk.Hd
 | .ok h _ => h
 | .bad _ => bF
theorem set1 {w : World} {b : Nat} {T : TypeId} {a x y : Value} {more : List Value} (h : Is w b T (a :: x :: more)) : Is (w.setCell ⟨b, 1, none⟩ y) b T (a :: y :: more) := h.set 1 y
theorem Dn (b : Nat) (s : ByteArray) (p i B : Nat) (L : List Lk.Hd) (v : Value) (h : Lk.Hd) (w : World) (hi : i <= 2 ^ 40) (hK : Blk w b s p B L v) (he : (Lk.fB L)[i]? = some h) :
 Calls Tryz.prog 178 #[.pointer (some ⟨b, 0, none⟩), .int .i64 i] w fun e w' => e = .returned (.tuple #[hdA h, .bool true]) ∧ Below w.heap.size w w' := by
 have hK0 := hK.alloc (.cells #[.string ⟨#[]⟩, .string ⟨#[]⟩] 112)
 have HC := hide (ou b 2 i 0 L v _ hK0.blk.lt hi hK0.fx (hK0.blk.cell 4) hK0.own)
 have HE := hide he
 have HB := hide ((Below.refl w.heap.size w).alloc (Nat.le_refl _) (.cells #[.string ⟨#[]⟩, .string ⟨#[]⟩] 112))
 have HX := hide (Is.new w 112 [.string ⟨#[]⟩, .string ⟨#[]⟩])
 clear hK hK0 he
 go_enter Tryz.func178, Tryz.ntmps178
 go_wp2_with fail
 refine (uh HC).mono ?_
 rintro e w1 ⟨hr, hb⟩
 rw [uh HE] at hr
 subst hr
 simp only [Option.getD, Option.isSome]
 have hX1 := (uh HX).below hb (by simp)
 have hbel := (uh HB).trans (hb.mono (by simp))
 have c0 := hX1.cell 0
 have c1 := hX1.cell 1
 have f0 := hX1.free 0
 have f1 := hX1.free 1
 have hXl := hX1.lt
 simp only [List.getElem?_cons_zero, List.getElem?_cons_succ] at c0 c1
 clear hb hX1
 go_wp2_with fail
 exact bodyPost_ret (v := .tuple #[hdA h, .bool true]) (by simp [results, Tryz.results178, go_sem, c0, c1, hXl]) rfl ⟨rfl, ((hbel.setCell (Nat.le_refl _) _).setCell (Nat.le_refl _) _).alloc (by simpa using hbel.size) _⟩
theorem Dp (b : Nat) (s : ByteArray) (p i B : Nat) (L : List Lk.Hd) (v : Value) (w : World) (hi : i <= 2 ^ 40) (hp : 0 < p) (hps : p <= 2 ^ 50) (hK : Blk w b s p B L v) (he : (Lk.fB L)[i]? = none) :
 Calls Tryz.prog 178 #[.pointer (some ⟨b, 0, none⟩), .int .i64 i] w fun e w' => e = .returned (.tuple #[hdA bF, .bool false]) ∧ Blk w' b s (p - 1) B L v ∧ Turns b w w' := by
 have hK0 := hK.alloc (.cells #[.string ⟨#[]⟩, .string ⟨#[]⟩] 112)
 have HC := hide (ou b 2 i 0 L v _ hK0.blk.lt hi hK0.fx (hK0.blk.cell 4) hK0.own)
 have HE := hide he
 have HK := hide hK
 have HK0 := hide hK0
 have HB := hide ((Below.refl w.heap.size w).alloc (Nat.le_refl _) (.cells #[.string ⟨#[]⟩, .string ⟨#[]⟩] 112))
 have HX := hide (Is.new w 112 [.string ⟨#[]⟩, .string ⟨#[]⟩])
 clear hK hK0 he
 go_enter Tryz.func178, Tryz.ntmps178
 go_wp2_with fail
 refine (uh HC).mono ?_
 rintro e w1 ⟨hr, hb⟩
 rw [uh HE] at hr
 subst hr
 simp only [Option.getD, Option.isSome]
 have hX1 := (uh HX).below hb (by simp)
 have hbel := (uh HB).trans (hb.mono (by simp))
 have hK1 := (uh HK0).below hb
 have c0 := hX1.cell 0
 have c1 := hX1.cell 1
 have f0 := hX1.free 0
 have f1 := hX1.free 1
 have hXl := hX1.lt
 have d1 := hK1.blk.cell 1
 have g1 := hK1.blk.free 1
 have hbl := hK1.blk.lt
 simp only [List.getElem?_cons_zero, List.getElem?_cons_succ] at c0 c1 d1
 have hne : ¬ w.heap.size = b := fun e => hX1.ne hK1.blk (nbq rfl) e
 have hne' : ¬ b = w.heap.size := fun e => hne e.symm
 have HK1 := hide hK1
 have HX1 := hide hX1
 clear hb hX1 hK1
 go_wp2_with fail
 have hz : ((p : Int) - 1) = ((p - 1 : Nat) : Int) := by omega
 refine bodyPost_ret (v := .tuple #[hdA bF, .bool false]) (by simp [results, Tryz.results178, go_sem, c0, c1, hXl, bF, bs]) rfl ⟨rfl, ?_, ?_⟩
 . rw [hz]
   exact (uh HK).turns ((((((Below.turns hbel b).set 1 _).aY (Nat.le_refl _) _).aY (Nat.le_refl _) _).alloc _)) ((((set1 (uh HK1).blk).other _ _ hne').other _ _ hne').alloc _)
 . exact ((((Below.turns hbel b).set 1 _).aY (Nat.le_refl _) _).aY (Nat.le_refl _) _).alloc _
theorem wS (b : Nat) (s : ByteArray) (p i B : Nat) (L : List Lk.Hd) (v : Value) (w : World) (hi : i <= 2 ^ 40) (hp : 0 < p) (hps : p <= 2 ^ 50) (hK : Blk w b s p B L v) :
 Calls Tryz.prog 178 #[.pointer (some ⟨b, 0, none⟩), .int .i64 i] w fun e w' => e = .returned (.tuple #[hdA (QN (Lk.pX L i p)), .bool (Lk.pX L i p).good]) ∧ Blk w' b s (Lk.pX L i p).at B L v ∧ Turns b w w' := by
 unfold Lk.pX
 cases he : (Lk.fB L)[i]? with
 | none => exact Dp b s p i B L v w hi hp hps hK he
 | some h =>
   refine (Dn b s p i B L v h w hi hK he).mono ?_
   rintro e w' ⟨rfl, hb⟩
   exact ⟨rfl, hK.below hb, Below.turns hb b⟩
def textOf : Lk.PR Lk.Bs -> Lk.Bs
 | .ok t _ => t
 | .bad _ => []
theorem E8 (r : Lk.PR Lk.Bs) : JQ r = .tuple #[.string (bs (textOf r)), .bool r.good] := by cases r <;> rfl
theorem yD (b : Nat) (s : ByteArray) (p B : Nat) (L : List Lk.Hd) (v : Value) (w : World) (hs : s.size <= 2 ^ 48) (hp : p <= s.size) (hK : Blk w b s p B L v) :
 Calls Tryz.prog 187 #[.pointer (some ⟨b, 0, none⟩), jY] w fun e w' =>
  e = .returned (.tuple #[.string (bs (textOf (Lk.bI true s.data.toList p))), .bool (Lk.bI true s.data.toList p).good]) ∧ Blk w' b s (Lk.bI true s.data.toList p).at B L v ∧ Turns b w w' := by
 refine (Aw b s p _ w hs hp _ (hide rfl) hK.blk).mono ?_
 rintro e w' ⟨rfl, hI, hT⟩
 exact ⟨by rw [E8], hK.turns hT hI, hT⟩
theorem uU (b : Nat) (s : ByteArray) (p B : Nat) (L : List Lk.Hd) (v : Value) (w : World) (hs : s.size <= 2 ^ 48) (hp : p <= s.size) (hK : Blk w b s p B L v) :
 Calls Tryz.prog 187 #[.pointer (some ⟨b, 0, none⟩), valueR] w fun e w' =>
  e = .returned (.tuple #[.string (bs (textOf (Lk.bI false s.data.toList p))), .bool (Lk.bI false s.data.toList p).good]) ∧ Blk w' b s (Lk.bI false s.data.toList p).at B L v ∧ Turns b w w' := by
 refine (yC b s p _ w hs hp _ (hide rfl) hK.blk).mono ?_
 rintro e w' ⟨rfl, hI, hT⟩
 exact ⟨by rw [E8], hK.turns hT hI, hT⟩
namespace Lk
theorem pJ {s : Bs} {p n q : Nat} (h : kT s p = .ok n q) : n <= 268435455 := by
 unfold kT at h
 cases e : rd 0 0 (s.drop p) with
 | short => rw [e] at h; cases h
 | bad k => rw [e] at h; cases h
 | ok m k => rw [e] at h; cases h; exact (kX e).2
theorem yE {L : List Hd} {k : Nat} {s : Bs} {p : Nat} {t : Bs} {q : Nat} (hp : p <= s.length) (h : jY L k s p = .ok t q) : p <= q ∧ q <= s.length := by
 unfold jY at h
 split at h
 . have := jZ hp h; omega
 . unfold pX at h
   cases e : (fB L)[k - 1]? with
   | none => rw [e] at h; cases h
   | some x => rw [e] at h; cases h; omega
theorem pM {L : List Hd} {k : Nat} {s : Bs} {p : Nat} {h : Hd} {q B : Nat} (hL : weights L <= B) (hB : B <= 200) (hp : p <= s.length) (hf : eH L k s p = .ok h q) : h.n.length <= 200 ∧ h.v.length <= 32 ∧ q <= s.length := by
 unfold eH at hf
 cases e : jY L k s p with
 | bad q => rw [e] at hf; cases hf
 | ok n q1 =>
   rw [e] at hf
   have h1 := yE hp e
   simp only at hf
   cases e2 : bI false s q1 with
   | bad q => rw [e2] at hf; cases hf
   | ok v q2 =>
     rw [e2] at hf
     have h2 := jZ h1.2 e2
     cases hf
     refine ⟨?_, h2.2.2, h2.2.1⟩
     unfold jY at e
     split at e
     . have := jZ hp e; simp only; omega
     . unfold pX at e
       cases e3 : (fB L)[k - 1]? with
       | none => rw [e3] at e; cases e
       | some x =>
         rw [e3] at e
         cases e
         have hm := List.mem_of_getElem? e3
         unfold fB at hm
         rw [List.mem_append] at hm
         rcases hm with hm | hm
         . simp [jb] at hm
           rcases hm with rfl | rfl | rfl | rfl <;> simp
         . have := jX hm
           unfold Hd.weight at this
           simp only
           omega
end Lk
theorem GZ (b : Nat) (s : ByteArray) (p B : Nat) (L : List Lk.Hd) (v : Value) (w : World) (hs : s.size <= 2 ^ 48) (hp : p <= s.size) (hK : Blk w b s p B L v) :
 Calls Tryz.prog 186 #[.pointer (some ⟨b, 0, none⟩), .int .i64 0] w fun e w' =>
  e = .returned (.tuple #[.string (bs (textOf (Lk.bI true s.data.toList p))), .bool (Lk.bI true s.data.toList p).good]) ∧ Blk w' b s (Lk.bI true s.data.toList p).at B L v ∧ Turns b w w' := by
 have HC := hide (fun w (hK : Blk w b s p B L v) => yD b s p B L v w hs hp hK)
 have HK := hide hK
 clear hK
 generalize Lk.bI true s.data.toList p = R at *
 go_enter Tryz.func186, Tryz.ntmps186
 go_wp2_with fail
 refine (jG _).mono ?_
 rintro e w1 ⟨rfl, hb⟩
 go_wp2_with fail
 refine (uh HC _ ((uh HK).below hb)).mono ?_
 rintro e w2 ⟨rfl, hK2, hT⟩
 go_wp2_with fail
 go_ret2
 exact ⟨rfl, hK2, (Below.turns hb b).trans hT⟩
theorem JR (b : Nat) (s : ByteArray) (p k B : Nat) (L : List Lk.Hd) (v : Value) (w : World) (hk : 0 < k) (hk2 : k <= 2 ^ 40) (hp : 0 < p) (hps : p <= 2 ^ 50) (hK : Blk w b s p B L v) :
 Calls Tryz.prog 186 #[.pointer (some ⟨b, 0, none⟩), .int .i64 k] w fun e w' =>
  e = .returned (.tuple #[.string (bs (QN (Lk.pX L (k - 1) p)).n), .bool (Lk.pX L (k - 1) p).good]) ∧ Blk w' b s (Lk.pX L (k - 1) p).at B L v ∧ Turns b w w' := by
 have HC := hide (fun w (hK : Blk w b s p B L v) => wS b s p (k - 1) B L v w (by omega) hp hps hK)
 have HK := hide hK
 have hk0 : ((k : Int) == 0) = false := by rw [beq_eq_false_iff_ne]; omega
 clear hK
 generalize Lk.pX L (k - 1) p = R at *
 rw [show ((k - 1 : Nat) : Int) = (k : Int) - 1 by omega] at HC
 go_enter Tryz.func186, Tryz.ntmps186
 go_wp2_with fail
 refine (uh HC _ (uh HK)).mono ?_
 rintro e w2 ⟨rfl, hK2, hT⟩
 go_wp2_with fail
 go_ret2
 exact ⟨rfl, hK2.alloc _, hT.alloc _⟩
def nameOf : Lk.PR Lk.Bs -> Lk.Bs
 | .ok t _ => t
 | .bad _ => []
theorem Az (b : Nat) (s : ByteArray) (p k B : Nat) (L : List Lk.Hd) (v : Value) (w : World) (hs : s.size <= 2 ^ 48) (hk2 : k <= 2 ^ 40) (hp : 0 < p) (hps : p <= s.size) (hK : Blk w b s p B L v) :
 Calls Tryz.prog 186 #[.pointer (some ⟨b, 0, none⟩), .int .i64 k] w fun e w' =>
  e = .returned (.tuple #[.string (bs (nameOf (Lk.jY L k s.data.toList p))), .bool (Lk.jY L k s.data.toList p).good]) ∧ Blk w' b s (Lk.jY L k s.data.toList p).at B L v ∧ Turns b w w' := by
 unfold Lk.jY
 by_cases hk : k = 0
 . subst hk
   rw [if_pos rfl]
   refine (GZ b s p B L v w hs hps hK).mono ?_
   rintro e w' ⟨rfl, h1, h2⟩
   refine ⟨?_, h1, h2⟩
   cases Lk.bI true s.data.toList p <;> rfl
 . rw [if_neg hk]
   refine (JR b s p k B L v w (by omega) hk2 hp (by omega) hK).mono ?_
   rintro e w' ⟨rfl, h1, h2⟩
   cases hr : Lk.pX L (k - 1) p with
   | ok h q => rw [hr] at h1; exact ⟨rfl, h1, h2⟩
   | bad q => rw [hr] at h1; exact ⟨rfl, h1, h2⟩
theorem G5 (b : Nat) (s : ByteArray) (p k B : Nat) (L : List Lk.Hd) (v : Value) (w : World) (hs : s.size <= 2 ^ 48) (hk2 : k <= 2 ^ 40) (hp : 0 < p) (hps : p <= s.size) (hK : Blk w b s p B L v) :
 Calls Tryz.prog 179 #[.pointer (some ⟨b, 0, none⟩), .int .i64 k] w fun e w' =>
  (∃ hx, e = .returned (.tuple #[hdA hx, .bool (Lk.eH L k s.data.toList p).good]) ∧ ∀ h q, Lk.eH L k s.data.toList p = .ok h q -> hx = h) ∧ Blk w' b s (Lk.eH L k s.data.toList p).at B L v ∧ Turns b w w' := by
 have HK0 := hide (hK.alloc (.cells #[.string ⟨#[]⟩, .string ⟨#[]⟩] 112))
 have HX := hide (Is.new w 112 [.string ⟨#[]⟩, .string ⟨#[]⟩])
 have hT0 := (Turns.refl b w).alloc (.cells #[.string ⟨#[]⟩, .string ⟨#[]⟩] 112)
 have hbl := hK.blk.lt
 have HK := hide hK
 clear hK
 cases hn : Lk.jY L k s.data.toList p with
 | bad q =>
   have hR : Lk.eH L k s.data.toList p = .bad q := by unfold Lk.eH; rw [hn]
   rw [hR]
   have hC := Az b s p k B L v _ hs hk2 hp hps (uh HK0)
   rw [hn] at hC
   have HC := hide hC
   clear hC hR hn
   go_enter Tryz.func179, Tryz.ntmps179
   go_wp2_with fail
   refine (uh HC).mono ?_
   rintro e w1 ⟨rfl, hK1, hT1⟩
   simp only [nameOf, Lk.PR.good, Lk.PR.at] at hK1 ⊢
   have hX1 := (uh HX).grown hT1 (by simp; omega)
   have c0 := hX1.cell 0
   have c1 := hX1.cell 1
   have f0 := hX1.free 0
   have f1 := hX1.free 1
   have hXl := hX1.lt
   simp only [List.getElem?_cons_zero, List.getElem?_cons_succ] at c0 c1
   have HK1 := hide hK1
   clear hK1 hX1
   go_wp2_with fail
   have hTT := ((hT0.trans hT1).aY (a := ⟨w.heap.size, 0, none⟩) (Nat.le_refl _) (.string (bs bF.n))).aY (a := ⟨w.heap.size, 1, none⟩) (Nat.le_refl _) (.string (bs bF.v))
   refine bodyPost_ret (v := .tuple #[hdA bF, .bool false]) (by simp [results, Tryz.results179, go_sem, c0, c1, bF, bs]) rfl ⟨⟨bF, rfl, fun h q e => by cases e⟩, (uh HK).turns hTT ((((uh HK1).blk.other _ _ (by simp; omega)).other _ _ (by simp; omega))), hTT⟩
 | ok t q =>
   have hqb := Lk.yE (L := L) (k := k) (s := s.data.toList) (by rw [<- af]; exact hps) hn
   rw [<- af] at hqb
   have hC := Az b s p k B L v _ hs hk2 hp hps (uh HK0)
   rw [hn] at hC
   have HC := hide hC
   have HC2 := hide (fun w (hK : Blk w b s q B L v) => uU b s q B L v w hs (by omega) hK)
   have hfr : (Lk.eH L k s.data.toList p).good = (Lk.bI false s.data.toList q).good ∧ (Lk.eH L k s.data.toList p).at = (Lk.bI false s.data.toList q).at ∧ ∀ h q', Lk.eH L k s.data.toList p = .ok h q' -> (⟨t, textOf (Lk.bI false s.data.toList q)⟩ : Lk.Hd) = h := by
    unfold Lk.eH
    rw [hn]
    simp only
    cases Lk.bI false s.data.toList q with
    | bad q' => exact ⟨rfl, rfl, fun _ _ e => by cases e⟩
    | ok u q' => exact ⟨rfl, rfl, fun _ _ e => by cases e; rfl⟩
   obtain ⟨hg, ha, hh⟩ := hfr
   rw [hg, ha]
   have HH := hide hh
   clear hC hn hg ha hh
   generalize Lk.bI false s.data.toList q = R2 at *
   go_enter Tryz.func179, Tryz.ntmps179
   go_wp2_with fail
   refine (uh HC).mono ?_
   rintro e w1 ⟨rfl, hK1, hT1⟩
   simp only [nameOf, Lk.PR.good, Lk.PR.at] at hK1 ⊢
   have hX1 := (uh HX).grown hT1 (by simp; omega)
   have HX1 := hide hX1
   have HK1 := hide hK1
   clear hK1 hX1
   go_wp2_with fail
   refine (kE _).mono ?_
   rintro e w2 ⟨rfl, hb2⟩
   go_wp2_with fail
   refine (uh HC2 _ ((uh HK1).below hb2)).mono ?_
   rintro e w3 ⟨rfl, hK3, hT3⟩
   have hX3 := ((uh HX1).below hb2 (uh HX1).lt).grown hT3 (by simp; omega)
   have c0 := hX3.cell 0
   have c1 := hX3.cell 1
   have f0 := hX3.free 0
   have f1 := hX3.free 1
   have hXl := hX3.lt
   simp only [List.getElem?_cons_zero, List.getElem?_cons_succ] at c0 c1
   have hTT := ((((hT0.trans hT1).below hb2).trans hT3).aY (a := ⟨w.heap.size, 0, none⟩) (Nat.le_refl _) (.string (bs t))).aY (a := ⟨w.heap.size, 1, none⟩) (Nat.le_refl _) (.string (bs (textOf R2)))
   have HK3 := hide hK3
   clear hK3 hX3
   go_wp2_with fail
   refine bodyPost_ret (v := .tuple #[hdA ⟨t, textOf R2⟩, .bool R2.good]) (by simp [results, Tryz.results179, go_sem, c0, c1]) rfl ⟨⟨⟨t, textOf R2⟩, rfl, uh HH⟩, (uh HK).turns hTT ((((uh HK3).blk.other _ _ (by simp; omega)).other _ _ (by simp; omega))), hTT⟩
open Go.RowKit
theorem P6 (b : Nat) (s : ByteArray) (p B : Nat) (L : List Lk.Hd) (v : Value) (h : Lk.Hd) (w : World) (hK : Blk w b s p B L v) (hn : h.n.length <= 200) (hv : h.v.length <= 100) :
 Calls Tryz.prog 171 #[.pointer (some ⟨b, 2, none⟩), hdA h] w fun e w' => e = .returned (.tuple #[]) ∧ (∃ v', Blk w' b s p B (Lk.put B L h) v' ∧ fZ w.heap.size v v') ∧ Turns b w w' := by
 refine (put_any b 2 _ _ B 0 L h v _ w hK.blk (nbq rfl) rfl rfl rfl hK.own hK.hB rfl hK.le hn hv).mono ?_
 rintro e w' ⟨rfl, ⟨v', ho, hI⟩, hT⟩
 exact ⟨rfl, ⟨v', ⟨hI, own_base (Nat.zero_le _) ho, Lk.jd B L h, hK.hB, hK.fx.grown hT (by simpa using hK.b0), hK.b0⟩, .inr (fun k hk => (ho.lt k hk).1)⟩, hT⟩
theorem Blk.drew {w : World} {b : Nat} {s : ByteArray} {p B : Nat} {L : List Lk.Hd} {v : Value} (h : Blk w b s p B L v) : Blk w.drew b s p B L v := ⟨h.blk, h.own, h.le, h.hB, h.fx, h.b0⟩
theorem Blk.far {w : World} {b H : Nat} {s : ByteArray} {p B : Nat} {L : List Lk.Hd} {v : Value} (h : Blk w b s p B L v) (hne : ∀ k, v.ownBlock = some k -> k ≠ H) (hb : b ≠ H) (h0 : 0 ≠ H) (x y : Value) : Blk ((w.setCell ⟨H, 0, none⟩ x).setCell ⟨H, 1, none⟩ y) b s p B L v := by
 have hg : w.grownBy ((w.setCell ⟨H, 0, none⟩ x).setCell ⟨H, 1, none⟩ y) (some H) := ((Turns.refl H w).set 0 x).set 1 y
 refine ⟨(h.blk.other _ _ hb).other _ _ hb, h.own.kept hg ?_, h.le, h.hB, h.fx.grown hg (by simpa using h0), h.b0⟩
 cases hv : Value.ownBlock v with
 | none => exact .inl rfl
 | some k => exact .inr (by have := hne k hv; simpa using this)
theorem QO (n : Nat) : Int.tmod (n : Int) 2 = ((n % 2 : Nat) : Int) := by simp [Int.tmod]
theorem QP (n : Nat) : Int.tdiv (n : Int) 2 = ((n / 2 : Nat) : Int) := by simp [Int.tdiv]
theorem G6 (b : Nat) (s : ByteArray) (p q B : Nat) (L : List Lk.Hd) (v : Value) (w : World) (hs : s.size <= 2 ^ 48) (hp : p <= s.size) (hK : Blk w b s p B L v) (hn : Lk.kT s.data.toList p = .bad q) :
 Calls Tryz.prog 154 #[.pointer (some ⟨b, 0, none⟩)] w fun e w' => (∃ hx, e = .returned (.tuple #[hdA hx, .bool false])) ∧ Blk w' b s q B L v ∧ Turns b w w' := by
 have hK0 := hK.alloc (.cells #[.string ⟨#[]⟩, .string ⟨#[]⟩] 112)
 have HC := hide (ui b _ s p q _ _ (by unfold maxLen; omega) hp hK0.blk hn)
 have HX := hide (Is.new w 112 [.string ⟨#[]⟩, .string ⟨#[]⟩])
 have hT0 := (Turns.refl b w).alloc (.cells #[.string ⟨#[]⟩, .string ⟨#[]⟩] 112)
 have hbl := hK.blk.lt
 have HK := hide hK
 clear hK hK0 hn
 go_enter Tryz.func154, Tryz.ntmps154
 go_wp2_with fail
 refine (uh HC).mono ?_
 rintro e w1 ⟨rfl, hI1, hT1⟩
 have hX1 := (uh HX).grown hT1 (by simp; omega)
 have c0 := hX1.cell 0
 have c1 := hX1.cell 1
 have f0 := hX1.free 0
 have f1 := hX1.free 1
 have hXl := hX1.lt
 simp only [List.getElem?_cons_zero, List.getElem?_cons_succ] at c0 c1
 have HI1 := hide hI1
 clear hI1 hX1
 have hTT := ((hT0.trans hT1).aY (a := ⟨w.heap.size, 0, none⟩) (Nat.le_refl _) (.string (bs bF.n))).aY (a := ⟨w.heap.size, 1, none⟩) (Nat.le_refl _) (.string (bs bF.v))
 go_wp2_with fail
 exact bodyPost_ret (v := .tuple #[hdA bF, .bool false]) (by simp [results, Tryz.results154, go_sem, c0, c1, bF, bs]) rfl ⟨⟨bF, rfl⟩, (uh HK).turns hTT ((((uh HI1).other _ _ (by simp; omega)).other _ _ (by simp; omega))), hTT⟩
theorem G7 (b : Nat) (s : ByteArray) (p n q B : Nat) (L : List Lk.Hd) (v : Value) (w : World) (hs : s.size <= 2 ^ 48) (hp : p <= s.size) (hK : Blk w b s p B L v) (hn : Lk.kT s.data.toList p = .ok n q) (h2 : n % 2 = 0) :
 Calls Tryz.prog 154 #[.pointer (some ⟨b, 0, none⟩)] w fun e w' => e = .returned (.tuple #[hdA (QN (Lk.pX L (n / 2) q)), .bool (Lk.pX L (n / 2) q).good]) ∧ Blk w' b s (Lk.pX L (n / 2) q).at B L v ∧ Turns b w w' := by
 have hK0 := hK.alloc (.cells #[.string ⟨#[]⟩, .string ⟨#[]⟩] 112)
 have hq := Lk.iq (by rw [<- af]; exact hp) hn
 rw [<- af] at hq
 have hnl := Lk.pJ hn
 have HC := hide (oC b _ s p n q _ _ (by unfold maxLen; omega) hp hK0.blk hn)
 have HC2 := hide (fun w (hK : Blk w b s q B L v) => wS b s q (n / 2) B L v w (by omega) (by omega) (by omega) hK)
 have HX := hide (Is.new w 112 [.string ⟨#[]⟩, .string ⟨#[]⟩])
 have hT0 := (Turns.refl b w).alloc (.cells #[.string ⟨#[]⟩, .string ⟨#[]⟩] 112)
 have hbl := hK.blk.lt
 have HK := hide hK
 have HK0 := hide hK0
 have hr : Int.tmod (n : Int) 2 = 0 := by rw [QO, h2]; rfl
 have hd := QP n
 clear hK hK0 hn
 generalize Lk.pX L (n / 2) q = R at *
 go_enter Tryz.func154, Tryz.ntmps154
 go_wp2_with fail
 refine (uh HC).mono ?_
 rintro e w1 ⟨rfl, hI1, hT1⟩
 have HX1 := hide ((uh HX).grown hT1 (by simp; omega))
 have HK1 := hide ((uh HK0).turns hT1 hI1)
 clear hI1
 go_wp2_with fail
 refine (uh HC2 _ (uh HK1)).mono ?_
 rintro e w2 ⟨rfl, hK2, hT2⟩
 have hX2 := (uh HX1).grown hT2 (by simp; omega)
 have c0 := hX2.cell 0
 have c1 := hX2.cell 1
 have f0 := hX2.free 0
 have f1 := hX2.free 1
 have hXl := hX2.lt
 simp only [List.getElem?_cons_zero, List.getElem?_cons_succ] at c0 c1
 have HK2 := hide hK2
 clear hK2 hX2
 have hTT := (((hT0.trans hT1).trans hT2).aY (a := ⟨w.heap.size, 0, none⟩) (Nat.le_refl _) (.string (bs (QN R).n))).aY (a := ⟨w.heap.size, 1, none⟩) (Nat.le_refl _) (.string (bs (QN R).v))
 go_wp2_with fail
 exact bodyPost_ret (v := .tuple #[hdA (QN R), .bool R.good]) (by simp [results, Tryz.results154, go_sem, c0, c1]) rfl ⟨rfl, (uh HK).turns hTT ((((uh HK2).blk.other _ _ (by simp; omega)).other _ _ (by simp; omega))), hTT⟩
theorem JS (b : Nat) (s : ByteArray) (p n q B : Nat) (L : List Lk.Hd) (v : Value) (w : World) (hs : s.size <= 2 ^ 48) (hp : p <= s.size) (hK : Blk w b s p B L v) (hn : Lk.kT s.data.toList p = .ok n q) (h2 : n % 2 = 1) :
 Calls Tryz.prog 154 #[.pointer (some ⟨b, 0, none⟩)] w fun e w' =>
  (∃ hx, e = .returned (.tuple #[hdA hx, .bool (Lk.eH L (n / 2) s.data.toList q).good]) ∧ ∀ h q', Lk.eH L (n / 2) s.data.toList q = .ok h q' -> hx = h) ∧
  (∃ v', Blk w' b s (Lk.eH L (n / 2) s.data.toList q).at B (match Lk.eH L (n / 2) s.data.toList q with | .ok h _ => Lk.put B L h | .bad _ => L) v' ∧ fZ w.heap.size v v') ∧ Turns b w w' := by
 have hK0 := hK.alloc (.cells #[.string ⟨#[]⟩, .string ⟨#[]⟩] 112)
 have hq := Lk.iq (by rw [<- af]; exact hp) hn
 rw [<- af] at hq
 have hnl := Lk.pJ hn
 have HC := hide (oC b _ s p n q _ _ (by unfold maxLen; omega) hp hK0.blk hn)
 have HC2 := hide (fun w (hK : Blk w b s q B L v) => G5 b s q (n / 2) B L v w hs (by omega) (by omega) (by omega) hK)
 have hfl := hide (fun h q' => Lk.pM (L := L) (k := n / 2) (s := s.data.toList) (p := q) (h := h) (q := q') hK.le hK.hB (by rw [<- af]; omega))
 have HX := hide (Is.new w 112 [.string ⟨#[]⟩, .string ⟨#[]⟩])
 have hT0 := (Turns.refl b w).alloc (.cells #[.string ⟨#[]⟩, .string ⟨#[]⟩] 112)
 have hbl := hK.blk.lt
 have HK := hide hK
 have HK0 := hide hK0
 have hr : Int.tmod (n : Int) 2 = 1 := by rw [QO, h2]; rfl
 have hd := QP n
 clear hK hK0 hn
 generalize Lk.eH L (n / 2) s.data.toList q = R at *
 go_enter Tryz.func154, Tryz.ntmps154
 go_wp2_with fail
 refine (uh HC).mono ?_
 rintro e w1 ⟨rfl, hI1, hT1⟩
 have HX1 := hide ((uh HX).grown hT1 (by simp; omega))
 have HK1 := hide ((uh HK0).turns hT1 hI1)
 clear hI1
 go_wp2_with fail
 refine (uh HC2 _ (uh HK1)).mono ?_
 rintro e w2 ⟨⟨hx, rfl, hhx⟩, hK2, hT2⟩
 have hX2 := (uh HX1).grown hT2 (by simp; omega)
 have HX2 := hide hX2
 have HHX := hide hhx
 have hT3 := (hT0.trans hT1).trans hT2
 have hXl := hX2.lt
 clear hX2 hhx
 cases R with
 | bad q' =>
   simp only [Lk.PR.good, Lk.PR.at] at hK2 ⊢
   have HK2 := hide hK2
   have c0 := (uh HX2).cell 0
   have c1 := (uh HX2).cell 1
   have f0 := (uh HX2).free 0
   have f1 := (uh HX2).free 1
   simp only [List.getElem?_cons_zero, List.getElem?_cons_succ] at c0 c1
   clear hK2
   have hTT := ((hT3.aY (a := ⟨w.heap.size, 0, none⟩) (Nat.le_refl _) (.string (bs hx.n))).aY (a := ⟨w.heap.size, 1, none⟩) (Nat.le_refl _) (.string (bs hx.v))).alloc (.cells #[.string (bs hx.n), .string (bs hx.v)] 112)
   go_wp2_with fail
   refine bodyPost_ret (v := .tuple #[hdA hx, .bool false]) (by simp [results, Tryz.results154, go_sem, c0, c1, hXl]) rfl ⟨⟨hx, rfl⟩, ⟨v, (uh HK).turns hTT ((((uh HK2).blk.other _ _ (by simp; omega)).other _ _ (by simp; omega)).alloc _), .inl rfl⟩, hTT⟩
 | ok h q' =>
   obtain rfl := uh HHX h q' rfl
   simp only [Lk.PR.good, Lk.PR.at] at hK2 ⊢
   have WO := uh hfl hx q' rfl
   have HK2 := hide (hK2.alloc (.cells #[.string (bs hx.n), .string (bs hx.v)] 112))
   have hY := Is.new w2 112 [.string (bs hx.n), .string (bs hx.v)]
   have HX3 := hide ((uh HX2).alloc (.cells #[.string (bs hx.n), .string (bs hx.v)] 112))
   have hT4 := hT3.alloc (.cells #[.string (bs hx.n), .string (bs hx.v)] 112)
   have HY := hide hY
   have hs2 : w.heap.size <= w2.heap.size := hT3.size
   clear hK2 hY HX2
   go_wp2_with fail
   go_cut [] (fun wc => ∃ v', Blk wc b s q' B (Lk.put B L hx) v' ∧ fZ (w2.heap.size + 1) v v' ∧ Is wc w.heap.size 112 [.string ⟨#[]⟩, .string ⟨#[]⟩] ∧ Is wc w2.heap.size 112 [.string (bs hx.n), .string (bs hx.v)] ∧ Turns b w wc)
   case first =>
    go_region_with (go_at_call 171; refine (P6 b s q' B L v hx _ (Blk.drew (uh HK2)) (by omega) (by omega)).mono ?_; rintro e wx ⟨rfl, ⟨vx, hKx, hNx⟩, hTx⟩)
    all_goals
     go_wp2_with fail
     go_meet
     have Uf : Turns b (w2.alloc (.cells #[.string (bs hx.n), .string (bs hx.v)] 112)) wx := ⟨hTx.os, hTx.tape, hTx.output, hTx.size, hTx.block⟩
     have hb2 := (uh HK2).blk
     refine ⟨vx, hKx, ?_, (uh HX3).grown Uf (by simp; omega), (uh HY).grown Uf ?_, hT4.trans Uf⟩
     . rcases hNx with h | h
       . exact .inl h
       . exact .inr (fun k hk => by have := h k hk; simpa using this)
     . intro e
       exact (uh HY).ne hb2 (nbq rfl) (by simpa using e)
   case rest =>
    obtain ⟨v', hK5, hN5, hX5, hY5, hT5⟩ := hcut
    have c0 := hX5.cell 0
    have c1 := hX5.cell 1
    have f0 := hX5.free 0
    have f1 := hX5.free 1
    have y0 := hY5.cell 0
    have y1 := hY5.cell 1
    have Ug := hX5.lt
    simp only [List.getElem?_cons_zero, List.getElem?_cons_succ] at c0 c1 y0 y1
    have HK5 := hide hK5
    have hTT := (hT5.aY (a := ⟨w.heap.size, 0, none⟩) (Nat.le_refl _) (.string (bs hx.n))).aY (a := ⟨w.heap.size, 1, none⟩) (Nat.le_refl _) (.string (bs hx.v))
    clear hK5 hX5 hY5
    go_wp2_with fail
    refine bodyPost_ret (v := .tuple #[hdA hx, .bool true]) (by simp [results, Tryz.results154, go_sem, c0, c1]) rfl ⟨rfl, ⟨v', Blk.far (uh HK5) ?_ (by omega) (by have := (uh HK).fx.1; omega) _ _, ?_⟩, hTT⟩
    . intro k hk
      rcases hN5 with rfl | h
      . have := ((uh HK).own.lt k hk).2; omega
      . have := h k hk; omega
    . rcases hN5 with h | h
      . exact .inl h
      . exact .inr (fun k hk => by have := h k hk; omega)
namespace Lk
theorem AA {L : List Hd} {k : Nat} {s : Bs} {p : Nat} {h : Hd} {q : Nat} (hp : p <= s.length) (hf : eH L k s p = .ok h q) : p <= q := by
 unfold eH at hf
 cases e : jY L k s p with
 | bad q => rw [e] at hf; cases hf
 | ok n q1 =>
   rw [e] at hf
   have h1 := yE hp e
   simp only at hf
   cases e2 : bI false s q1 with
   | bad q => rw [e2] at hf; cases hf
   | ok v q2 =>
     rw [e2] at hf
     have h2 := jZ h1.2 e2
     cases hf
     omega
end Lk
theorem JU (b : Nat) (s : ByteArray) (p B : Nat) (L : List Lk.Hd) (v : Value) (w : World) (hs : s.size <= 2 ^ 48) (hp : p <= s.size) (hK : Blk w b s p B L v) :
 Calls Tryz.prog 154 #[.pointer (some ⟨b, 0, none⟩)] w fun e w' =>
  (match Lk.mY B L s.data.toList p with
   | .ok hl q => e = .returned (.tuple #[hdA hl.1, .bool true]) ∧ p < q ∧ q <= s.size ∧ ∃ v', Blk w' b s q B hl.2 v' ∧ fZ w.heap.size v v'
   | .bad q => (∃ hx, e = .returned (.tuple #[hdA hx, .bool false])) ∧ ∃ v', Blk w' b s q B L v') ∧ Turns b w w' := by
 have hpl : p <= s.data.toList.length := by rw [<- af]; exact hp
 unfold Lk.mY
 cases hn : Lk.kT s.data.toList p with
 | bad q =>
   refine (G6 b s p q B L v w hs hp hK hn).mono ?_
   rintro e w' ⟨h1, h2, h3⟩
   exact ⟨⟨h1, v, h2⟩, h3⟩
 | ok n q =>
   have hq := Lk.iq hpl hn
   rw [<- af] at hq
   simp only
   by_cases h2 : n % 2 = 0
   . rw [if_pos h2]
     refine (G7 b s p n q B L v w hs hp hK hn h2).mono ?_
     rintro e w' ⟨rfl, h1, h3⟩
     unfold Lk.pX at h1 ⊢
     cases he : (Lk.fB L)[n / 2]? with
     | none => rw [he] at h1; exact ⟨⟨⟨_, rfl⟩, v, h1⟩, h3⟩
     | some h => rw [he] at h1; exact ⟨⟨rfl, hq.1, hq.2, v, h1, .inl rfl⟩, h3⟩
   . rw [if_neg h2]
     have hfl := fun h q' => Lk.pM (L := L) (k := n / 2) (s := s.data.toList) (p := q) (h := h) (q := q') hK.le hK.hB (by rw [<- af]; omega)
     have hfg := fun h q' => Lk.AA (L := L) (k := n / 2) (s := s.data.toList) (p := q) (h := h) (q := q') (by rw [<- af]; omega)
     refine (JS b s p n q B L v w hs hp hK hn (by omega)).mono ?_
     rintro e w' ⟨⟨hx, rfl, hh⟩, ⟨v', h1, hN⟩, h3⟩
     cases hf : Lk.eH L (n / 2) s.data.toList q with
     | bad q' => rw [hf] at h1; exact ⟨⟨⟨_, rfl⟩, v', h1⟩, h3⟩
     | ok h q' =>
       obtain rfl := hh h q' hf
       have h5 := (hfl hx q' hf).2.2
       have h6 := hfg hx q' hf
       rw [<- af] at h5
       rw [hf] at h1
       exact ⟨⟨rfl, by omega, h5, v', h1, hN⟩, h3⟩
theorem Blk.grown {w w' : World} {b : Nat} {s : ByteArray} {p B : Nat} {L : List Lk.Hd} {v : Value} {row : Option Nat} (h : Blk w b s p B L v) (hg : w.grownBy w' row) (h1 : some b ≠ row) (h2 : v.ownBlock = none ∨ v.ownBlock ≠ row) (h3 : some 0 ≠ row) : Blk w' b s p B L v :=
 ⟨h.blk.grown hg h1, h.own.kept hg h2, h.le, h.hB, h.fx.grown hg h3, h.b0⟩
theorem Blk.drewN {w : World} {b : Nat} {s : ByteArray} {p B : Nat} {L : List Lk.Hd} {v : Value} (h : Blk w b s p B L v) (n : Nat) : Blk (w.drewN n) b s p B L v := ⟨h.blk, h.own, h.le, h.hB, h.fx, h.b0⟩
theorem yF {w : World} {B : Nat} {e : TypeId} {size n : Nat} {v : Value} {xs : List Value} (h : w.ownsRow B e size v n xs) : ∃ a cap, v = .slice a n cap := by
 rcases h.2 with ⟨rfl, rfl⟩ | ⟨g, cap, cur, rfl, _⟩
 . exact ⟨_, _, rfl⟩
 . exact ⟨_, _, rfl⟩
namespace Lk
def pre (hs : List Hd) : XR -> XR
 | .ok l L => .ok (hs ++ l) L
 | .err e p => .err e p
end Lk
def Uh (w : World) (b : Nat) (s : ByteArray) (B : Nat) (v : Value) (X : Lk.XR) (e : Ending) (w' : World) : Prop :=
 (match X with
  | .ok hs L2 => ∃ lv q v', e = .returned (.tuple #[lv, .int .i64 0]) ∧ w'.ownsRow w.heap.size 112 2 lv hs.length (aQ hs) ∧ (Blk w' b s q B L2 v' ∧ fZ w.heap.size v v') ∧ (lv.ownBlock = none ∨ lv.ownBlock ≠ v'.ownBlock) ∧ hs.length <= 6
  | .err ec q => e = .returned (.tuple #[.slice none 0 0, .int .i64 (ec : Int)]) ∧ ∃ L' v', Blk w' b s q B L' v') ∧ Turns b w w'
theorem AB (b : Nat) (s : ByteArray) (p B : Nat) (L : List Lk.Hd) (v : Value) (w : World) (hs : s.size <= 2 ^ 48) (hp : p <= s.size) (hK : Blk w b s p B L v) (X : Lk.XR) (HX : Hid (Lk.exR B s.data.toList 6 L p = X)) :
 Calls Tryz.prog 103 #[.pointer (some ⟨b, 0, none⟩)] w (Uh w b s B v X) := by
 obtain ⟨i, hi, hz0, hz1, hz2⟩ := info_parts rX
 have hsm : s.size <= maxLen := by unfold maxLen; omega
 have hsl := af s
 have HSL := hide hsl
 have HK := hide hK
 have h0w := hK.fx.1
 clear hK hsl
 go_enter Tryz.func103, Tryz.ntmps103
 go_wp2_with fail
 go_loopw [4] (fun u wr => ∃ (hd : List Lk.Hd) (p' : Nat) (L' : List Lk.Hd) (v' : Value), hd.length <= 6 ∧ p' <= s.size ∧ Hid (X = Lk.pre hd (Lk.exR B s.data.toList (6 - hd.length) L' p')) ∧ (Blk wr b s p' B L' v' ∧ fZ w.heap.size v v') ∧ wr.ownsRow w.heap.size 112 2 u hd.length (aQ hd) ∧ (u.ownBlock = none ∨ u.ownBlock ≠ v'.ownBlock) ∧ Turns b w wr) (fun u _ => 6 - sliceLen u)
 case atStart =>
  refine ⟨[], p, L, v, by simp, hp, ?_, ⟨uh HK, .inl rfl⟩, World.ownsRow_nil _ _ _ _, .inl rfl, Turns.refl _ _⟩
  have := uh HX
  rw [Hid, <- this]
  simp only [List.length_nil, Nat.sub_zero]
  cases Lk.exR B s.data.toList 6 L p <;> rfl
 case round =>
  obtain ⟨hd, p', L', v', hd6, hp', HE, ⟨hKr, hNr⟩, hown, hdis, hTr⟩ := hrel
  obtain ⟨a, cap, rfl⟩ := yF hown
  by_cases hend : s.size <= p'
  . have hdec : decide (s.size <= p') = true := by simpa using hend
    have hXX : X = .ok hd L' := by
     rw [uh HE]
     have e : Lk.exR B s.data.toList (6 - hd.length) L' p' = .ok [] L' := by
      cases 6 - hd.length <;> (rw [Lk.exR, if_pos (by rw [<- uh HSL]; exact hend)])
     rw [e]
     simp [Lk.pre]
    subst hXX
    go_wp2_with fail
    refine (jh b _ s p' _ _ hsm hKr.blk).mono ?_
    rintro e w1 ⟨rfl, nd, rfl⟩
    have HKr := hide hKr
    have HOr := hide hown
    clear hKr hown
    go_wp2_with fail
    go_ret2
    exact ⟨⟨_, p', v', rfl, uh HOr, ⟨(uh HKr).drewN nd, hNr⟩, hdis, hd6⟩, hTr.drewN nd⟩
  . have hdec : decide (s.size <= p') = false := by simpa using hend
    go_wp2_with fail
    refine (jh b _ s p' _ _ hsm hKr.blk).mono ?_
    rintro e w1 ⟨rfl, nd, rfl⟩
    have HKr := hide (hKr.drewN nd)
    have HOr : Hid ((wr.drewN nd).ownsRow w.heap.size 112 2 (.slice a hd.length cap) hd.length (aQ hd)) := hown
    have hTn := hTr.drewN nd
    have WQ := hide hKr
    clear hKr hown hTr
    by_cases h6 : hd.length = 6
    . have h6' : ((hd.length : Int) == 6) = true := by rw [beq_iff_eq]; omega
      have hXX : X = .err 8 p' := by
       rw [uh HE, h6]
       simp only [Nat.sub_self]
       rw [Lk.exR, if_neg (by rw [<- uh HSL]; exact hend)]
       rfl
      subst hXX
      go_wp2_with fail
      go_ret2
      exact ⟨⟨rfl, L', v', uh HKr⟩, hTn⟩
    . have h6' : ((hd.length : Int) == 6) = false := by rw [beq_eq_false_iff_ne]; omega
      have hXX : X = Lk.pre hd (match Lk.mY B L' s.data.toList p' with
       | .bad q => .err 9 q
       | .ok hl q => match Lk.exR B s.data.toList (6 - (hd.length + 1)) hl.2 q with
         | .ok hs L2 => .ok (hl.1 :: hs) L2
         | .err e q => .err e q) := by
       rw [uh HE]
       have e : 6 - hd.length = (6 - (hd.length + 1)) + 1 := by omega
       rw [e, Lk.exR, if_neg (by rw [<- uh HSL]; exact hend)]
       rfl
      have HXX := hide hXX
      have HC := hide (JU b s p' B L' v' _ hs hp' (uh HKr))
      clear hXX
      go_wp2_with fail
      refine (uh HC).mono ?_
      rintro e w2 ⟨hm, hT2⟩
      have ho2 := iP (uh HOr) (uh HKr).blk (nbq rfl) hT2
      have Ui := hTn.trans hT2
      cases hpr : Lk.mY B L' s.data.toList p' with
      | bad q =>
        rw [hpr] at hm
        obtain ⟨⟨hx, rfl⟩, v2, hK2⟩ := hm
        have hX2 := uh HXX
        rw [hpr] at hX2
        simp only [Lk.pre] at hX2
        subst hX2
        have HK2 := hide hK2
        clear hK2 ho2
        go_wp2_with fail
        go_ret2
        exact ⟨⟨rfl, L', v2, (uh HK2).alloc _⟩, Ui.alloc _⟩
      | ok hl q =>
        rw [hpr] at hm
        obtain ⟨rfl, hpq, hq, v2, hK2, hN2⟩ := hm
        have hlt : ∀ k, (Value.slice a hd.length cap).ownBlock = some k -> k < (wr.drewN nd).heap.size := fun k hk => ((uh HOr).lt k hk).2
        have JV : (Value.slice a hd.length cap).ownBlock = none ∨ (Value.slice a hd.length cap).ownBlock ≠ v2.ownBlock := by
         rcases hN2 with rfl | hN2
         . exact hdis
         . cases hv : (Value.slice a hd.length cap).ownBlock with
           | none => exact .inl rfl
           | some k => exact .inr (fun e => by have h1 := hN2 k e.symm; have h2 := hlt k hv; omega)
        have hX2 := uh HXX
        rw [hpr] at hX2
        have HX2 := hide hX2
        have HK2 := hide hK2
        have HO2 := hide ho2
        have hs2 := Ui.size
        clear hK2 ho2 hX2
        go_wp2_with (at_builtin; refine wpList_append_lies _ rfl _ _ 42 rfl w.heap.size 112 i _ 2 32 Tryz.underlying42 hi hz0 hz1 hz2 rfl (by decide) _ hd.length (aQ hd) rfl (((uh HO2).alloc _).alloc _) ⟨w2.heap.size + 1, 0, none⟩ 1 1 (hdV hl.1) rfl rfl ?hnews ?h1 (by decide) ?h63 ?hby ?hba _ rfl ?_)
        case hnews =>
         have := iK (xI (w2.alloc (.cells #[.string (bs hl.1.n), .string (bs hl.1.v)] 112)) 112 hl.1)
         simpa using this
        case h1 => simp [hdV, Value.oneCell']
        case h63 => unfold maxLen; omega
        case hby => omega
        case hba => first | omega | (simp; omega)
        intro g1 cap1 w3 ho3 hg3 OE hlt3
        have hKa := ((uh HK2).alloc (.cells #[.string (bs hl.1.n), .string (bs hl.1.v)] 112)).alloc (.cells #[.string (bs hl.1.n), .string (bs hl.1.v)] 112)
        have hOa := ((uh HO2).alloc (.cells #[.string (bs hl.1.n), .string (bs hl.1.v)] 112)).alloc (.cells #[.string (bs hl.1.n), .string (bs hl.1.v)] 112)
        have hrow : ∀ k, (Value.slice a hd.length cap).ownBlock = some k -> w.heap.size <= k := fun k hk => ((uh HO2).lt k hk).1
        have hdv : v2.ownBlock = none ∨ v2.ownBlock ≠ (Value.slice a hd.length cap).ownBlock := by
         cases hv : v2.ownBlock with
         | none => exact .inl rfl
         | some k =>
           right
           rcases JV with h | h
           . rw [h]; simp
           . rw [hv] at h; exact fun e => h e.symm
        have hK3 := hKa.grown hg3 (own_ne hOa hKa.blk (nbq rfl)) hdv (fun e => by have := hrow 0 e.symm; omega)
        have hT3 := ((Ui.alloc (.cells #[.string (bs hl.1.n), .string (bs hl.1.v)] 112)).alloc (.cells #[.string (bs hl.1.n), .string (bs hl.1.v)] 112)).qR hg3 hrow
        have P7 : (Value.slice (some ⟨g1, 0, none⟩) (hd.length + 1) cap1).ownBlock = none ∨ (Value.slice (some ⟨g1, 0, none⟩) (hd.length + 1) cap1).ownBlock ≠ v2.ownBlock := by
         right
         show some g1 ≠ v2.ownBlock
         intro e
         rcases OE with h | h
         . rcases JV with h' | h'
           . rw [h'] at h; cases h
           . exact h' (h.trans e)
         . have := ((uh HK2).own.lt g1 e.symm).2
           omega
        have Ry : w3.ownsRow w.heap.size 112 2 (.slice (some ⟨g1, 0, none⟩) (hd.length + 1) cap1) (hd ++ [hl.1]).length (aQ (hd ++ [hl.1])) := by
         rw [dJ]
         simpa [aQ] using ho3
        have HX3 : Hid (X = Lk.pre (hd ++ [hl.1]) (Lk.exR B s.data.toList (6 - (hd ++ [hl.1]).length) hl.2 q)) := by
         have e := uh HX2
         rw [Hid, e, List.length_append, List.length_singleton]
         cases Lk.exR B s.data.toList (6 - (hd.length + 1)) hl.2 q <;> simp [Lk.pre]
        have HK3 := hide hK3
        have HO3 := hide Ry
        clear ho3 hg3 hKa hOa hK3 Ry OE hdv
        go_wp2_with fail
        go_roundw
        case rel => exact ⟨hd ++ [hl.1], q, hl.2, v2, by simp; omega, hq, HX3, ⟨uh HK3, hNr.trans hN2 (by have := hTn.size; exact this)⟩, uh HO3, P7, hT3⟩
        case measure => simp [sliceLen]; omega
end Go.Proofs.YtbkpdapagfjmmaaGreatDoor
