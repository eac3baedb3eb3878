import Derived.Test.YtbkpdapagfjmmaaGreatDoorRows
import Derived.ProofKit
import Derived.OpenShut
import Derived.ShutString
import Derived.ChangeOld
import Derived.JoinedCond
import Derived.Deep.Slices
import Derived.Deep.DeepHandedRow
import Derived.Lib.LaidTab
import Derived.Test.YtbkpdapagfjmmaaGreatDoorA13
set_option linter.unusedVariables false
set_option maxRecDepth 100000
set_option maxHeartbeats 16000000
namespace Go.Proofs.YtbkpdapagfjmmaaGreatDoor
open Go.ChangeShapes Go.WideShapes Go.ChangeAt Go.RowKit
theorem QX : Tryz.prog.globalNamed "link/link.fixed" = some 0 := by kernel_rfl
theorem QY : (Tryz.prog.globals[0]?).map (·.type) = some 282 := by kernel_rfl
theorem IC : Tryz.prog.cellsOf 112 = 2 := by kernel_rfl
theorem FC : Tryz.prog.cellsOf 282 = 8 := by kernel_rfl
theorem nN : Tryz.prog.cellsOf 9 = 1 := by kernel_rfl
theorem xA {H : Type} {enc : TypeId × Value -> H} {w : World} {base : Nat} {spare : Nat -> Bool} {held : Bool} {fuel : Nat} {cs : List Value} {x : DataW H × List MemPlace}
 (h : DataW.trod enc Tryz.prog w base spare held fuel 112 cs = some x) : ∃ a b : ByteArray, cs = [.string a, .string b] ∧ x.1 = .agg [.lit (.string a.data.toList), .lit (.string b.data.toList)] := by
 obtain ⟨xs, n, _, rfl, hl, hlen, hf⟩ := DataW.trod_struct Tryz.underlying112 h
 rw [IC] at hl
 match cs, hl with
 | [c0, c1], _ =>
 match xs, hlen with
 | [y0, y1], _ =>
 have f0 : DataW.trod enc Tryz.prog w base spare held n 9 (([c0, c1].drop 0).take (Tryz.prog.cellsOf 9)) = some y0 := hf 0 _ rfl
 rw [nN] at f0
 have f1 : DataW.trod enc Tryz.prog w base spare held n 9 (([c0, c1].drop 1).take (Tryz.prog.cellsOf 9)) = some y1 := hf 1 _ rfl
 rw [nN] at f1
 simp only [List.drop_zero, List.drop_succ_cons, List.take_succ_cons, List.take_zero] at f0 f1
 obtain ⟨a, e0, rfl, _⟩ := DataW.trod_string Tryz.underlying9 f0
 obtain ⟨b, e1, rfl, _⟩ := DataW.trod_string Tryz.underlying9 f1
 simp only [List.cons.injEq, and_true] at e0 e1
 subst e0 e1
 exact ⟨a, b, rfl, rfl⟩
theorem zq {a : ByteArray} {l : Lk.Bs} (h : a.data.toList = l) : a = bs l := by subst h; simp [bs]
theorem FD {W : World} (h : laidMet Tryz.prog [("link/link.fixed", Rows.laid_link_link_fixed)] W) : Fx W := by
 obtain ⟨ps, ⟨g0, t0, cs0, f0, p0, q0, hg0, ht0, hv0, hd0, _⟩, _⟩ := h
 obtain rfl := Option.some.inj (QX.symm.trans hg0)
 obtain rfl := Option.some.inj (QY.symm.trans ht0)
 obtain ⟨xs, m1, rfl, hx1, hlen, hn4, hel⟩ := DataW.trod_array Tryz.underlying282 hd0
 rw [FC] at hlen
 rw [IC] at hel
 have hcell := fun j => World.var?_cell hg0 hv0 j
 match xs, hn4 with
 | [x0, x1, x2, x3], _ =>
 obtain ⟨a0, b0, e0, d0⟩ := xA (hel 0 (by decide))
 obtain ⟨a1, b1, e1, d1⟩ := xA (hel 1 (by decide))
 obtain ⟨a2, b2, e2, d2⟩ := xA (hel 2 (by decide))
 obtain ⟨a3, b3, e3, d3⟩ := xA (hel 3 (by decide))
 simp only [Rows.laid_link_link_fixed, Prod.mk.injEq, DataW.agg.injEq, List.map_cons, List.map_nil, List.cons.injEq, d0, d1, d2, d3, DataW.lit.injEq, Lit.string.injEq, and_true] at hx1
 obtain ⟨⟨⟨y0, z0⟩, ⟨y1, z1⟩, ⟨y2, z2⟩, ⟨y3, z3⟩⟩, _⟩ := hx1
 obtain ⟨l⟩ := cs0
 simp only at hlen e0 e1 e2 e3
 match l, hlen with
 | [c0, c1, c2, c3, c4, c5, c6, c7], _ =>
 simp at e0 e1 e2 e3
 obtain ⟨rfl, rfl⟩ := e0
 obtain ⟨rfl, rfl⟩ := e1
 obtain ⟨rfl, rfl⟩ := e2
 obtain ⟨rfl, rfl⟩ := e3
 obtain rfl := zq y0.symm
 obtain rfl := zq z0.symm
 obtain rfl := zq y1.symm
 obtain rfl := zq z1.symm
 obtain rfl := zq y2.symm
 obtain rfl := zq z2.symm
 obtain rfl := zq y3.symm
 obtain rfl := zq z3.symm
 have k0 := hcell 0
 have k1 := hcell 1
 have k2 := hcell 2
 have k3 := hcell 3
 have k4 := hcell 4
 have k5 := hcell 5
 have k6 := hcell 6
 have k7 := hcell 7
 refine ⟨World.block_lt_of_cell? _ _ k0, fun i x hx => ?_⟩
 match i, hx with
 | 0, hx => cases hx; exact ⟨k0, k1⟩
 | 1, hx => cases hx; exact ⟨k2, k3⟩
 | 2, hx => cases hx; exact ⟨k4, k5⟩
 | 3, hx => cases hx; exact ⟨k6, k7⟩
 | n + 4, hx => simp [Lk.jb] at hx
end Go.Proofs.YtbkpdapagfjmmaaGreatDoor

namespace Go.Proofs.YtbkpdapagfjmmaaGreatDoor.Lk
def En.dn (e : En) (r : Nat) : En := { e with down := r }
def Dn3 (x : List Ev × Nat × En) (r : Nat) : List Ev × Nat × En := (x.1, x.2.1, x.2.2.dn r)
theorem En.Jm (e : En) (n : Nat) (r : Nat) : (e.dn r).back n = (e.back n).dn r := by
 unfold En.back
 split <;> rfl
theorem En.Oq (e : En) (r : Nat) : (e.dn r).bye = e.bye.dn r := rfl
theorem En.MC (e : En) (f : Fr) (r : Nat) : (e.dn r).gX f = Dn3 (e.gX f) r := by
 unfold En.gX
 show (if f.st ≠ 2 * e.oth.length + 2 - e.side then ([], 4, e.dn r) else _) = _
 by_cases h : f.st ≠ 2 * e.oth.length + 2 - e.side
 . rw [if_pos h, if_pos h]; rfl
 . rw [if_neg h, if_neg h]
   show (match exR 100 f.d 6 e.inn 0 with | .err _ _ => _ | .ok hs L => _) = _
   cases exR 100 f.d 6 e.inn 0 with
   | err a b => rfl
   | ok hs L =>
     show (if e.iH = true then _ else _) = Dn3 (if e.iH = true then _ else _) r
     by_cases hb : e.iH = true
     . rw [if_pos hb, if_pos hb]; rfl
     . rw [if_neg hb, if_neg hb]; rfl
theorem En.Jn (e : En) (f : Fr) (r : Nat) : (e.dn r).bH f = Dn3 (e.bH f) r := by
 unfold En.bH
 show (match (bM e.oth f.st).bind fun i => (e.oth[i]?).map fun o => (i, o) with | none => _ | some (i, o) => _) = Dn3 (match (bM e.oth f.st).bind fun i => (e.oth[i]?).map fun o => (i, o) with | none => _ | some (i, o) => _) r
 cases (bM e.oth f.st).bind fun i => (e.oth[i]?).map fun o => (i, o) with
 | none => rfl
 | some p =>
   obtain ⟨i, o⟩ := p
   show (if (!o.opn && !o.drp) = true then _ else if o.cr < f.d.length ∨ e.room < f.d.length then _ else if o.opn = true then _ else _) = Dn3 (if (!o.opn && !o.drp) = true then _ else if o.cr < f.d.length ∨ e.room < f.d.length then _ else if o.opn = true then _ else _) r
   split
   . rfl
   . split
     . rfl
     . split
       . rfl
       . unfold Dn3
         simp only
         rw [<- En.Jm]
         rfl
theorem En.Jo (e : En) (f : Fr) (r : Nat) : (e.dn r).dh f = Dn3 (e.dh f) r := by
 unfold En.dh
 show (match (bK e.own f.st).bind fun i => (e.own[i]?).map fun o => (i, o) with | some (i, o) => _ | none => match (bM e.oth f.st).bind fun i => (e.oth[i]?).map fun o => (i, o) with | none => _ | some (i, o) => _) = Dn3 (match (bK e.own f.st).bind fun i => (e.own[i]?).map fun o => (i, o) with | some (i, o) => _ | none => match (bM e.oth f.st).bind fun i => (e.oth[i]?).map fun o => (i, o) with | none => _ | some (i, o) => _) r
 cases (bK e.own f.st).bind fun i => (e.own[i]?).map fun o => (i, o) with
 | some p =>
   obtain ⟨i, o⟩ := p
   show (if o.done = true then _ else _) = Dn3 (if o.done = true then _ else _) r
   split <;> rfl
 | none =>
   cases (bM e.oth f.st).bind fun i => (e.oth[i]?).map fun o => (i, o) with
   | none => rfl
   | some p =>
     obtain ⟨i, o⟩ := p
     show (if o.opn = true then _ else _) = Dn3 (if o.opn = true then _ else _) r
     split
     . unfold Dn3
       simp only
       rw [<- En.Jm]
       rfl
     . rfl
theorem En.Gh (e : En) (f : Fr) (r : Nat) : (e.dn r).bU f = ((e.bU f).1, (e.bU f).2.dn r) := by
 unfold En.bU
 split
 . show (if numOf f.d = 0 ∨ 100000 < e.all + numOf f.d then _ else _) = ((if numOf f.d = 0 ∨ 100000 < e.all + numOf f.d then _ else _ : Nat × En).1, (if numOf f.d = 0 ∨ 100000 < e.all + numOf f.d then _ else _ : Nat × En).2.dn r)
   split <;> rfl
 . show (match (bK e.own f.st).bind fun i => (e.own[i]?).map fun o => (i, o) with | none => _ | some (i, o) => _) = _
   cases (bK e.own f.st).bind fun i => (e.own[i]?).map fun o => (i, o) with
   | none => rfl
   | some p =>
     obtain ⟨i, o⟩ := p
     simp only
     split
     . rfl
     . split <;> rfl
theorem En.Ey (e : En) (f : Fr) (r : Nat) : (e.dn r).frame f = Dn3 (e.frame f) r := by
 unfold En.frame
 split
 . exact e.MC f r
 . split
   . exact e.Jn f r
   . split
     . exact e.Jo f r
     . split
       . rw [e.Gh f r]; rfl
       . split
         . rfl
         . split <;> rfl
def En.run : En -> List Fr -> List Ev × Nat × En
 | e, [] => ([], 0, e)
 | e, f :: l => if (e.frame f).2.1 ≠ 0 then e.frame f else ((e.frame f).1 ++ (En.run (e.frame f).2.2 l).1, (En.run (e.frame f).2.2 l).2)
theorem En.Ou : ∀ (l : List Fr) (e : En) (r : Nat), (e.dn r).run l = Dn3 (e.run l) r
 | [], e, r => rfl
 | f :: l, e, r => by
   rw [En.run, En.run, e.Ey f r]
   show (if (e.frame f).2.1 ≠ 0 then Dn3 (e.frame f) r else _) = _
   by_cases h : (e.frame f).2.1 ≠ 0
   . rw [if_pos h, if_pos h]
   . rw [if_neg h, if_neg h]
     show ((e.frame f).1 ++ (En.run ((e.frame f).2.2.dn r) l).1, (En.run ((e.frame f).2.2.dn r) l).2) = _
     rw [En.Ou l (e.frame f).2.2 r]
     rfl
theorem En.Py (e : En) : e.dn e.down = e := rfl
theorem En.jR (e : En) (f : Fr) : (e.frame f).2.2.down = e.down := by
 have := e.Ey f e.down
 rw [En.Py] at this
 have h2 : (e.frame f).2.2 = (e.frame f).2.2.dn e.down := by
  have h3 := congrArg (fun x => x.2.2) this
  exact h3
 rw [h2]
 rfl
theorem En.Ez : ∀ (l : List Fr) (e : En), (e.run l).2.2.down = e.down
 | [], e => rfl
 | f :: l, e => by
   rw [En.run]
   split
   . exact e.jR f
   . rw [En.Ez l]; exact e.jR f
theorem En.wu : ∀ (l : List Fr) (e : En), e.down = 0 -> e.frames l = ((e.run l).1, (e.run l).2.2.dn (e.run l).2.1)
 | [], e, h => by
   show ([], e) = ([], e.dn 0)
   rw [<- h]
   rfl
 | f :: l, e, h => by
   rw [En.frames, En.run, if_neg (by rw [h]; simp)]
   by_cases h2 : (e.frame f).2.1 ≠ 0
   . rw [if_pos h2, En.mZ _ _ (by exact h2)]
     simp only [List.append_nil]
     rfl
   . rw [if_neg h2]
     have h3 : (e.frame f).2.1 = 0 := by omega
     have h4 : ({ (e.frame f).2.2 with down := (e.frame f).2.1 } : En) = (e.frame f).2.2 := by
      rw [h3, <- h, <- e.jR f]
     rw [h4, En.wu l _ ((e.jR f).trans h)]
theorem En.qZ (e : En) (b : Bs) (hd : e.down = 0) (B : List Fr × Nat × Bs) (hB : Lk.all (e.rest ++ b) = B) (R : List Ev × Nat × En) (hR : ((e.at B.2.2).dn B.2.1).run B.1 = R) :
 e.feed b = (R.1, (R.2.2.dn (if R.2.1 = 0 then B.2.1 else R.2.1)).falls) := by
 rw [e.IK b hd B hB, En.wu _ _ hd]
 rw [En.Ou] at hR
 have h1 : (e.at B.2.2).run B.1 = ((e.run B.1).1, (e.run B.1).2.1, (e.run B.1).2.2.at B.2.2) := by
  have : ∀ (l : List Fr) (e : En) (r : Bs), (e.at r).run l = At3 (e.run l) r := by
   intro l
   induction l with
   | nil => intro e r; rfl
   | cons f l ih =>
     intro e r
     rw [En.run, En.run, e.xB f r]
     show (if (e.frame f).2.1 ≠ 0 then At3 (e.frame f) r else _) = _
     by_cases h : (e.frame f).2.1 ≠ 0
     . rw [if_pos h, if_pos h]
     . rw [if_neg h, if_neg h]
       show ((e.frame f).1 ++ (En.run ((e.frame f).2.2.at r) l).1, (En.run ((e.frame f).2.2.at r) l).2) = _
       rw [ih (e.frame f).2.2 r]
       rfl
  exact this _ _ _
 rw [h1] at hR
 subst hR
 show ((e.run B.1).1, _) = ((e.run B.1).1, _)
 refine congrArg (Prod.mk _) (congrArg En.falls ?_)
 show (if (e.run B.1).2.1 = 0 then _ else _) = (((e.run B.1).2.2.at B.2.2).dn (if (e.run B.1).2.1 = 0 then B.2.1 else (e.run B.1).2.1))
 by_cases h : (e.run B.1).2.1 = 0
 . rw [if_pos h, if_pos h]; rfl
 . rw [if_neg h, if_neg h]; rfl
theorem Wf.run : ∀ (l : List Fr) {e : En}, Wf e -> (∀ f ∈ l, Good f.k f.st f.d) -> Wf (e.run l).2.2
 | [], e, h, _ => h
 | f :: l, e, h, hl => by
   rw [En.run]
   split
   . exact h.frame (hl f (by simp))
   . exact Wf.run l (h.frame (hl f (by simp))) (fun g hg => hl g (by simp [hg]))
theorem En.zW (e : En) (f : Fr) : (e.frame f).1.length <= 2 := by
 unfold En.frame
 split
 . unfold En.gX
   split
   . simp
   . split
     . simp
     . split <;> simp
 . split
   . unfold En.bH
     split
     . simp
     . split
       . simp
       . split
         . simp
         . split
           . rw [List.length_append]
             have h1 : (if 0 < f.d.length then [(⟨2, f.st, 0, [], f.d⟩ : Ev)] else []).length <= 1 := by split <;> simp
             have h2 : (if f.k = 2 then [(⟨3, f.st, 0, [], []⟩ : Ev)] else []).length <= 1 := by split <;> simp
             omega
           . simp
   . split
     . unfold En.dh
       split
       . split <;> simp
       . split
         . simp
         . split <;> simp
     . split
       . simp
       . split
         . simp
         . split <;> simp
theorem En.Jp : ∀ (l : List Fr) (e : En), (e.run l).1.length <= 2 * l.length
 | [], e => by simp [En.run]
 | f :: l, e => by
   rw [En.run]
   have h1 := e.zW f
   split
   . simp only [List.length_cons]; omega
   . have h2 := En.Jp l (e.frame f).2.2
     rw [List.length_append, List.length_cons]
     omega
theorem MF : ∀ (l : Bs), 3 * (all l).1.length <= l.length := by
 intro l
 induction h : l.length using Nat.strongRecOn generalizing l with
 | _ n ih =>
   subst h
   cases hx : nx l with
   | more => rw [iU hx]; simp
   | err e => rw [mW hx]; simp
   | frame k st d n =>
     have hb := aV hx
     have := ih (l.drop n).length (by rw [List.length_drop]; omega) (l.drop n) rfl
     rw [ja hx]
     simp only [List.length_cons]
     rw [List.length_drop] at this
     omega
theorem En.MG (e : En) (b : Bs) : (e.feed b).1.length <= e.rest.length + b.length := by
 by_cases hd : e.down = 0
 . rw [e.qZ b hd _ rfl _ rfl]
   have h1 := En.Jp (Lk.all (e.rest ++ b)).1 ((e.at (Lk.all (e.rest ++ b)).2.2).dn (Lk.all (e.rest ++ b)).2.1)
   have h2 := MF (e.rest ++ b)
   rw [List.length_append] at h2
   simp only
   omega
 . rw [e.jP b hd]
   simp
structure Ev.Ok (v : Ev) : Prop where
 hs : v.hs.length <= 6
 st : v.st <= 268435455
 n : v.n <= 268435455
 k : v.k <= 6
 t : v.t.length <= 64
theorem Jq (B : Nat) (s : Bs) : ∀ (n : Nat) (L : List Hd) (p : Nat) (hs L2 : List Hd), exR B s n L p = .ok hs L2 -> hs.length <= n
 | 0, L, p, hs, L2, h => by
   rw [exR] at h
   split at h
   . cases h; simp
   . cases h
 | n + 1, L, p, hs, L2, h => by
   rw [exR] at h
   split at h
   . cases h; simp
   . cases hp : mY B L s p with
     | bad q => rw [hp] at h; cases h
     | ok hl q =>
       rw [hp] at h
       simp only at h
       cases hx : exR B s n hl.2 q with
       | err a b => rw [hx] at h; cases h
       | ok hs2 L3 =>
         rw [hx] at h
         cases h
         have := Jq B s n hl.2 q _ _ hx
         simp
         omega
theorem En.MH (e : En) {f : Fr} (hg : Good f.k f.st f.d) : ∀ v ∈ (e.frame f).1, v.Ok := by
 have h1 := hg.Fv
 have h2 := nP f.d
 have h3 := hg.len
 intro v
 unfold En.frame
 split
 . unfold En.gX
   split
   . simp
   . split
     . simp
     . rename_i hs L hx
       have := Jq _ _ _ _ _ _ _ hx
       split
       . simp
       . intro hv
         simp at hv
         subst hv
         exact ⟨this, h1, by simp, by simp, by simp⟩
 . split
   . unfold En.bH
     split
     . simp
     . split
       . simp
       . split
         . simp
         . split
           . intro hv
             rcases List.mem_append.1 hv with hv | hv
             . split at hv
               . simp at hv
                 subst hv
                 exact ⟨by simp, h1, by simp, by simp, h3⟩
               . cases hv
             . split at hv
               . simp at hv
                 subst hv
                 exact ⟨by simp, h1, by simp, by simp, by simp⟩
               . cases hv
           . simp
   . split
     . unfold En.dh
       split
       . split
         . simp
         . intro hv
           simp at hv
           subst hv
           exact ⟨by simp, h1, h2, by simp, by simp⟩
       . split
         . simp
         . split
           . intro hv
             simp at hv
             subst hv
             exact ⟨by simp, h1, h2, by simp, by simp⟩
           . simp
     . split
       . simp
       . split
         . simp
         . split
           . intro hv
             simp at hv
             subst hv
             exact ⟨by simp, by simp, by simp, by simp, h3⟩
           . intro hv
             simp at hv
             subst hv
             exact ⟨by simp, by simp, h2, by simp, by simp⟩
theorem En.Ov : ∀ (l : List Fr) (e : En), (∀ f ∈ l, Good f.k f.st f.d) -> ∀ v ∈ (e.run l).1, v.Ok
 | [], e, _ => by simp [En.run]
 | f :: l, e, h => by
   have h1 := e.MH (h f (by simp))
   have h2 := En.Ov l (e.frame f).2.2 (fun g hg => h g (by simp [hg]))
   intro v hv
   rw [En.run] at hv
   split at hv
   . exact h1 v hv
   . rcases List.mem_append.1 hv with hv | hv
     . exact h1 v hv
     . exact h2 v hv
theorem En.xP (e : En) (b : Bs) : ∀ v ∈ (e.feed b).1, v.Ok := by
 by_cases hd : e.down = 0
 . rw [e.qZ b hd _ rfl _ rfl]
   exact En.Ov _ _ (kY (e.rest ++ b)).1
 . rw [e.jP b hd]
   simp
theorem lu {α : Type} (f : α -> Nat) : ∀ (l : List α) (i : Nat) (o x : α), l[i]? = some o -> ((l.set i x).map f).sum + f o = (l.map f).sum + f x
 | [], i, o, x, h => by simp at h
 | y :: l, 0, o, x, h => by
   simp at h
   subst h
   simp
   omega
 | y :: l, i + 1, o, x, h => by
   have := lu f l i o x (by simpa using h)
   simp at this ⊢
   omega
theorem wB (k st : Int) (d : Bs) : (packed k st d).length = 1 + (wire st.toNat).length + (wire d.length).length + d.length := by
 unfold packed
 simp
 omega
def rowLen (l : List Bs) : Nat := (l.map List.length).sum
def uQ (o : Ow) : Nat := if o.done then 0 else 7 * o.left.length + 6
def Wl (o : Ot) : Nat := if o.opn = true ∧ 0 < o.held then 1 else 0
def En.Pz (e : En) : Nat := rowLen e.row + (e.own.map uQ).sum + (e.oth.map Wl).sum
def En.gr (e : En) : Nat := if e.iH then e.oth.length else 0
theorem ED (e : En) (n : Nat) : (e.back n).oth = e.oth := by unfold En.back; split <;> rfl
theorem Gi (e : En) : e.falls.rest = e.rest := by unfold En.falls; split <;> rfl
theorem bD (e : En) (n : Nat) : (e.back n).rest = e.rest := by unfold En.back; split <;> rfl
theorem MI : ∀ (l : List Fr) (e : En), (e.run l).2.2.rest = e.rest := by
 have hf : ∀ (e : En) (f : Fr), (e.frame f).2.2.rest = e.rest := by
  intro e f
  have := e.xB f e.rest
  rw [En.O1] at this
  have h2 : (e.frame f).2.2 = (e.frame f).2.2.at e.rest := congrArg (fun x => x.2.2) this
  rw [h2]
  rfl
 intro l
 induction l with
 | nil => intro e; rfl
 | cons f l ih =>
   intro e
   rw [En.run]
   split
   . exact hf e f
   . exact (ih _).trans (hf e f)
theorem Cm {e e' : En} {s : Bs} (hw : Wf e) (h : e.bG = some (s, e')) : s.length + e'.Pz <= e.Pz := by
 unfold En.bG at h
 split at h
 . rename_i s' r hr
   cases h
   unfold En.Pz
   rw [hr]
   simp only [rowLen, List.map_cons, List.sum_cons]
   omega
 . split at h
   . cases h
   . split at h
     . cases h
     . rename_i i hi
       obtain ⟨o, ho, hmay⟩ := lU hi
       rw [ho] at h
       have h' : e.cu i o = (s, e') := Option.some.inj h
       obtain ⟨rfl, rfl⟩ : (e.cu i o).1 = s ∧ (e.cu i o).2 = e' := by rw [h']; exact ⟨rfl, rfl⟩
       have hid := (hw.own i o ho).oL
       have hm := xE e o
       have hs := lu uQ e.own i o ⟨o.id, o.left.drop (e.most o), o.cr - e.most o, o.done || decide (e.most o = o.left.length)⟩ ho
       have hdone : o.done = false := by
        unfold En.may at hmay
        cases hd : o.done with
        | false => rfl
        | true => rw [hd] at hmay; simp at hmay
       have h1 : uQ o = 7 * o.left.length + 6 := by unfold uQ; rw [hdone]; simp
       have hwl := au o.id hid
       have hlen : (e.cu i o).1.length <= 6 + e.most o := by
        show (packed _ _ (o.left.take (e.most o))).length <= _
        rw [wB, List.length_take]
        have : min (e.most o) o.left.length = e.most o := by omega
        rw [this, gK (e.most o) (by omega)]
        simp only [Int.toNat_natCast]
        omega
       have Wn : (e.cu i o).2.Pz + uQ o = e.Pz + uQ ⟨o.id, o.left.drop (e.most o), o.cr - e.most o, o.done || decide (e.most o = o.left.length)⟩ := by
        unfold En.cu En.Pz
        simp only
        omega
       have h2 : uQ ⟨o.id, o.left.drop (e.most o), o.cr - e.most o, o.done || decide (e.most o = o.left.length)⟩ + 6 + e.most o <= 7 * o.left.length + 6 := by
        unfold uQ
        rw [hdone]
        simp only [Bool.false_or, decide_eq_true_eq]
        split
        . omega
        . rename_i hn
          have := Ei hmay hn
          rw [List.length_drop]
          omega
       omega
theorem Gj (e : En) (t : Bs) : (e.iy t).2.side = e.side ∧ (e.iy t).2.oth = e.oth ∧ (e.iy t).2.rest = e.rest := by
 unfold En.iy
 split
 . exact ⟨rfl, rfl, rfl⟩
 . split <;> exact ⟨rfl, rfl, rfl⟩
theorem Jr (e : En) : e.iC.2.side = e.side ∧ e.iC.2.oth = e.oth ∧ e.iC.2.rest = e.rest := by
 unfold En.iC
 split
 . exact ⟨rfl, rfl, rfl⟩
 . split <;> exact ⟨rfl, rfl, rfl⟩
theorem zX (e : En) (l : List Hd) (t : Bs) : (e.aW l t).2.side = e.side ∧ (e.aW l t).2.oth = e.oth ∧ (e.aW l t).2.rest = e.rest := by
 unfold En.aW
 split
 . exact ⟨rfl, rfl, rfl⟩
 . split
   . exact ⟨rfl, rfl, rfl⟩
   . split
     . exact ⟨rfl, rfl, rfl⟩
     . split
       . exact ⟨rfl, rfl, rfl⟩
       . split <;> exact ⟨rfl, rfl, rfl⟩
theorem pg (e : En) (n : Nat) : (e.back n).side = e.side ∧ (e.back n).oth = e.oth ∧ (e.back n).rest = e.rest := by
 unfold En.back
 split <;> exact ⟨rfl, rfl, rfl⟩
theorem xU (e : En) (k n : Int) : (e.aP k n).2.side = e.side ∧ (e.aP k n).2.oth.length = e.oth.length ∧ (e.aP k n).2.rest = e.rest := by
 unfold En.aP
 split
 . exact ⟨rfl, rfl, rfl⟩
 . split
   . exact ⟨rfl, rfl, rfl⟩
   . split
     . exact ⟨rfl, rfl, rfl⟩
     . split
       . exact ⟨rfl, rfl, rfl⟩
       . split
         . exact ⟨rfl, rfl, rfl⟩
         . simp only
           split
           . exact ⟨rfl, by simp [En.send], rfl⟩
           . exact ⟨rfl, by simp [En.send], rfl⟩
theorem CB (e : En) (k n : Int) : (e.dN k n).2.side = e.side ∧ (e.dN k n).2.oth.length = e.oth.length ∧ (e.dN k n).2.rest = e.rest := by
 unfold En.dN
 split
 . exact ⟨rfl, rfl, rfl⟩
 . split
   . exact ⟨rfl, rfl, rfl⟩
   . split
     . exact ⟨rfl, rfl, rfl⟩
     . split
       . simp only
         rw [(pg _ _).1, (pg _ _).2.1, (pg _ _).2.2]
         exact ⟨rfl, by simp [En.send], rfl⟩
       . exact ⟨rfl, rfl, rfl⟩
theorem CE {e e' : En} {s : Bs} (h : e.bG = some (s, e')) : e'.side = e.side ∧ e'.oth = e.oth ∧ e'.rest = e.rest := by
 unfold En.bG at h
 split at h
 . cases h; exact ⟨rfl, rfl, rfl⟩
 . split at h
   . cases h
   . split at h
     . cases h
     . split at h
       . cases h
       . cases h; exact ⟨rfl, rfl, rfl⟩
theorem wC : ∀ (n : Nat) (e : En), (En.drain n e).2.side = e.side ∧ (En.drain n e).2.oth = e.oth ∧ (En.drain n e).2.rest = e.rest
 | 0, e => ⟨rfl, rfl, rfl⟩
 | n + 1, e => by
   cases hd : e.bG with
   | none => simp [En.drain, hd]
   | some p =>
     obtain ⟨s, e'⟩ := p
     have h1 := CE hd
     have h2 := wC n e'
     simp only [En.drain, hd]
     exact ⟨h2.1.trans h1.1, h2.2.1.trans h1.2.1, h2.2.2.trans h1.2.2⟩
theorem Wf.wE {e : En} (h : Wf e) : e.oth.length <= 134217729 := by
 by_cases h0 : e.oth.length = 0
 . omega
 . have hx : e.oth[e.oth.length - 1]? = some (e.oth[e.oth.length - 1]'(by omega)) := List.getElem?_eq_getElem _
   have h1 := (h.oth _ _ hx).id
   have h2 := (h.oth _ _ hx).oL
   have h3 := h.side
   omega
theorem Wf.wF {e : En} (h : Wf e) : e.own.length <= 134217729 := by
 by_cases h0 : e.own.length = 0
 . omega
 . have hx : e.own[e.own.length - 1]? = some (e.own[e.own.length - 1]'(by omega)) := List.getElem?_eq_getElem _
   have h1 := (h.own _ _ hx).id
   have h2 := (h.own _ _ hx).oL
   omega
def zs (s : Bs) : Nat := (s.map fun x => if x = 0 then 2 else 1).sum
theorem gm (a b : Bs) : zs (a ++ b) = zs a + zs b := by simp [zs]
theorem pR (x : UInt8) (s : Bs) : zs (x :: s) = (if x = 0 then 2 else 1) + zs s := by simp [zs]
theorem xe : zs [] = 0 := rfl
theorem DK : ∀ (s : Bs), s.length <= zs s
 | [] => Nat.le_refl _
 | x :: s => by
   have := DK s
   rw [pR, List.length_cons]
   split <;> omega
theorem J8 : ∀ (s : Bs), zs s <= 2 * s.length
 | [] => Nat.le_refl _
 | x :: s => by
   have := J8 s
   rw [pR, List.length_cons]
   split <;> omega
theorem yS (n : Nat) (h0 : 0 < n) : zs (wire n) = (wire n).length := by
 induction n using Nat.strongRecOn with
 | _ n ih =>
   by_cases h : n < 128
   . rw [gu n h, pR, if_neg (fun hx => ?_)]
     . rfl
     . have : (UInt8.ofNat n).toNat = 0 := by rw [hx]; rfl
       simp at this
       omega
   . rw [iG n h, pR, List.length_cons, ih (n / 128) (by omega) (by omega), if_neg (fun hx => ?_)]
     . omega
     . have : (UInt8.ofNat (128 + n % 128)).toNat = 0 := by rw [hx]; rfl
       simp at this
       omega
theorem kH : zs (wire 0) = 2 := by rw [gu 0 (by omega)]; rfl
theorem NF (n : Nat) (h : ¬ n < 128) : 2 <= (wire n).length := by
 rw [iG n h, List.length_cons]
 have := dw (n / 128)
 omega
theorem oG (k : Nat) (hk : 0 < k) (hk7 : k <= 7) (st : Nat) (d : Bs) : zs (packed k st d) = 1 + zs (wire st) + zs (wire d.length) + zs d := by
 unfold packed
 rw [pR, gm, gm, if_neg (fun hx => ?_)]
 . simp only [Int.toNat_natCast]; omega
 . have : (UInt8.ofNat (k : Int).toNat).toNat = 0 := by rw [hx]; rfl
   simp at this
   omega
theorem Hy (st : Nat) (d : Bs) : zs (packed (0 : Nat) st d) = 2 + zs (wire st) + zs (wire d.length) + zs d := by
 unfold packed
 rw [pR, gm, gm]
 simp
 omega
theorem J9 (k : Nat) (hk : 0 < k) (hk7 : k <= 7) (st n : Nat) (hn : n <= 268435455) : zs (packed k st (wire n)) = 2 + zs (wire st) + zs (wire n) := by
 have h1 := au n hn
 have h2 := dw n
 rw [oG k hk hk7, yS _ h2, gK _ (by omega)]
 omega
theorem Ff (n : Nat) (h : n <= 268435455) : zs (wire n) <= 4 := by
 have := au n h
 by_cases h0 : n = 0
 . subst h0; rw [kH]; omega
 . rw [yS n (by omega)]; exact this
theorem lS (k : Nat) (hk : 0 < k) (hk7 : k <= 7) (st n : Nat) (hs : st <= 268435455) (hn : n <= 268435455) : zs (packed k st (wire n)) <= 10 := by
 rw [J9 k hk hk7 st n hn]
 have := Ff n hn
 have := Ff st hs
 omega
def DL (l : List Bs) : Nat := (l.map zs).sum
def pz (o : Ot) : Nat := (if o.opn = true ∧ 0 < o.held then 2 else 0) + (if o.id <= 127 then o.cr else 0)
def En.zm (e : En) : Nat := DL e.row + 2 * (e.own.map uQ).sum + (e.oth.map pz).sum + 200 * (64 - e.oth.length)
theorem DR (a b : List Bs) : DL (a ++ b) = DL a + DL b := by simp [DL]
theorem NG (s : Bs) : DL [s] = zs s := by simp [DL]
theorem jB (e : En) (k st : Nat) (d : Bs) : (e.send k st d).zm = e.zm + zs (packed k st d) := by
 unfold En.send En.zm
 simp only [DR, NG]
 omega
theorem DT (e : En) (n : Nat) (hn : n <= 200) : (e.back n).zm <= e.zm + (if 0 < n then 4 + (wire n).length else 0) := by
 unfold En.back
 split
 . rename_i h
   rw [jB, J9 4 (by omega) (by omega) 0 n (by omega), kH, yS n h]
   show e.zm + _ <= _
   omega
 . simp
theorem NH {e : En} (hw : Wf e) {f : Fr} (hg : Good f.k f.st f.d) : (e.frame f).2.2.zm <= e.zm + zs f.pack := by
 have hp0 : zs f.pack = zs (packed f.k f.st f.d) := rfl
 have hz1 := DK (wire f.st)
 have hz2 := DK (wire f.d.length)
 have hz3 := DK f.d
 have hp1 := dw f.st
 have hp2 := dw f.d.length
 have hwin := hw.kN
 unfold En.frame
 split
 . rename_i hk
   have hp : zs f.pack = 2 + zs (wire f.st) + zs (wire f.d.length) + zs f.d := by rw [hp0, hk, Hy]
   unfold En.gX
   split
   . show e.zm <= _; omega
   . rename_i hid
     have Lc : f.st = 2 * e.oth.length + 2 - e.side := by omega
     have hside := hw.side
     have hrv : ∀ o : Ot, o.id = f.st -> o.cr = e.win -> o.held = 0 -> ((e.oth ++ [o]).map pz).sum + 200 * (64 - (e.oth ++ [o]).length) <= (e.oth.map pz).sum + 200 * (64 - e.oth.length) := by
      intro o h1 h2 h3
      have hq : pz o = if f.st <= 127 then e.win else 0 := by
       unfold pz
       rw [h1, h2, h3]
       simp
      rw [List.map_append, List.sum_append, List.length_append]
      simp only [List.map_cons, List.map_nil, List.sum_cons, List.sum_nil, List.length_cons, List.length_nil, hq]
      split <;> omega
     split
     . show e.zm <= _; omega
     . split
       . rename_i hs L hx hb
         have hr := hrv ⟨f.st, e.win, 0, false, true⟩ rfl rfl rfl
         rw [jB, J9 3 (by omega) (by omega) f.st 0 (by omega), kH]
         have hd2 : 2 <= zs (wire f.d.length) + zs f.d := by
          by_cases h0 : f.d.length = 0
          . rw [h0, kH]; omega
          . omega
         show DL e.row + 2 * (e.own.map uQ).sum + ((e.oth ++ [(⟨f.st, e.win, 0, false, true⟩ : Ot)]).map pz).sum + 200 * (64 - (e.oth ++ [(⟨f.st, e.win, 0, false, true⟩ : Ot)]).length) + _ <= _
         unfold En.zm
         omega
       . have hr := hrv ⟨f.st, e.win, 0, true, false⟩ rfl rfl rfl
         show DL e.row + 2 * (e.own.map uQ).sum + ((e.oth ++ [(⟨f.st, e.win, 0, true, false⟩ : Ot)]).map pz).sum + 200 * (64 - (e.oth ++ [(⟨f.st, e.win, 0, true, false⟩ : Ot)]).length) <= _
         unfold En.zm
         omega
 . rename_i hk0
   have hp : zs f.pack = 1 + zs (wire f.st) + zs (wire f.d.length) + zs f.d := by rw [hp0, oG f.k (by omega) hg.k7]
   have oset : ∀ (i : Nat) (o o' : Ot) (r : Nat), e.oth[i]? = some o -> ({ e with oth := e.oth.set i o', room := r } : En).zm + pz o = e.zm + pz o' := by
    intro i o o' r ho
    have := lu pz e.oth i o o' ho
    unfold En.zm
    simp only [List.length_set]
    omega
   split
   . rename_i hk
     have hgl : f.d.length <= 16 := by
      have := hg.length
      rcases hk with hk | hk <;> rw [hk] at this <;> simp [aA] at this <;> omega
     unfold En.bH
     split
     . show e.zm <= _; omega
     . rename_i i o hx
       obtain ⟨hix, ho⟩ := dH hx
       obtain ⟨o', ho', hid⟩ := bg hix
       simp only at ho ho'
       have hid : o.id = f.st := by
        rw [ho] at ho'
        cases ho'
        omega
       split
       . show e.zm <= _; omega
       . split
         . show e.zm <= _; omega
         . rename_i hcr
           split
           . have := oset i o { o with cr := o.cr - f.d.length, held := o.held + f.d.length, opn := decide (f.k ≠ 2), drp := o.drp && decide (f.k ≠ 2) } (e.room - f.d.length) ho
             have h1 : pz { o with cr := o.cr - f.d.length, held := o.held + f.d.length, opn := decide (f.k ≠ 2), drp := o.drp && decide (f.k ≠ 2) } <= pz o + 2 := by
              unfold pz
              simp only
              split <;> split <;> split <;> omega
             dsimp only
             omega
           . rename_i hop
             have := oset i o { o with cr := o.cr - f.d.length, drp := decide (f.k ≠ 2) } (e.room - f.d.length) ho
             have h1 : pz { o with cr := o.cr - f.d.length, drp := decide (f.k ≠ 2) } + (if f.st <= 127 then f.d.length else 0) = pz o := by
              unfold pz
              simp only [hid]
              split <;> split <;> omega
             have hb := DT ({ e with oth := e.oth.set i { o with cr := o.cr - f.d.length, drp := decide (f.k ≠ 2) }, room := e.room - f.d.length } : En) f.d.length (by omega)
             have hwl : (wire f.d.length).length = 1 := gK _ (by omega)
             dsimp only
             by_cases hst : f.st <= 127
             . rw [if_pos hst] at h1
               split at hb <;> omega
             . rw [if_neg hst] at h1
               have := NF f.st (by omega)
               split at hb <;> omega
   . split
     . rename_i hk
       have hgl : 1 <= f.d.length := by
        have := hg.length
        rw [hk] at this
        simp [aA] at this
        omega
       unfold En.dh
       split
       . rename_i i o hx
         obtain ⟨_, ho⟩ := dH hx
         split
         . show e.zm <= _; omega
         . have := lu uQ e.own i o { o with done := true } ho
           have h1 : uQ { o with done := true } = 0 := rfl
           unfold En.zm
           simp only
           omega
       . split
         . show e.zm <= _; omega
         . rename_i i o hx
           obtain ⟨_, ho⟩ := dH hx
           split
           . rename_i hop
             dsimp only at ho ⊢
             have hh := hw.held ho
             have := oset i o { o with opn := false, held := 0 } e.room ho
             have h1 : pz { o with opn := false, held := 0 } + (if 0 < o.held then 2 else 0) = pz o := by
              unfold pz
              simp only [hop]
              split <;> simp_all <;> omega
             have hb := DT ({ e with oth := e.oth.set i { o with opn := false, held := 0 } } : En) o.held hh
             have hwl : (wire o.held).length <= 2 := kR _ (by omega)
             split at hb
             . rename_i hpos
               rw [if_pos hpos] at h1
               omega
             . rename_i hpos
               rw [if_neg hpos] at h1
               omega
           . have := oset i o { o with drp := false } e.room ho
             have h1 : pz { o with drp := false } = pz o := rfl
             dsimp only
             omega
     . split
       . unfold En.bU
         split
         . split
           . show e.zm <= _; omega
           . show e.zm <= _; omega
         . split
           . show e.zm <= _; omega
           . rename_i i o hx
             obtain ⟨_, ho⟩ := dH hx
             split
             . show e.zm <= _; omega
             . split
               . show e.zm <= _; omega
               . have := lu uQ e.own i o { o with cr := o.cr + numOf f.d } ho
                 have h1 : uQ { o with cr := o.cr + numOf f.d } = uQ o := rfl
                 unfold En.zm
                 simp only
                 omega
       . split
         . rw [jB, oG 6 (by omega) (by omega), kH]
           have : 2 <= zs (wire f.st) := by
            by_cases h0 : f.st = 0
            . rw [h0, kH]; omega
            . have := hg.stream
              rename_i hk
              rw [hk] at this
              simp [aC] at this
              omega
           omega
         . split
           . show e.zm <= _; omega
           . show e.zm <= _; omega
theorem xg (f : Fr) (l : List Fr) : zs (eQ (f :: l)) = zs f.pack + zs (eQ l) := by
 have : eQ (f :: l) = f.pack ++ eQ l := rfl
 rw [this, gm]
theorem RX : ∀ (l : Bs), zs (Lk.all l).2.2 + zs (eQ (Lk.all l).1) <= zs l := by
 intro l
 induction h : l.length using Nat.strongRecOn generalizing l with
 | _ n ih =>
   subst h
   cases hx : nx l with
   | more => rw [iU hx]; simp [eQ, xe]
   | err e => rw [mW hx]; simp [eQ, xe]
   | frame k st d n =>
     have hb := aV hx
     have hg := IE hx
     have := ih (l.drop n).length (by rw [List.length_drop]; omega) (l.drop n) rfl
     rw [ja hx]
     have hp : zs (eQ (⟨k, st, d⟩ :: (Lk.all (l.drop n)).1)) = zs (l.take n) + zs (eQ (Lk.all (l.drop n)).1) := by
      rw [xg]
      show zs (packed k st d) + _ = _
      rw [hg.2]
     have hl : zs l = zs (l.take n) + zs (l.drop n) := by rw [<- gm, List.take_append_drop]
     simp only [hp]
     omega
theorem OM : ∀ (l : List Fr) {e : En}, Wf e -> (∀ f ∈ l, Good f.k f.st f.d) -> (e.run l).2.2.zm <= e.zm + zs (eQ l)
 | [], e, _, _ => by
   show e.zm <= e.zm + 0
   omega
 | f :: l, e, hw, h => by
   have h1 := NH hw (h f (by simp))
   have h2 := OM l (hw.frame (h f (by simp))) (fun g hg => h g (by simp [hg]))
   rw [En.run, xg]
   split
   . omega
   . simp only
     omega
theorem OO {e : En} (hw : Wf e) : e.bye.zm <= e.zm + 10 := by
 show (e.send 7 0 (wire e.bT)).zm <= _
 have h1 := lS 7 (by omega) (by omega) 0 e.bT (by omega) hw.bT
 rw [jB]
 omega
theorem NI {e : En} (hw : Wf e) : e.falls.zm <= e.zm + 10 := by
 unfold En.falls
 split
 . exact OO hw
 . omega
theorem Ko {e : En} (hw : Wf e) (b : Bs) : (e.feed b).2.zm + zs (e.feed b).2.rest <= e.zm + zs e.rest + zs b + 10 := by
 by_cases hd : e.down = 0
 . obtain ⟨hg, _⟩ := kY (e.rest ++ b)
   have hres := qV (e.rest ++ b)
   have hrl := RX (e.rest ++ b)
   rw [gm] at hrl
   rw [e.qZ b hd _ rfl _ rfl]
   generalize Lk.all (e.rest ++ b) = A at *
   obtain ⟨fs, flt, rest⟩ := A
   simp only at hg hres hrl ⊢
   have hw0 : Wf ((e.at rest).dn flt) := (hw.at hres).iI flt
   have h1 := OM fs hw0 hg
   have h2 := MI fs ((e.at rest).dn flt)
   have hwr := Wf.run fs hw0 hg
   generalize ((e.at rest).dn flt).run fs = R at *
   have h5 := Gi (R.2.2.dn (if R.2.1 = 0 then flt else R.2.1))
   rw [h5]
   have h6 : (R.2.2.dn (if R.2.1 = 0 then flt else R.2.1)).rest = rest := h2
   have h10 : ((e.at rest).dn flt).zm = e.zm := rfl
   have h3' : (R.2.2.dn (if R.2.1 = 0 then flt else R.2.1)).falls.zm <= R.2.2.zm + 10 := NI (hwr.iI (if R.2.1 = 0 then flt else R.2.1))
   rw [h10] at h1
   rw [h6]
   omega
 . rw [e.jP b hd]
   show e.zm + zs e.rest <= _
   omega
theorem NJ (e : En) (t : Bs) : (e.iy t).2.zm <= e.zm + 400 := by
 unfold En.iy
 split
 . show e.zm <= _; omega
 . split
   . show e.zm <= _; omega
   . rename_i h
     show (e.send 5 0 t).zm <= _
     rw [jB, oG 5 (by omega) (by omega), kH]
     have h8 : t.length = 8 := by omega
     have := J8 t
     rw [h8, yS 8 (by omega), gK 8 (by omega)]
     omega
theorem Qh {e : En} (hw : Wf e) : e.iC.2.zm <= e.zm + 400 := by
 unfold En.iC
 split
 . show e.zm <= _; omega
 . split
   . show e.zm <= _; omega
   . have := OO hw
     simp only
     omega
theorem Hz (e : En) (l : List Hd) (body : Bs) : (e.aW l body).2.zm <= e.zm + 5000 := by
 unfold En.aW
 split
 . show e.zm <= _; omega
 . split
   . show e.zm <= _; omega
   . split
     . show e.zm <= _; omega
     . split
       . show e.zm <= _; omega
       . rename_i hl
         split
         . show e.zm <= _; omega
         . rename_i hf
           show (En.send _ 0 e.nextId _).zm <= _
           rw [jB]
           have h1 := J8 (packed (0 : Nat) e.nextId (squeeze 100 e.out l).1)
           rw [wB] at h1
           have h4 := au e.nextId (by omega)
           have h2 : (wire (squeeze 100 e.out l).1.length).length = 1 := gK _ (by omega)
           have h3 : ([(⟨e.nextId, body, e.win, false⟩ : Ow)].map uQ).sum <= 2106 := by
            simp [uQ]
            omega
           show DL e.row + 2 * ((e.own ++ [(⟨e.nextId, body, e.win, false⟩ : Ow)]).map uQ).sum + (e.oth.map pz).sum + 200 * (64 - e.oth.length) + _ <= _
           rw [List.map_append, List.sum_append]
           unfold En.zm
           simp only [Int.toNat_natCast] at *
           omega
theorem DU {e : En} (hw : Wf e) (st n : Int) : (e.aP st n).2.zm <= e.zm + 400 := by
 unfold En.aP
 split
 . show e.zm <= _; omega
 . split
   . show e.zm <= _; omega
   . split
     . show e.zm <= _; omega
     . rename_i i hi
       split
       . show e.zm <= _; omega
       . rename_i o ho
         split
         . show e.zm <= _; omega
         . rename_i hh
           have MZ := hw.held ho
           have hid := (hw.oth i o ho).oL
           have hs := lu pz e.oth i o (o.eat n.toNat) ho
           have hpo : pz (o.eat n.toNat) <= pz o + 202 := by
            unfold pz Ot.eat
            simp only
            repeat' split
            all_goals omega
           have hm : ({ e with oth := e.oth.set i (o.eat n.toNat), room := e.room + n.toNat } : En).zm <= e.zm + 202 := by
            unfold En.zm
            simp only [List.length_set]
            omega
           have hn : n.toNat <= 268435455 := by omega
           have h1 := lS 4 (by omega) (by omega) 0 n.toNat (by omega) hn
           have h2 := lS 4 (by omega) (by omega) o.id n.toNat hid hn
           simp only
           split
           . rw [jB, jB]
             omega
           . rw [jB]
             omega
theorem Kr {e : En} (hw : Wf e) (st code : Int) : (e.dN st code).2.zm <= e.zm + 400 := by
 unfold En.dN
 split
 . show e.zm <= _; omega
 . split
   . show e.zm <= _; omega
   . rename_i hc
     split
     . rename_i i o hx
       have ho : e.own[i]? = some o := by
        cases hy : bK e.own st with
        | none => rw [hy] at hx; cases hx
        | some j =>
          rw [hy] at hx
          simp only [Option.bind_some] at hx
          cases hz : e.own[j]? with
          | none => rw [hz] at hx; cases hx
          | some q =>
            rw [hz] at hx
            simp only [Option.bind_some] at hx
            split at hx
            . cases hx
            . cases hx; exact hz
       have hs := lu uQ e.own i o { o with done := true } ho
       have h1 : uQ { o with done := true } = 0 := rfl
       have h2 := lS 3 (by omega) (by omega) o.id code.toNat (hw.own i o ho).oL (by omega)
       rw [jB]
       have hm : ({ e with own := e.own.set i { o with done := true } } : En).zm <= e.zm := by
        unfold En.zm
        simp only
        omega
       omega
     . split
       . rename_i i o hx
         have ho : e.oth[i]? = some o := by
          cases hy : bM e.oth st with
          | none => rw [hy] at hx; cases hx
          | some j =>
            rw [hy] at hx
            simp only [Option.bind_some] at hx
            cases hz : e.oth[j]? with
            | none => rw [hz] at hx; cases hx
            | some q =>
              rw [hz] at hx
              simp only [Option.bind_some] at hx
              split at hx
              . cases hx; exact hz
              . cases hx
         have hs := lu pz e.oth i o { o with opn := false, drp := true, held := 0 } ho
         have h1 : pz { o with opn := false, drp := true, held := 0 } <= pz o := by
          unfold pz
          simp
         have h2 := lS 3 (by omega) (by omega) o.id code.toNat (hw.oth i o ho).oL (by omega)
         have hh := hw.held ho
         have hb := DT (({ e with oth := e.oth.set i { o with opn := false, drp := true, held := 0 } } : En).send 3 o.id (wire code.toNat)) o.held hh
         rw [jB] at hb
         have hm : ({ e with oth := e.oth.set i { o with opn := false, drp := true, held := 0 } } : En).zm <= e.zm := by
          unfold En.zm
          simp only [List.length_set]
          omega
         have hwl : (wire o.held).length <= 2 := kR _ (by omega)
         have hif : (if 0 < o.held then 4 + (wire o.held).length else 0) <= 6 := by split <;> omega
         dsimp only
         omega
       . show e.zm <= _; omega
theorem Kt {e e' : En} {s : Bs} (hw : Wf e) (h : e.bG = some (s, e')) : zs s + e'.zm <= e.zm := by
 have hq := Cm hw h
 unfold En.bG at h
 split at h
 . rename_i s' r hr
   cases h
   unfold En.zm
   rw [hr]
   simp only [DL, List.map_cons, List.sum_cons]
   omega
 . rename_i hr
   split at h
   . cases h
   . split at h
     . cases h
     . rename_i i hi
       obtain ⟨o, ho, hmay⟩ := lU hi
       rw [ho] at h
       have h' : e.cu i o = (s, e') := Option.some.inj h
       obtain ⟨rfl, rfl⟩ : (e.cu i o).1 = s ∧ (e.cu i o).2 = e' := by rw [h']; exact ⟨rfl, rfl⟩
       have h1 := J8 (e.cu i o).1
       have h2 : (e.cu i o).2.row = e.row := rfl
       have h3 : (e.cu i o).2.oth = e.oth := rfl
       unfold En.Pz at hq
       unfold En.zm
       rw [h2, h3] at hq ⊢
       omega
theorem Fg : ∀ (n : Nat) {e : En}, Wf e -> zs (En.drain n e).1 + (En.drain n e).2.zm <= e.zm
 | 0, e, _ => by simp [En.drain, xe]
 | n + 1, e, hw => by
   cases hd : e.bG with
   | none => simp [En.drain, hd, xe]
   | some p =>
     obtain ⟨s, e'⟩ := p
     have h1 := Kt hw hd
     have h2 := Fg n (hw.bG hd).1
     simp only [En.drain, hd]
     rw [gm]
     omega
theorem Ku (s w : Nat) : (En.new s w).zm = 12800 := by simp [En.new, En.zm, DL]
theorem A8 (e : En) (n : Nat) : (e.back n).row.length <= e.row.length + 1 := by
 unfold En.back
 split
 . show (e.row ++ [_]).length <= _; simp
 . omega
theorem uy (e : En) (f : Fr) : (e.frame f).2.2.row.length <= e.row.length + 1 ∧ (e.frame f).1.length <= 2 := by
 unfold En.frame
 split
 . unfold En.gX
   split
   . exact ⟨by show e.row.length <= _; omega, by simp⟩
   . split
     . exact ⟨by show e.row.length <= _; omega, by simp⟩
     . split
       . exact ⟨by show (e.row ++ [_]).length <= _; simp, by simp⟩
       . exact ⟨by show e.row.length <= _; omega, by simp⟩
 . split
   . unfold En.bH
     split
     . exact ⟨by show e.row.length <= _; omega, by simp⟩
     . split
       . exact ⟨by show e.row.length <= _; omega, by simp⟩
       . split
         . exact ⟨by show e.row.length <= _; omega, by simp⟩
         . split
           . refine ⟨by show e.row.length <= _; omega, ?_⟩
             rw [List.length_append]
             split <;> split <;> simp
           . exact ⟨A8 _ _, by simp⟩
   . split
     . unfold En.dh
       split
       . split
         . exact ⟨by show e.row.length <= _; omega, by simp⟩
         . exact ⟨by show e.row.length <= _; omega, by simp⟩
       . split
         . exact ⟨by show e.row.length <= _; omega, by simp⟩
         . split
           . exact ⟨A8 _ _, by simp⟩
           . exact ⟨by show e.row.length <= _; omega, by simp⟩
     . split
       . refine ⟨?_, by simp⟩
         unfold En.bU
         repeat' split
         all_goals (show e.row.length <= _; omega)
       . split
         . exact ⟨by show (e.row ++ [_]).length <= _; simp, by simp⟩
         . split
           . exact ⟨by show e.row.length <= _; omega, by simp⟩
           . exact ⟨by show e.row.length <= _; omega, by simp⟩
theorem NK {e : En} (hw : Wf e) : e.row.length <= e.zm := by
 have : ∀ l : List Bs, (∀ s ∈ l, 0 < s.length) -> l.length <= DL l := by
  intro l
  induction l with
  | nil => intro _; simp [DL]
  | cons s l ih =>
    intro h
    have h1 := ih (fun x hx => h x (by simp [hx]))
    have h2 := h s (by simp)
    have h3 := DK s
    simp only [DL, List.map_cons, List.sum_cons, List.length_cons] at *
    omega
 have h := this e.row (fun s hs => by
  obtain ⟨fs, h1, _⟩ := hw.row
  rw [h1] at hs
  obtain ⟨f, _, rfl⟩ := List.mem_map.1 hs
  unfold Fr.pack packed
  simp)
 unfold En.zm
 omega
end Go.Proofs.YtbkpdapagfjmmaaGreatDoor.Lk
