import Derived.Test.YtbkpdapagfjmmaaGreatDoorA12
set_option linter.unusedVariables false
set_option maxRecDepth 100000
set_option maxHeartbeats 16000000
namespace Go.Proofs.YtbkpdapagfjmmaaGreatDoor.Lk
def En.dn (e : En) (r : Nat) : En := { e with down := r }
def Dn3 (x : List Ev × Nat × En) (r : Nat) : List Ev × Nat × En := (x.1, x.2.1, x.2.2.dn r)
theorem En.Jm (e : En) (n : Nat) (r : Nat) : (e.dn r).back n = (e.back n).dn r := by
 unfold En.back
 split <;> rfl
theorem En.Oq (e : En) (r : Nat) : (e.dn r).bye = e.bye.dn r := rfl
theorem En.MC (e : En) (f : Fr) (r : Nat) : (e.dn r).gX f = Dn3 (e.gX f) r := by
 unfold En.gX
 show (if f.st ≠ 2 * e.oth.length + 2 - e.side then ([], 4, e.dn r) else _) = _
 by_cases h : f.st ≠ 2 * e.oth.length + 2 - e.side
 . rw [if_pos h, if_pos h]; rfl
 . rw [if_neg h, if_neg h]
   show (match exR 100 f.d 6 e.inn 0 with | .err _ _ => _ | .ok hs L => _) = _
   cases exR 100 f.d 6 e.inn 0 with
   | err a b => rfl
   | ok hs L =>
     show (if e.iH = true then _ else _) = Dn3 (if e.iH = true then _ else _) r
     by_cases hb : e.iH = true
     . rw [if_pos hb, if_pos hb]; rfl
     . rw [if_neg hb, if_neg hb]; rfl
theorem En.Jn (e : En) (f : Fr) (r : Nat) : (e.dn r).bH f = Dn3 (e.bH f) r := by
 unfold En.bH
 show (match (bM e.oth f.st).bind fun i => (e.oth[i]?).map fun o => (i, o) with | none => _ | some (i, o) => _) = Dn3 (match (bM e.oth f.st).bind fun i => (e.oth[i]?).map fun o => (i, o) with | none => _ | some (i, o) => _) r
 cases (bM e.oth f.st).bind fun i => (e.oth[i]?).map fun o => (i, o) with
 | none => rfl
 | some p =>
   obtain ⟨i, o⟩ := p
   show (if (!o.opn && !o.drp) = true then _ else if o.cr < f.d.length ∨ e.room < f.d.length then _ else if o.opn = true then _ else _) = Dn3 (if (!o.opn && !o.drp) = true then _ else if o.cr < f.d.length ∨ e.room < f.d.length then _ else if o.opn = true then _ else _) r
   split
   . rfl
   . split
     . rfl
     . split
       . rfl
       . unfold Dn3
         simp only
         rw [<- En.Jm]
         rfl
theorem En.Jo (e : En) (f : Fr) (r : Nat) : (e.dn r).dh f = Dn3 (e.dh f) r := by
 unfold En.dh
 show (match (bK e.own f.st).bind fun i => (e.own[i]?).map fun o => (i, o) with | some (i, o) => _ | none => match (bM e.oth f.st).bind fun i => (e.oth[i]?).map fun o => (i, o) with | none => _ | some (i, o) => _) = Dn3 (match (bK e.own f.st).bind fun i => (e.own[i]?).map fun o => (i, o) with | some (i, o) => _ | none => match (bM e.oth f.st).bind fun i => (e.oth[i]?).map fun o => (i, o) with | none => _ | some (i, o) => _) r
 cases (bK e.own f.st).bind fun i => (e.own[i]?).map fun o => (i, o) with
 | some p =>
   obtain ⟨i, o⟩ := p
   show (if o.done = true then _ else _) = Dn3 (if o.done = true then _ else _) r
   split <;> rfl
 | none =>
   cases (bM e.oth f.st).bind fun i => (e.oth[i]?).map fun o => (i, o) with
   | none => rfl
   | some p =>
     obtain ⟨i, o⟩ := p
     show (if o.opn = true then _ else _) = Dn3 (if o.opn = true then _ else _) r
     split
     . unfold Dn3
       simp only
       rw [<- En.Jm]
       rfl
     . rfl
theorem En.Gh (e : En) (f : Fr) (r : Nat) : (e.dn r).bU f = ((e.bU f).1, (e.bU f).2.dn r) := by
 unfold En.bU
 split
 . show (if numOf f.d = 0 ∨ 100000 < e.all + numOf f.d then _ else _) = ((if numOf f.d = 0 ∨ 100000 < e.all + numOf f.d then _ else _ : Nat × En).1, (if numOf f.d = 0 ∨ 100000 < e.all + numOf f.d then _ else _ : Nat × En).2.dn r)
   split <;> rfl
 . show (match (bK e.own f.st).bind fun i => (e.own[i]?).map fun o => (i, o) with | none => _ | some (i, o) => _) = _
   cases (bK e.own f.st).bind fun i => (e.own[i]?).map fun o => (i, o) with
   | none => rfl
   | some p =>
     obtain ⟨i, o⟩ := p
     simp only
     split
     . rfl
     . split <;> rfl
theorem En.Ey (e : En) (f : Fr) (r : Nat) : (e.dn r).frame f = Dn3 (e.frame f) r := by
 unfold En.frame
 split
 . exact e.MC f r
 . split
   . exact e.Jn f r
   . split
     . exact e.Jo f r
     . split
       . rw [e.Gh f r]; rfl
       . split
         . rfl
         . split <;> rfl
def En.run : En -> List Fr -> List Ev × Nat × En
 | e, [] => ([], 0, e)
 | e, f :: l => if (e.frame f).2.1 ≠ 0 then e.frame f else ((e.frame f).1 ++ (En.run (e.frame f).2.2 l).1, (En.run (e.frame f).2.2 l).2)
theorem En.Ou : ∀ (l : List Fr) (e : En) (r : Nat), (e.dn r).run l = Dn3 (e.run l) r
 | [], e, r => rfl
 | f :: l, e, r => by
   rw [En.run, En.run, e.Ey f r]
   show (if (e.frame f).2.1 ≠ 0 then Dn3 (e.frame f) r else _) = _
   by_cases h : (e.frame f).2.1 ≠ 0
   . rw [if_pos h, if_pos h]
   . rw [if_neg h, if_neg h]
     show ((e.frame f).1 ++ (En.run ((e.frame f).2.2.dn r) l).1, (En.run ((e.frame f).2.2.dn r) l).2) = _
     rw [En.Ou l (e.frame f).2.2 r]
     rfl
theorem En.Py (e : En) : e.dn e.down = e := rfl
theorem En.jR (e : En) (f : Fr) : (e.frame f).2.2.down = e.down := by
 have := e.Ey f e.down
 rw [En.Py] at this
 have h2 : (e.frame f).2.2 = (e.frame f).2.2.dn e.down := by
  have h3 := congrArg (fun x => x.2.2) this
  exact h3
 rw [h2]
 rfl
theorem En.Ez : ∀ (l : List Fr) (e : En), (e.run l).2.2.down = e.down
 | [], e => rfl
 | f :: l, e => by
   rw [En.run]
   split
   . exact e.jR f
   . rw [En.Ez l]; exact e.jR f
theorem En.wu : ∀ (l : List Fr) (e : En), e.down = 0 -> e.frames l = ((e.run l).1, (e.run l).2.2.dn (e.run l).2.1)
 | [], e, h => by
   show ([], e) = ([], e.dn 0)
   rw [<- h]
   rfl
 | f :: l, e, h => by
   rw [En.frames, En.run, if_neg (by rw [h]; simp)]
   by_cases h2 : (e.frame f).2.1 ≠ 0
   . rw [if_pos h2, En.mZ _ _ (by exact h2)]
     simp only [List.append_nil]
     rfl
   . rw [if_neg h2]
     have h3 : (e.frame f).2.1 = 0 := by omega
     have h4 : ({ (e.frame f).2.2 with down := (e.frame f).2.1 } : En) = (e.frame f).2.2 := by
      rw [h3, <- h, <- e.jR f]
     rw [h4, En.wu l _ ((e.jR f).trans h)]
theorem En.qZ (e : En) (b : Bs) (hd : e.down = 0) (B : List Fr × Nat × Bs) (hB : Lk.all (e.rest ++ b) = B) (R : List Ev × Nat × En) (hR : ((e.at B.2.2).dn B.2.1).run B.1 = R) :
 e.feed b = (R.1, (R.2.2.dn (if R.2.1 = 0 then B.2.1 else R.2.1)).falls) := by
 rw [e.IK b hd B hB, En.wu _ _ hd]
 rw [En.Ou] at hR
 have h1 : (e.at B.2.2).run B.1 = ((e.run B.1).1, (e.run B.1).2.1, (e.run B.1).2.2.at B.2.2) := by
  have : ∀ (l : List Fr) (e : En) (r : Bs), (e.at r).run l = At3 (e.run l) r := by
   intro l
   induction l with
   | nil => intro e r; rfl
   | cons f l ih =>
     intro e r
     rw [En.run, En.run, e.xB f r]
     show (if (e.frame f).2.1 ≠ 0 then At3 (e.frame f) r else _) = _
     by_cases h : (e.frame f).2.1 ≠ 0
     . rw [if_pos h, if_pos h]
     . rw [if_neg h, if_neg h]
       show ((e.frame f).1 ++ (En.run ((e.frame f).2.2.at r) l).1, (En.run ((e.frame f).2.2.at r) l).2) = _
       rw [ih (e.frame f).2.2 r]
       rfl
  exact this _ _ _
 rw [h1] at hR
 subst hR
 show ((e.run B.1).1, _) = ((e.run B.1).1, _)
 refine congrArg (Prod.mk _) (congrArg En.falls ?_)
 show (if (e.run B.1).2.1 = 0 then _ else _) = (((e.run B.1).2.2.at B.2.2).dn (if (e.run B.1).2.1 = 0 then B.2.1 else (e.run B.1).2.1))
 by_cases h : (e.run B.1).2.1 = 0
 . rw [if_pos h, if_pos h]; rfl
 . rw [if_neg h, if_neg h]; rfl
theorem Wf.run : ∀ (l : List Fr) {e : En}, Wf e -> (∀ f ∈ l, Good f.k f.st f.d) -> Wf (e.run l).2.2
 | [], e, h, _ => h
 | f :: l, e, h, hl => by
   rw [En.run]
   split
   . exact h.frame (hl f (by simp))
   . exact Wf.run l (h.frame (hl f (by simp))) (fun g hg => hl g (by simp [hg]))
theorem En.zW (e : En) (f : Fr) : (e.frame f).1.length <= 2 := by
 unfold En.frame
 split
 . unfold En.gX
   split
   . simp
   . split
     . simp
     . split <;> simp
 . split
   . unfold En.bH
     split
     . simp
     . split
       . simp
       . split
         . simp
         . split
           . rw [List.length_append]
             have h1 : (if 0 < f.d.length then [(⟨2, f.st, 0, [], f.d⟩ : Ev)] else []).length <= 1 := by split <;> simp
             have h2 : (if f.k = 2 then [(⟨3, f.st, 0, [], []⟩ : Ev)] else []).length <= 1 := by split <;> simp
             omega
           . simp
   . split
     . unfold En.dh
       split
       . split <;> simp
       . split
         . simp
         . split <;> simp
     . split
       . simp
       . split
         . simp
         . split <;> simp
theorem En.Jp : ∀ (l : List Fr) (e : En), (e.run l).1.length <= 2 * l.length
 | [], e => by simp [En.run]
 | f :: l, e => by
   rw [En.run]
   have h1 := e.zW f
   split
   . simp only [List.length_cons]; omega
   . have h2 := En.Jp l (e.frame f).2.2
     rw [List.length_append, List.length_cons]
     omega
theorem MF : ∀ (l : Bs), 3 * (all l).1.length <= l.length := by
 intro l
 induction h : l.length using Nat.strongRecOn generalizing l with
 | _ n ih =>
   subst h
   cases hx : nx l with
   | more => rw [iU hx]; simp
   | err e => rw [mW hx]; simp
   | frame k st d n =>
     have hb := aV hx
     have := ih (l.drop n).length (by rw [List.length_drop]; omega) (l.drop n) rfl
     rw [ja hx]
     simp only [List.length_cons]
     rw [List.length_drop] at this
     omega
theorem En.MG (e : En) (b : Bs) : (e.feed b).1.length <= e.rest.length + b.length := by
 by_cases hd : e.down = 0
 . rw [e.qZ b hd _ rfl _ rfl]
   have h1 := En.Jp (Lk.all (e.rest ++ b)).1 ((e.at (Lk.all (e.rest ++ b)).2.2).dn (Lk.all (e.rest ++ b)).2.1)
   have h2 := MF (e.rest ++ b)
   rw [List.length_append] at h2
   simp only
   omega
 . rw [e.jP b hd]
   simp
structure Ev.Ok (v : Ev) : Prop where
 hs : v.hs.length <= 6
 st : v.st <= 268435455
 n : v.n <= 268435455
 k : v.k <= 6
 t : v.t.length <= 64
theorem Jq (B : Nat) (s : Bs) : ∀ (n : Nat) (L : List Hd) (p : Nat) (hs L2 : List Hd), exR B s n L p = .ok hs L2 -> hs.length <= n
 | 0, L, p, hs, L2, h => by
   rw [exR] at h
   split at h
   . cases h; simp
   . cases h
 | n + 1, L, p, hs, L2, h => by
   rw [exR] at h
   split at h
   . cases h; simp
   . cases hp : mY B L s p with
     | bad q => rw [hp] at h; cases h
     | ok hl q =>
       rw [hp] at h
       simp only at h
       cases hx : exR B s n hl.2 q with
       | err a b => rw [hx] at h; cases h
       | ok hs2 L3 =>
         rw [hx] at h
         cases h
         have := Jq B s n hl.2 q _ _ hx
         simp
         omega
theorem En.MH (e : En) {f : Fr} (hg : Good f.k f.st f.d) : ∀ v ∈ (e.frame f).1, v.Ok := by
 have h1 := hg.Fv
 have h2 := nP f.d
 have h3 := hg.len
 intro v
 unfold En.frame
 split
 . unfold En.gX
   split
   . simp
   . split
     . simp
     . rename_i hs L hx
       have := Jq _ _ _ _ _ _ _ hx
       split
       . simp
       . intro hv
         simp at hv
         subst hv
         exact ⟨this, h1, by simp, by simp, by simp⟩
 . split
   . unfold En.bH
     split
     . simp
     . split
       . simp
       . split
         . simp
         . split
           . intro hv
             rcases List.mem_append.1 hv with hv | hv
             . split at hv
               . simp at hv
                 subst hv
                 exact ⟨by simp, h1, by simp, by simp, h3⟩
               . cases hv
             . split at hv
               . simp at hv
                 subst hv
                 exact ⟨by simp, h1, by simp, by simp, by simp⟩
               . cases hv
           . simp
   . split
     . unfold En.dh
       split
       . split
         . simp
         . intro hv
           simp at hv
           subst hv
           exact ⟨by simp, h1, h2, by simp, by simp⟩
       . split
         . simp
         . split
           . intro hv
             simp at hv
             subst hv
             exact ⟨by simp, h1, h2, by simp, by simp⟩
           . simp
     . split
       . simp
       . split
         . simp
         . split
           . intro hv
             simp at hv
             subst hv
             exact ⟨by simp, by simp, by simp, by simp, h3⟩
           . intro hv
             simp at hv
             subst hv
             exact ⟨by simp, by simp, h2, by simp, by simp⟩
theorem En.Ov : ∀ (l : List Fr) (e : En), (∀ f ∈ l, Good f.k f.st f.d) -> ∀ v ∈ (e.run l).1, v.Ok
 | [], e, _ => by simp [En.run]
 | f :: l, e, h => by
   have h1 := e.MH (h f (by simp))
   have h2 := En.Ov l (e.frame f).2.2 (fun g hg => h g (by simp [hg]))
   intro v hv
   rw [En.run] at hv
   split at hv
   . exact h1 v hv
   . rcases List.mem_append.1 hv with hv | hv
     . exact h1 v hv
     . exact h2 v hv
theorem En.xP (e : En) (b : Bs) : ∀ v ∈ (e.feed b).1, v.Ok := by
 by_cases hd : e.down = 0
 . rw [e.qZ b hd _ rfl _ rfl]
   exact En.Ov _ _ (kY (e.rest ++ b)).1
 . rw [e.jP b hd]
   simp
theorem lu {α : Type} (f : α -> Nat) : ∀ (l : List α) (i : Nat) (o x : α), l[i]? = some o -> ((l.set i x).map f).sum + f o = (l.map f).sum + f x
 | [], i, o, x, h => by simp at h
 | y :: l, 0, o, x, h => by
   simp at h
   subst h
   simp
   omega
 | y :: l, i + 1, o, x, h => by
   have := lu f l i o x (by simpa using h)
   simp at this ⊢
   omega
theorem wB (k st : Int) (d : Bs) : (packed k st d).length = 1 + (wire st.toNat).length + (wire d.length).length + d.length := by
 unfold packed
 simp
 omega
def rowLen (l : List Bs) : Nat := (l.map List.length).sum
def uQ (o : Ow) : Nat := if o.done then 0 else 7 * o.left.length + 6
def Wl (o : Ot) : Nat := if o.opn = true ∧ 0 < o.held then 1 else 0
def En.Pz (e : En) : Nat := rowLen e.row + (e.own.map uQ).sum + (e.oth.map Wl).sum
def En.gr (e : En) : Nat := if e.iH then e.oth.length else 0
theorem ED (e : En) (n : Nat) : (e.back n).oth = e.oth := by unfold En.back; split <;> rfl
theorem Gi (e : En) : e.falls.rest = e.rest := by unfold En.falls; split <;> rfl
theorem bD (e : En) (n : Nat) : (e.back n).rest = e.rest := by unfold En.back; split <;> rfl
theorem MI : ∀ (l : List Fr) (e : En), (e.run l).2.2.rest = e.rest := by
 have hf : ∀ (e : En) (f : Fr), (e.frame f).2.2.rest = e.rest := by
  intro e f
  have := e.xB f e.rest
  rw [En.O1] at this
  have h2 : (e.frame f).2.2 = (e.frame f).2.2.at e.rest := congrArg (fun x => x.2.2) this
  rw [h2]
  rfl
 intro l
 induction l with
 | nil => intro e; rfl
 | cons f l ih =>
   intro e
   rw [En.run]
   split
   . exact hf e f
   . exact (ih _).trans (hf e f)
theorem Cm {e e' : En} {s : Bs} (hw : Wf e) (h : e.bG = some (s, e')) : s.length + e'.Pz <= e.Pz := by
 unfold En.bG at h
 split at h
 . rename_i s' r hr
   cases h
   unfold En.Pz
   rw [hr]
   simp only [rowLen, List.map_cons, List.sum_cons]
   omega
 . split at h
   . cases h
   . split at h
     . cases h
     . rename_i i hi
       obtain ⟨o, ho, hmay⟩ := lU hi
       rw [ho] at h
       have h' : e.cu i o = (s, e') := Option.some.inj h
       obtain ⟨rfl, rfl⟩ : (e.cu i o).1 = s ∧ (e.cu i o).2 = e' := by rw [h']; exact ⟨rfl, rfl⟩
       have hid := (hw.own i o ho).oL
       have hm := xE e o
       have hs := lu uQ e.own i o ⟨o.id, o.left.drop (e.most o), o.cr - e.most o, o.done || decide (e.most o = o.left.length)⟩ ho
       have hdone : o.done = false := by
        unfold En.may at hmay
        cases hd : o.done with
        | false => rfl
        | true => rw [hd] at hmay; simp at hmay
       have h1 : uQ o = 7 * o.left.length + 6 := by unfold uQ; rw [hdone]; simp
       have hwl := au o.id hid
       have hlen : (e.cu i o).1.length <= 6 + e.most o := by
        show (packed _ _ (o.left.take (e.most o))).length <= _
        rw [wB, List.length_take]
        have : min (e.most o) o.left.length = e.most o := by omega
        rw [this, gK (e.most o) (by omega)]
        simp only [Int.toNat_natCast]
        omega
       have Wn : (e.cu i o).2.Pz + uQ o = e.Pz + uQ ⟨o.id, o.left.drop (e.most o), o.cr - e.most o, o.done || decide (e.most o = o.left.length)⟩ := by
        unfold En.cu En.Pz
        simp only
        omega
       have h2 : uQ ⟨o.id, o.left.drop (e.most o), o.cr - e.most o, o.done || decide (e.most o = o.left.length)⟩ + 6 + e.most o <= 7 * o.left.length + 6 := by
        unfold uQ
        rw [hdone]
        simp only [Bool.false_or, decide_eq_true_eq]
        split
        . omega
        . rename_i hn
          have := Ei hmay hn
          rw [List.length_drop]
          omega
       omega
theorem Gj (e : En) (t : Bs) : (e.iy t).2.side = e.side ∧ (e.iy t).2.oth = e.oth ∧ (e.iy t).2.rest = e.rest := by
 unfold En.iy
 split
 . exact ⟨rfl, rfl, rfl⟩
 . split <;> exact ⟨rfl, rfl, rfl⟩
theorem Jr (e : En) : e.iC.2.side = e.side ∧ e.iC.2.oth = e.oth ∧ e.iC.2.rest = e.rest := by
 unfold En.iC
 split
 . exact ⟨rfl, rfl, rfl⟩
 . split <;> exact ⟨rfl, rfl, rfl⟩
theorem zX (e : En) (l : List Hd) (t : Bs) : (e.aW l t).2.side = e.side ∧ (e.aW l t).2.oth = e.oth ∧ (e.aW l t).2.rest = e.rest := by
 unfold En.aW
 split
 . exact ⟨rfl, rfl, rfl⟩
 . split
   . exact ⟨rfl, rfl, rfl⟩
   . split
     . exact ⟨rfl, rfl, rfl⟩
     . split
       . exact ⟨rfl, rfl, rfl⟩
       . split <;> exact ⟨rfl, rfl, rfl⟩
theorem pg (e : En) (n : Nat) : (e.back n).side = e.side ∧ (e.back n).oth = e.oth ∧ (e.back n).rest = e.rest := by
 unfold En.back
 split <;> exact ⟨rfl, rfl, rfl⟩
theorem xU (e : En) (k n : Int) : (e.aP k n).2.side = e.side ∧ (e.aP k n).2.oth.length = e.oth.length ∧ (e.aP k n).2.rest = e.rest := by
 unfold En.aP
 split
 . exact ⟨rfl, rfl, rfl⟩
 . split
   . exact ⟨rfl, rfl, rfl⟩
   . split
     . exact ⟨rfl, rfl, rfl⟩
     . split
       . exact ⟨rfl, rfl, rfl⟩
       . split
         . exact ⟨rfl, rfl, rfl⟩
         . simp only
           split
           . exact ⟨rfl, by simp [En.send], rfl⟩
           . exact ⟨rfl, by simp [En.send], rfl⟩
theorem CB (e : En) (k n : Int) : (e.dN k n).2.side = e.side ∧ (e.dN k n).2.oth.length = e.oth.length ∧ (e.dN k n).2.rest = e.rest := by
 unfold En.dN
 split
 . exact ⟨rfl, rfl, rfl⟩
 . split
   . exact ⟨rfl, rfl, rfl⟩
   . split
     . exact ⟨rfl, rfl, rfl⟩
     . split
       . simp only
         rw [(pg _ _).1, (pg _ _).2.1, (pg _ _).2.2]
         exact ⟨rfl, by simp [En.send], rfl⟩
       . exact ⟨rfl, rfl, rfl⟩
theorem CE {e e' : En} {s : Bs} (h : e.bG = some (s, e')) : e'.side = e.side ∧ e'.oth = e.oth ∧ e'.rest = e.rest := by
 unfold En.bG at h
 split at h
 . cases h; exact ⟨rfl, rfl, rfl⟩
 . split at h
   . cases h
   . split at h
     . cases h
     . split at h
       . cases h
       . cases h; exact ⟨rfl, rfl, rfl⟩
theorem wC : ∀ (n : Nat) (e : En), (En.drain n e).2.side = e.side ∧ (En.drain n e).2.oth = e.oth ∧ (En.drain n e).2.rest = e.rest
 | 0, e => ⟨rfl, rfl, rfl⟩
 | n + 1, e => by
   cases hd : e.bG with
   | none => simp [En.drain, hd]
   | some p =>
     obtain ⟨s, e'⟩ := p
     have h1 := CE hd
     have h2 := wC n e'
     simp only [En.drain, hd]
     exact ⟨h2.1.trans h1.1, h2.2.1.trans h1.2.1, h2.2.2.trans h1.2.2⟩
theorem Wf.wE {e : En} (h : Wf e) : e.oth.length <= 134217729 := by
 by_cases h0 : e.oth.length = 0
 . omega
 . have hx : e.oth[e.oth.length - 1]? = some (e.oth[e.oth.length - 1]'(by omega)) := List.getElem?_eq_getElem _
   have h1 := (h.oth _ _ hx).id
   have h2 := (h.oth _ _ hx).oL
   have h3 := h.side
   omega
theorem Wf.wF {e : En} (h : Wf e) : e.own.length <= 134217729 := by
 by_cases h0 : e.own.length = 0
 . omega
 . have hx : e.own[e.own.length - 1]? = some (e.own[e.own.length - 1]'(by omega)) := List.getElem?_eq_getElem _
   have h1 := (h.own _ _ hx).id
   have h2 := (h.own _ _ hx).oL
   omega
end Go.Proofs.YtbkpdapagfjmmaaGreatDoor.Lk

namespace Go.Proofs.YtbkpdapagfjmmaaGreatDoor
open Go.RowKit
variable {κ : Prop}
theorem aT.Q9 {w w' : World} {b : Nat} {e : Lk.En} {p : RP} (h : aT κ w b e p) {l : List Lk.Ot} (ho : w'.ownsRow 0 265 5 p.tv l.length (L8 l)) (hO : Only (fun i => p.tv.ownBlock = some i) w w') : aT κ w' b { e with oth := l } p := by
 have hap : ∀ i, p.tv.ownBlock = some i -> b ≠ i ∧ (p.ob ≠ i ∧ p.ib ≠ i) ∧ p.rb ≠ i ∧ ((∀ j, p.vo.ownBlock = some j -> j ≠ i) ∧ ∀ j, p.vi.ownBlock = some j -> j ≠ i) ∧ (∀ j, p.rv.ownBlock = some j -> j ≠ i) ∧ ∀ j, p.wv.ownBlock = some j -> j ≠ i := fun i hi => by
  obtain ⟨cs, hI⟩ := iM h.oth hi
  obtain ⟨a1, a2, a3, a4, a5, a6, _⟩ := h.apt hI
  exact ⟨a1 (nbq rfl), a2 (nbq rfl), a3 (nbq rfl), a4 (nbq rfl), a5 (nbq rfl), a6 (nbq rfl)⟩
 obtain ⟨s, f, r1, r2⟩ := h.rd
 exact ⟨h.blk.only hO (fun hx => (hap _ hx).1 rfl), h.out.only hO (fun hx => (hap _ hx).2.1.1 rfl) (fun i hi hx => (hap _ hx).2.2.2.1.1 i hi rfl), h.inn.only hO (fun hx => (hap _ hx).2.1.2 rfl) (fun i hi hx => (hap _ hx).2.2.2.1.2 i hi rfl), ⟨s, f, r1.only hO (fun hx => (hap _ hx).2.2.1 rfl), r2⟩, h.row.only hO (fun i hi hx => (hap _ hx).2.2.2.2.1 i hi rfl), ag h.own hO (fun i hi hx => (hap _ hx).2.2.2.2.2 i hi rfl), ho, h.ne, h.nv⟩
theorem aT.Rf {w w' : World} {b : Nat} {e : Lk.En} {p : RP} (h : aT κ w b e p) {l : List Lk.Ow} (ho : w'.ownsRow 0 258 4 p.wv l.length (L6 l)) (hO : Only (fun i => p.wv.ownBlock = some i) w w') : aT κ w' b { e with own := l } p := by
 have hap : ∀ i, p.wv.ownBlock = some i -> b ≠ i ∧ (p.ob ≠ i ∧ p.ib ≠ i) ∧ p.rb ≠ i ∧ ((∀ j, p.vo.ownBlock = some j -> j ≠ i) ∧ ∀ j, p.vi.ownBlock = some j -> j ≠ i) ∧ (∀ j, p.rv.ownBlock = some j -> j ≠ i) ∧ ∀ j, p.tv.ownBlock = some j -> j ≠ i := fun i hi => by
  obtain ⟨cs, hI⟩ := iM h.own hi
  obtain ⟨a1, a2, a3, a4, a5, _, a7⟩ := h.apt hI
  exact ⟨a1 (nbq rfl), a2 (nbq rfl), a3 (nbq rfl), a4 (nbq rfl), a5 (nbq rfl), a7 (nbq rfl)⟩
 obtain ⟨s, f, r1, r2⟩ := h.rd
 exact ⟨h.blk.only hO (fun hx => (hap _ hx).1 rfl), h.out.only hO (fun hx => (hap _ hx).2.1.1 rfl) (fun i hi hx => (hap _ hx).2.2.2.1.1 i hi rfl), h.inn.only hO (fun hx => (hap _ hx).2.1.2 rfl) (fun i hi hx => (hap _ hx).2.2.2.1.2 i hi rfl), ⟨s, f, r1.only hO (fun hx => (hap _ hx).2.2.1 rfl), r2⟩, h.row.only hO (fun i hi hx => (hap _ hx).2.2.2.2.1 i hi rfl), ho, ag h.oth hO (fun i hi hx => (hap _ hx).2.2.2.2.2 i hi rfl), h.ne, h.nv⟩
theorem aT.fF {w : World} {b : Nat} {e : Lk.En} {p : RP} (h : aT κ w b e p) {i g cap : Nat} {x : Lk.Ot} (hx : e.oth[i]? = some x) (hg : p.tv = .slice (some ⟨g, 0, none⟩) e.oth.length cap) (j : Nat) (v : Value) (y : Lk.Ot) (hj : j < 5) (hv : (rtV x).set j v = rtV y) :
 aT κ (w.setCell ⟨g, i * 5 + j, none⟩ v) b { e with oth := e.oth.set i y } p ∧ Only (aI b p) w (w.setCell ⟨g, i * 5 + j, none⟩ v) := by
 have ho := h.oth
 rw [hg] at ho
 have hO : Only (fun i => p.tv.ownBlock = some i) w (w.setCell ⟨g, i * 5 + j, none⟩ v) := (Only.refl _ w).set g _ v (fun _ => by rw [hg]; rfl)
 have := vX rtV (fun _ => rfl) ho hx hj hv
 exact ⟨h.Q9 (by rw [hg]; exact this) hO, hO.mono (fun i hi => .inr (.inr (.inr (.inr (.inr (.inr (.inr (.inr hi))))))))⟩
theorem aT.kL {w : World} {b : Nat} {e : Lk.En} {p : RP} (h : aT κ w b e p) {i g cap : Nat} {x : Lk.Ow} (hx : e.own[i]? = some x) (hg : p.wv = .slice (some ⟨g, 0, none⟩) e.own.length cap) (j : Nat) (v : Value) (y : Lk.Ow) (hj : j < 4) (hv : (rwV x).set j v = rwV y) :
 aT κ (w.setCell ⟨g, i * 4 + j, none⟩ v) b { e with own := e.own.set i y } p ∧ Only (aI b p) w (w.setCell ⟨g, i * 4 + j, none⟩ v) := by
 have ho := h.own
 rw [hg] at ho
 have hO : Only (fun i => p.wv.ownBlock = some i) w (w.setCell ⟨g, i * 4 + j, none⟩ v) := (Only.refl _ w).set g _ v (fun _ => by rw [hg]; rfl)
 have := vX rwV (fun _ => rfl) ho hx hj hv
 exact ⟨h.Rf (by rw [hg]; exact this) hO, hO.mono (fun i hi => .inr (.inr (.inr (.inr (.inr (.inr (.inr (.inl hi))))))))⟩
theorem aT.MJ {w : World} {b : Nat} {e : Lk.En} {p : RP} (h : aT κ w b e p) {i : Nat} {x : Lk.Ot} (hx : e.oth[i]? = some x) : ∃ g cap, p.tv = .slice (some ⟨g, 0, none⟩) e.oth.length cap ∧ g < w.heap.size ∧ e.oth.length <= cap ∧ w.cell? ⟨g, i * 5, none⟩ = some (.int .i64 (x.id : Int)) ∧ w.cell? ⟨g, i * 5 + 1, none⟩ = some (.int .i64 (x.cr : Int)) ∧ w.cell? ⟨g, i * 5 + 2, none⟩ = some (.int .i64 (x.held : Int)) ∧ w.cell? ⟨g, i * 5 + 3, none⟩ = some (.bool x.opn) ∧ w.cell? ⟨g, i * 5 + 4, none⟩ = some (.bool x.drp) ∧ (∀ j, w.frozen? ⟨g, j, none⟩ = false) ∧ g ≠ b := by
 obtain ⟨g, cap, h1, _, h2, h3, h4, h5⟩ := ed rtV (fun _ => rfl) h.oth hx
 exact ⟨g, cap, h1, h2, h3, h4 0 (by omega), h4 1 (by omega), h4 2 (by omega), h4 3 (by omega), h4 4 (by omega), h5, h.apart.2.2.2.2.2.2.2 g (by rw [h1]; rfl)⟩
theorem aT.Rh {w : World} {b : Nat} {e : Lk.En} {p : RP} (h : aT κ w b e p) {i : Nat} {x : Lk.Ow} (hx : e.own[i]? = some x) : ∃ g cap, p.wv = .slice (some ⟨g, 0, none⟩) e.own.length cap ∧ g < w.heap.size ∧ e.own.length <= cap ∧ w.cell? ⟨g, i * 4, none⟩ = some (.int .i64 (x.id : Int)) ∧ w.cell? ⟨g, i * 4 + 1, none⟩ = some (.string (bs x.left)) ∧ w.cell? ⟨g, i * 4 + 2, none⟩ = some (.int .i64 (x.cr : Int)) ∧ w.cell? ⟨g, i * 4 + 3, none⟩ = some (.bool x.done) ∧ (∀ j, w.frozen? ⟨g, j, none⟩ = false) ∧ g ≠ b := by
 obtain ⟨g, cap, h1, _, h2, h3, h4, h5⟩ := ed rwV (fun _ => rfl) h.own hx
 exact ⟨g, cap, h1, h2, h3, h4 0 (by omega), h4 1 (by omega), h4 2 (by omega), h4 3 (by omega), h5, h.apart.2.2.2.2.2.2.1 g (by rw [h1]; rfl)⟩
theorem aj.on {w w1 w2 : World} {b : Nat} {p : RP} {e2 : Lk.En} (hO : Only (aI b p) w w1) (h : aj κ w1 b p e2 w2) : aj κ w b p e2 w2 := aj.trans (fun _ hi => .inl hi) hO h
theorem aj.drew {w w2 : World} {b : Nat} {p : RP} {e2 : Lk.En} {n : Nat} (h : aj κ (w.drewN n) b p e2 w2) : aj κ w b p e2 w2 := h.on ((Only.refl _ w).drewN n)
theorem Only.CG {S : Nat -> Prop} {a b : World} {n : Nat} (h : Only S (a.drewN n) b) : Only S a b := ⟨h.os, h.tape, h.output, h.size, h.block⟩
theorem sV (b : Nat) (e : Lk.En) (p : RP) (n : Nat) (w : World) (h : aT κ w b e p) (hn : n <= 200) (hr : e.room <= 400) (hl : e.row.length <= 2 ^ 42) :
 Calls Tryz.prog 165 #[.pointer (some ⟨b, 0, none⟩), .int .i64 (n : Int)] w fun r w' => r = .returned (.tuple #[]) ∧ aj κ w b p (e.back n) w' := by
 by_cases h0 : 0 < n
 . have h0' : (0 : Int) < n := by omega
   have hbk : e.back n = ({ e with room := e.room + n } : Lk.En).send 4 0 (Lk.wire n) := by unfold Lk.En.back; rw [if_pos h0]
   rw [hbk]
   have c9 : w.cell? ⟨b, 9, none⟩ = some (.int .i64 (e.room : Int)) := h.blk.cell 9
   have f9 := h.blk.free 9
   have hbl := h.blk.lt
   have hs := h.set (e' := { e with room := e.room + n }) 9 (.int .i64 ((e.room + n : Nat) : Int)) rfl rfl rfl rfl rfl rfl (fun x => ⟨x, rfl⟩)
   have hO : Only (aI b p) w (w.setCell ⟨b, 9, none⟩ (.int .i64 ((e.room + n : Nat) : Int))) := (Only.refl _ w).set b 9 _ (fun _ => .inl rfl)
   have e1 : (e.room : Int) + n = ((e.room + n : Nat) : Int) := by omega
   have hu : ((e.room + n : Nat) : Int) <= 1000 := by omega
   have hu0 : (0 : Int) <= ((e.room + n : Nat) : Int) := by omega
   have HN := hide (fun W => eu n (n : Int) W rfl (by omega))
   have HS := hide (fun W hb => fV b { e with room := e.room + n } p 4 0 (Lk.wire n) W (hs.below hb) (Lk.cO 0 n (by omega) (by omega)) hl)
   have HO := hide hO
   generalize ((e.room + n : Nat) : Int) = RR at *
   generalize (e.room : Int) = R0 at *
   have Wp : (n : Int) <= 200 := by omega
   clear h hs hO hbk
   go_enter Tryz.func165, Tryz.ntmps165
   go_wp2_with fail
   refine (uh HN _).mono ?_
   rintro r w1 ⟨rfl, hb1⟩
   have HS1 := hide (uh HS w1 hb1)
   have HB := hide hb1
   clear hb1
   go_wp2_with fail
   refine (uh HS1).mono ?_
   rintro r w2 ⟨rfl, hP⟩
   have HF := hide ((aj.before (uh HB) hP).on (uh HO))
   clear hP
   go_wp2_with fail
   go_end0
   exact ⟨rfl, uh HF⟩
 . have h0' : ¬ (0 : Int) < n := by omega
   have hbk : e.back n = e := by unfold Lk.En.back; rw [if_neg h0]
   rw [hbk]
   have HP := hide (aj.same h)
   clear h
   go_enter Tryz.func165, Tryz.ntmps165
   go_wp2_with fail
   go_end0
   exact ⟨rfl, uh HP⟩
theorem xW (b : Nat) (e : Lk.En) (p : RP) (w : World) (h : aT κ w b e p) (hw : Lk.Wf e) (hl : e.row.length <= 2 ^ 42) :
 Calls Tryz.prog 161 #[.pointer (some ⟨b, 0, none⟩)] w fun r w' => r = .returned (.tuple #[]) ∧ aj κ w b p e.bye w' := by
 have hlen := hw.wE
 have hbl := h.blk.lt
 have c7 : w.cell? ⟨b, 7, none⟩ = some p.tv := h.blk.cell 7
 have hlast : e.bT <= 268435455 := by
  unfold Lk.En.bT
  cases hg : e.oth.getLast? with
  | none => simp
  | some o =>
    obtain ⟨i, hi⟩ := List.getElem?_of_mem (List.mem_of_getLast? hg)
    exact (hw.oth i o hi).oL
 have HN := hide (fun W (z : Int) (hz : z = (e.bT : Int)) => eu e.bT z W hz hlast)
 have HS := hide (fun W (hR : aT κ W b e p) => fV b e p 7 0 (Lk.wire e.bT) W hR (Lk.qU e.bT hlast) hl)
 have jD : Hid (∀ w1 w2, Only (aI b p) w w1 -> aj κ w1 b p (e.send 7 0 (Lk.wire e.bT)) w2 -> aj κ w b p e.bye (w2.setCell ⟨b, 11, none⟩ (.bool true)) ∧ w2.frozen? ⟨b, 11, none⟩ = false ∧ b < w2.heap.size ∧ (w2.cell? ⟨b, 11, none⟩).isSome = true) := by
  intro w1 w2 hO hP
  obtain ⟨p', h1, h2, h3⟩ := hP.on hO
  have hs := h1.set (e' := e.bye) 11 (.bool true) rfl rfl rfl rfl rfl rfl (fun x => ⟨x, rfl⟩)
  refine ⟨⟨p', hs, h2, h3.set b 11 _ (fun _ => .inl rfl)⟩, h1.blk.free 11, h1.blk.lt, ?_⟩
  rw [h1.blk.cell 11]
  rfl
 by_cases h0 : e.oth = []
 . have hz : e.bT = 0 := by unfold Lk.En.bT; rw [h0]; rfl
   have hv : p.tv = .slice none 0 0 ∨ ∃ a cap, p.tv = .slice a 0 cap := by
    obtain ⟨a, cap, hv⟩ := aJ h.oth
    rw [h0] at hv
    exact .inr ⟨a, cap, hv⟩
   obtain ⟨a, cap, hv⟩ : ∃ a cap, p.tv = .slice a 0 cap := by
    rcases hv with hv | hv
    . exact ⟨_, _, hv⟩
    . exact hv
   rw [hv] at c7
   have HE := hide h
   have HZ := hide hz
   clear h hz h0 hv
   go_enter Tryz.func161, Tryz.ntmps161
   go_wp2_with fail
   refine (uh HN _ _ (by rw [uh HZ]; rfl)).mono ?_
   rintro r w1 ⟨rfl, hb1⟩
   have HS1 := hide (uh HS w1 ((uh HE).below hb1))
   have HB := hide hb1
   clear hb1
   go_wp2_with fail
   refine (uh HS1).mono ?_
   rintro r w2 ⟨rfl, hP⟩
   obtain ⟨k1, k2, k3, k4⟩ := uh jD w1 w2 (Only.of_below (uh HB) _) hP
   obtain ⟨ov, k4⟩ := Option.isSome_iff_exists.1 k4
   have HF := hide k1
   clear hP k1
   go_wp2_with fail
   go_end0
   exact ⟨rfl, uh HF⟩
 . have hpos : 0 < e.oth.length := List.length_pos_iff.2 h0
   have hlt : e.oth.length - 1 < e.oth.length := by omega
   have hx : e.oth[e.oth.length - 1]? = some e.oth[e.oth.length - 1] := List.getElem?_eq_getElem hlt
   obtain ⟨g, cap, hv, hgl, hcap, x0, _⟩ := h.MJ hx
   have hz : (e.oth[e.oth.length - 1].id : Int) = (e.bT : Int) := by
    unfold Lk.En.bT
    rw [List.getLast?_eq_getElem?, hx]
   rw [hv] at c7
   have hpos' : (0 : Int) < e.oth.length := by omega
   have hidx : ((e.oth.length : Int) - 1) = ((e.oth.length - 1 : Nat) : Int) := by omega
   have XT : ((e.oth.length - 1 : Nat) : Int) < e.oth.length := by omega
   have HE := hide h
   have HZ := hide hz
   generalize (e.oth[e.oth.length - 1].id : Int) = ID at *
   generalize e.oth.length - 1 = J at *
   clear h hz h0 hv hx
   go_enter Tryz.func161, Tryz.ntmps161
   go_wp2_with fail
   go_quiet (fail)
   go_wp2_with fail
   refine (uh HN _ _ (uh HZ)).mono ?_
   rintro r w1 ⟨rfl, hb1⟩
   have HS1 := hide (uh HS w1 (((uh HE).below (Below.refl _ _ : Below w.heap.size w w)).only ((Only.of_below hb1 (fun _ => False)).CG) (fun _ _ x => x)))
   have HB := hide hb1
   clear hb1
   go_wp2_with fail
   refine (uh HS1).mono ?_
   rintro r w2 ⟨rfl, hP⟩
   obtain ⟨k1, k2, k3, k4⟩ := uh jD w1 w2 ((Only.of_below (uh HB) _).CG) hP
   obtain ⟨ov, k4⟩ := Option.isSome_iff_exists.1 k4
   have HF := hide k1
   clear hP k1
   go_wp2_with fail
   go_end0
   exact ⟨rfl, uh HF⟩
end Go.Proofs.YtbkpdapagfjmmaaGreatDoor
