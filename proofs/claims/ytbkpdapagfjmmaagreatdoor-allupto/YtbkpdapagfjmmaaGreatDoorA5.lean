import Derived.Test.YtbkpdapagfjmmaaGreatDoorA4
import Derived.Test.YtbkpdapagfjmmaaGreatDoorA2
import Derived.BigQuiet
import Derived.Test.YtbkpdapagfjmmaaGreatDoorA7
import Derived.Test.YtbkpdapagfjmmaaGreatDoorProg
set_option linter.unusedVariables false
set_option maxRecDepth 100000
set_option maxHeartbeats 16000000
namespace Go.Proofs.YtbkpdapagfjmmaaGreatDoor.Lk
def Fr.pack (f : Fr) : Bs := packed f.k f.st f.d
theorem xC (k st n : Nat) (hk : k = 3 ∨ k = 4 ∨ k = 7) (hst : st <= 268435455) (hs : aC k st = true) (hn : n <= 268435455) : Good k st (wire n) := by
 have h1 := au n hn
 have h2 := dw n
 have hr := Lj n [] hn
 rw [List.append_nil] at hr
 refine ⟨by omega, hst, by omega, hs, ?_, ?_⟩
 . unfold aA
   rw [if_neg (by omega), if_neg (by omega), if_pos (by omega)]
   simp; omega
 . unfold ay
   rw [if_pos (by omega)]
   unfold eG
   rw [hr]
   simp
theorem cO (st n : Nat) (hst : st <= 268435455) (hn : n <= 268435455) : Good 4 st (wire n) := xC 4 st n (by omega) hst (by simp [aC]) hn
theorem gz (st n : Nat) (h0 : 0 < st) (hst : st <= 268435455) (hn : n <= 268435455) : Good 3 st (wire n) := xC 3 st n (by omega) hst (by simp [aC]; omega) hn
theorem qU (n : Nat) (hn : n <= 268435455) : Good 7 0 (wire n) := xC 7 0 n (by omega) (by omega) (by simp [aC]) hn
theorem iY (k : Nat) (d : Bs) (hk : k = 5 ∨ k = 6) (hd : d.length = 8) : Good k 0 d := by
 refine ⟨by omega, by omega, by omega, ?_, ?_, ?_⟩
 . unfold aC
   rw [if_neg (by omega), if_pos (by omega)]; simp
 . unfold aA
   rw [if_neg (by omega), if_neg (by omega), if_neg (by omega), if_pos (by omega)]; simp; omega
 . unfold ay
   rw [if_neg (by omega)]
theorem rE (st : Nat) (d : Bs) (h0 : 0 < st) (hst : st <= 268435455) (hd : d.length <= 64) : Good 0 st d :=
 ⟨by omega, hst, hd, by simp [aC]; omega, by simp [aA], by simp [ay]⟩
theorem FI (st : Nat) (d : Bs) (h0 : 0 < st) (hst : st <= 268435455) (h1 : 1 <= d.length) (hd : d.length <= 16) : Good 1 st d :=
 ⟨by omega, hst, by omega, by simp [aC]; omega, by simp [aA]; omega, by simp [ay]⟩
theorem IL (st : Nat) (d : Bs) (h0 : 0 < st) (hst : st <= 268435455) (hd : d.length <= 16) : Good 2 st d :=
 ⟨by omega, hst, by omega, by simp [aC]; omega, by simp [aA]; omega, by simp [ay]⟩
def fG (l : List Ot) : Nat := (l.map Ot.held).sum
theorem mr (a b : List Ot) : fG (a ++ b) = fG a + fG b := by simp [fG]
theorem ng : ∀ (l : List Ot) (i : Nat) (o x : Ot), l[i]? = some o -> fG (l.set i x) + o.held = fG l + x.held
 | [], i, o, x, h => by simp at h
 | y :: l, 0, o, x, h => by
   simp at h
   subst h
   simp [fG]
   omega
 | y :: l, i + 1, o, x, h => by
   have := ng l i o x (by simpa using h)
   simp [fG] at this ⊢
   omega
theorem FK {l : List Ot} {i : Nat} {o : Ot} (h : l[i]? = some o) : o.held <= fG l := by
 have := ng l i o { o with held := 0 } h
 simp at this
 omega
structure VU (e : En) (i : Nat) (o : Ow) : Prop where
 id : o.id = 2 * i + 1 + e.side
 oL : o.id <= 268435455
 left : o.left.length <= 300
 cr : o.cr <= 100000
structure VV (e : En) (i : Nat) (o : Ot) : Prop where
 id : o.id = 2 * i + 2 - e.side
 oL : o.id <= 268435455
 cr : o.cr + o.held <= e.win
 two : o.opn = true -> o.drp = false
 drp : o.drp = true -> o.held = 0
structure Wf (e : En) : Prop where
 side : e.side <= 1
 BJ : 1 <= e.win
 kN : e.win <= 200
 out : weights e.out <= 100
 inn : weights e.inn <= 100
 own : ∀ i o, e.own[i]? = some o -> VU e i o
 oth : ∀ i o, e.oth[i]? = some o -> VV e i o
 all : e.all <= 100000
 room : e.room + fG e.oth = 2 * e.win
 row : ∃ fs : List Fr, e.row = fs.map Fr.pack ∧ ∀ f ∈ fs, Good f.k f.st f.d ∧ f.k ≠ 1 ∧ f.k ≠ 2
 rest : Lk.all e.rest = ([], 0, e.rest)
theorem Wf.new {side win : Nat} (hs : side <= 1) (h1 : 1 <= win) (h2 : win <= 200) : Wf (En.new side win) :=
 ⟨hs, h1, h2, by simp [En.new, weights], by simp [En.new, weights], by simp [En.new], by simp [En.new], by simp [En.new]; omega, by simp [En.new, fG], ⟨[], rfl, by simp⟩, all_nil⟩
theorem Wf.send {e : En} (h : Wf e) {k st : Nat} {d : Bs} (hg : Good k st d) (hk : k ≠ 1 ∧ k ≠ 2 := by omega) : Wf (e.send k st d) := by
 obtain ⟨fs, h1, h2⟩ := h.row
 refine ⟨h.side, h.BJ, h.kN, h.out, h.inn, fun i o ho => ?_, fun i o ho => ?_, h.all, h.room, ⟨fs ++ [⟨k, st, d⟩], ?_, ?_⟩, h.rest⟩
 . obtain ⟨a, b, c, d⟩ := h.own i o ho
   exact ⟨a, b, c, d⟩
 . obtain ⟨a, b, c, d, f⟩ := h.oth i o ho
   exact ⟨a, b, c, d, f⟩
 . show e.row ++ [packed k st d] = _
   rw [h1]
   simp [Fr.pack]
 . intro f hf
   rcases List.mem_append.1 hf with hf | hf
   . exact h2 f hf
   . simp at hf
     subst hf
     exact ⟨hg, hk⟩
theorem oQ {α : Type} {l : List α} {i j : Nat} {x o : α} (h : (l.set i x)[j]? = some o) : (j = i ∧ o = x ∧ i < l.length) ∨ (j ≠ i ∧ l[j]? = some o) := by
 rw [List.getElem?_set] at h
 split at h
 . rename_i e
   subst e
   split at h
   . rename_i h2
     simp at h
     exact .inl ⟨rfl, h.symm, h2⟩
   . cases h
 . rename_i e
   exact .inr ⟨fun x => e x.symm, h⟩
theorem Wf.kL {e : En} (h : Wf e) {i : Nat} {o x : Ow} (ho : e.own[i]? = some o) (hid : x.id = o.id) (hl : x.left.length <= 300) (hc : x.cr <= 100000) {a t : Nat} (ha : a <= 100000) : Wf { e with own := e.own.set i x, all := a, turn := t } := by
 refine ⟨h.side, h.BJ, h.kN, h.out, h.inn, fun j y hy => ?_, fun j y hy => ?_, ha, h.room, h.row, h.rest⟩
 . have q := h.own i o ho
   rcases oQ hy with ⟨rfl, rfl, _⟩ | ⟨_, hy⟩
   . exact ⟨hid.trans q.id, by rw [hid]; exact q.oL, hl, hc⟩
   . obtain ⟨a, b, c, d⟩ := h.own j y hy
     exact ⟨a, b, c, d⟩
 . obtain ⟨a, b, c, d, f⟩ := h.oth j y hy
   exact ⟨a, b, c, d, f⟩
theorem Wf.fF {e : En} (h : Wf e) {i : Nat} {o x : Ot} (ho : e.oth[i]? = some o) (hid : x.id = o.id) (hc : x.cr + x.held <= e.win) (h2 : x.opn = true -> x.drp = false) (h3 : x.drp = true -> x.held = 0) {r : Nat} (hr : r + x.held = e.room + o.held) : Wf { e with oth := e.oth.set i x, room := r } := by
 refine ⟨h.side, h.BJ, h.kN, h.out, h.inn, fun j y hy => ?_, fun j y hy => ?_, h.all, ?_, h.row, h.rest⟩
 . obtain ⟨a, b, c, d⟩ := h.own j y hy
   exact ⟨a, b, c, d⟩
 . have q := h.oth i o ho
   rcases oQ hy with ⟨rfl, rfl, _⟩ | ⟨_, hy⟩
   . exact ⟨hid.trans q.id, by rw [hid]; exact q.oL, hc, h2, h3⟩
   . obtain ⟨a, b, c, d, f⟩ := h.oth j y hy
     exact ⟨a, b, c, d, f⟩
 . have := ng e.oth i o x ho
   have := h.room
   show r + fG (e.oth.set i x) = 2 * e.win
   omega
theorem dR {l : List Ow} {id : Int} {i : Nat} (h : bK l id = some i) : ∃ o, l[i]? = some o ∧ (o.id : Int) = id := by
 unfold bK at h
 rw [List.findIdx?_eq_some_iff_getElem] at h
 obtain ⟨hi, h1, _⟩ := h
 exact ⟨l[i], List.getElem?_eq_getElem hi, by simpa using h1⟩
theorem bg {l : List Ot} {id : Int} {i : Nat} (h : bM l id = some i) : ∃ o, l[i]? = some o ∧ (o.id : Int) = id := by
 unfold bM at h
 rw [List.findIdx?_eq_some_iff_getElem] at h
 obtain ⟨hi, h1, _⟩ := h
 exact ⟨l[i], List.getElem?_eq_getElem hi, by simpa using h1⟩
theorem Wf.bT {e : En} (h : Wf e) : e.bT <= 268435455 := by
 unfold En.bT
 cases hl : e.oth.getLast? with
 | none => simp
 | some o =>
   obtain ⟨i, hi⟩ := List.getElem?_of_mem (List.mem_of_getLast? hl)
   exact (h.oth i o hi).oL
theorem Wf.bye {e : En} (h : Wf e) : Wf e.bye := by
 have q := h.send (qU e.bT h.bT)
 exact ⟨q.side, q.BJ, q.kN, q.out, q.inn, fun i o ho => by obtain ⟨a, b, c, d⟩ := q.own i o ho; exact ⟨a, b, c, d⟩, fun i o ho => by obtain ⟨a, b, c, d, f⟩ := q.oth i o ho; exact ⟨a, b, c, d, f⟩, q.all, q.room, q.row, q.rest⟩
theorem Wf.iy {e : En} (h : Wf e) (t : Bs) : Wf (e.iy t).2 := by
 unfold En.iy
 split
 . exact h
 . split
   . exact h
   . rename_i h8
     exact h.send (iY 5 t (by omega) (by omega))
theorem Wf.iC {e : En} (h : Wf e) : Wf e.iC.2 := by
 unfold En.iC
 split
 . exact h
 . split
   . exact h
   . exact h.bye
theorem Wf.aW {e : En} (h : Wf e) (l : List Hd) (body : Bs) : Wf (e.aW l body).2 := by
 unfold En.aW
 split
 . exact h
 . split
   . exact h
   . split
     . exact h
     . split
       . exact h
       . split
         . exact h
         . rename_i h1 h2 h3 h4 h5
           have hw := h.kN
           have hs := h.side
           have hn : 0 < e.nextId := by unfold En.nextId; omega
           have q : Wf ({ e with out := (squeeze 100 e.out l).2, own := e.own ++ [⟨e.nextId, body, e.win, false⟩] } : En) := by
            refine ⟨h.side, h.BJ, h.kN, kU 100 l e.out h.out, h.inn, fun i o ho => ?_, fun i o ho => ?_, h.all, h.room, h.row, h.rest⟩
            . rw [List.getElem?_append] at ho
              split at ho
              . obtain ⟨a, b, c, d⟩ := h.own i o ho
                exact ⟨a, b, c, d⟩
              . rename_i hi
                have hi0 : i = e.own.length := by
                 have := (List.getElem?_eq_some_iff.1 ho).1
                 simp at this
                 omega
                subst hi0
                simp at ho
                subst ho
                exact ⟨rfl, by simp only; omega, by simp only; omega, by simp only; omega⟩
            . obtain ⟨a, b, c, d, f⟩ := h.oth i o ho
              exact ⟨a, b, c, d, f⟩
           exact q.send (rE _ _ hn (by omega) (by omega))
theorem Wf.back {e : En} {n : Nat} (h : Wf ({ e with room := e.room + n } : En)) (hn : n <= 268435455) : Wf (e.back n) := by
 unfold En.back
 split
 . exact h.send (cO 0 n (by omega) hn)
 . rename_i h0
   have : n = 0 := by omega
   subst this
   exact h
theorem Wf.held {e : En} (h : Wf e) {i : Nat} {o : Ot} (ho : e.oth[i]? = some o) : o.held <= 200 := by
 have := (h.oth i o ho).cr
 have := h.kN
 omega
theorem Wf.aP {e : En} (h : Wf e) (st n : Int) : Wf (e.aP st n).2 := by
 unfold En.aP
 split
 . exact h
 . split
   . exact h
   . rename_i h1 h2
     cases hx : bM e.oth st with
     | none => exact h
     | some i =>
       simp only
       cases ho : e.oth[i]? with
       | none => exact h
       | some o =>
         simp only
         split
         . exact h
         . rename_i h3
           have q := h.oth i o ho
           have hh := h.held ho
           have hr := h.room
           have hl := FK ho
           obtain ⟨m, rfl⟩ : ∃ m : Nat, n = m := ⟨n.toNat, by omega⟩
           simp only [Int.toNat_natCast]
           have q1 : Wf ({ e with oth := e.oth.set i (o.eat m), room := e.room + m } : En) := by
            refine h.fF (x := o.eat m) ho rfl ?_ q.two ?_ ?_
            . have := q.cr
              unfold Ot.eat
              simp only
              split <;> omega
            . intro hd
              have := q.drp hd
              unfold Ot.eat
              simp only
              omega
            . unfold Ot.eat
              simp only
              omega
           have q2 := q1.send (cO 0 m (by omega) (by omega))
           split
           . exact q2.send (cO o.id m q.oL (by omega))
           . exact q2
theorem Wf.dN {e : En} (h : Wf e) (st code : Int) : Wf (e.dN st code).2 := by
 unfold En.dN
 split
 . exact h
 . split
   . exact h
   . rename_i h1 h2
     have hc : code.toNat <= 268435455 := by omega
     cases hx : (bK e.own st).bind fun i => (e.own[i]?).bind fun o => if o.done then none else some (i, o) with
     | some p =>
       obtain ⟨i, o⟩ := p
       simp only
       obtain ⟨j, _, hj⟩ := Option.bind_eq_some_iff.1 hx
       obtain ⟨o', ho', hj⟩ := Option.bind_eq_some_iff.1 hj
       have : j = i ∧ o' = o := by
        split at hj
        . cases hj
        . cases hj; exact ⟨rfl, rfl⟩
       obtain ⟨rfl, rfl⟩ := this
       have q := h.own j o' ho'
       have q1 := h.kL (x := { o' with done := true }) (t := e.turn) ho' rfl q.left q.cr h.all
       exact Wf.send q1 (gz o'.id _ (by have := q.id; omega) q.oL hc)
     | none =>
       simp only
       cases hy : (bM e.oth st).bind fun i => (e.oth[i]?).bind fun o => if o.opn then some (i, o) else none with
       | none => exact h
       | some p =>
         obtain ⟨i, o⟩ := p
         simp only
         obtain ⟨j, _, hj⟩ := Option.bind_eq_some_iff.1 hy
         obtain ⟨o', ho', hj⟩ := Option.bind_eq_some_iff.1 hj
         have : j = i ∧ o' = o := by
          split at hj
          . cases hj; exact ⟨rfl, rfl⟩
          . cases hj
         obtain ⟨rfl, rfl⟩ := this
         have q := h.oth j o' ho'
         have hh := h.held ho'
         have hs := h.side
         have q1 : Wf ({ e with oth := e.oth.set j { o' with opn := false, drp := true, held := 0 }, room := e.room + o'.held } : En) := h.fF (x := { o' with opn := false, drp := true, held := 0 }) ho' rfl (by have := q.cr; simp only; omega) (by simp) (by simp) (by simp)
         refine Wf.back ?_ (by omega)
         exact Wf.send q1 (gz o'.id _ (by have := q.id; omega) q.oL hc)
theorem lU {e : En} {i : Nat} (h : e.next = some i) : ∃ o, e.own[i]? = some o ∧ e.may o = true := by
 unfold En.next at h
 cases h1 : e.own.findIdx? fun o => e.may o && decide (e.turn < o.id) with
 | some k =>
   rw [h1] at h
   cases h
   rw [List.findIdx?_eq_some_iff_getElem] at h1
   obtain ⟨hi, h2, _⟩ := h1
   rw [Bool.and_eq_true] at h2
   exact ⟨e.own[i], List.getElem?_eq_getElem hi, h2.1⟩
 | none =>
   rw [h1] at h
   simp only at h
   rw [List.findIdx?_eq_some_iff_getElem] at h
   obtain ⟨hi, h2, _⟩ := h
   exact ⟨e.own[i], List.getElem?_eq_getElem hi, h2⟩
def En.mD (e : En) (o : Ow) : Fr := ⟨if e.most o = o.left.length then 2 else 1, o.id, o.left.take (e.most o)⟩
theorem xE (e : En) (o : Ow) : e.most o <= o.left.length ∧ e.most o <= 16 ∧ e.most o <= o.cr ∧ e.most o <= e.all := by
 unfold En.most
 split <;> omega
theorem Ei {e : En} {o : Ow} (h : e.may o = true) (hn : e.most o ≠ o.left.length) : 1 <= e.most o := by
 unfold En.may at h
 unfold En.most at hn ⊢
 cases hl : o.left with
 | nil => rw [hl] at hn; simp at hn
 | cons c t =>
   rw [hl] at h hn
   simp at h hn ⊢
   omega
theorem zB {e : En} {o : Ow} (h : e.may o = true) (h0 : 0 < o.id) (h28 : o.id <= 268435455) : Good (e.mD o).k (e.mD o).st (e.mD o).d := by
 have hm := xE e o
 unfold En.mD
 simp only
 split
 . exact IL _ _ h0 h28 (by rw [List.length_take]; omega)
 . rename_i hn
   have := Ei h hn
   exact FI _ _ h0 h28 (by rw [List.length_take]; omega) (by rw [List.length_take]; omega)
theorem Wf.bG {e e' : En} {s : Bs} (h : Wf e) (hd : e.bG = some (s, e')) : Wf e' ∧ ∃ f : Fr, s = f.pack ∧ Good f.k f.st f.d := by
 unfold En.bG at hd
 cases hr : e.row with
 | cons x r =>
   rw [hr] at hd
   cases hd
   obtain ⟨fs, h1, h2⟩ := h.row
   rw [hr] at h1
   cases fs with
   | nil => cases h1
   | cons f fs =>
     simp at h1
     obtain ⟨rfl, rfl⟩ := h1
     refine ⟨⟨h.side, h.BJ, h.kN, h.out, h.inn, fun i o ho => ?_, fun i o ho => ?_, h.all, h.room, ⟨fs, rfl, fun g hg => h2 g (by simp [hg])⟩, h.rest⟩, f, rfl, (h2 f (by simp)).1⟩
     . obtain ⟨a, b, c, d⟩ := h.own i o ho
       exact ⟨a, b, c, d⟩
     . obtain ⟨a, b, c, d, f⟩ := h.oth i o ho
       exact ⟨a, b, c, d, f⟩
 | nil =>
   rw [hr] at hd
   simp only at hd
   split at hd
   . cases hd
   . cases hn : e.next with
     | none => rw [hn] at hd; cases hd
     | some i =>
       obtain ⟨o, ho, hm⟩ := lU hn
       rw [hn] at hd
       simp only at hd
       rw [ho] at hd
       simp only at hd
       cases hd
       have q := h.own i o ho
       have hl := xE e o
       have ha := h.all
       refine ⟨h.kL (x := ⟨o.id, o.left.drop (e.most o), o.cr - e.most o, o.done || decide (e.most o = o.left.length)⟩) ho rfl ?_ ?_ (by omega), e.mD o, rfl, zB hm (by have := q.id; omega) q.oL⟩
       . have := q.left
         simp only [List.length_drop]
         omega
       . have := q.cr
         simp only
         omega
theorem Wf.drain : ∀ (n : Nat) {e : En}, Wf e -> Wf (En.drain n e).2 ∧ ∃ fs : List Fr, (En.drain n e).1 = eQ fs ∧ ∀ f ∈ fs, Good f.k f.st f.d
 | 0, e, h => ⟨h, [], rfl, by simp⟩
 | n + 1, e, h => by
   rw [En.drain]
   cases hd : e.bG with
   | none => exact ⟨h, [], rfl, by simp⟩
   | some p =>
     obtain ⟨s, e'⟩ := p
     obtain ⟨h1, f, rfl, hf⟩ := h.bG hd
     obtain ⟨h2, fs, h3, h4⟩ := Wf.drain n h1
     refine ⟨h2, f :: fs, ?_, ?_⟩
     . simp only
       rw [h3]
       simp [eQ, Fr.pack]
     . intro g hg
       rcases List.mem_cons.1 hg with rfl | hg
       . exact hf
       . exact h4 g hg
theorem dH {α : Type} {x : Option Nat} {l : List α} {p : Nat × α} (h : (x.bind fun i => (l[i]?).map fun o => (i, o)) = some p) : x = some p.1 ∧ l[p.1]? = some p.2 := by
 obtain ⟨i, hi, h2⟩ := Option.bind_eq_some_iff.1 h
 obtain ⟨o, ho, rfl⟩ := Option.map_eq_some_iff.1 h2
 exact ⟨hi, ho⟩
theorem nP (d : Bs) : numOf d <= 268435455 := by
 unfold numOf
 cases h : rd 0 0 d with
 | ok n k => exact (kX h).2
 | bad k => simp
 | short => simp
theorem rF (B : Nat) (s : Bs) : ∀ (n : Nat) (L : List Hd) (p : Nat) (hs L2 : List Hd), weights L <= B -> exR B s n L p = .ok hs L2 -> weights L2 <= B
 | 0, L, p, hs, L2, hL, h => by
   rw [exR] at h
   split at h
   . cases h; exact hL
   . cases h
 | n + 1, L, p, hs, L2, hL, h => by
   rw [exR] at h
   split at h
   . cases h; exact hL
   . cases hp : mY B L s p with
     | bad q => rw [hp] at h; cases h
     | ok hl q =>
       rw [hp] at h
       simp only at h
       have hw : weights hl.2 <= B := by
        unfold mY at hp
        cases hn : kT s p with
        | bad q => rw [hn] at hp; cases hp
        | ok m q =>
          rw [hn] at hp
          simp only at hp
          split at hp
          . cases he : pX L (m / 2) q with
            | bad q => rw [he] at hp; cases hp
            | ok x q => rw [he] at hp; cases hp; exact hL
          . cases he : eH L (m / 2) s q with
            | bad q => rw [he] at hp; cases hp
            | ok x q => rw [he] at hp; cases hp; exact jd _ _ _
       cases hx : exR B s n hl.2 q with
       | err a b => rw [hx] at h; cases h
       | ok hs2 L3 =>
         rw [hx] at h
         cases h
         exact rF B s n hl.2 q _ _ hw hx
theorem Wf.gX {e : En} (h : Wf e) {f : Fr} (hg : Good f.k f.st f.d) : Wf (e.gX f).2.2 := by
 unfold En.gX
 split
 . exact h
 . rename_i hst
   have hs := h.side
   have hw := h.BJ
   cases hx : exR 100 f.d 6 e.inn 0 with
   | err a b => exact h
   | ok hs2 L =>
     simp only
     have hW := rF 100 f.d 6 e.inn 0 hs2 L h.inn hx
     have key : ∀ x : Ot, x.id = f.st -> x.cr + x.held <= e.win -> (x.opn = true -> x.drp = false) -> x.held = 0 -> Wf ({ e with inn := L, oth := e.oth ++ [x] } : En) := by
      intro x hid hc ht h0
      refine ⟨h.side, h.BJ, h.kN, h.out, hW, fun i o ho => ?_, fun i o ho => ?_, h.all, ?_, h.row, h.rest⟩
      . obtain ⟨a, b, c, d⟩ := h.own i o ho
        exact ⟨a, b, c, d⟩
      . rw [List.getElem?_append] at ho
        split at ho
        . obtain ⟨a, b, c, d, f⟩ := h.oth i o ho
          exact ⟨a, b, c, d, f⟩
        . rename_i hi
          have hi0 : i = e.oth.length := by
           have := (List.getElem?_eq_some_iff.1 ho).1
           simp at this
           omega
          subst hi0
          simp at ho
          subst ho
          have := hg.Fv
          exact ⟨by rw [hid]; simp only; omega, by omega, hc, ht, fun _ => h0⟩
      . show e.room + fG (e.oth ++ [x]) = 2 * e.win
        rw [mr]
        have := h.room
        simp [fG, h0] at this ⊢
        omega
     split
     . exact (key ⟨f.st, e.win, 0, false, true⟩ rfl (by simp) (by simp) rfl).send (gz _ _ (by omega) hg.Fv (by omega))
     . exact key ⟨f.st, e.win, 0, true, false⟩ rfl (by simp) (by simp) rfl
theorem Wf.bH {e : En} (h : Wf e) {f : Fr} (hg : Good f.k f.st f.d) : Wf (e.bH f).2.2 := by
 unfold En.bH
 cases hx : (bM e.oth f.st).bind fun i => (e.oth[i]?).map fun o => (i, o) with
 | none => exact h
 | some p =>
   obtain ⟨i, o⟩ := p
   obtain ⟨_, ho⟩ := dH hx
   simp only at ho ⊢
   have q := h.oth i o ho
   have qc := q.cr
   have hr := h.room
   have hl := hg.len
   split
   . exact h
   . split
     . exact h
     . split
       . rename_i h1 h2 h3
         refine h.fF (x := { o with cr := o.cr - f.d.length, held := o.held + f.d.length, opn := decide (f.k ≠ 2), drp := o.drp && decide (f.k ≠ 2) }) ho rfl (by simp only; omega) ?_ ?_ (by simp only; omega)
         . intro _
           simp only
           rw [q.two h3]
           rfl
         . intro hd
           simp only at hd
           rw [q.two h3] at hd
           cases hd
       . rename_i h1 h2 h3
         have h0 : o.held = 0 := q.drp (by cases ho : o.opn <;> cases hd : o.drp <;> simp_all)
         have q1 : Wf ({ e with oth := e.oth.set i { o with cr := o.cr - f.d.length, drp := decide (f.k ≠ 2) }, room := e.room - f.d.length + f.d.length } : En) :=
          h.fF (x := { o with cr := o.cr - f.d.length, drp := decide (f.k ≠ 2) }) ho rfl (by simp only; omega) (by intro x; exact absurd x h3) (fun _ => h0) (by simp only; omega)
         exact Wf.back q1 (by omega)
theorem Wf.dh {e : En} (h : Wf e) {f : Fr} : Wf (e.dh f).2.2 := by
 unfold En.dh
 cases hx : (bK e.own f.st).bind fun i => (e.own[i]?).map fun o => (i, o) with
 | some p =>
   obtain ⟨i, o⟩ := p
   obtain ⟨_, ho⟩ := dH hx
   simp only at ho ⊢
   have q := h.own i o ho
   split
   . exact h
   . exact h.kL (x := { o with done := true }) (t := e.turn) ho rfl q.left q.cr h.all
 | none =>
   simp only
   cases hy : (bM e.oth f.st).bind fun i => (e.oth[i]?).map fun o => (i, o) with
   | none => exact h
   | some p =>
     obtain ⟨i, o⟩ := p
     obtain ⟨_, ho⟩ := dH hy
     simp only at ho ⊢
     have q := h.oth i o ho
     have qc := q.cr
     have hh := h.held ho
     split
     . have q1 : Wf ({ e with oth := e.oth.set i { o with opn := false, held := 0 }, room := e.room + o.held } : En) := h.fF (x := { o with opn := false, held := 0 }) ho rfl (by simp only; omega) (by simp) (by simp) (by simp)
       exact Wf.back q1 (by omega)
     . exact h.fF (x := { o with drp := false }) ho rfl qc (by simp) (by simp) (by simp)
theorem Wf.bU {e : En} (h : Wf e) {f : Fr} : Wf (e.bU f).2 := by
 unfold En.bU
 split
 . split
   . exact h
   . rename_i h1 h2
     exact ⟨h.side, h.BJ, h.kN, h.out, h.inn, fun i o ho => by obtain ⟨a, b, c, d⟩ := h.own i o ho; exact ⟨a, b, c, d⟩, fun i o ho => by obtain ⟨a, b, c, d, f⟩ := h.oth i o ho; exact ⟨a, b, c, d, f⟩, by simp only; omega, h.room, h.row, h.rest⟩
 . cases hx : (bK e.own f.st).bind fun i => (e.own[i]?).map fun o => (i, o) with
   | none => exact h
   | some p =>
     obtain ⟨i, o⟩ := p
     obtain ⟨_, ho⟩ := dH hx
     simp only at ho ⊢
     have q := h.own i o ho
     split
     . exact h
     . split
       . exact h
       . exact h.kL (x := { o with cr := o.cr + numOf f.d }) (t := e.turn) ho rfl q.left (by simp only; omega) h.all
theorem Wf.frame {e : En} (h : Wf e) {f : Fr} (hg : Good f.k f.st f.d) : Wf (e.frame f).2.2 := by
 unfold En.frame
 split
 . exact h.gX hg
 . split
   . exact h.bH hg
   . split
     . exact h.dh
     . split
       . exact h.bU
       . split
         . rename_i h5
           refine h.send (iY 6 f.d (by omega) ?_)
           have := hg.length
           rw [h5] at this
           simp [aA] at this
           omega
         . split
           . exact h
           . exact ⟨h.side, h.BJ, h.kN, h.out, h.inn, fun i o ho => by obtain ⟨a, b, c, d⟩ := h.own i o ho; exact ⟨a, b, c, d⟩, fun i o ho => by obtain ⟨a, b, c, d, f⟩ := h.oth i o ho; exact ⟨a, b, c, d, f⟩, h.all, h.room, h.row, h.rest⟩
theorem Wf.iI {e : En} (h : Wf e) (x : Nat) : Wf ({ e with down := x } : En) :=
 ⟨h.side, h.BJ, h.kN, h.out, h.inn, fun i o ho => by obtain ⟨a, b, c, d⟩ := h.own i o ho; exact ⟨a, b, c, d⟩, fun i o ho => by obtain ⟨a, b, c, d, f⟩ := h.oth i o ho; exact ⟨a, b, c, d, f⟩, h.all, h.room, h.row, h.rest⟩
theorem Wf.at {e : En} (h : Wf e) {r : Bs} (hr : Lk.all r = ([], 0, r)) : Wf (e.at r) :=
 ⟨h.side, h.BJ, h.kN, h.out, h.inn, fun i o ho => by obtain ⟨a, b, c, d⟩ := h.own i o ho; exact ⟨a, b, c, d⟩, fun i o ho => by obtain ⟨a, b, c, d, f⟩ := h.oth i o ho; exact ⟨a, b, c, d, f⟩, h.all, h.room, h.row, hr⟩
theorem Wf.frames : ∀ (l : List Fr) {e : En}, Wf e -> (∀ f ∈ l, Good f.k f.st f.d) -> Wf (e.frames l).2
 | [], e, h, _ => h
 | f :: l, e, h, hl => by
   rw [En.frames]
   split
   . exact h
   . exact Wf.frames l ((h.frame (hl f (by simp))).iI _) (fun g hg => hl g (by simp [hg]))
theorem qV (l : Bs) : Lk.all (Lk.all l).2.2 = ([], 0, (Lk.all l).2.2) := by
 induction h : l.length using Nat.strongRecOn generalizing l with
 | _ n ih =>
   subst h
   cases hx : nx l with
   | more => rw [iU hx]; exact iU hx
   | err e => rw [mW hx]; exact all_nil
   | frame k st d m =>
     have hb := aV hx
     rw [ja hx]
     exact ih (l.drop m).length (by rw [List.length_drop]; omega) (l.drop m) rfl
theorem Wf.falls {e : En} (h : Wf e) : Wf e.falls := by
 unfold En.falls
 split
 . exact h.bye
 . exact h
theorem Wf.feed {e : En} (h : Wf e) (b : Bs) : Wf (e.feed b).2 := by
 by_cases hd : e.down = 0
 . rw [e.IK b hd _ rfl]
   have hf := h.frames (Lk.all (e.rest ++ b)).1 (kY _).1
   have hr := qV (e.rest ++ b)
   simp only
   refine Wf.falls ?_
   split
   . exact (hf.at hr).iI _
   . exact hf.at hr
 . rw [e.jP b hd]
   exact h
end Go.Proofs.YtbkpdapagfjmmaaGreatDoor.Lk

namespace Go.Proofs.YtbkpdapagfjmmaaGreatDoor
open Go.RowKit
def wtV (f : Lk.Fr) (nx : Value) : List Value := [.int .i64 (f.k : Int), .int .i64 (f.st : Int), .string (bs f.d), nx]
def Links (w : World) : Value -> List Lk.Fr -> List Nat -> Prop
 | v, [], [] => v = .pointer none
 | v, f :: fs, r :: rs => v = ptr r ∧ ∃ nx, Is w r 167 (wtV f nx) ∧ Links w nx fs rs
 | _, _, _ => False
def fO (rs : List Nat) : Value := bu rs.getLast?
def dW (rs : List Nat) : Value := bu rs.head?
structure Chain (w : World) (first last : Value) (fs : List Lk.Fr) (rs : List Nat) : Prop where
 links : Links w first fs rs
 last : last = fO rs
 nodup : rs.Nodup
theorem Links.len : ∀ {w : World} {v : Value} {fs : List Lk.Fr} {rs : List Nat}, Links w v fs rs -> fs.length = rs.length ∧ v = dW rs
 | w, v, [], [], h => ⟨rfl, h⟩
 | w, v, f :: fs, r :: rs, h => by
   obtain ⟨rfl, nx, _, h⟩ := h
   have := (Links.len h).1
   exact ⟨by simp [this], rfl⟩
 | _, _, [], _ :: _, h => h.elim
 | _, _, _ :: _, [], h => h.elim
theorem Links.is : ∀ {w : World} {v : Value} {fs : List Lk.Fr} {rs : List Nat}, Links w v fs rs -> ∀ r ∈ rs, ∃ f nx, Is w r 167 (wtV f nx)
 | w, v, [], [], h => by simp
 | w, v, f :: fs, r :: rs, h => by
   obtain ⟨rfl, nx, hI, h⟩ := h
   intro x hx
   rcases List.mem_cons.1 hx with rfl | hx
   . exact ⟨f, nx, hI⟩
   . exact Links.is h x hx
 | _, _, [], _ :: _, h => h.elim
 | _, _, _ :: _, [], h => h.elim
theorem Links.only {S : Nat -> Prop} {w' : World} : ∀ {w : World} {v : Value} {fs : List Lk.Fr} {rs : List Nat}, Links w v fs rs -> Only S w w' -> (∀ r ∈ rs, ¬ S r) -> Links w' v fs rs
 | w, v, [], [], h, _, _ => h
 | w, v, f :: fs, r :: rs, h, k, hn => by
   obtain ⟨rfl, nx, hI, h⟩ := h
   exact ⟨rfl, nx, hI.only k (hn r (by simp)), Links.only h k (fun x hx => hn x (by simp [hx]))⟩
 | _, _, [], _ :: _, h, _, _ => h.elim
 | _, _, _ :: _, [], h, _, _ => h.elim
theorem Links.snoc {n : Nat} {g : Lk.Fr} : ∀ {w : World} {v : Value} {fs : List Lk.Fr} {rs : List Nat} {r : Nat}, Links w v fs rs -> rs.getLast? = some r -> rs.Nodup -> n ∉ rs -> Is w n 167 (wtV g (.pointer none)) ->
 Links (w.setCell ⟨r, 3, none⟩ (ptr n)) v (fs ++ [g]) (rs ++ [n])
 | w, v, [], [], r, h, hl, _, _, _ => by simp at hl
 | w, v, f :: fs, [r'], r, h, hl, hd, hn, hI => by
   obtain ⟨rfl, nx, hI0, h⟩ := h
   simp at hl
   subst hl
   cases fs with
   | cons a b => exact h.elim
   | nil =>
     simp at hn
     exact ⟨rfl, ptr n, hI0.set 3 (ptr n), rfl, .pointer none, hI.other _ _ hn, rfl⟩
 | w, v, f :: fs, r' :: r2 :: rs, r, h, hl, hd, hn, hI => by
   obtain ⟨rfl, nx, hI0, h⟩ := h
   have hl2 : (r2 :: rs).getLast? = some r := by simpa using hl
   have hmem : r ∈ r2 :: rs := List.mem_of_getLast? hl2
   have hne : r' ≠ r := by
    rintro rfl
    exact (List.nodup_cons.1 hd).1 hmem
   exact ⟨rfl, nx, hI0.other _ _ hne, Links.snoc h hl2 (List.nodup_cons.1 hd).2 (fun hx => hn (by simp [hx])) hI⟩
 | _, _, [], _ :: _, _, h, _, _, _, _ => h.elim
 | _, _, _ :: _, [], _, h, _, _, _, _ => h.elim
theorem Chain.nil (w : World) : Chain w (.pointer none) (.pointer none) [] [] := ⟨rfl, rfl, by simp⟩
theorem Chain.lt {w : World} {a z : Value} {fs : List Lk.Fr} {rs : List Nat} (h : Chain w a z fs rs) : ∀ r ∈ rs, r < w.heap.size := fun r hr => let ⟨_, _, hI⟩ := h.links.is r hr; hI.lt
theorem Chain.only {S : Nat -> Prop} {w w' : World} {a z : Value} {fs : List Lk.Fr} {rs : List Nat} (h : Chain w a z fs rs) (k : Only S w w') (hn : ∀ r ∈ rs, ¬ S r) : Chain w' a z fs rs := ⟨h.links.only k hn, h.last, h.nodup⟩
theorem Chain.empty {w : World} {a z : Value} {fs : List Lk.Fr} {rs : List Nat} (h : Chain w a z fs rs) : (fs = [] ∧ rs = [] ∧ a = .pointer none ∧ z = .pointer none) ∨ ∃ f fs' r rs', fs = f :: fs' ∧ rs = r :: rs' ∧ a = ptr r ∧ Is w r 167 (wtV f (dW rs')) ∧ Chain w (dW rs') (fO rs') fs' rs' := by
 obtain ⟨hL, hz, hd⟩ := h
 cases fs with
 | nil =>
   cases rs with
   | nil => exact .inl ⟨rfl, rfl, hL, hz⟩
   | cons r rs => exact hL.elim
 | cons f fs =>
   cases rs with
   | nil => exact hL.elim
   | cons r rs =>
     obtain ⟨rfl, nx, hI, hL⟩ := hL
     have e := hL.len.2
     subst e
     exact .inr ⟨f, fs, r, rs, rfl, rfl, rfl, hI, hL, rfl, (List.nodup_cons.1 hd).2⟩
theorem FM {r : Nat} {rs : List Nat} (h : rs ≠ []) : fO (r :: rs) = fO rs := by
 cases rs with
 | nil => exact absurd rfl h
 | cons a b => simp [fO]
theorem Chain.rG {w : World} {n : Nat} {g : Lk.Fr} (hI : Is w n 167 (wtV g (.pointer none))) : Chain w (ptr n) (ptr n) [g] [n] := ⟨⟨rfl, _, hI, rfl⟩, rfl, by simp⟩
theorem Chain.Lp {w : World} {a z : Value} {fs : List Lk.Fr} {rs : List Nat} {n r : Nat} {g : Lk.Fr} (h : Chain w a z fs rs) (hr : rs.getLast? = some r) (hn : n ∉ rs) (hI : Is w n 167 (wtV g (.pointer none))) :
 Chain (w.setCell ⟨r, 3, none⟩ (ptr n)) a (ptr n) (fs ++ [g]) (rs ++ [n]) :=
 ⟨h.links.snoc hr h.nodup hn hI, by simp [fO, bu], List.nodup_append.2 ⟨h.nodup, by simp, fun x hx y hy => by simp at hy; subst hy; rintro rfl; exact hn hx⟩⟩
def owV (o : Lk.Ow) : List Value := [.int .i64 (o.id : Int), .int .i64 (o.cr : Int), .string (bs o.left)]
structure mF (w : World) (os : List Lk.Ow) (ps : List Nat) : Prop where
 len : os.length = ps.length
 is : ∀ (i : Nat) (o : Lk.Ow) (p : Nat), os[i]? = some o -> ps[i]? = some p -> Is w p 173 (owV o)
def qM (sb : Nat) : Value := .func (.func 124) #[] #[.pointer (some ⟨sb, 0, none⟩)]
theorem mF.only {S : Nat -> Prop} {w w' : World} {os : List Lk.Ow} {ps : List Nat} (h : mF w os ps) (k : Only S w w') (hn : ∀ p ∈ ps, ¬ S p) : mF w' os ps :=
 ⟨h.len, fun i o p ho hp => (h.is i o p ho hp).only k (hn p (List.mem_of_getElem? hp))⟩
theorem mF.get {w : World} {os : List Lk.Ow} {ps : List Nat} (h : mF w os ps) {i : Nat} (hi : i < os.length) : ∃ o p, os[i]? = some o ∧ ps[i]? = some p ∧ Is w p 173 (owV o) := by
 have hp : i < ps.length := by rw [<- h.len]; exact hi
 exact ⟨os[i], ps[i], List.getElem?_eq_getElem hi, List.getElem?_eq_getElem hp, h.is i _ _ (List.getElem?_eq_getElem hi) (List.getElem?_eq_getElem hp)⟩
theorem mF.mem {w : World} {os : List Lk.Ow} {ps : List Nat} (h : mF w os ps) {p : Nat} (hp : p ∈ ps) : ∃ o, Is w p 173 (owV o) := by
 obtain ⟨i, hi⟩ := List.getElem?_of_mem hp
 obtain ⟨o, p', _, hp', hI⟩ := h.get (i := i) (by
  rw [h.len]
  rcases Nat.lt_or_ge i ps.length with h | h
  . exact h
  . rw [List.getElem?_eq_none h] at hi; cases hi)
 rw [hi] at hp'
 cases hp'
 exact ⟨o, hI⟩
theorem BK {w : World} {B g m cap i p : Nat} {T : TypeId} {ps : List Nat} (h : w.ownsRow B T 1 (.slice (some ⟨g, 0, none⟩) m cap) ps.length (ps.map ptr)) (hp : ps[i]? = some p) : g < w.heap.size ∧ w.cell? ⟨g, i, none⟩ = some (.pointer (some ⟨p, 0, none⟩)) := by
 have hi : i < ps.length := by
  rcases Nat.lt_or_ge i ps.length with h | h
  . exact h
  . rw [List.getElem?_eq_none h] at hp; cases hp
 rcases h.2 with ⟨h0, _⟩ | ⟨g', cap', cur, h0, _, hg, _, _, _, ht⟩
 . cases h0
 . cases h0
   have hI : Is w g T cur.toList := by unfold Is; simpa using hg
   refine ⟨hI.lt, ?_⟩
   rw [hI.cell i]
   have : (cur.toList.take (ps.length * 1))[i]? = some (ptr p) := by rw [ht]; simp [hp]
   rw [List.getElem?_take_of_lt (by omega)] at this
   exact this
theorem zC (p sb : Nat) (o : Lk.Ow) (k : Int) (w : World) (hI : Is w p 173 (owV o)) (_hs : sb < w.heap.size) (c : w.cell? ⟨sb, 0, none⟩ = some (.int .i64 k)) :
 Calls Tryz.prog 124 #[.pointer (some ⟨p, 0, none⟩), .pointer (some ⟨sb, 0, none⟩)] w fun e w' => e = .returned (.bool ((o.id : Int) == k)) ∧ ∃ n, w' = w.drewN n := by
 have c0 := hI.cell 0
 simp only [owV, List.getElem?_cons_zero] at c0
 have hl := hI.lt
 clear hI
 go_enter Tryz.func124, Tryz.ntmps124
 go_wp2_with fail
 go_quiet (fail)
 go_wp2_with fail
 go_ret
 exact ⟨rfl, _, rfl⟩
def TJ (r : Option Nat) : Int := match r with
 | some i => (i : Int)
 | none => -1
def qh (k : Int) (o : Lk.Ow) : Bool := (o.id : Int) == k
theorem nR (g m cap sb B : Nat) (os : List Lk.Ow) (ps : List Nat) (k : Int) (R : Option Nat) (w : World) (hO : mF w os ps) (ho : w.ownsRow B 169 1 (.slice (some ⟨g, 0, none⟩) m cap) ps.length (ps.map ptr)) (hm : Hid (m = ps.length)) (h4 : ps.length <= 1000) (hs : sb < w.heap.size) (c : w.cell? ⟨sb, 0, none⟩ = some (.int .i64 k))
 (hR : Hid (os.findIdx? (qh k) = R)) :
 Calls Tryz.prog 166 #[.slice (some ⟨g, 0, none⟩) m cap, qM sb] w fun e w' => e = .returned (.int .i64 (TJ R)) ∧ ∃ n, w' = w.drewN n := by
 have hol := hO.len
 have HO := hide hO
 have HW := hide ho
 clear hO ho
 unfold qM
 go_enter Tryz.func166, Tryz.ntmps166
 go_wp2_with fail
 go_loopw [8] (fun u wr => ∃ j : Nat, u = .int .i64 j ∧ j <= m ∧ Hid (∀ i o, i < j -> os[i]? = some o -> qh k o = false) ∧ ∃ n, wr = w.drewN n) (fun u _ => m - (intOf u).toNat)
 case atStart => exact ⟨0, rfl, by omega, fun i o hi => by omega, 0, rfl⟩
 case round =>
  obtain ⟨j, rfl, hj, HJ, n, rfl⟩ := hrel
  by_cases hlt : j < m
  . have hme := uh hm
    obtain ⟨o, p, ho, hp, hI⟩ := (uh HO).get (i := j) (by omega)
    obtain ⟨hg, cp⟩ := BK (uh HW) hp
    have hlt' : (j : Int) < m := by omega
    have HC := hide (fun n => zC p sb o k (w.drewN n) (hI.drewN n) hs c)
    have HOJ := hide ho
    have hjo : j < os.length := by omega
    clear hI ho hp hme
    by_cases hk : (o.id : Int) == k
    . have hRR : R = some j := by
       rw [<- uh hR]
       rw [List.findIdx?_eq_some_iff_getElem]
       refine ⟨hjo, ?_, ?_⟩
       . have := uh HOJ
         rw [List.getElem?_eq_getElem hjo] at this
         cases this
         exact hk
       . intro i hi
         have := uh HJ i os[i] hi (List.getElem?_eq_getElem (by omega))
         simp [this]
      subst hRR
      go_wp2_with fail
      refine (uh HC n).mono ?_
      rintro e w1 ⟨rfl, n1, rfl⟩
      rw [hk]
      go_wp2_with fail
      go_ret
      exact ⟨rfl, n + n1, by first | rfl | simp⟩
    . have hk' : ((o.id : Int) == k) = false := by simpa using hk
      go_wp2_with fail
      refine (uh HC n).mono ?_
      rintro e w1 ⟨rfl, n1, rfl⟩
      rw [hk']
      go_wp2_with fail
      go_roundw
      case rel =>
       refine ⟨j + 1, by simp, by omega, ?_, n + n1, by first | rfl | simp⟩
       intro i x hi hx
       by_cases e : i = j
       . subst e
         rw [uh HOJ] at hx
         cases hx
         exact hk'
       . exact uh HJ i x (by omega) hx
      case measure => simp [intOf]; omega
  . have hlt' : ¬ (j : Int) < m := by omega
    have hRR : R = none := by
     have hme := uh hm
     rw [<- uh hR]
     rw [List.findIdx?_eq_none_iff]
     intro x hx
     obtain ⟨i, hi⟩ := List.getElem?_of_mem hx
     refine uh HJ i x ?_ hi
     rcases Nat.lt_or_ge i os.length with h | h
     . omega
     . rw [List.getElem?_eq_none h] at hi; cases hi
    subst hRR
    go_wp2_with fail
    go_ret
    exact ⟨rfl, n, rfl⟩
namespace Lk
def Rd.next (i : Nat) : Rd -> Int | .ok _ k => ((i + k : Nat) : Int) | _ => 0
def Rd.jQ (i : Nat) : Rd -> Int | .bad k => ((i + k : Nat) : Int) | _ => -1
def Rd.gq : Rd -> Bool | .short => true | _ => false
end Lk
def Jc (s : ByteArray) (i t acc B : Nat) : Prop := B = 128 ^ t ∧ dK s i t (i + t) acc
theorem gG (c : UInt8) : wrap64 (c.toNat : Int) = c.toNat := wrap64_small _ (by have := ni c; omega)
theorem LP (a b : Nat) : ((a : Int).tmod b) = ((a % b : Nat) : Int) := by simp [Int.tmod]
theorem qX {s : ByteArray} {i t acc B : Nat} (h : Jc s i t acc B) (ht : t < 4) (c : UInt8) :
 wrap64 ((acc : Int) + wrap64 ((wrap64 (c.toNat : Int)).tmod 128 * (B : Int))) = ((acc + c.toNat % 128 * 128 ^ t : Nat) : Int) ∧ wrap64 (128 * (B : Int)) = ((128 ^ (t + 1) : Nat) : Int) := by
 obtain ⟨rfl, h⟩ := h
 have hacc := h.2.2.2.1
 have hc := ni c
 rw [gG, show (128 : Int) = ((128 : Nat) : Int) from rfl, LP]
 have hx : c.toNat % 128 < 128 := by omega
 generalize c.toNat % 128 = x at *
 rcases (by omega : t = 0 ∨ t = 1 ∨ t = 2 ∨ t = 3) with rfl | rfl | rfl | rfl
 all_goals
  have e : ∀ y : Nat, y < 2 ^ 62 -> wrap64 (y : Int) = y := wrap64_small
  refine ⟨?_, ?_⟩
  . rw [<- Int.natCast_mul, e _ (by omega), <- Int.natCast_add, e _ (by omega)]
  . rw [<- Int.natCast_mul, e _ (by omega)]
theorem dK.Pg {s : ByteArray} {p t q acc : Nat} {r : Lk.Rd} (h : dK s p t q acc) (hr : Hid (Lk.rd 0 0 (s.data.toList.drop p) = r)) (hlt : ¬ q < s.size) : r = .short := by
 obtain ⟨rfl, h1, h2, h3, h4⟩ := h
 rw [<- uh hr, <- h4, drop_end s _ (by omega), Lk.Og]
theorem dK.Q7 {s : ByteArray} {p t q acc : Nat} {r : Lk.Rd} (h : dK s p t q acc) (hr : Hid (Lk.rd 0 0 (s.data.toList.drop p) = r)) (hlt : q < s.size) (hb : t = 4 ∨ (0 < t ∧ s[q].toNat = 0)) : r = .bad t := by
 obtain ⟨rfl, h1, h2, h3, h4⟩ := h
 rw [<- uh hr, <- h4, drop_cons s _ hlt, Lk.Oh _ _ _ _ (hb.imp id fun ⟨a, b⟩ => ⟨a, byte_zero b⟩)]
theorem dK.Oj {s : ByteArray} {p t q acc : Nat} {r : Lk.Rd} (h : dK s p t q acc) (hr : Hid (Lk.rd 0 0 (s.data.toList.drop p) = r)) (hlt : q < s.size) (ht : t < 4) (h0 : ¬ (0 < t ∧ s[q].toNat = 0)) (hc : s[q].toNat <= 127) :
 r = .ok (acc + s[q].toNat % 128 * 128 ^ t) (t + 1) := by
 obtain ⟨rfl, h1, h2, h3, h4⟩ := h
 rw [<- uh hr, <- h4, drop_cons s _ hlt, Lk.IA _ _ _ _ (by rintro (h | ⟨h, h'⟩) <;> first | omega | exact h0 ⟨h, by rw [h']; rfl⟩) (by omega)]
theorem nV {a n b a' n' b' : Int} {x x' : Bool} (h1 : a = a') (h2 : n = n') (h3 : b = b') (h4 : x = x') :
 Ending.returned (.agg #[.int .i64 a, .int .i64 n, .int .i64 b, .bool x]) = .returned (.agg #[.int .i64 a', .int .i64 n', .int .i64 b', .bool x']) := by rw [h1, h2, h3, h4]
theorem kz (s : ByteArray) (i : Nat) (w : World) (hs : s.size <= 2 ^ 62) (hi : i <= s.size) :
 Calls Tryz.prog 84 #[.string s, .int .i64 i] w fun e w' =>
  e = .returned (.agg #[.int .i64 (Lk.rd 0 0 (s.data.toList.drop i)).val, .int .i64 ((Lk.rd 0 0 (s.data.toList.drop i)).next i), .int .i64 ((Lk.rd 0 0 (s.data.toList.drop i)).jQ i), .bool (Lk.rd 0 0 (s.data.toList.drop i)).gq])
  ∧ Below w.heap.size w w' := by
 generalize hr : Lk.rd 0 0 (s.data.toList.drop i) = r
 have HR := hide hr
 clear hr
 go_enter Tryz.func84, Tryz.ntmps84
 go_wp2
 go_loopw [5, 6, 7] (fun n by_ k wr => ∃ t acc B : Nat, k = .int .i64 t ∧ n = .int .i64 acc ∧ by_ = .int .i64 B ∧ Jc s i t acc B ∧ wr = w.alloc (.cells #[.int .i64 0, .int .i64 0, .int .i64 0, .bool false] 187)) (fun _ _ k _ => 5 - (intOf k).toNat)
 case atStart => exact ⟨0, 0, 1, rfl, rfl, rfl, ⟨rfl, dK.start s i hi⟩, rfl⟩
 case round =>
  obtain ⟨t, acc, B, rfl, rfl, rfl, HH, rfl⟩ := hrel
  have ht : t <= 4 := HH.2.2.1
  have hti : i + t <= s.size := HH.2.2.2.1
  by_cases hlt : i + t < s.size
  . have hlt' : (i : Int) + t < s.size := by omega
    have hw := gG s[i + t]
    have HW := hide hw
    clear hw
    go_wp2
    . have h3 : (t : Int) = 4 := by assumption
      have e := HH.2.Q7 HR hlt (Or.inl (by omega))
      subst e
      exact bodyPost_ret (v := .agg #[.int .i64 0, .int .i64 0, .int .i64 ((i : Int) + 4), .bool false]) (by simp [results, Tryz.results84, go_sem]) rfl ⟨nV rfl rfl (by simp [Lk.Rd.jQ]; omega) rfl, (Below.refl _ _).alloc (Nat.le_refl _) _⟩
    . have h4 : ((t : Int) == 4) = true ∨ (wrap64 (s[i + t].toNat : Int) == 0) = true := by assumption
      have h3 : ¬ (t : Int) = 4 := by assumption
      have h2 : 0 < t := by assumption
      rw [uh HW] at h4
      have e := HH.2.Q7 HR hlt (Or.inr ⟨h2, by simp at h4; omega⟩)
      subst e
      exact bodyPost_ret (v := .agg #[.int .i64 0, .int .i64 0, .int .i64 ((i : Int) + t), .bool false]) (by simp [results, Tryz.results84, go_sem]) rfl ⟨nV rfl rfl (by simp [Lk.Rd.jQ]) rfl, (Below.refl _ _).alloc (Nat.le_refl _) _⟩
    . have h4 : ((t : Int) == 4) = false ∧ (wrap64 (s[i + t].toNat : Int) == 0) = false := by assumption
      have h5 : wrap64 (s[i + t].toNat : Int) < 128 := by assumption
      have h6 : ¬ (t : Int) = 4 := by assumption
      rw [uh HW] at h4 h5
      simp at h4
      have e := HH.2.Oj HR hlt (by omega) (by omega) (by omega)
      have g := (qX HH (by omega) s[i + t]).1
      subst e
      exact bodyPost_ret (v := .agg #[.int .i64 (wrap64 ((acc : Int) + wrap64 ((wrap64 (s[i + t].toNat : Int)).tmod 128 * (B : Int)))), .int .i64 ((i : Int) + t + 1), .int .i64 (-1), .bool false]) (by simp [results, Tryz.results84, go_sem]) rfl ⟨nV g (by simp [Lk.Rd.next]; omega) rfl rfl, (Below.refl _ _).alloc (Nat.le_refl _) _⟩
    . have h4 : ((t : Int) == 4) = false ∧ (wrap64 (s[i + t].toNat : Int) == 0) = false := by assumption
      have h5 : 128 <= wrap64 (s[i + t].toNat : Int) := by assumption
      have h6 : ¬ (t : Int) = 4 := by assumption
      rw [uh HW] at h4 h5
      simp at h4
      have g := qX HH (by omega) s[i + t]
      have hn := HH.2.next hlt (by omega) (by omega) (by omega)
      go_roundw
      case rel => exact ⟨t + 1, _, _, by go_num, by rw [g.1], by rw [g.2], ⟨rfl, by rw [<- Nat.add_assoc]; exact hn⟩, by first | rfl | trivial⟩
      case measure => simp [intOf]; omega
    . have h5 : wrap64 (s[i + t].toNat : Int) < 128 := by assumption
      have h6 : ¬ 0 < t := by assumption
      rw [uh HW] at h5
      have e := HH.2.Oj HR hlt (by omega) (by omega) (by omega)
      have g := (qX HH (by omega) s[i + t]).1
      subst e
      exact bodyPost_ret (v := .agg #[.int .i64 (wrap64 ((acc : Int) + wrap64 ((wrap64 (s[i + t].toNat : Int)).tmod 128 * (B : Int)))), .int .i64 ((i : Int) + t + 1), .int .i64 (-1), .bool false]) (by simp [results, Tryz.results84, go_sem]) rfl ⟨nV g (by simp [Lk.Rd.next]; omega) rfl rfl, (Below.refl _ _).alloc (Nat.le_refl _) _⟩
    . have h5 : 128 <= wrap64 (s[i + t].toNat : Int) := by assumption
      have h6 : ¬ 0 < t := by assumption
      rw [uh HW] at h5
      have g := qX HH (by omega) s[i + t]
      have hn := HH.2.next hlt (by omega) (by omega) (by omega)
      go_roundw
      case rel => exact ⟨t + 1, _, _, by go_num, by rw [g.1], by rw [g.2], ⟨rfl, by rw [<- Nat.add_assoc]; exact hn⟩, by first | rfl | trivial⟩
      case measure => simp [intOf]; omega
  . have hlt' : ¬ ((i : Int) + t < s.size) := by omega
    go_wp2
    have e := HH.2.Pg HR hlt
    subst e
    refine bodyPost_ret (v := .agg #[.int .i64 0, .int .i64 0, .int .i64 (-1), .bool true]) (by simp [results, Tryz.results84, go_sem]) rfl ⟨rfl, (Below.refl _ _).alloc (Nat.le_refl _) _⟩
end Go.Proofs.YtbkpdapagfjmmaaGreatDoor
