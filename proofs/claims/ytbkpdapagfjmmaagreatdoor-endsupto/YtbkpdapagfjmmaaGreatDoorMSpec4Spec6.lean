import Derived.Test.YtbkpdapagfjmmaaGreatDoorMSpecW0
set_option linter.unusedVariables false
set_option maxRecDepth 100000
set_option maxHeartbeats 16000000
namespace Go.Proofs.YtbkpdapagfjmmaaGreatDoor.Lk
theorem rd_canon : ∀ (l : Bs) (k acc n j : Nat), k ≤ 4 → rd k acc l = .ok n j → ∃ m, n = acc + m * 128 ^ k ∧ wire m = l.take (j - k) ∧ (k = 0 ∨ m ≠ 0) ∧ m < 128 ^ (4 - k)
  | [], k, acc, n, j, _, h => by simp [rd] at h
  | c :: t, k, acc, n, j, hk, h => by
    have hc := c.toNat_lt
    have hof : UInt8.ofNat c.toNat = c := by simp
    rw [rd] at h
    split at h
    · cases h
    · rename_i g
      have hk3 : k ≤ 3 := by omega
      split at h
      · rename_i g2
        cases h
        refine ⟨c.toNat, by rw [Nat.mod_eq_of_lt g2], ?_, ?_, ?_⟩
        · rw [wire_small _ g2, show k + 1 - k = 1 from by omega, hof]; rfl
        · by_cases h0 : k = 0
          · exact .inl h0
          · right
            intro e
            apply g
            exact .inr ⟨by omega, by rw [← hof, e]; rfl⟩
        · rcases pow4 hk3 with rfl | rfl | rfl | rfl <;> simp <;> omega
      · rename_i g2
        obtain ⟨m, h1, h2, h3, h4⟩ := rd_canon t (k + 1) _ n j (by omega) h
        have hj := rd_ok_bounds _ _ _ _ _ h
        have hm : m ≠ 0 := by rcases h3 with h3 | h3 <;> omega
        refine ⟨c.toNat % 128 + 128 * m, ?_, ?_, .inr (by omega), ?_⟩
        · rw [h1, Nat.pow_succ, Nat.add_mul, Nat.add_assoc]
          congr 2
          rw [Nat.mul_comm (128 ^ k) 128, ← Nat.mul_assoc, Nat.mul_comm m 128]
        · rw [wire_big _ (by omega), show j - k = (j - (k + 1)) + 1 from by omega, List.take_succ_cons, ← h2]
          congr 1
          · have : 128 + (c.toNat % 128 + 128 * m) % 128 = c.toNat := by omega
            rw [this, hof]
          · congr 1; omega
        · have hk2 : k ≤ 2 := by
            rcases pow4 hk3 with rfl | rfl | rfl | rfl
            · omega
            · omega
            · omega
            · simp at h4; omega
          rcases (by omega : k = 0 ∨ k = 1 ∨ k = 2) with rfl | rfl | rfl <;> simp at h4 ⊢ <;> omega
theorem rd_canon0 {l : Bs} {n j : Nat} (h : rd 0 0 l = .ok n j) : wire n = l.take j ∧ n ≤ 268435455 := by
  obtain ⟨m, h1, h2, _, h4⟩ := rd_canon l 0 0 n j (by omega) h
  simp at h1 h2 h4
  subst h1
  exact ⟨h2, by omega⟩
theorem nx_good {l : Bs} {k st n : Nat} {d : Bs} (h : nx l = .frame k st d n) : Good k st d ∧ packed k st d = l.take n := by
  cases l with
  | nil => cases h
  | cons c t =>
    rw [nx] at h
    split at h
    · cases h
    · rename_i g
      split at h
      · cases h
      · cases h
      · rename_i st' a hr
        split at h
        · cases h
        · rename_i g2
          split at h
          · cases h
          · cases h
          · rename_i n' b hr2
            split at h
            · cases h
            · rename_i g3
              split at h
              · cases h
              · rename_i g4
                split at h
                · cases h
                · rename_i g5
                  split at h
                  · cases h
                  · rename_i g6
                    cases h
                    have c1 := rd_canon0 hr
                    have c2 := rd_canon0 hr2
                    have b1 := rd_ok_bounds _ _ _ _ _ hr
                    have b2 := rd_ok_bounds _ _ _ _ _ hr2
                    rw [List.length_drop] at b2
                    have hdl : ((t.drop (a + b)).take n').length = n' := by rw [List.length_take, List.length_drop]; omega
                    refine ⟨⟨by omega, c1.2, by omega, by simpa using g2, by rw [hdl]; simpa using g4, by simpa using g6⟩, ?_⟩
                    have hof : UInt8.ofNat c.toNat = c := by simp
                    rw [packed, Int.toNat_natCast, Int.toNat_natCast, hdl, c1.1, c2.1, hof, show 1 + a + b + n' = (a + b + n') + 1 from by omega, List.take_succ_cons]
                    congr 1
                    rw [List.take_add, List.take_add]
def packAll (fs : List Fr) : Bs := fs.flatMap fun f => packed f.k f.st f.d
theorem all_packs : ∀ (l : Bs), (∀ f ∈ (all l).1, Good f.k f.st f.d) ∧ ∃ r, l = packAll (all l).1 ++ r ∧ ((all l).2.1 = 0 → r.length ≤ 72) ∧ ((all l).2.1 ≠ 0 → 0 < r.length) := by
  intro l
  induction h : l.length using Nat.strongRecOn generalizing l with
  | _ n ih =>
    subst h
    cases hx : nx l with
    | more =>
      rw [all_more hx]
      exact ⟨by simp, l, by simp [packAll], fun _ => nx_more_len hx, by simp⟩
    | err e =>
      rw [all_err hx]
      refine ⟨by simp, l, by simp [packAll], fun h => absurd h (nx_err_pos hx), fun _ => ?_⟩
      cases l with
      | nil => cases hx
      | cons c t => simp
    | frame k st d n =>
      have hb := nx_frame_bounds hx
      have hg := nx_good hx
      obtain ⟨i1, r, i2, i3, i4⟩ := ih (l.drop n).length (by rw [List.length_drop]; omega) (l.drop n) rfl
      rw [all_frame hx]
      refine ⟨?_, r, ?_, i3, i4⟩
      · intro f hf
        rcases List.mem_cons.1 hf with rfl | hf
        · exact hg.1
        · exact i1 f hf
      · show l = packAll (_ :: _) ++ r
        rw [packAll, List.flatMap_cons, hg.2, List.append_assoc]
        have := List.take_append_drop n l
        rw [i2] at this
        exact this.symm
end Go.Proofs.YtbkpdapagfjmmaaGreatDoor.Lk

namespace Go.Proofs.YtbkpdapagfjmmaaGreatDoor.Lk
structure Ow where
  id : Nat
  left : Bs
  cr : Nat
  done : Bool
structure Ot where
  id : Nat
  cr : Nat
  held : Nat
  opn : Bool
  drp : Bool
structure Ev where
  k : Nat
  st : Nat
  n : Nat
  hs : List Hd
  t : Bs
structure En where
  side : Nat
  win : Nat
  out : List Hd
  inn : List Hd
  rest : Bs
  row : List Bs
  own : List Ow
  oth : List Ot
  all : Nat
  room : Nat
  turn : Nat
  byeS : Bool
  byeC : Bool
  down : Nat
def En.new (side win : Nat) : En := ⟨side, win, [], [], [], [], [], [], 2 * win, 2 * win, 0, false, false, 0⟩
def En.send (e : En) (k st : Nat) (d : Bs) : En := { e with row := e.row ++ [packed k st d] }
def En.back (e : En) (n : Nat) : En := if 0 < n then ({ e with room := e.room + n } : En).send 4 0 (wire n) else e
def En.lastOth (e : En) : Nat := match e.oth.getLast? with
  | some o => o.id
  | none => 0
def En.bye (e : En) : En := { e.send 7 0 (wire e.lastOth) with byeS := true }
def ownIx (l : List Ow) (id : Int) : Option Nat := l.findIdx? fun o => decide ((o.id : Int) = id)
def othIx (l : List Ot) (id : Int) : Option Nat := l.findIdx? fun o => decide ((o.id : Int) = id)
def En.pingC (e : En) (t : Bs) : Nat × En := if e.down ≠ 0 then (13, e) else if t.length ≠ 8 then (6, e) else (0, e.send 5 0 t)
def En.byeC' (e : En) : Nat × En := if e.down ≠ 0 then (13, e) else if e.byeS then (12, e) else (0, e.bye)
def En.busy (e : En) : Nat := (e.own.filter fun o => !o.done).length
def En.nextId (e : En) : Nat := 2 * e.own.length + 1 + e.side
def En.submitC (e : En) (l : List Hd) (body : Bs) : (Nat × Nat × Nat) × En :=
  if e.down ≠ 0 then ((0, 13, 0), e)
  else if e.byeS || e.byeC then ((0, 12, 0), e)
  else if (wrong l).1 ≠ 0 then ((0, (wrong l).1, (wrong l).2), e)
  else if 64 < (squeeze 100 e.out l).1.length ∨ 300 < body.length then ((0, 5, 0), e)
  else if 4 ≤ e.busy ∨ 268435455 < e.nextId then ((0, 11, 0), e)
  else ((e.nextId, 0, 0), ({ e with out := (squeeze 100 e.out l).2, own := e.own ++ [⟨e.nextId, body, e.win, false⟩] } : En).send 0 e.nextId (squeeze 100 e.out l).1)
def Ot.eat (o : Ot) (n : Nat) : Ot := { o with held := o.held - n, cr := if o.opn then o.cr + n else o.cr }
def En.consumeC (e : En) (st n : Int) : Nat × En :=
  if e.down ≠ 0 then (13, e)
  else if n < 1 then (1, e)
  else match othIx e.oth st with
    | none => (14, e)
    | some i => match e.oth[i]? with
      | none => (14, e)
      | some o => if (o.held : Int) < n then (14, e) else
        let e1 := ({ e with oth := e.oth.set i (o.eat n.toNat), room := e.room + n.toNat } : En).send 4 0 (wire n.toNat)
        (0, if o.opn then e1.send 4 o.id (wire n.toNat) else e1)
def En.resetC (e : En) (st code : Int) : Nat × En :=
  if e.down ≠ 0 then (13, e)
  else if code < 0 ∨ 268435455 < code then (1, e)
  else match (ownIx e.own st).bind fun i => (e.own[i]?).bind fun o => if o.done then none else some (i, o) with
    | some (i, o) => (0, ({ e with own := e.own.set i { o with done := true } } : En).send 3 o.id (wire code.toNat))
    | none => match (othIx e.oth st).bind fun i => (e.oth[i]?).bind fun o => if o.opn then some (i, o) else none with
      | some (i, o) => (0, (({ e with oth := e.oth.set i { o with opn := false, drp := true, held := 0 } } : En).send 3 o.id (wire code.toNat)).back o.held)
      | none => (14, e)
def En.may (e : En) (o : Ow) : Bool := !o.done && (o.left.isEmpty || (decide (0 < o.cr) && decide (0 < e.all)))
def En.next (e : En) : Option Nat := match e.own.findIdx? fun o => e.may o && decide (e.turn < o.id) with
  | some i => some i
  | none => e.own.findIdx? e.may
def En.most (e : En) (o : Ow) : Nat := if o.left.isEmpty then 0 else min (min o.left.length 16) (min o.cr e.all)
def En.bodyOf (e : En) (i : Nat) (o : Ow) : Bs × En :=
  let n := e.most o
  (packed ((if n = o.left.length then 2 else 1 : Nat) : Int) o.id (o.left.take n), { e with own := e.own.set i ⟨o.id, o.left.drop n, o.cr - n, o.done || decide (n = o.left.length)⟩, all := e.all - n, turn := o.id })
def En.drain1 (e : En) : Option (Bs × En) := match e.row with
  | s :: r => some (s, { e with row := r })
  | [] => if e.down ≠ 0 then none else match e.next with
    | none => none
    | some i => match e.own[i]? with
      | none => none
      | some o => some (e.bodyOf i o)
def En.drain : Nat → En → Bs × En
  | 0, e => ([], e)
  | n + 1, e => match e.drain1 with
    | none => ([], e)
    | some (s, e') => (s ++ (En.drain n e').1, (En.drain n e').2)
def numOf (d : Bs) : Nat := match rd 0 0 d with
  | .ok n _ => n
  | _ => 0
def En.headF (e : En) (f : Fr) : List Ev × Nat × En :=
  if f.st ≠ 2 * e.oth.length + 2 - e.side then ([], 4, e)
  else match exR 100 f.d 6 e.inn 0 with
    | .err _ _ => ([], 9, e)
    | .ok hs L => if e.byeS then ([], 0, ({ e with inn := L, oth := e.oth ++ [⟨f.st, e.win, 0, false, true⟩] } : En).send 3 f.st (wire 0))
      else ([⟨1, f.st, 0, hs, []⟩], 0, { e with inn := L, oth := e.oth ++ [⟨f.st, e.win, 0, true, false⟩] })
def En.pieceF (e : En) (f : Fr) : List Ev × Nat × En :=
  match (othIx e.oth f.st).bind fun i => (e.oth[i]?).map fun o => (i, o) with
  | none => ([], 4, e)
  | some (i, o) => if !o.opn && !o.drp then ([], 4, e)
    else if o.cr < f.d.length ∨ e.room < f.d.length then ([], 10, e)
    else if o.opn then
      ((if 0 < f.d.length then [⟨2, f.st, 0, [], f.d⟩] else []) ++ (if f.k = 2 then [⟨3, f.st, 0, [], []⟩] else []), 0,
        { e with oth := e.oth.set i { o with cr := o.cr - f.d.length, held := o.held + f.d.length, opn := decide (f.k ≠ 2), drp := o.drp && decide (f.k ≠ 2) }, room := e.room - f.d.length })
    else ([], 0, ({ e with oth := e.oth.set i { o with cr := o.cr - f.d.length, drp := decide (f.k ≠ 2) }, room := e.room - f.d.length } : En).back f.d.length)
def En.resetF (e : En) (f : Fr) : List Ev × Nat × En :=
  match (ownIx e.own f.st).bind fun i => (e.own[i]?).map fun o => (i, o) with
  | some (i, o) => if o.done then ([], 0, e) else ([⟨4, f.st, numOf f.d, [], []⟩], 0, { e with own := e.own.set i { o with done := true } })
  | none => match (othIx e.oth f.st).bind fun i => (e.oth[i]?).map fun o => (i, o) with
    | none => ([], 4, e)
    | some (i, o) => if o.opn then ([⟨4, f.st, numOf f.d, [], []⟩], 0, ({ e with oth := e.oth.set i { o with opn := false, held := 0 } } : En).back o.held)
      else ([], 0, { e with oth := e.oth.set i { o with drp := false } })
def En.creditF (e : En) (f : Fr) : Nat × En :=
  if f.st = 0 then (if numOf f.d = 0 ∨ 100000 < e.all + numOf f.d then (10, e) else (0, { e with all := e.all + numOf f.d }))
  else match (ownIx e.own f.st).bind fun i => (e.own[i]?).map fun o => (i, o) with
    | none => (4, e)
    | some (i, o) => if o.done then (0, e)
      else if numOf f.d = 0 ∨ 100000 < o.cr + numOf f.d then (10, e)
      else (0, { e with own := e.own.set i { o with cr := o.cr + numOf f.d } })
def En.frame (e : En) (f : Fr) : List Ev × Nat × En :=
  if f.k = 0 then e.headF f
  else if f.k = 1 ∨ f.k = 2 then e.pieceF f
  else if f.k = 3 then e.resetF f
  else if f.k = 4 then ([], e.creditF f)
  else if f.k = 5 then ([], 0, e.send 6 0 f.d)
  else if f.k = 6 then ([⟨5, 0, 0, [], f.d⟩], 0, e)
  else ([⟨6, 0, numOf f.d, [], []⟩], 0, { e with byeC := true })
def En.frames : En → List Fr → List Ev × En
  | e, [] => ([], e)
  | e, f :: l => if e.down ≠ 0 then ([], e) else ((e.frame f).1 ++ (En.frames { (e.frame f).2.2 with down := (e.frame f).2.1 } l).1, (En.frames { (e.frame f).2.2 with down := (e.frame f).2.1 } l).2)
def En.falls (e : En) : En := if e.down ≠ 0 ∧ e.byeS = false then e.bye else e
def En.feed (e : En) (b : Bs) : List Ev × En :=
  if e.down ≠ 0 then ([], e)
  else
    let a := Lk.all (e.rest ++ b)
    let r := En.frames { e with rest := a.2.2 } a.1
    (r.1, En.falls (if r.2.down = 0 then { r.2 with down := a.2.1 } else r.2))
theorem En.frames_down (e : En) (l : List Fr) (h : e.down ≠ 0) : e.frames l = ([], e) := by
  cases l with
  | nil => rfl
  | cons f l => rw [En.frames, if_pos h]
theorem En.frames_append : ∀ (x y : List Fr) (e : En), e.frames (x ++ y) = ((e.frames x).1 ++ ((e.frames x).2.frames y).1, ((e.frames x).2.frames y).2)
  | [], y, e => by simp [En.frames]
  | f :: x, y, e => by
    rw [List.cons_append, En.frames, En.frames]
    by_cases h : e.down ≠ 0
    · rw [if_pos h, if_pos h]
      simp [En.frames_down e y h]
    · rw [if_neg h, if_neg h, En.frames_append x y]
      simp
def En.at (e : En) (r : Bs) : En := { e with rest := r }
theorem En.at_self (e : En) : e.at e.rest = e := rfl
def At3 (x : List Ev × Nat × En) (r : Bs) : List Ev × Nat × En := (x.1, x.2.1, x.2.2.at r)
theorem En.back_at (e : En) (n : Nat) (r : Bs) : (e.at r).back n = (e.back n).at r := by
  unfold En.back
  split <;> rfl
theorem En.headF_at (e : En) (f : Fr) (r : Bs) : (e.at r).headF f = At3 (e.headF f) r := by
  unfold En.headF
  show (if f.st ≠ 2 * e.oth.length + 2 - e.side then ([], 4, e.at r) else _) = _
  by_cases h : f.st ≠ 2 * e.oth.length + 2 - e.side
  · rw [if_pos h, if_pos h]; rfl
  · rw [if_neg h, if_neg h]
    show (match exR 100 f.d 6 e.inn 0 with | .err _ _ => _ | .ok hs L => _) = _
    cases exR 100 f.d 6 e.inn 0 with
    | err a b => rfl
    | ok hs L =>
      show (if e.byeS = true then _ else _) = At3 (if e.byeS = true then _ else _) r
      by_cases hb : e.byeS = true
      · rw [if_pos hb, if_pos hb]; rfl
      · rw [if_neg hb, if_neg hb]; rfl
theorem En.pieceF_at (e : En) (f : Fr) (r : Bs) : (e.at r).pieceF f = At3 (e.pieceF f) r := by
  unfold En.pieceF
  show (match (othIx e.oth f.st).bind fun i => (e.oth[i]?).map fun o => (i, o) with | none => _ | some (i, o) => _) = At3 (match (othIx e.oth f.st).bind fun i => (e.oth[i]?).map fun o => (i, o) with | none => _ | some (i, o) => _) r
  cases (othIx e.oth f.st).bind fun i => (e.oth[i]?).map fun o => (i, o) with
  | none => rfl
  | some p =>
    obtain ⟨i, o⟩ := p
    show (if (!o.opn && !o.drp) = true then _ else if o.cr < f.d.length ∨ e.room < f.d.length then _ else if o.opn = true then _ else _) = At3 (if (!o.opn && !o.drp) = true then _ else if o.cr < f.d.length ∨ e.room < f.d.length then _ else if o.opn = true then _ else _) r
    split
    · rfl
    · split
      · rfl
      · split
        · rfl
        · unfold At3
          simp only
          rw [← En.back_at]
          rfl
theorem En.resetF_at (e : En) (f : Fr) (r : Bs) : (e.at r).resetF f = At3 (e.resetF f) r := by
  unfold En.resetF
  show (match (ownIx e.own f.st).bind fun i => (e.own[i]?).map fun o => (i, o) with | some (i, o) => _ | none => match (othIx e.oth f.st).bind fun i => (e.oth[i]?).map fun o => (i, o) with | none => _ | some (i, o) => _) = At3 (match (ownIx e.own f.st).bind fun i => (e.own[i]?).map fun o => (i, o) with | some (i, o) => _ | none => match (othIx e.oth f.st).bind fun i => (e.oth[i]?).map fun o => (i, o) with | none => _ | some (i, o) => _) r
  cases (ownIx e.own f.st).bind fun i => (e.own[i]?).map fun o => (i, o) with
  | some p =>
    obtain ⟨i, o⟩ := p
    show (if o.done = true then _ else _) = At3 (if o.done = true then _ else _) r
    split <;> rfl
  | none =>
    cases (othIx e.oth f.st).bind fun i => (e.oth[i]?).map fun o => (i, o) with
    | none => rfl
    | some p =>
      obtain ⟨i, o⟩ := p
      show (if o.opn = true then _ else _) = At3 (if o.opn = true then _ else _) r
      split
      · unfold At3
        simp only
        rw [← En.back_at]
        rfl
      · rfl
theorem En.creditF_at (e : En) (f : Fr) (r : Bs) : (e.at r).creditF f = ((e.creditF f).1, (e.creditF f).2.at r) := by
  unfold En.creditF
  split
  · show (if numOf f.d = 0 ∨ 100000 < e.all + numOf f.d then _ else _) = ((if numOf f.d = 0 ∨ 100000 < e.all + numOf f.d then _ else _ : Nat × En).1, (if numOf f.d = 0 ∨ 100000 < e.all + numOf f.d then _ else _ : Nat × En).2.at r)
    split <;> rfl
  · show (match (ownIx e.own f.st).bind fun i => (e.own[i]?).map fun o => (i, o) with | none => _ | some (i, o) => _) = _
    cases (ownIx e.own f.st).bind fun i => (e.own[i]?).map fun o => (i, o) with
    | none => rfl
    | some p =>
      obtain ⟨i, o⟩ := p
      simp only
      split
      · rfl
      · split <;> rfl
theorem En.frame_at (e : En) (f : Fr) (r : Bs) : (e.at r).frame f = At3 (e.frame f) r := by
  unfold En.frame
  split
  · exact e.headF_at f r
  · split
    · exact e.pieceF_at f r
    · split
      · exact e.resetF_at f r
      · split
        · rw [e.creditF_at f r]; rfl
        · split
          · rfl
          · split <;> rfl
theorem En.frames_at : ∀ (l : List Fr) (e : En) (r : Bs), (e.at r).frames l = ((e.frames l).1, (e.frames l).2.at r)
  | [], e, r => rfl
  | f :: l, e, r => by
    rw [En.frames, En.frames, e.frame_at f r]
    show (if e.down ≠ 0 then _ else _) = _
    by_cases h : e.down ≠ 0
    · rw [if_pos h, if_pos h]
    · rw [if_neg h, if_neg h]
      have := En.frames_at l { (e.frame f).2.2 with down := (e.frame f).2.1 } r
      show ((e.frame f).1 ++ (En.frames ({ (e.frame f).2.2 with down := (e.frame f).2.1 }.at r) l).1, (En.frames ({ (e.frame f).2.2 with down := (e.frame f).2.1 }.at r) l).2) = _
      rw [this]
theorem En.falls_down (e : En) : e.falls.down = e.down := by
  unfold En.falls
  split <;> rfl
theorem En.feed_down (e : En) (b : Bs) (h : e.down ≠ 0) : e.feed b = ([], e) := by unfold En.feed; rw [if_pos h]
theorem En.feed_eq (e : En) (b : Bs) (hd : e.down = 0) (B : List Fr × Nat × Bs) (hB : Lk.all (e.rest ++ b) = B) :
    e.feed b = ((e.frames B.1).1, En.falls (if (e.frames B.1).2.down = 0 then { (e.frames B.1).2.at B.2.2 with down := B.2.1 } else (e.frames B.1).2.at B.2.2)) := by
  unfold En.feed
  rw [if_neg (by rw [hd]; simp), hB]
  have := e.frames_at B.1 B.2.2
  show ((En.frames (e.at B.2.2) B.1).1, En.falls (if (En.frames (e.at B.2.2) B.1).2.down = 0 then { (En.frames (e.at B.2.2) B.1).2 with down := B.2.1 } else (En.frames (e.at B.2.2) B.1).2)) = _
  rw [this]
  rfl
end Go.Proofs.YtbkpdapagfjmmaaGreatDoor.Lk
