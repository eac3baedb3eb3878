import Derived.Test.YtbkpdapagfjmmaaGreatDoorMPMPO
/-
  Walks: Consume, of an end that is not down.
-/
namespace Go.Proofs.YtbkpdapagfjmmaaGreatDoor
open Go.RowKit

theorem Live.drew {w : World} {b : Nat} {e : Lk.En} {d : PD} (h : Live w b e d) : Live w.drew b e d := h.only ((Only.refl (fun _ => False) w).drew) (fun _ _ h => h)
theorem LPost.undrew {w w' : World} {b : Nat} {e : Lk.En} {d : PD} (h : LPost w.drew b d e w') : LPost w b d e w' := by
  obtain ⟨d', h1, h2, h3⟩ := h
  exact ⟨d', h1, h2, h3.undrew⟩

theorem othIx_none {l : List Lk.Ot} {k : Int} (h : Lk.othIx l k = none) : ∀ (i : Nat) (o : Lk.Ot), l[i]? = some o → (o.id : Int) ≠ k := by
  intro i o ho e
  unfold Lk.othIx at h
  rw [List.findIdx?_eq_none_iff] at h
  have := h o (List.mem_of_getElem? ho)
  simp [e] at this
theorem good_append {fs gs : List Lk.Fr} (h : ∀ f ∈ fs, Lk.Good f.k f.st f.d) (h' : ∀ f ∈ gs, Lk.Good f.k f.st f.d) : ∀ f ∈ fs ++ gs, Lk.Good f.k f.st f.d := by
  intro f hf
  rcases List.mem_append.1 hf with hf | hf
  · exact h f hf
  · exact h' f hf

theorem consumed (b : Nat) (e : Lk.En) (d : PD) (k n : Int) (w : World) (hL : Live w b e d) (hdn : e.down = 0) (hk : I64 k) (hn : 1 ≤ n) :
    Calls Tryz.prog 68 #[.pointer (some ⟨b, 11, none⟩), .int .i64 k, .int .i64 n, putV b] w fun r w' => r = .returned (.int .i64 ((e.consumeC k n).1 : Int)) ∧ LPost w b d (e.consumeC k n).2 w' := by
  have c17 : w.cell? ⟨b, 17, none⟩ = some (.map (some d.mb)) := hL.rw.blk.cell 17
  have hC := Lk.Wf.consumeC hL.wf k n
  unfold Lk.En.consumeC at hC ⊢
  rw [if_neg (by rw [hdn]; simp), if_neg (by omega)] at hC ⊢
  cases hix : Lk.othIx e.oth k with
  | none =>
    refine (consumeIn_none b d.mb d.mn d.ins k n w hL.rw.lt c17 hL.map hk (hL.none k (othIx_none hix))).mono ?_
    rintro r w' ⟨rfl, rfl⟩
    exact ⟨rfl, LPost.same hL⟩
  | some i =>
    rw [hix] at hC
    obtain ⟨o, ho, hid⟩ := Lk.othIx_some hix
    simp only [ho] at hC ⊢
    have hOk := hL.wf.oth i o ho
    have hoth := hL.oths i o ho
    by_cases hfew : (o.held : Int) < n
    · rw [if_pos hfew]
      cases hp : d.ins o.id with
      | none =>
        refine (consumeIn_none b d.mb d.mn d.ins k n w hL.rw.lt c17 hL.map hk (by rw [← hid]; exact hp)).mono ?_
        rintro r w' ⟨rfl, rfl⟩
        exact ⟨rfl, LPost.same hL⟩
      | some p =>
        obtain ⟨_, cr, cut, hI, _⟩ := hoth.some hp
        refine (consumeIn_few b d.mb d.mn p o.held d.ins k n cr cut _ w hL.rw.lt c17 hL.map hk (by rw [← hid]; exact hp) hI hfew).mono ?_
        rintro r w' ⟨rfl, rfl⟩
        exact ⟨rfl, LPost.same hL⟩
    · rw [if_neg hfew] at hC ⊢
      obtain ⟨m, rfl⟩ := Int.eq_ofNat_of_zero_le (by omega : 0 ≤ n)
      simp only [Int.toNat_natCast] at hC ⊢
      have hm : m ≤ o.held := by omega
      have hm1 : 1 ≤ m := by omega
      have hheld := hL.wf.held ho
      have hdrp : o.drp = false := by
        cases hx : o.drp with
        | false => rfl
        | true => have := hOk.drp hx; omega
      obtain ⟨p, hp⟩ : ∃ p, d.ins o.id = some p := by
        cases hp : d.ins o.id with
        | some p => exact ⟨p, rfl⟩
        | none =>
          have := hoth.none hp
          simp at this
          omega
      obtain ⟨_, cr, cut, hI, hcc⟩ := hoth.some hp
      have hroom : e.room ≤ 400 := by have := hL.wf.room; have := hL.wf.win2; omega
      have hwin := hL.wf.win2
      have hcrb := hOk.cr
      rw [hdrp] at hI hcc
      simp only [Bool.or_false] at hI hcc
      rw [← hid]
      refine (consumeIn_yes b d.mb d.mn p o.held e.room m o.id cr d.ins cut (!o.opn) (ecOf e d) d.fs w hL.rw rfl rfl hL.map hOk.id28 hp hI hm (by omega) (by omega) (fun hx => by
        have := hcc (by simpa using hx)
        omega)).mono ?_
      rintro r w' ⟨rfl, rs', hrs, hI', hR', hM', hO'⟩
      refine ⟨rfl, ?_⟩
      refine hL.inOp (o' := o.eat m) ho rfl hR' (hO'.mono (fun x hx => ?_)) (rs' := rs') (mn' := d.mn) ?_ ?_ ?_ ?_ ?_ ?_ ?_ hC hrs hM' hL.mn ?_ ?_ ?_
      · rcases hx with hx | hx | hx | hx
        · exact .inl hx
        · exact .inr (.inl hx)
        · exact .inr (.inr (.inl hx))
        · exact .inr (.inr (.inr (hx ▸ hp)))
      · cases hop : o.opn <;> simp [ecOf, Lk.En.send, nextOth, Lk.En.nextId]
      · cases hop : o.opn <;> rfl
      · cases hop : o.opn <;> rfl
      · cases hop : o.opn <;> rfl
      · cases hop : o.opn <;> rfl
      · cases hop : o.opn <;> simp [Lk.En.send, hL.rowe, eatF, Lk.Fr.pack]
      · refine good_append hL.good (fun f hf => ?_)
        unfold eatF at hf
        rcases List.mem_cons.1 hf with hf | hf
        · subst hf; exact Lk.good_credit 0 m (by omega) (by omega)
        · split at hf
          · simp at hf
          · simp at hf
            subst hf
            exact Lk.good_credit o.id m hOk.id28 (by omega)
      · unfold OthIs eatIns
        show match (if (!o.opn) = true ∧ o.held - m = 0 then (fun x => if x = (o.id : Int) then none else d.ins x) else d.ins) (o.id : Int) with | some p => _ | none => _
        cases hop : o.opn with
        | true =>
          rw [if_neg (by simp), hp]
          rw [hop] at hI' hcc
          refine ⟨by simp [Lk.Ot.eat, hop], _, cut, by simpa [Lk.Ot.eat, hop] using hI', fun _ => ?_⟩
          have := hcc rfl
          simp [Lk.Ot.eat, hop, eatCr, this.1, hdrp, this.2]
        | false =>
          rw [hop] at hI'
          by_cases h0 : o.held - m = 0
          · rw [if_pos ⟨by simp, h0⟩]
            simp [Lk.Ot.eat, hop, hdrp]
            omega
          · rw [if_neg (fun h => h0 h.2), hp]
            refine ⟨by simp [Lk.Ot.eat, hop, hdrp]; omega, _, cut, by simpa [Lk.Ot.eat, hop, hdrp] using hI', fun hx => ?_⟩
            simp [Lk.Ot.eat, hop, hdrp] at hx
      · intro x hx
        unfold eatIns
        split
        · simp [hx]
        · rfl
      · intro q hq
        unfold eatIns at hq
        split at hq
        · simp at hq
        · exact hq

theorem consume_any (b : Nat) (e : Lk.En) (d : PD) (k n : Int) (w : World) (hL : Live w b e d) (hdn : e.down = 0) (hk : I64 k) :
    Calls Tryz.prog 31 #[.pointer (some ⟨b, 0, none⟩), .int .i64 k, .int .i64 n] w fun r w' => r = .returned (.int .i64 ((e.consumeC k n).1 : Int)) ∧ LPost w b d (e.consumeC k n).2 w' := by
  have c2 : w.cell? ⟨b, 2, none⟩ = some (.int .i64 0) := hL.c2 hdn
  by_cases hn : n < 1
  · refine (consume_range b k n w hL.rw.lt c2 hn).mono ?_
    rintro r w' ⟨rfl, rfl⟩
    unfold Lk.En.consumeC
    rw [if_neg (by rw [hdn]; simp), if_pos hn]
    exact ⟨rfl, LPost.same hL⟩
  · refine consume_call b k n w hL.rw.lt c2 hn _ ?_
    refine (consumed b e d k n w.drew hL.drew hdn hk (by omega)).mono ?_
    rintro r w' ⟨rfl, h⟩
    exact ⟨⟨_, rfl⟩, rfl, h.undrew⟩
end Go.Proofs.YtbkpdapagfjmmaaGreatDoor

/-
  Streams of its own, among all that ever were: plain lists; one of them turns.
-/
namespace Go.Proofs.YtbkpdapagfjmmaaGreatDoor
open Go.RowKit

def upL (l : List Lk.Ow) : List Lk.Ow := l.filter fun o => !o.done
def posL (l : List Lk.Ow) (i : Nat) : Nat := (upL (l.take i)).length
theorem upL_cons (x : Lk.Ow) (l : List Lk.Ow) : upL (x :: l) = if x.done then upL l else x :: upL l := by
  unfold upL
  cases h : x.done <;> simp [h]
theorem posL_cons (x : Lk.Ow) (l : List Lk.Ow) (i : Nat) : posL (x :: l) (i + 1) = posL l i + if x.done then 0 else 1 := by
  unfold posL
  rw [List.take_succ_cons, upL_cons]
  cases h : x.done <;> simp
theorem posL_zero (l : List Lk.Ow) : posL l 0 = 0 := by simp [posL, upL]

theorem up_get : ∀ (l : List Lk.Ow) (i : Nat) (o : Lk.Ow), l[i]? = some o → o.done = false → (upL l)[posL l i]? = some o
  | [], i, o, h, _ => by simp at h
  | x :: l, 0, o, h, hd => by
    simp at h
    subst h
    rw [upL_cons, posL_zero, hd]
    simp
  | x :: l, i + 1, o, h, hd => by
    have ih := up_get l i o (by simpa using h) hd
    rw [upL_cons, posL_cons]
    cases hx : x.done <;> simp [ih]
theorem up_set_done : ∀ (l : List Lk.Ow) (i : Nat) (o x : Lk.Ow), l[i]? = some o → o.done = false → x.done = true → upL (l.set i x) = (upL l).eraseIdx (posL l i)
  | [], i, o, x, h, _, _ => by simp at h
  | y :: l, 0, o, x, h, hd, hx => by
    simp at h
    subst h
    rw [List.set_cons_zero, upL_cons, upL_cons, posL_zero, hd, hx]
    simp
  | y :: l, i + 1, o, x, h, hd, hx => by
    have ih := up_set_done l i o x (by simpa using h) hd hx
    rw [List.set_cons_succ, upL_cons, upL_cons, posL_cons, ih]
    cases hy : y.done <;> simp
theorem up_set_up : ∀ (l : List Lk.Ow) (i : Nat) (o x : Lk.Ow), l[i]? = some o → o.done = false → x.done = false → upL (l.set i x) = (upL l).set (posL l i) x
  | [], i, o, x, h, _, _ => by simp at h
  | y :: l, 0, o, x, h, hd, hx => by
    simp at h
    subst h
    rw [List.set_cons_zero, upL_cons, upL_cons, posL_zero, hd, hx]
    simp
  | y :: l, i + 1, o, x, h, hd, hx => by
    have ih := up_set_up l i o x (by simpa using h) hd hx
    rw [List.set_cons_succ, upL_cons, upL_cons, posL_cons, ih]
    cases hy : y.done <;> simp
theorem up_find (f : Lk.Ow → Bool) : ∀ (l : List Lk.Ow), (upL l).findIdx? f = (l.findIdx? fun o => !o.done && f o).map (posL l)
  | [] => rfl
  | x :: l => by
    have ih := up_find f l
    rw [upL_cons, List.findIdx?_cons]
    cases hx : x.done with
    | true =>
      simp only [if_true, Bool.not_true, Bool.false_and, Bool.false_eq_true, if_false]
      rw [ih, Option.map_map]
      congr 1
      funext i
      simp [posL_cons, hx]
    | false =>
      simp only [Bool.false_eq_true, if_false, Bool.not_false, Bool.true_and]
      rw [List.findIdx?_cons]
      cases hf : f x with
      | true => simp [posL_zero]
      | false =>
        simp only [Bool.false_eq_true, if_false]
        rw [ih, Option.map_map, Option.map_map]
        congr 1
        funext i
        simp [posL_cons, hx]

/-- No two streams of its own have one number. -/
theorem own_id {e : Lk.En} (hw : Lk.Wf e) {i j : Nat} {o x : Lk.Ow} (ho : e.own[i]? = some o) (hx : e.own[j]? = some x) (h : x.id = o.id) : j = i := by
  have h1 := (hw.own i o ho).id
  have h2 := (hw.own j x hx).id
  omega
theorem up_mem {l : List Lk.Ow} {j : Nat} {o : Lk.Ow} (h : (upL l)[j]? = some o) : ∃ i, l[i]? = some o ∧ o.done = false ∧ posL l i = j := by
  induction l generalizing j with
  | nil => simp [upL] at h
  | cons x l ih =>
    rw [upL_cons] at h
    cases hx : x.done with
    | true =>
      rw [hx] at h
      obtain ⟨i, h1, h2, h3⟩ := ih (by simpa using h)
      exact ⟨i + 1, by simpa using h1, h2, by rw [posL_cons, hx, h3]; rfl⟩
    | false =>
      rw [hx] at h
      cases j with
      | zero =>
        simp at h
        subst h
        exact ⟨0, rfl, hx, posL_zero _⟩
      | succ j =>
        obtain ⟨i, h1, h2, h3⟩ := ih (by simpa using h)
        exact ⟨i + 1, by simpa using h1, h2, by rw [posL_cons, hx, h3]; rfl⟩
theorem up_apart {e : Lk.En} (hw : Lk.Wf e) : Apart (upOwn e) := by
  intro a b x y hx hy h
  obtain ⟨i, h1, _, h3⟩ := up_mem (l := e.own) hx
  obtain ⟨j, h4, _, h6⟩ := up_mem (l := e.own) hy
  have := own_id hw h4 h1 h
  subst this
  omega
/-- What 'Reset' and a reset that came look for among its own streams. -/
theorem up_own {e : Lk.En} (hw : Lk.Wf e) (k : Int) : (upOwn e).findIdx? (isId k) = ((Lk.ownIx e.own k).bind fun i => (e.own[i]?).bind fun o => if o.done then none else some (i, o)).map fun p => posL e.own p.1 := by
  have h := up_find (isId k) e.own
  show (upL e.own).findIdx? (isId k) = _
  rw [h]
  cases hix : Lk.ownIx e.own k with
  | none =>
    have : (e.own.findIdx? fun o => !o.done && isId k o) = none := by
      rw [List.findIdx?_eq_none_iff]
      intro x hx
      unfold Lk.ownIx at hix
      rw [List.findIdx?_eq_none_iff] at hix
      have := hix x hx
      simp at this
      simp [isId, this]
    rw [this]
    rfl
  | some i =>
    obtain ⟨o, ho, hid⟩ := Lk.ownIx_some hix
    obtain ⟨hil, _, hbefore⟩ := List.findIdx?_eq_some_iff_getElem.1 hix
    simp only [Option.bind_some, ho]
    cases hd : o.done with
    | true =>
      have : (e.own.findIdx? fun o => !o.done && isId k o) = none := by
        rw [List.findIdx?_eq_none_iff]
        intro x hx
        obtain ⟨j, hj⟩ := List.getElem?_of_mem hx
        cases hk : isId k x with
        | false => simp
        | true =>
          unfold isId at hk
          have := own_id hw ho hj (by simp at hk; omega)
          subst this
          rw [ho] at hj
          cases hj
          simp [hd]
      rw [this]
      rfl
    | false =>
      have : (e.own.findIdx? fun o => !o.done && isId k o) = some i := by
        rw [List.findIdx?_eq_some_iff_getElem]
        refine ⟨hil, ?_, fun j hj => ?_⟩
        · have : e.own[i] = o := by rw [List.getElem?_eq_getElem hil] at ho; cases ho; rfl
          rw [this, hd]
          simp [isId, hid]
        · have := hbefore j hj
          simp at this
          simp [isId, this]
      rw [this]
      rfl

/-- The end's own streams have turned, its own cells, its row. -/
theorem Live.outOp {w w' : World} {b : Nat} {e e' : Lk.En} {d : PD} {c' : EC} {fs' : List Lk.Fr} {rs' ps' : List Nat} {sv' ov' : Value} (h : Live w b e d) (hR : Rw w' b c' fs') (hO : Only (fun x => x = b ∨ x ∈ d.rs ∨ d.sv.ownBlock = some x ∨ x ∈ d.ps) w w')
    (hc : c' = ecOf e' { d with rs := rs', fs := fs', ps := ps', sv := sv', ov := ov' }) (h2 : e'.oth = e.oth) (h4 : e'.inn = e.inn) (hrow : e'.row = fs'.map Lk.Fr.pack) (hg : ∀ f ∈ fs', Lk.Good f.k f.st f.d) (hw : Lk.Wf e') (hp : ∀ x ∈ rs', x ∈ d.rs ∨ w.heap.size ≤ x)
    (hsl : w'.ownsRow 0 169 1 sv' ps'.length (ps'.map ptr)) (hsv : ∀ x, sv'.ownBlock = some x → d.sv.ownBlock = some x ∨ w.heap.size ≤ x) (hov : w'.ownsRow 0 112 2 ov' e'.out.length (hdsV e'.out)) (hovb : ∀ x, ov'.ownBlock = some x → d.ov.ownBlock = some x ∨ w.heap.size ≤ x)
    (hout : Outs w' (upOwn e') ps') (hnd : ps'.Nodup) (hps : ∀ x ∈ ps', x ∈ d.ps ∨ w.heap.size ≤ x) (h4s : ps'.length ≤ 4) : LPost w b d e' w' := by
  have hs := h.sepRow
  have hsepO : ∀ x, (d.sv.ownBlock = some x ∨ x ∈ d.ps) → d.iv.ownBlock ≠ some x ∧ x ≠ d.mb ∧ ∀ k, d.ins k ≠ some x := by
    intro x hx
    have hI : (∃ c, Is w x 169 c) ∨ (∃ c, Is w x 173 c) := by
      rcases hx with hx | hx
      · left
        rcases h.sl.2 with ⟨h0, _⟩ | ⟨g, cap, cur, h0, _, hg, _⟩
        · rw [h0] at hx; simp [Value.ownBlock] at hx
        · rw [h0] at hx
          simp [Value.ownBlock] at hx
          subst hx
          exact ⟨cur.toList, by unfold Is; simpa using hg⟩
      · obtain ⟨o, hy⟩ := h.outs.mem hx; exact .inr ⟨_, hy⟩
    refine ⟨fun e => ?_, fun e => ?_, fun k hk => ?_⟩
    · rcases hI with ⟨c, hI⟩ | ⟨c, hI⟩ <;> exact own_ne h.inn hI (Nat.ne_of_beq_eq_false rfl) e.symm
    · rcases hI with ⟨c, hI⟩ | ⟨c, hI⟩ <;> exact h.map.ne hI e.symm
    · obtain ⟨_, _, _, _, _, _, hy, _⟩ := h.inAt hk
      rcases hI with ⟨c, hI⟩ | ⟨c, hI⟩ <;> exact hI.ne hy (Nat.ne_of_beq_eq_false rfl) rfl
  have hf : ∀ x, foot b { d with rs := rs', fs := fs', ps := ps', sv := sv', ov := ov' } x → foot b d x ∨ w.heap.size ≤ x := by
    intro x hx
    rcases hx with hx | hx | hx | hx | hx | hx | hx | hx
    · exact .inl (.inl hx)
    · exact (hovb x hx).imp (fun h => .inr (.inl h)) id
    · exact .inl (.inr (.inr (.inl hx)))
    · exact (hsv x hx).imp (fun h => .inr (.inr (.inr (.inl h)))) id
    · exact (hps x hx).imp (fun h => .inr (.inr (.inr (.inr (.inl h))))) id
    · exact (hp x hx).imp (fun h => .inr (.inr (.inr (.inr (.inr (.inl h)))))) id
    · exact .inl (.inr (.inr (.inr (.inr (.inr (.inr (.inl hx)))))))
    · exact .inl (.inr (.inr (.inr (.inr (.inr (.inr (.inr hx)))))))
  refine ⟨{ d with rs := rs', fs := fs', ps := ps', sv := sv', ov := ov' }, ⟨by rw [← hc]; exact hR, hrow, hg, hov, ?_, hsl, hout, hnd, h4s, ?_, by rw [h2]; exact h.mn, ?_, by rw [h2]; exact h.none, h.inj, hw, ?_⟩, hf, hO.mono (fun x hx => ?_)⟩
  · rw [h4]
    refine own_only h.inn hO (fun i hi hx => ?_)
    rcases hx with hx | hx | hx | hx
    · exact (hs i (.inl hx)).2.1 hi
    · exact (hs i (.inr hx)).2.1 hi
    · exact (hsepO i (.inl hx)).1 hi
    · exact (hsepO i (.inr hx)).1 hi
  · refine h.map.only hO (fun hx => ?_)
    rcases hx with hx | hx | hx | hx
    · exact (hs _ (.inl hx)).2.2.2.2.1 rfl
    · exact (hs _ (.inr hx)).2.2.2.2.1 rfl
    · exact (hsepO _ (.inl hx)).2.1 rfl
    · exact (hsepO _ (.inr hx)).2.1 rfl
  · rw [h2]
    refine fun i o ho => (h.oths i o ho).only hO (fun p hp hx => ?_)
    rcases hx with hx | hx | hx | hx
    · exact (hs p (.inl hx)).2.2.2.2.2 _ hp
    · exact (hs p (.inr hx)).2.2.2.2.2 _ hp
    · exact (hsepO p (.inl hx)).2.2 _ hp
    · exact (hsepO p (.inr hx)).2.2 _ hp
  · intro x hx
    rcases hf x hx with h' | h'
    · exact h.pos x h'
    · have := h.pos b (.inl rfl)
      have := h.rw.lt
      omega
  · rcases hx with hx | hx | hx | hx
    · exact .inl hx
    · exact .inr (.inr (.inr (.inr (.inr (.inl hx)))))
    · exact .inr (.inr (.inr (.inl hx)))
    · exact .inr (.inr (.inr (.inr (.inl hx))))
end Go.Proofs.YtbkpdapagfjmmaaGreatDoor

/-
  Walks: a stream of its own is dropped, one of the other end is cut: of an end that is not down.
-/
namespace Go.Proofs.YtbkpdapagfjmmaaGreatDoor
open Go.RowKit

theorem LPost.trans {w w1 w2 : World} {b : Nat} {d : PD} {e1 e2 : Lk.En} {d1 : PD} (_h1 : Live w1 b e1 d1) (hf : ∀ i, foot b d1 i → foot b d i ∨ w.heap.size ≤ i) (hO : Only (foot b d) w w1) (h2 : LPost w1 b d1 e2 w2) : LPost w b d e2 w2 := by
  obtain ⟨d2, h3, h4, h5⟩ := h2
  refine ⟨d2, h3, fun i hi => ?_, hO.trans h5 (fun i hi hlt => ?_)⟩
  · rcases h4 i hi with h | h
    · exact hf i h
    · exact .inr (Nat.le_trans hO.size h)
  · rcases hf i hi with h | h
    · exact h
    · omega
theorem nodup_drop {R : Option Nat} {ps : List Nat} (h : ps.Nodup) : (dropL R ps).Nodup := by
  cases R with
  | none => exact h
  | some i => exact h.sublist (List.eraseIdx_sublist ps i)
theorem mem_drop {R : Option Nat} {ps : List Nat} {x : Nat} (h : x ∈ dropL R ps) : x ∈ ps := by
  cases R with
  | none => exact h
  | some i => exact List.mem_of_mem_eraseIdx h
theorem len_drop {R : Option Nat} {ps : List Nat} : (dropL R ps).length ≤ ps.length := by
  cases R with
  | none => exact Nat.le_refl _
  | some i => exact (List.eraseIdx_sublist ps i).length_le

/-- What is found among its own streams that are not finished. -/
def Lk.En.upAt (e : Lk.En) (k : Int) : Option (Nat × Lk.Ow) := (Lk.ownIx e.own k).bind fun i => (e.own[i]?).bind fun o => if o.done then none else some (i, o)
def Lk.En.dropped (e : Lk.En) (k : Int) : Lk.En := match e.upAt k with
  | some (i, o) => { e with own := e.own.set i { o with done := true } }
  | none => e
theorem Lk.En.upAt_some {e : Lk.En} {k : Int} {i : Nat} {o : Lk.Ow} (h : e.upAt k = some (i, o)) : e.own[i]? = some o ∧ o.done = false ∧ (o.id : Int) = k := by
  unfold Lk.En.upAt at h
  cases hx : Lk.ownIx e.own k with
  | none => rw [hx] at h; cases h
  | some j =>
    rw [hx] at h
    obtain ⟨x, hxo, hid⟩ := Lk.ownIx_some hx
    simp only [Option.bind_some, hxo] at h
    cases hd : x.done with
    | true => rw [hd] at h; simp at h
    | false =>
      rw [hd] at h
      simp at h
      obtain ⟨rfl, rfl⟩ := h
      exact ⟨hxo, hd, hid⟩
theorem Wf.dropped {e : Lk.En} (h : Lk.Wf e) (k : Int) : Lk.Wf (e.dropped k) := by
  unfold Lk.En.dropped
  cases hx : e.upAt k with
  | none => exact h
  | some p =>
    obtain ⟨i, o⟩ := p
    obtain ⟨ho, _, _⟩ := Lk.En.upAt_some hx
    have hk := h.own i o ho
    exact h.setOwn (x := { o with done := true }) ho rfl hk.left hk.cr h.all (a := e.all) (t := e.turn)

theorem drop_live (b : Nat) (e : Lk.En) (d : PD) (k : Int) (w : World) (hL : Live w b e d) :
    Calls Tryz.prog 75 #[.pointer (some ⟨b, 3, none⟩), .int .i64 k] w fun r w' => r = .returned (.bool (e.upAt k).isSome) ∧ LPost w b d (e.dropped k) w' := by
  have hup := up_own hL.wf k
  have h4 := hL.ps4
  refine (drop_any b 0 101 (ecOf e d).cells d.sv (upOwn e) d.ps k _ w hL.rw.blk (Nat.ne_of_beq_eq_false rfl) (Nat.ne_of_beq_eq_false rfl) rfl hL.outs hL.sl (by omega) (up_apart hL.wf) hup).mono ?_
  rintro r w' ⟨rfl, v', hI, ho, hv, hO, hOn⟩
  have hfoot : ∀ x, v'.ownBlock = some x → d.sv.ownBlock = some x ∨ w.heap.size ≤ x := fun x hx => .inl (hv ▸ hx)
  have hrow : ∀ r ∈ d.rs, ¬ (r = b ∨ some r = d.sv.ownBlock) := fun r hr hx => by
    rcases hx with hx | hx
    · subst hx; exact hL.rw.notIn hr
    · exact (hL.sepRow r (.inr hr)).2.2.1 hx.symm
  have hR : Rw w' b { ecOf e d with sv := v' } d.fs := ⟨hI, hL.rw.row.only hOn hrow⟩
  have hout : w'.ownsRow 0 112 2 d.ov e.out.length (hdsV e.out) := own_only hL.out hOn (fun i hi hx => by
    rcases hx with hx | hx
    · exact (hL.sepRow i (.inl hx)).1 hi
    · rcases own_own_ne hL.out hL.sl (Nat.ne_of_beq_eq_false rfl) with h | h
      · rw [h] at hi; cases hi
      · exact h (hi.trans hx))
  have hOn' : Only (fun x => x = b ∨ x ∈ d.rs ∨ d.sv.ownBlock = some x ∨ x ∈ d.ps) w w' := hOn.mono (fun x hx => by
    rcases hx with hx | hx
    · exact .inl hx
    · exact .inr (.inr (.inl hx.symm)))
  have hW := Wf.dropped hL.wf k
  refine ⟨?_, ?_⟩
  · rw [Option.isSome_map]
    rfl
  · unfold Lk.En.dropped at hW ⊢
    show LPost w b d (match e.upAt k with | some (i, o) => _ | none => _) w'
    cases hx : e.upAt k with
    | none =>
      rw [hx] at hW
      have hx' : ((Lk.ownIx e.own k).bind fun i => (e.own[i]?).bind fun o => if o.done then none else some (i, o)) = none := hx
      rw [hx'] at ho
      refine hL.outOp hR hOn' (ps' := d.ps) (sv' := v') (ov' := d.ov) (rs' := d.rs) rfl rfl rfl hL.rowe hL.good hW (fun x hx => .inl hx) ho hfoot hout (fun x hx => .inl hx) hO hL.psn (fun x hx => .inl hx) hL.ps4
    | some p =>
      obtain ⟨i, o⟩ := p
      rw [hx] at hW
      have hx' : ((Lk.ownIx e.own k).bind fun i => (e.own[i]?).bind fun o => if o.done then none else some (i, o)) = some (i, o) := hx
      rw [hx'] at ho
      obtain ⟨hoi, hd, _⟩ := Lk.En.upAt_some hx
      have hu : upOwn { e with own := e.own.set i { o with done := true } } = (upOwn e).eraseIdx (posL e.own i) := up_set_done e.own i o { o with done := true } hoi hd rfl
      refine hL.outOp (e' := { e with own := e.own.set i { o with done := true } }) hR hOn' (ps' := d.ps.eraseIdx (posL e.own i)) (sv' := v') (ov' := d.ov) (rs' := d.rs) ?_ rfl rfl hL.rowe hL.good hW (fun x hx => .inl hx) ho hfoot hout (fun x hx => .inl hx) ?_ (nodup_drop (R := some _) hL.psn) (fun x hx => .inl (mem_drop (R := some _) hx)) (Nat.le_trans (len_drop (R := some _)) hL.ps4)
      · simp [ecOf, Lk.En.nextId, nextOth]
      · rw [hu]
        exact hO.drop (some (posL e.own i))

theorem back_row (e : Lk.En) (n : Nat) : (e.back n).row = e.row ++ (backF n).map Lk.Fr.pack := by
  unfold Lk.En.back backF
  split
  · simp [Lk.En.send, Lk.Fr.pack]
  · simp
theorem back_room (e : Lk.En) (n : Nat) : (e.back n).room = e.room + n := by
  unfold Lk.En.back
  split
  · rfl
  · show e.room = _; omega
theorem back_rest (e : Lk.En) (n : Nat) : (e.back n).own = e.own ∧ (e.back n).oth = e.oth ∧ (e.back n).out = e.out ∧ (e.back n).inn = e.inn ∧ (e.back n).down = e.down ∧ (e.back n).rest = e.rest ∧ (e.back n).win = e.win ∧ (e.back n).side = e.side ∧ (e.back n).turn = e.turn ∧ (e.back n).all = e.all ∧ (e.back n).byeS = e.byeS ∧ (e.back n).byeC = e.byeC := by
  unfold Lk.En.back
  split <;> exact ⟨rfl, rfl, rfl, rfl, rfl, rfl, rfl, rfl, rfl, rfl, rfl, rfl⟩
theorem ecOf_back (e : Lk.En) (d : PD) (n : Nat) : ecOf (e.back n) d = { ecOf e d with icr := ((e.room + n : Nat) : Int) } := by
  obtain ⟨h1, h2, h3, h4, h5, h6, h7, h8, h9, h10, h11, h12⟩ := back_rest e n
  have h13 := back_room e n
  simp only [ecOf, h2, h3, h4, h5, h6, h7, h8, h9, h10, h11, h12, h13, Lk.En.nextId, nextOth, h1]

/-- The reset of an open stream of the other end, as the document has it. -/
def Lk.En.cutE (e : Lk.En) (i : Nat) (o : Lk.Ot) (code : Nat) : Lk.En := (({ e with oth := e.oth.set i { o with opn := false, drp := true, held := 0 } } : Lk.En).send 3 o.id (Lk.wire code)).back o.held
theorem cut_live (b i p code : Nat) (e : Lk.En) (d : PD) (o : Lk.Ot) (w : World) (hL : Live w b e d) (ho : e.oth[i]? = some o) (hop : o.opn = true) (hp : d.ins o.id = some p) (hc : code ≤ 268435455) (hW : Lk.Wf (e.cutE i o code)) :
    Calls Tryz.prog 119 #[.pointer (some ⟨b, 0, none⟩), .int .i64 (o.id : Int), .pointer (some ⟨p, 0, none⟩), .int .i64 (code : Int)] w fun r w' => r = .returned (.tuple #[]) ∧ LPost w b d (e.cutE i o code) w' := by
  obtain ⟨_, cr, cut, hI, hcc⟩ := (hL.oths i o ho).some hp
  have hOk := hL.wf.oth i o ho
  have hdrp := hOk.two hop
  have hheld := hL.wf.held ho
  have hroom : e.room ≤ 400 := by have := hL.wf.room; have := hL.wf.win2; omega
  have hcc' := hcc (by simp [hop])
  have hid1 : 0 < o.id := by have := hOk.id; have := hL.wf.side; omega
  refine (cut_raw b p e.room o.held o.id code cr cut _ (ecOf e d) d.fs w hL.rw rfl hI (by omega) (by omega) hc).mono ?_
  rintro r w' ⟨rfl, rs', hrs, hI', hR', hO'⟩
  refine ⟨rfl, hL.inOp (o' := { o with opn := false, drp := true, held := 0 }) ho rfl hR' (hO'.mono (fun x hx => ?_)) (rs' := rs') (mn' := d.mn) (ins' := d.ins) ?_ ?_ ?_ ?_ ?_ ?_ ?_ hW hrs ?_ hL.mn ?_ (fun k _ => rfl) (fun q hq => hq)⟩
  · rcases hx with hx | hx | hx
    · exact .inl hx
    · exact .inr (.inr (.inr (hx ▸ hp)))
    · exact .inr (.inl hx)
  · unfold Lk.En.cutE
    rw [ecOf_back]
    simp [ecOf, Lk.En.send, nextOth, Lk.En.nextId]
  · exact (back_rest _ _).1
  · exact (back_rest _ _).2.1
  · exact (back_rest _ _).2.2.1
  · exact (back_rest _ _).2.2.2.1
  · unfold Lk.En.cutE
    rw [back_row]
    simp [Lk.En.send, hL.rowe, cutF, Lk.Fr.pack]
  · refine good_append hL.good (fun f hf => ?_)
    unfold cutF backF at hf
    rcases List.mem_cons.1 hf with hf | hf
    · subst hf; exact Lk.good_reset o.id code hid1 hOk.id28 hc
    · split at hf
      · simp at hf
        subst hf
        exact Lk.good_credit 0 o.held (by omega) (by omega)
      · simp at hf
  · refine hL.map.only hO' (fun hx => ?_)
    rcases hx with hx | hx | hx
    · exact (hL.sepRow _ (.inl hx)).2.2.2.2.1 rfl
    · exact hL.map.ne hI hx
    · exact (hL.sepRow _ (.inr hx)).2.2.2.2.1 rfl
  · unfold OthIs
    show match d.ins (o.id : Int) with | some p => _ | none => _
    rw [hp]
    refine ⟨by simp, cr, true, ?_, fun _ => ⟨hcc'.1, rfl⟩⟩
    simpa [hop] using hI'
end Go.Proofs.YtbkpdapagfjmmaaGreatDoor
