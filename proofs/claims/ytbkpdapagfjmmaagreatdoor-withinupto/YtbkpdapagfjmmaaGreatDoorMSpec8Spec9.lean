import Derived.Test.YtbkpdapagfjmmaaGreatDoorMSpec7N2
/-
  Plain mathematics of the document: no end sends more than there is credit for. Imports nothing of the program.
-/
namespace Go.Proofs.YtbkpdapagfjmmaaGreatDoor.Lk

/-- What a frame that comes gives: to all streams together, to stream m of its own. -/
def gainAll (f : Fr) : Int := if f.k = 4 ∧ f.st = 0 then (numOf f.d : Int) else 0
def gainOwn (side : Nat) (f : Fr) (m : Nat) : Int := if f.k = 4 ∧ f.st = 2 * m + 1 + side then (numOf f.d : Int) else 0
theorem gainAll_nn (f : Fr) : 0 ≤ gainAll f := by unfold gainAll; split <;> omega
theorem gainOwn_nn (side : Nat) (f : Fr) (m : Nat) : 0 ≤ gainOwn side f m := by unfold gainOwn; split <;> omega

/-- The tallies A (of all streams) and t (of each) are no less than the end's credits. -/
structure Covers (e : En) (A : Int) (t : Nat → Int) : Prop where
  all : (e.all : Int) ≤ A
  own : ∀ m o, e.own[m]? = some o → (o.cr : Int) ≤ t m
  new : ∀ m, e.own.length ≤ m → (e.win : Int) ≤ t m

theorem Covers.same {e e' : En} {A : Int} {t : Nat → Int} (h : Covers e A t) (h1 : e'.all = e.all) (h2 : e'.own = e.own) (h3 : e'.win = e.win) : Covers e' A t :=
  ⟨by rw [h1]; exact h.all, by rw [h2]; exact h.own, by rw [h2, h3]; exact h.new⟩
theorem Covers.mono {e : En} {A A' : Int} {t t' : Nat → Int} (h : Covers e A t) (hA : A ≤ A') (ht : ∀ m, t m ≤ t' m) : Covers e A' t' :=
  ⟨by have := h.all; omega, fun m o ho => by have := h.own m o ho; have := ht m; omega, fun m hm => by have := h.new m hm; have := ht m; omega⟩
theorem Covers.setOwn {e : En} {A : Int} {t : Nat → Int} (h : Covers e A t) {i : Nat} {x : Ow} {A' : Int} {t' : Nat → Int} {a tu : Nat} (hA : (a : Int) ≤ A') (hx : (x.cr : Int) ≤ t' i) (ht : ∀ m, m ≠ i → t m ≤ t' m) (hi : i < e.own.length) : Covers ({ e with own := e.own.set i x, all := a, turn := tu } : En) A' t' := by
  refine ⟨hA, fun m o ho => ?_, fun m hm => ?_⟩
  · rcases set_get ho with ⟨rfl, rfl, _⟩ | ⟨hm, ho⟩
    · exact hx
    · have := h.own m o ho
      have := ht m hm
      omega
  · simp only [List.length_set] at hm
    have := h.new m hm
    have := ht m (by omega)
    show (e.win : Int) ≤ t' m
    omega
theorem back_same (e : En) (n : Nat) : (e.back n).all = e.all ∧ (e.back n).own = e.own ∧ (e.back n).win = e.win := by
  unfold En.back
  split <;> exact ⟨rfl, rfl, rfl⟩

theorem lt_of_get {α : Type} {l : List α} {i : Nat} {o : α} (h : l[i]? = some o) : i < l.length := (List.getElem?_eq_some_iff.1 h).1

theorem frame_covers {e : En} {A : Int} {t : Nat → Int} (hw : Wf e) (h : Covers e A t) (f : Fr) : Covers (e.frame f).2.2 (A + gainAll f) (fun m => t m + gainOwn e.side f m) := by
  have up : ∀ {e' : En}, Covers e' A t → Covers e' (A + gainAll f) (fun m => t m + gainOwn e.side f m) := fun h' => h'.mono (by have := gainAll_nn f; omega) (fun m => by have := gainOwn_nn e.side f m; omega)
  unfold En.frame
  split
  · apply up
    unfold En.headF
    split
    · exact h
    · cases exR 100 f.d 6 e.inn 0 with
      | err a b => exact h
      | ok hs L =>
        simp only
        split
        · exact h.same rfl rfl rfl
        · exact h.same rfl rfl rfl
  · split
    · apply up
      unfold En.pieceF
      cases (othIx e.oth f.st).bind fun i => (e.oth[i]?).map fun o => (i, o) with
      | none => exact h
      | some p =>
        obtain ⟨i, o⟩ := p
        simp only
        split
        · exact h
        · split
          · exact h
          · split
            · exact h.same rfl rfl rfl
            · have q := back_same ({ e with oth := e.oth.set i { o with cr := o.cr - f.d.length, drp := decide (f.k ≠ 2) }, room := e.room - f.d.length } : En) f.d.length
              exact h.same q.1 q.2.1 q.2.2
    · split
      · apply up
        unfold En.resetF
        cases hx : (ownIx e.own f.st).bind fun i => (e.own[i]?).map fun o => (i, o) with
        | some p =>
          obtain ⟨i, o⟩ := p
          obtain ⟨_, ho⟩ := bind_map_some hx
          simp only at ho ⊢
          split
          · exact h
          · exact h.setOwn (x := { o with done := true }) (tu := e.turn) h.all (h.own i o ho) (fun _ _ => Int.le_refl _) (lt_of_get ho)
        | none =>
          simp only
          cases (othIx e.oth f.st).bind fun i => (e.oth[i]?).map fun o => (i, o) with
          | none => exact h
          | some p =>
            obtain ⟨i, o⟩ := p
            simp only
            split
            · have q := back_same ({ e with oth := e.oth.set i { o with opn := false, held := 0 } } : En) o.held
              exact h.same q.1 q.2.1 q.2.2
            · exact h.same rfl rfl rfl
      · split
        · rename_i hk
          unfold En.creditF
          split
          · rename_i hs
            split
            · exact up h
            · have hg : gainAll f = numOf f.d := by unfold gainAll; rw [if_pos ⟨hk, hs⟩]
              refine ⟨?_, ?_, ?_⟩
              · have := h.all
                rw [hg]
                show ((e.all + numOf f.d : Nat) : Int) ≤ _
                omega
              · intro m o ho
                have := h.own m o ho
                have := gainOwn_nn e.side f m
                omega
              · intro m hm
                have := h.new m hm
                have := gainOwn_nn e.side f m
                show (e.win : Int) ≤ t m + gainOwn e.side f m
                omega
          · cases hx : (ownIx e.own f.st).bind fun i => (e.own[i]?).map fun o => (i, o) with
            | none => exact up h
            | some p =>
              obtain ⟨i, o⟩ := p
              obtain ⟨hi, ho⟩ := bind_map_some hx
              simp only at hi ho ⊢
              split
              · exact up h
              · split
                · exact up h
                · obtain ⟨o', ho', hid⟩ := ownIx_some hi
                  have e0 : o' = o := by rw [ho] at ho'; exact (Option.some.inj ho').symm
                  subst e0
                  have hid2 := (hw.own i o' ho).id
                  have hg : gainOwn e.side f i = numOf f.d := by unfold gainOwn; rw [if_pos ⟨hk, by omega⟩]
                  have hc := h.own i o' ho
                  refine h.setOwn (x := { o' with cr := o'.cr + numOf f.d }) (tu := e.turn) ?_ ?_ ?_ (lt_of_get ho)
                  · have := h.all
                    have := gainAll_nn f
                    omega
                  · rw [hg]
                    simp only
                    omega
                  · intro m _
                    have := gainOwn_nn e.side f m
                    omega
        · split
          · exact up (h.same rfl rfl rfl)
          · split
            · exact up h
            · exact up (h.same rfl rfl rfl)

theorem back_side (e : En) (n : Nat) : (e.back n).side = e.side := by unfold En.back; split <;> rfl
theorem frame_side (e : En) (f : Fr) : (e.frame f).2.2.side = e.side := by
  unfold En.frame
  split
  · unfold En.headF
    split
    · rfl
    · cases exR 100 f.d 6 e.inn 0 with
      | err a b => rfl
      | ok hs L => simp only; split <;> rfl
  · split
    · unfold En.pieceF
      cases (othIx e.oth f.st).bind fun i => (e.oth[i]?).map fun o => (i, o) with
      | none => rfl
      | some p =>
        simp only
        split
        · rfl
        · split
          · rfl
          · split
            · rfl
            · exact back_side _ _
    · split
      · unfold En.resetF
        cases (ownIx e.own f.st).bind fun i => (e.own[i]?).map fun o => (i, o) with
        | some p => simp only; split <;> rfl
        | none =>
          simp only
          cases (othIx e.oth f.st).bind fun i => (e.oth[i]?).map fun o => (i, o) with
          | none => rfl
          | some p =>
            simp only
            split
            · exact back_side _ _
            · rfl
      · split
        · unfold En.creditF
          split
          · split <;> rfl
          · cases (ownIx e.own f.st).bind fun i => (e.own[i]?).map fun o => (i, o) with
            | none => rfl
            | some p =>
              simp only
              split
              · rfl
              · split <;> rfl
        · split
          · rfl
          · split <;> rfl

def gainsAll (l : List Fr) : Int := (l.map gainAll).sum
def gainsOwn (side : Nat) (l : List Fr) (m : Nat) : Int := (l.map fun f => gainOwn side f m).sum
theorem gainsAll_nn (l : List Fr) : 0 ≤ gainsAll l := by
  unfold gainsAll
  induction l with
  | nil => simp
  | cons f l ih => have := gainAll_nn f; simp; omega
theorem gainsOwn_nn (side : Nat) (l : List Fr) (m : Nat) : 0 ≤ gainsOwn side l m := by
  unfold gainsOwn
  induction l with
  | nil => simp
  | cons f l ih => have := gainOwn_nn side f m; simp; omega

theorem frames_covers : ∀ (l : List Fr) {e : En} {A : Int} {t : Nat → Int}, Wf e → (∀ f ∈ l, Good f.k f.st f.d) → Covers e A t → Covers (e.frames l).2 (A + gainsAll l) (fun m => t m + gainsOwn e.side l m)
  | [], e, A, t, _, _, h => by simpa [gainsAll, gainsOwn, En.frames] using h
  | f :: l, e, A, t, hw, hg, h => by
    rw [En.frames]
    split
    · exact h.mono (by have := gainsAll_nn (f :: l); omega) (fun m => by have := gainsOwn_nn e.side (f :: l) m; omega)
    · have h1 := frame_covers hw h f
      have hw1 := (hw.frame (hg f (by simp))).withDown (e.frame f).2.1
      have h2 : Covers ({ (e.frame f).2.2 with down := (e.frame f).2.1 } : En) (A + gainAll f) (fun m => t m + gainOwn e.side f m) := h1.same rfl rfl rfl
      have h3 := frames_covers l hw1 (fun g hg' => hg g (by simp [hg'])) h2
      have hs : ({ (e.frame f).2.2 with down := (e.frame f).2.1 } : En).side = e.side := frame_side e f
      refine h3.mono ?_ ?_
      · simp [gainsAll]; omega
      · intro m
        have hm : gainsOwn ({ (e.frame f).2.2 with down := (e.frame f).2.1 } : En).side l m = gainsOwn e.side l m := congrArg (fun s => gainsOwn s l m) hs
        rw [hm]
        simp [gainsOwn]
        omega

theorem submit_covers {e : En} {A : Int} {t : Nat → Int} (h : Covers e A t) (l : List Hd) (body : Bs) : Covers (e.submitC l body).2 A t := by
  unfold En.submitC
  split
  · exact h
  · split
    · exact h
    · split
      · exact h
      · split
        · exact h
        · split
          · exact h
          · refine ⟨h.all, fun m o ho => ?_, fun m hm => ?_⟩
            · show (o.cr : Int) ≤ t m
              have ho : (e.own ++ [⟨e.nextId, body, e.win, false⟩])[m]? = some o := ho
              rw [List.getElem?_append] at ho
              split at ho
              · exact h.own m o ho
              · rename_i hi
                have hi0 : m = e.own.length := by
                  have := (List.getElem?_eq_some_iff.1 ho).1
                  simp at this
                  omega
                subst hi0
                simp at ho
                subst ho
                exact h.new _ (Nat.le_refl _)
            · have hm : (e.own ++ [(⟨e.nextId, body, e.win, false⟩ : Ow)]).length ≤ m := hm
              rw [List.length_append] at hm
              exact h.new m (by simp at hm; omega)

/-- What a frame that is sent takes. -/
def paid (f : Fr) : Int := if f.k = 1 ∨ f.k = 2 then (f.d.length : Int) else 0
def paidOwn (side : Nat) (f : Fr) (m : Nat) : Int := if (f.k = 1 ∨ f.k = 2) ∧ f.st = 2 * m + 1 + side then (f.d.length : Int) else 0
/-- Frames that are sent keep within the tallies. -/
def Pays (side n : Nat) : Int → (Nat → Int) → List Fr → Prop
  | _, _, [] => True
  | A, t, f :: l => ((f.k = 1 ∨ f.k = 2) → (∃ m, m < n ∧ f.st = 2 * m + 1 + side ∧ 0 ≤ t m - f.d.length) ∧ 0 ≤ A - f.d.length) ∧ Pays side n (A - paid f) (fun m => t m - paidOwn side f m) l
def paidAll (l : List Fr) : Int := (l.map paid).sum
def paidsOwn (side : Nat) (l : List Fr) (m : Nat) : Int := (l.map fun f => paidOwn side f m).sum

theorem drain1_covers {e e' : En} {s : Bs} {A : Int} {t : Nat → Int} (hw : Wf e) (h : Covers e A t) (hd : e.drain1 = some (s, e')) :
    ∃ f : Fr, s = f.pack ∧ Good f.k f.st f.d ∧ ((f.k = 1 ∨ f.k = 2) → (∃ m, m < e.own.length ∧ f.st = 2 * m + 1 + e.side ∧ 0 ≤ t m - f.d.length) ∧ 0 ≤ A - f.d.length) ∧ Covers e' (A - paid f) (fun m => t m - paidOwn e.side f m) ∧ e'.side = e.side ∧ e'.own.length = e.own.length := by
  unfold En.drain1 at hd
  cases hr : e.row with
  | cons x r =>
    rw [hr] at hd
    cases hd
    obtain ⟨fs, h1, h2⟩ := hw.row
    rw [hr] at h1
    cases fs with
    | nil => cases h1
    | cons f fs =>
      simp at h1
      obtain ⟨rfl, rfl⟩ := h1
      obtain ⟨g1, g2, g3⟩ := h2 f (by simp)
      refine ⟨f, rfl, g1, fun hk => by omega, ?_, rfl, rfl⟩
      have p0 : paid f = 0 := by unfold paid; rw [if_neg (by omega)]
      have p1 : ∀ m, paidOwn e.side f m = 0 := fun m => by unfold paidOwn; rw [if_neg (by omega)]
      rw [p0]
      refine Covers.mono (A := A) (t := t) (h.same rfl rfl rfl) (by omega) (fun m => ?_)
      rw [p1]
      omega
  | nil =>
    rw [hr] at hd
    simp only at hd
    split at hd
    · cases hd
    · cases hn : e.next with
      | none => rw [hn] at hd; cases hd
      | some i =>
        obtain ⟨o, ho, hm⟩ := next_may hn
        rw [hn] at hd
        simp only at hd
        rw [ho] at hd
        simp only at hd
        cases hd
        have q := hw.own i o ho
        have hl := most_le e o
        have ha := h.all
        have hc := h.own i o ho
        have hlen : (e.bodyFr o).d.length = e.most o := by unfold En.bodyFr; simp only [List.length_take]; omega
        have hkk : (e.bodyFr o).k = 1 ∨ (e.bodyFr o).k = 2 := by unfold En.bodyFr; simp only; split <;> omega
        have hst : (e.bodyFr o).st = 2 * i + 1 + e.side := q.id
        have p0 : paid (e.bodyFr o) = e.most o := by unfold paid; rw [if_pos hkk, hlen]
        have p1 : paidOwn e.side (e.bodyFr o) i = e.most o := by unfold paidOwn; rw [if_pos ⟨hkk, hst⟩, hlen]
        have p2 : ∀ m, m ≠ i → paidOwn e.side (e.bodyFr o) m = 0 := fun m hm => by unfold paidOwn; rw [if_neg (by omega)]
        refine ⟨e.bodyFr o, rfl, good_body hm (by have := q.id; omega) q.id28, fun _ => ⟨⟨i, lt_of_get ho, hst, by rw [hlen]; omega⟩, by rw [hlen]; omega⟩, ?_, rfl, by simp⟩
        refine h.setOwn (x := ⟨o.id, o.left.drop (e.most o), o.cr - e.most o, o.done || decide (e.most o = o.left.length)⟩) ?_ ?_ ?_ (lt_of_get ho)
        · rw [p0]; omega
        · rw [p1]; simp only; omega
        · intro m hm
          rw [p2 m hm]
          omega

/-- Whatever is drained keeps within the tallies. -/
theorem drain_covers : ∀ (n : Nat) {e : En} {A : Int} {t : Nat → Int}, Wf e → Covers e A t → ∃ fs : List Fr, (En.drain n e).1 = packAll fs ∧ (∀ f ∈ fs, Good f.k f.st f.d) ∧ Pays e.side e.own.length A t fs ∧ Covers (En.drain n e).2 (A - paidAll fs) (fun m => t m - paidsOwn e.side fs m)
  | 0, e, A, t, _, h => ⟨[], rfl, by simp, trivial, by simpa [paidAll, paidsOwn, En.drain] using h⟩
  | n + 1, e, A, t, hw, h => by
    rw [En.drain]
    cases hd : e.drain1 with
    | none => exact ⟨[], rfl, by simp, trivial, by simpa [paidAll, paidsOwn] using h⟩
    | some p =>
      obtain ⟨s, e'⟩ := p
      obtain ⟨f, rfl, hg, hp, hc, hs, hn⟩ := drain1_covers hw h hd
      obtain ⟨fs, h1, h2, h3, h4⟩ := drain_covers n (hw.drain1 hd).1 hc
      rw [hs, hn] at h3
      rw [hs] at h4
      refine ⟨f :: fs, ?_, ?_, ⟨hp, h3⟩, ?_⟩
      · simp only
        rw [h1]
        simp [packAll, Fr.pack]
      · intro g hg'
        rcases List.mem_cons.1 hg' with rfl | hg'
        · exact hg
        · exact h2 g hg'
      · simp only
        refine h4.mono ?_ ?_
        · simp [paidAll]; omega
        · intro m
          simp [paidsOwn]
          omega
end Go.Proofs.YtbkpdapagfjmmaaGreatDoor.Lk

/-
  Plain mathematics of the document: two ends that belong together: what holds between them. Imports nothing of the program.
-/
namespace Go.Proofs.YtbkpdapagfjmmaaGreatDoor.Lk

/-- A frame that is about a stream's body. -/
def Fr.body (f : Fr) : Prop := f.k = 1 ∨ f.k = 2
instance (f : Fr) : Decidable f.body := by unfold Fr.body; infer_instance
/-- What is on its way of a stream's body. -/
def bodyOn (id : Nat) (f : Fr) : Bs := if f.body ∧ f.st = id then f.d else []
def flight (Q : List Fr) (id : Nat) : Bs := Q.flatMap (bodyOn id)
def bodyLen (f : Fr) : Nat := if f.body then f.d.length else 0
def flightAll (Q : List Fr) : Nat := (Q.map bodyLen).sum
/-- The credits on their way. -/
def credIn (id : Nat) (f : Fr) : Nat := if f.k = 4 ∧ f.st = id then numOf f.d else 0
def credOn (R : List Fr) (id : Nat) : Nat := (R.map (credIn id)).sum

theorem flight_append (x y : List Fr) (id : Nat) : flight (x ++ y) id = flight x id ++ flight y id := by simp [flight]
theorem flight_cons (f : Fr) (y : List Fr) (id : Nat) : flight (f :: y) id = bodyOn id f ++ flight y id := by simp [flight]
theorem flightAll_append (x y : List Fr) : flightAll (x ++ y) = flightAll x + flightAll y := by simp [flightAll]
theorem flightAll_cons (f : Fr) (y : List Fr) : flightAll (f :: y) = bodyLen f + flightAll y := by simp [flightAll]
theorem credOn_append (x y : List Fr) (id : Nat) : credOn (x ++ y) id = credOn x id + credOn y id := by simp [credOn]
theorem credOn_cons (f : Fr) (y : List Fr) (id : Nat) : credOn (f :: y) id = credIn id f + credOn y id := by simp [credOn]
theorem bodyOn_none {f : Fr} (h : ¬ f.body) (id : Nat) : bodyOn id f = [] := by unfold bodyOn; rw [if_neg (fun x => h x.1)]
theorem bodyOn_other {f : Fr} {id : Nat} (h : f.st ≠ id) : bodyOn id f = [] := by unfold bodyOn; rw [if_neg (fun x => h x.2)]
theorem bodyOn_it {f : Fr} (h : f.body) : bodyOn f.st f = f.d := by unfold bodyOn; rw [if_pos ⟨h, rfl⟩]
theorem bodyLen_none {f : Fr} (h : ¬ f.body) : bodyLen f = 0 := by unfold bodyLen; rw [if_neg h]
theorem bodyLen_it {f : Fr} (h : f.body) : bodyLen f = f.d.length := by unfold bodyLen; rw [if_pos h]
theorem bodyOn_len (f : Fr) (id : Nat) : (bodyOn id f).length ≤ bodyLen f := by
  unfold bodyOn bodyLen
  split
  · rename_i h; rw [if_pos h.1]; exact Nat.le_refl _
  · simp
theorem credIn_none {f : Fr} (h : f.k ≠ 4) (id : Nat) : credIn id f = 0 := by unfold credIn; rw [if_neg (fun x => h x.1)]
theorem credIn_other {f : Fr} {id : Nat} (h : f.st ≠ id) : credIn id f = 0 := by unfold credIn; rw [if_neg (fun x => h x.2)]
theorem credIn_it {f : Fr} (h : f.k = 4) : credIn f.st f = numOf f.d := by unfold credIn; rw [if_pos ⟨h, rfl⟩]

/-- The heads on the way begin the streams n, n + 1, .. up to m; what is about a stream's body, or a reset of it, comes behind its head. -/
def Heads (s : Nat) : Nat → List Fr → Nat → Prop
  | n, [], m => n = m
  | n, f :: l, m => if f.k = 0 then f.st = 2 * n + 1 + s ∧ Heads s (n + 1) l m
    else ((f.k = 1 ∨ f.k = 2 ∨ (f.k = 3 ∧ f.st % 2 = (1 + s) % 2)) → ∃ i, i < n ∧ f.st = 2 * i + 1 + s) ∧ Heads s n l m

theorem Heads.le {s : Nat} : ∀ {Q : List Fr} {n m : Nat}, Heads s n Q m → n ≤ m
  | [], n, m, h => Nat.le_of_eq h
  | f :: l, n, m, h => by
    rw [Heads] at h
    split at h
    · have := Heads.le h.2; omega
    · exact Heads.le h.2
theorem Heads.append {s : Nat} : ∀ {Q P : List Fr} {n k m : Nat}, Heads s n Q k → Heads s k P m → Heads s n (Q ++ P) m
  | [], P, n, k, m, h, h2 => by rw [Heads] at h; subst h; exact h2
  | f :: l, P, n, k, m, h, h2 => by
    rw [List.cons_append]
    rw [Heads] at h ⊢
    split at h
    · rename_i hk
      rw [if_pos hk]
      exact ⟨h.1, Heads.append h.2 h2⟩
    · rename_i hk
      rw [if_neg hk]
      exact ⟨h.1, Heads.append h.2 h2⟩
/-- A frame that begins no stream comes behind. -/
theorem Heads.push {s n m : Nat} {Q : List Fr} {f : Fr} (h : Heads s n Q m) (hk : f.k ≠ 0) (hf : (f.k = 1 ∨ f.k = 2 ∨ (f.k = 3 ∧ f.st % 2 = (1 + s) % 2)) → ∃ i, i < m ∧ f.st = 2 * i + 1 + s) : Heads s n (Q ++ [f]) m := by
  refine h.append (k := m) ?_
  rw [Heads, if_neg hk]
  exact ⟨hf, rfl⟩
theorem Heads.pushHead {s n m : Nat} {Q : List Fr} {f : Fr} (h : Heads s n Q m) (hk : f.k = 0) (hf : f.st = 2 * m + 1 + s) : Heads s n (Q ++ [f]) (m + 1) := by
  refine h.append (k := m) ?_
  rw [Heads, if_pos hk]
  exact ⟨hf, rfl⟩
/-- No frame on the way is of a stream that is not begun yet. -/
theorem Heads.old {s : Nat} : ∀ {Q : List Fr} {n m : Nat}, Heads s n Q m → ∀ f ∈ Q, (f.k = 0 ∨ f.k = 1 ∨ f.k = 2 ∨ (f.k = 3 ∧ f.st % 2 = (1 + s) % 2)) → ∃ i, i < m ∧ f.st = 2 * i + 1 + s
  | [], n, m, h, f, hf, _ => by simp at hf
  | g :: l, n, m, h, f, hf, hk => by
    rw [Heads] at h
    have hle : n ≤ m := by
      split at h
      · have := Heads.le h.2; omega
      · exact Heads.le h.2
    rcases List.mem_cons.1 hf with rfl | hf
    · split at h
      · have hl := Heads.le h.2
        exact ⟨n, by omega, h.1⟩
      · rename_i h0
        rcases hk with hk | hk
        · exact absurd hk h0
        · obtain ⟨i, hi, e⟩ := h.1 hk
          exact ⟨i, Nat.lt_of_lt_of_le hi hle, e⟩
    · split at h
      · exact Heads.old h.2 f hf hk
      · exact Heads.old h.2 f hf hk

/-- What the heads on the way bring: these headers, and the table that the other end has. -/
def Chain : List Hd → List Fr → List (List Hd) → List Hd → Prop
  | inn, [], H, out => H = [] ∧ inn = out
  | inn, f :: l, H, out => if f.k = 0 then ∃ hs H' L, H = hs :: H' ∧ exR 100 f.d 6 inn 0 = .ok hs L ∧ Chain L l H' out else Chain inn l H out
theorem Chain.push {out : List Hd} {f : Fr} (hk : f.k ≠ 0) : ∀ {Q : List Fr} {inn : List Hd} {H : List (List Hd)}, Chain inn Q H out → Chain inn (Q ++ [f]) H out
  | [], inn, H, h => by
    rw [List.nil_append, Chain, if_neg hk]
    exact h
  | g :: l, inn, H, h => by
    rw [List.cons_append]
    rw [Chain] at h ⊢
    split at h
    · rename_i h0
      rw [if_pos h0]
      obtain ⟨hs, H', L, e, hx, hc⟩ := h
      exact ⟨hs, H', L, e, hx, Chain.push hk hc⟩
    · rename_i h0
      rw [if_neg h0]
      exact Chain.push hk h
theorem Chain.pushHead {out out' hs : List Hd} {f : Fr} (hk : f.k = 0) (hx : exR 100 f.d 6 out 0 = .ok hs out') : ∀ {Q : List Fr} {inn : List Hd} {H : List (List Hd)}, Chain inn Q H out → Chain inn (Q ++ [f]) (H ++ [hs]) out'
  | [], inn, H, h => by
    rw [Chain] at h
    obtain ⟨rfl, rfl⟩ := h
    rw [List.nil_append, List.nil_append, Chain, if_pos hk]
    exact ⟨hs, [], out', rfl, hx, rfl, rfl⟩
  | g :: l, inn, H, h => by
    rw [List.cons_append]
    rw [Chain] at h ⊢
    split at h
    · rename_i h0
      rw [if_pos h0]
      obtain ⟨hs', H', L, rfl, hx', hc⟩ := h
      exact ⟨hs', H' ++ [hs], L, rfl, hx', Chain.pushHead hk hx hc⟩
    · rename_i h0
      rw [if_neg h0]
      exact Chain.pushHead hk hx h

/-- Behind the end of a stream, or a reset of it, nothing of it comes. -/
def Ends (id : Nat) : List Fr → Prop
  | [] => True
  | f :: l => (f.st = id ∧ (f.k = 2 ∨ f.k = 3) → ∀ g ∈ l, g.st = id → g.k ≠ 1 ∧ g.k ≠ 2 ∧ g.k ≠ 3) ∧ Ends id l
theorem Ends.push {id : Nat} {f : Fr} (hf : f.st = id → f.k ≠ 1 ∧ f.k ≠ 2 ∧ f.k ≠ 3) : ∀ {Q : List Fr}, Ends id Q → Ends id (Q ++ [f])
  | [], _ => ⟨fun _ g hg => by simp at hg, trivial⟩
  | g :: l, h => ⟨fun hg x hx => by
      rcases List.mem_append.1 hx with hx | hx
      · exact h.1 hg x hx
      · simp at hx
        subst hx
        exact hf, Ends.push hf h.2⟩
/-- Where neither its end nor a reset of it is on the way, anything may come. -/
theorem Ends.pushNew {id : Nat} {f : Fr} : ∀ {Q : List Fr}, Ends id Q → (∀ g ∈ Q, g.st = id → g.k ≠ 2 ∧ g.k ≠ 3) → Ends id (Q ++ [f])
  | [], _, _ => ⟨fun _ g hg => by simp at hg, trivial⟩
  | g :: l, h, hn => ⟨fun hg x hx => by
      have := hn g (by simp) hg.1
      omega, Ends.pushNew h.2 (fun x hx => hn x (by simp [hx]))⟩
theorem Ends.new {id : Nat} : ∀ {Q : List Fr}, (∀ g ∈ Q, g.st = id → g.k ≠ 2 ∧ g.k ≠ 3) → Ends id Q
  | [], _ => trivial
  | g :: l, hn => ⟨fun hg => by have := hn g (by simp) hg.1; omega, Ends.new (fun x hx => hn x (by simp [hx]))⟩

def crOf (w : Nat) : Option Ot → Nat
  | some p => p.cr
  | none => w
/-- What holds between an end a and the end b that it sends to, of the streams of a: Q is on its way from a to b, R from b to a; H: the headers of each stream, bd: its body, told: what b was told of it. -/
structure Dir (a b : En) (Q R : List Fr) (H : List (List Hd)) (bd told : Nat → Bs) : Prop where
  len : H.length = a.own.length
  heads : Heads a.side b.oth.length Q a.own.length
  chain : Chain b.inn Q (H.drop b.oth.length) a.out
  cr : ∀ (i : Nat) (o : Ow), a.own[i]? = some o → o.cr + (flight Q o.id).length + credOn R o.id ≤ crOf a.win b.oth[i]?
  all : a.all + flightAll Q + credOn R 0 ≤ b.room
  ends : ∀ (i : Nat) (o : Ow), a.own[i]? = some o → Ends o.id Q
  busy : ∀ (i : Nat) (o : Ow), a.own[i]? = some o → o.done = false → ∀ f ∈ Q, f.st = o.id → f.k ≠ 2 ∧ f.k ≠ 3
  shut : ∀ (i : Nat) (p : Ot), b.oth[i]? = some p → p.opn = false → p.drp = false → ∀ f ∈ Q, f.st = p.id → f.k ≠ 1 ∧ f.k ≠ 2
  fin : ∀ (i : Nat) (o : Ow) (p : Ot), a.own[i]? = some o → b.oth[i]? = some p → p.opn = false → p.drp = false → o.done = true
  cred : ∀ f ∈ R, f.k = 4 → 1 ≤ numOf f.d ∧ (f.st = 0 ∨ ∃ i, i < a.own.length ∧ f.st = 2 * i + 1 + a.side)
  rst : ∀ f ∈ R, f.k = 3 → f.st % 2 = (1 + a.side) % 2 → ∃ i, i < a.own.length ∧ f.st = 2 * i + 1 + a.side
  body : ∀ (i : Nat) (o : Ow), a.own[i]? = some o → match b.oth[i]? with
    | none => told i = [] ∧ bd i = flight Q o.id ++ o.left
    | some p => if p.opn then bd i = told i ++ (flight Q o.id ++ o.left) else told i <+: bd i
  last : ∀ (i : Nat) (o : Ow), a.own[i]? = some o → (∃ f ∈ Q, f.k = 2 ∧ f.st = o.id) → o.left = []
  sides : a.side + b.side = 1
  wins : a.win = b.win
end Go.Proofs.YtbkpdapagfjmmaaGreatDoor.Lk
