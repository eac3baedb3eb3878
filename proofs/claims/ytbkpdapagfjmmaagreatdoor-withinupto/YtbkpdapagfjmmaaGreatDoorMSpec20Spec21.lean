import Derived.Test.YtbkpdapagfjmmaaGreatDoorMSpec16Spec19
import Derived.Test.YtbkpdapagfjmmaaGreatDoorMSpec8Spec9
/-
  Plain mathematics of the document: how much an end has to send. Imports nothing of the program.
-/
namespace Go.Proofs.YtbkpdapagfjmmaaGreatDoor.Lk

theorem sum_set {α : Type} (f : α → Nat) : ∀ (l : List α) (i : Nat) (o x : α), l[i]? = some o → ((l.set i x).map f).sum + f o = (l.map f).sum + f x
  | [], i, o, x, h => by simp at h
  | y :: l, 0, o, x, h => by
    simp at h
    subst h
    simp
    omega
  | y :: l, i + 1, o, x, h => by
    have := sum_set f l i o x (by simpa using h)
    simp at this ⊢
    omega
theorem packed_len (k st : Int) (d : Bs) : (packed k st d).length = 1 + (wire st.toNat).length + (wire d.length).length + d.length := by
  unfold packed
  simp
  omega
theorem pack_len (f : Fr) : f.pack.length = 1 + (wire f.st).length + (wire f.d.length).length + f.d.length := by
  unfold Fr.pack
  rw [packed_len]
  simp

def rowLen (l : List Bs) : Nat := (l.map List.length).sum
def oweO (o : Ow) : Nat := if o.done then 0 else 7 * o.left.length + 6
def potO (o : Ot) : Nat := if o.opn = true ∧ 0 < o.held then 1 else 0
/-- What an end has to send, in bytes, at the most. -/
def En.mass (e : En) : Nat := rowLen e.row + (e.own.map oweO).sum + (e.oth.map potO).sum
/-- Streams that were reset at once. -/
def En.gr (e : En) : Nat := if e.byeS then e.oth.length else 0
theorem rowLen_append (a b : List Bs) : rowLen (a ++ b) = rowLen a + rowLen b := by simp [rowLen]
theorem rowLen_one (s : Bs) : rowLen [s] = s.length := by simp [rowLen]
theorem send_mass (e : En) (k st : Nat) (d : Bs) : (e.send k st d).mass = e.mass + (packed k st d).length := by
  unfold En.send En.mass
  simp only [rowLen_append, rowLen_one]
  omega
theorem num_len (k st n : Nat) (hn : n ≤ 268435455) : (packed k st (wire n)).length = 2 + (wire st).length + (wire n).length := by
  rw [packed_len, wire_len1 (wire n).length (by have := wire_len_le4 n hn; omega)]
  simp
  omega
theorem num_len_le (k st n : Nat) (hs : st ≤ 268435455) (hn : n ≤ 268435455) : (packed k st (wire n)).length ≤ 10 := by
  rw [num_len k st n hn]
  have := wire_len_le4 n hn
  have := wire_len_le4 st hs
  omega
theorem back_mass (e : En) (n : Nat) (hn : n ≤ 200) : (e.back n).mass ≤ e.mass + (if 0 < n then 3 + (wire n).length else 0) := by
  unfold En.back
  split
  · rw [send_mass]
    have := num_len 4 0 n (by omega)
    have h0 := wire_len1 0 (by omega)
    rw [this, h0]
    show e.mass + _ ≤ _
    omega
  · simp
theorem back_oth (e : En) (n : Nat) : (e.back n).oth = e.oth := by unfold En.back; split <;> rfl

theorem frame_mass {e : En} (hw : Wf e) {f : Fr} (hg : Good f.k f.st f.d) : (e.frame f).2.2.mass + e.gr ≤ e.mass + f.pack.length + (if e.byeS then (e.frame f).2.2.oth.length else 0) := by
  have hp := pack_len f
  have hp1 := wire_len_pos f.st
  have hp2 := wire_len_pos f.d.length
  have hgr : e.gr ≤ (if e.byeS then e.oth.length else 0) := Nat.le_refl _
  have same : ∀ e' : En, e'.mass ≤ e.mass + f.pack.length → e'.oth.length = e.oth.length → e'.mass + e.gr ≤ e.mass + f.pack.length + (if e.byeS then e'.oth.length else 0) := by
    intro e' h1 h2
    rw [h2]
    omega
  unfold En.frame
  split
  · unfold En.headF
    split
    · exact same e (by omega) rfl
    · split
      · exact same e (by omega) rfl
      · split
        · rename_i hs L hx hb
          rw [send_mass]
          show rowLen e.row + (e.own.map oweO).sum + ((e.oth ++ [(⟨f.st, e.win, 0, false, true⟩ : Ot)]).map potO).sum + _ + e.gr ≤ _ + (e.oth ++ [(⟨f.st, e.win, 0, false, true⟩ : Ot)]).length
          have hn := num_len 3 f.st 0 (by omega)
          have h0 := wire_len1 0 (by omega)
          rw [hn, h0, hp]
          unfold En.gr En.mass
          rw [if_pos hb, List.map_append, List.sum_append, List.length_append]
          have : ([(⟨f.st, e.win, 0, false, true⟩ : Ot)].map potO).sum = 0 := by simp [potO]
          rw [this]
          simp
          omega
        · rename_i hs L hx hb
          unfold En.gr
          rw [if_neg hb]
          show rowLen e.row + (e.own.map oweO).sum + ((e.oth ++ [(⟨f.st, e.win, 0, true, false⟩ : Ot)]).map potO).sum + 0 ≤ _
          have : ([(⟨f.st, e.win, 0, true, false⟩ : Ot)].map potO).sum = 0 := by simp [potO]
          rw [List.map_append, List.sum_append, this]
          unfold En.mass
          omega
  · split
    · rename_i hk
      have hgl : f.d.length ≤ 16 := by
        have := hg.length
        rcases hk with hk | hk <;> rw [hk] at this <;> simp [lengthFits] at this <;> omega
      unfold En.pieceF
      split
      · exact same e (by omega) rfl
      · rename_i i o hx
        obtain ⟨_, ho⟩ := bind_map_some hx
        split
        · exact same e (by omega) rfl
        · split
          · exact same e (by omega) rfl
          · split
            · refine same _ ?_ (by simp)
              have := sum_set potO e.oth i o { o with cr := o.cr - f.d.length, held := o.held + f.d.length, opn := decide (f.k ≠ 2), drp := o.drp && decide (f.k ≠ 2) } ho
              have h1 : potO { o with cr := o.cr - f.d.length, held := o.held + f.d.length, opn := decide (f.k ≠ 2), drp := o.drp && decide (f.k ≠ 2) } ≤ 1 := by unfold potO; split <;> omega
              unfold En.mass
              simp only
              omega
            · rename_i hop
              refine same _ ?_ (by rw [back_oth]; simp)
              dsimp only
              have := sum_set potO e.oth i o { o with cr := o.cr - f.d.length, drp := decide (f.k ≠ 2) } ho
              have h1 : potO { o with cr := o.cr - f.d.length, drp := decide (f.k ≠ 2) } = potO o := rfl
              have hb := back_mass ({ e with oth := e.oth.set i { o with cr := o.cr - f.d.length, drp := decide (f.k ≠ 2) }, room := e.room - f.d.length } : En) f.d.length (by omega)
              have hm : ({ e with oth := e.oth.set i { o with cr := o.cr - f.d.length, drp := decide (f.k ≠ 2) }, room := e.room - f.d.length } : En).mass = e.mass := by
                unfold En.mass
                simp only
                omega
              have hwl : (wire f.d.length).length = 1 := wire_len1 _ (by omega)
              rw [hm] at hb
              split at hb <;> omega
    · split
      · rename_i hk
        have hgl : 1 ≤ f.d.length := by
          have := hg.length
          rw [hk] at this
          simp [lengthFits] at this
          omega
        unfold En.resetF
        split
        · rename_i i o hx
          obtain ⟨_, ho⟩ := bind_map_some hx
          split
          · exact same e (by omega) rfl
          · refine same _ ?_ rfl
            have := sum_set oweO e.own i o { o with done := true } ho
            have h1 : oweO { o with done := true } = 0 := rfl
            unfold En.mass
            simp only
            omega
        · split
          · exact same e (by omega) rfl
          · rename_i i o hx
            obtain ⟨_, ho⟩ := bind_map_some hx
            split
            · rename_i hop
              refine same _ ?_ (by rw [back_oth]; simp)
              dsimp only at ho ⊢
              have hh := hw.held ho
              have := sum_set potO e.oth i o { o with opn := false, held := 0 } ho
              have h1 : potO { o with opn := false, held := 0 } = 0 := by simp [potO]
              have h2 : 0 < o.held → potO o = 1 := fun h => by unfold potO; rw [if_pos ⟨hop, h⟩]
              have hb := back_mass ({ e with oth := e.oth.set i { o with opn := false, held := 0 } } : En) o.held hh
              have hm : ({ e with oth := e.oth.set i { o with opn := false, held := 0 } } : En).mass + potO o = e.mass := by
                unfold En.mass
                simp only
                omega
              have hwl : (wire o.held).length ≤ 2 := wire_len_le2 _ (by omega)
              split at hb
              · rename_i hpos
                have := h2 hpos
                omega
              · omega
            · refine same _ ?_ (by simp)
              have := sum_set potO e.oth i o { o with drp := false } ho
              have h1 : potO { o with drp := false } = potO o := rfl
              unfold En.mass
              simp only
              omega
      · split
        · unfold En.creditF
          split
          · split
            · exact same e (by omega) rfl
            · exact same _ (by show e.mass ≤ _; omega) rfl
          · split
            · exact same e (by omega) rfl
            · rename_i i o hx
              obtain ⟨_, ho⟩ := bind_map_some hx
              split
              · exact same e (by omega) rfl
              · split
                · exact same e (by omega) rfl
                · refine same _ ?_ rfl
                  have := sum_set oweO e.own i o { o with cr := o.cr + numOf f.d } ho
                  have h1 : oweO { o with cr := o.cr + numOf f.d } = oweO o := rfl
                  unfold En.mass
                  simp only
                  omega
        · split
          · refine same _ ?_ rfl
            rw [send_mass, packed_len]
            have h0 := wire_len1 0 (by omega)
            simp
            omega
          · split
            · exact same e (by omega) rfl
            · exact same _ (by show e.mass ≤ _; omega) rfl

theorem packAll_len (l : List Fr) : (packAll l).length = (l.map fun f => f.pack.length).sum := by
  induction l with
  | nil => rfl
  | cons f l ih =>
    have : packAll (f :: l) = f.pack ++ packAll l := rfl
    rw [this, List.length_append, ih]
    simp
theorem all_rest_len : ∀ (l : Bs), (Lk.all l).2.2.length + (packAll (Lk.all l).1).length ≤ l.length := by
  intro l
  induction h : l.length using Nat.strongRecOn generalizing l with
  | _ n ih =>
    subst h
    cases hx : nx l with
    | more => rw [all_more hx]; simp [packAll]
    | err e => rw [all_err hx]; simp [packAll]
    | frame k st d n =>
      have hb := nx_frame_bounds hx
      have hg := nx_good hx
      have := ih (l.drop n).length (by rw [List.length_drop]; omega) (l.drop n) rfl
      rw [all_frame hx]
      have hp : (packAll (⟨k, st, d⟩ :: (Lk.all (l.drop n)).1)).length = n + (packAll (Lk.all (l.drop n)).1).length := by
        rw [packAll, List.flatMap_cons, List.length_append]
        show (packed k st d).length + _ = _
        rw [hg.2, List.length_take]
        have : min n l.length = n := by omega
        rw [this]
        rfl
      simp only [hp]
      rw [List.length_drop] at this
      omega
theorem run_mass : ∀ (l : List Fr) {e : En}, Wf e → (∀ f ∈ l, Good f.k f.st f.d) → (e.run l).2.2.mass + e.gr ≤ e.mass + (packAll l).length + (if e.byeS then (e.run l).2.2.oth.length else 0)
  | [], e, _, _ => by
    show e.mass + e.gr ≤ e.mass + 0 + e.gr
    omega
  | f :: l, e, hw, h => by
    have h1 := frame_mass hw (h f (by simp))
    have h2 := run_mass l (hw.frame (h f (by simp))) (fun g hg => h g (by simp [hg]))
    have hp : (packAll (f :: l)).length = f.pack.length + (packAll l).length := by
      have : packAll (f :: l) = f.pack ++ packAll l := rfl
      rw [this, List.length_append]
    rw [En.run, hp]
    split
    · omega
    · have hb := e.frame_byeS f
      have hgr : (e.frame f).2.2.gr = (if e.byeS then (e.frame f).2.2.oth.length else 0) := by
        unfold En.gr
        rw [hb]
      rw [hgr, hb] at h2
      simp only
      omega
theorem bye_mass {e : En} (hw : Wf e) : e.bye.mass ≤ e.mass + 7 := by
  show (e.send 7 0 (wire e.lastOth)).mass ≤ _
  have h := hw.lastOth
  have h1 := send_mass e 7 0 (wire e.lastOth)
  have h2 := num_len 7 0 e.lastOth h
  have h3 := wire_len1 0 (by omega)
  have h4 := wire_len_le4 e.lastOth h
  have h5 : ((7 : Nat) : Int) = 7 := rfl
  have h6 : ((0 : Nat) : Int) = 0 := rfl
  rw [h1]
  omega
theorem falls_mass {e : En} (hw : Wf e) : e.falls.mass ≤ e.mass + 7 := by
  unfold En.falls
  split
  · exact bye_mass hw
  · omega
theorem falls_oth (e : En) : e.falls.oth = e.oth := by unfold En.falls; split <;> rfl
theorem falls_rest (e : En) : e.falls.rest = e.rest := by unfold En.falls; split <;> rfl
theorem back_rest (e : En) (n : Nat) : (e.back n).rest = e.rest := by unfold En.back; split <;> rfl
theorem run_rest : ∀ (l : List Fr) (e : En), (e.run l).2.2.rest = e.rest := by
  have hf : ∀ (e : En) (f : Fr), (e.frame f).2.2.rest = e.rest := by
    intro e f
    have := e.frame_at f e.rest
    rw [En.at_self] at this
    have h2 : (e.frame f).2.2 = (e.frame f).2.2.at e.rest := congrArg (fun x => x.2.2) this
    rw [h2]
    rfl
  intro l
  induction l with
  | nil => intro e; rfl
  | cons f l ih =>
    intro e
    rw [En.run]
    split
    · exact hf e f
    · exact (ih _).trans (hf e f)
/-- Bytes come: nearly nothing more is to be sent than came. -/
theorem feed_mass {e : En} (hw : Wf e) (b : Bs) : (e.feed b).2.mass + (e.feed b).2.rest.length + e.gr ≤ e.mass + e.rest.length + b.length + (if e.byeS then (e.feed b).2.oth.length else 0) + 7 := by
  by_cases hd : e.down = 0
  · obtain ⟨hg, r, hr, _⟩ := all_packs (e.rest ++ b)
    have hres := all_rest (e.rest ++ b)
    have hrl : (Lk.all (e.rest ++ b)).2.2.length + (packAll (Lk.all (e.rest ++ b)).1).length ≤ (e.rest ++ b).length := all_rest_len (e.rest ++ b)
    rw [e.feed_run b hd _ rfl _ rfl]
    generalize Lk.all (e.rest ++ b) = A at *
    obtain ⟨fs, flt, rest⟩ := A
    simp only at hg hr hres hrl ⊢
    have hw0 : Wf ((e.at rest).dn flt) := (hw.at hres).withDown flt
    have h1 := run_mass fs hw0 hg
    have h2 := run_rest fs ((e.at rest).dn flt)
    have hwr := Wf.run fs hw0 hg
    generalize ((e.at rest).dn flt).run fs = R at *
    have h3 := falls_mass (hwr.withDown (if R.2.1 = 0 then flt else R.2.1))
    have h4 := falls_oth (R.2.2.dn (if R.2.1 = 0 then flt else R.2.1))
    have h5 := falls_rest (R.2.2.dn (if R.2.1 = 0 then flt else R.2.1))
    rw [h4, h5]
    have h6 : (R.2.2.dn (if R.2.1 = 0 then flt else R.2.1)).rest = rest := h2
    have h7 : (R.2.2.dn (if R.2.1 = 0 then flt else R.2.1)).oth = R.2.2.oth := rfl
    have h8 : (R.2.2.dn (if R.2.1 = 0 then flt else R.2.1)).mass = R.2.2.mass := rfl
    have h9 : ((e.at rest).dn flt).gr = e.gr := rfl
    have h10 : ((e.at rest).dn flt).mass = e.mass := rfl
    have h11 : ((e.at rest).dn flt).byeS = e.byeS := rfl
    rw [h9, h10, h11] at h1
    rw [h6, h7]
    have h3' : (R.2.2.dn (if R.2.1 = 0 then flt else R.2.1)).falls.mass ≤ R.2.2.mass + 7 := h3
    rw [List.length_append] at hrl
    omega
  · rw [e.feed_down b hd]
    show e.mass + e.rest.length + e.gr ≤ e.mass + e.rest.length + b.length + e.gr + 7
    omega

theorem pingC_mass (e : En) (t : Bs) : (e.pingC t).2.mass ≤ e.mass + 11 := by
  unfold En.pingC
  split
  · show e.mass ≤ _; omega
  · split
    · show e.mass ≤ _; omega
    · rename_i h
      show (e.send 5 0 t).mass ≤ _
      rw [send_mass, packed_len]
      have h0 := wire_len1 0 (by omega)
      have h8 : t.length = 8 := by omega
      rw [h8, wire_len1 8 (by omega)]
      simp
      omega
theorem byeC_mass {e : En} (hw : Wf e) : e.byeC'.2.mass ≤ e.mass + 7 := by
  unfold En.byeC'
  split
  · show e.mass ≤ _; omega
  · split
    · show e.mass ≤ _; omega
    · exact bye_mass hw
theorem submitC_mass (e : En) (l : List Hd) (body : Bs) : (e.submitC l body).2.mass ≤ e.mass + 2179 := by
  unfold En.submitC
  split
  · show e.mass ≤ _; omega
  · split
    · show e.mass ≤ _; omega
    · split
      · show e.mass ≤ _; omega
      · split
        · show e.mass ≤ _; omega
        · rename_i hl
          split
          · show e.mass ≤ _; omega
          · rename_i hf
            show (En.send _ 0 e.nextId _).mass ≤ _
            rw [send_mass, packed_len]
            have h1 := wire_len_le4 e.nextId (by omega)
            have h2 : (wire (squeeze 100 e.out l).1.length).length = 1 := wire_len1 _ (by omega)
            rw [h2]
            have h3 : ([(⟨e.nextId, body, e.win, false⟩ : Ow)].map oweO).sum ≤ 2106 := by
              simp [oweO]
              omega
            show rowLen e.row + ((e.own ++ [(⟨e.nextId, body, e.win, false⟩ : Ow)]).map oweO).sum + (e.oth.map potO).sum + _ ≤ _
            rw [List.map_append, List.sum_append]
            unfold En.mass
            simp only [Int.toNat_natCast] at *
            omega
theorem consumeC_mass {e : En} (hw : Wf e) (st n : Int) : (e.consumeC st n).2.mass ≤ e.mass + 20 := by
  unfold En.consumeC
  split
  · show e.mass ≤ _; omega
  · split
    · show e.mass ≤ _; omega
    · split
      · show e.mass ≤ _; omega
      · rename_i i hi
        split
        · show e.mass ≤ _; omega
        · rename_i o ho
          split
          · show e.mass ≤ _; omega
          · rename_i hh
            have hheld := hw.held ho
            have hid := (hw.oth i o ho).id28
            have hs := sum_set potO e.oth i o (o.eat n.toNat) ho
            have hpo : potO (o.eat n.toNat) ≤ potO o := by
              unfold potO Ot.eat
              simp only
              split
              · rename_i h
                rw [if_pos ⟨h.1, by omega⟩]
                omega
              · omega
            have hm : ({ e with oth := e.oth.set i (o.eat n.toNat), room := e.room + n.toNat } : En).mass ≤ e.mass := by
              unfold En.mass
              simp only
              omega
            have hn : n.toNat ≤ 268435455 := by omega
            have h1 := num_len_le 4 0 n.toNat (by omega) hn
            have h2 := num_len_le 4 o.id n.toNat hid hn
            simp only
            split
            · rw [send_mass, send_mass]
              have h3 : ((0 : Nat) : Int) = 0 := rfl
              omega
            · rw [send_mass]
              omega
theorem resetC_mass {e : En} (hw : Wf e) (st code : Int) : (e.resetC st code).2.mass ≤ e.mass + 15 := by
  unfold En.resetC
  split
  · show e.mass ≤ _; omega
  · split
    · show e.mass ≤ _; omega
    · rename_i hc
      split
      · rename_i i o hx
        have ho : e.own[i]? = some o := by
          cases hy : ownIx e.own st with
          | none => rw [hy] at hx; cases hx
          | some j =>
            rw [hy] at hx
            simp only [Option.bind_some] at hx
            cases hz : e.own[j]? with
            | none => rw [hz] at hx; cases hx
            | some q =>
              rw [hz] at hx
              simp only [Option.bind_some] at hx
              split at hx
              · cases hx
              · cases hx; exact hz
        have hs := sum_set oweO e.own i o { o with done := true } ho
        have h1 : oweO { o with done := true } = 0 := rfl
        have hid := (hw.own i o ho).id28
        have h2 := num_len_le 3 o.id code.toNat hid (by omega)
        rw [send_mass]
        have hm : ({ e with own := e.own.set i { o with done := true } } : En).mass ≤ e.mass := by
          unfold En.mass
          simp only
          omega
        omega
      · split
        · rename_i i o hx
          have ho : e.oth[i]? = some o := by
            cases hy : othIx e.oth st with
            | none => rw [hy] at hx; cases hx
            | some j =>
              rw [hy] at hx
              simp only [Option.bind_some] at hx
              cases hz : e.oth[j]? with
              | none => rw [hz] at hx; cases hx
              | some q =>
                rw [hz] at hx
                simp only [Option.bind_some] at hx
                split at hx
                · cases hx; exact hz
                · cases hx
          have hs := sum_set potO e.oth i o { o with opn := false, drp := true, held := 0 } ho
          have h1 : potO { o with opn := false, drp := true, held := 0 } = 0 := by simp [potO]
          have hid := (hw.oth i o ho).id28
          have h2 := num_len_le 3 o.id code.toNat hid (by omega)
          have hh := hw.held ho
          have hb := back_mass (({ e with oth := e.oth.set i { o with opn := false, drp := true, held := 0 } } : En).send 3 o.id (wire code.toNat)) o.held hh
          rw [send_mass] at hb
          have hm : ({ e with oth := e.oth.set i { o with opn := false, drp := true, held := 0 } } : En).mass ≤ e.mass := by
            unfold En.mass
            simp only
            omega
          have hwl : (wire o.held).length ≤ 2 := wire_len_le2 _ (by omega)
          have hif : (if 0 < o.held then 3 + (wire o.held).length else 0) ≤ 5 := by split <;> omega
          dsimp only
          omega
        · show e.mass ≤ _; omega
theorem drain1_mass {e e' : En} {s : Bs} (hw : Wf e) (h : e.drain1 = some (s, e')) : s.length + e'.mass ≤ e.mass := by
  unfold En.drain1 at h
  split at h
  · rename_i s' r hr
    cases h
    unfold En.mass
    rw [hr]
    simp only [rowLen, List.map_cons, List.sum_cons]
    omega
  · split at h
    · cases h
    · split at h
      · cases h
      · rename_i i hi
        obtain ⟨o, ho, hmay⟩ := next_may hi
        rw [ho] at h
        have h' : e.bodyOf i o = (s, e') := Option.some.inj h
        obtain ⟨rfl, rfl⟩ : (e.bodyOf i o).1 = s ∧ (e.bodyOf i o).2 = e' := by rw [h']; exact ⟨rfl, rfl⟩
        have hid := (hw.own i o ho).id28
        have hm := most_le e o
        have hs := sum_set oweO e.own i o ⟨o.id, o.left.drop (e.most o), o.cr - e.most o, o.done || decide (e.most o = o.left.length)⟩ ho
        have hdone : o.done = false := by
          unfold En.may at hmay
          cases hd : o.done with
          | false => rfl
          | true => rw [hd] at hmay; simp at hmay
        have h1 : oweO o = 7 * o.left.length + 6 := by unfold oweO; rw [hdone]; simp
        have hwl := wire_len_le4 o.id hid
        have hlen : (e.bodyOf i o).1.length ≤ 6 + e.most o := by
          show (packed _ _ (o.left.take (e.most o))).length ≤ _
          rw [packed_len, List.length_take]
          have : min (e.most o) o.left.length = e.most o := by omega
          rw [this, wire_len1 (e.most o) (by omega)]
          simp only [Int.toNat_natCast]
          omega
        have hmass : (e.bodyOf i o).2.mass + oweO o = e.mass + oweO ⟨o.id, o.left.drop (e.most o), o.cr - e.most o, o.done || decide (e.most o = o.left.length)⟩ := by
          unfold En.bodyOf En.mass
          simp only
          omega
        have h2 : oweO ⟨o.id, o.left.drop (e.most o), o.cr - e.most o, o.done || decide (e.most o = o.left.length)⟩ + 6 + e.most o ≤ 7 * o.left.length + 6 := by
          unfold oweO
          rw [hdone]
          simp only [Bool.false_or, decide_eq_true_eq]
          split
          · omega
          · rename_i hn
            have := most_pos hmay hn
            rw [List.length_drop]
            omega
        omega
theorem drain_mass : ∀ (n : Nat) {e : En}, Wf e → (En.drain n e).1.length + (En.drain n e).2.mass ≤ e.mass
  | 0, e, _ => by simp [En.drain]
  | n + 1, e, hw => by
    cases hd : e.drain1 with
    | none => simp [En.drain, hd]
    | some p =>
      obtain ⟨s, e'⟩ := p
      have h1 := drain1_mass hw hd
      have h2 := drain_mass n (hw.drain1 hd).1
      simp only [En.drain, hd]
      rw [List.length_append]
      omega
theorem new_mass (s w : Nat) : (En.new s w).mass = 0 := by simp [En.new, En.mass, rowLen]
end Go.Proofs.YtbkpdapagfjmmaaGreatDoor.Lk

/-
  Plain mathematics of the document: what stays as it was; how many streams there are. Imports nothing of the program.
-/
namespace Go.Proofs.YtbkpdapagfjmmaaGreatDoor.Lk

theorem pingC_side (e : En) (t : Bs) : (e.pingC t).2.side = e.side ∧ (e.pingC t).2.oth = e.oth ∧ (e.pingC t).2.rest = e.rest := by
  unfold En.pingC
  split
  · exact ⟨rfl, rfl, rfl⟩
  · split <;> exact ⟨rfl, rfl, rfl⟩
theorem byeC_side (e : En) : e.byeC'.2.side = e.side ∧ e.byeC'.2.oth = e.oth ∧ e.byeC'.2.rest = e.rest := by
  unfold En.byeC'
  split
  · exact ⟨rfl, rfl, rfl⟩
  · split <;> exact ⟨rfl, rfl, rfl⟩
theorem submitC_side (e : En) (l : List Hd) (t : Bs) : (e.submitC l t).2.side = e.side ∧ (e.submitC l t).2.oth = e.oth ∧ (e.submitC l t).2.rest = e.rest := by
  unfold En.submitC
  split
  · exact ⟨rfl, rfl, rfl⟩
  · split
    · exact ⟨rfl, rfl, rfl⟩
    · split
      · exact ⟨rfl, rfl, rfl⟩
      · split
        · exact ⟨rfl, rfl, rfl⟩
        · split <;> exact ⟨rfl, rfl, rfl⟩
theorem back_keeps (e : En) (n : Nat) : (e.back n).side = e.side ∧ (e.back n).oth = e.oth ∧ (e.back n).rest = e.rest := by
  unfold En.back
  split <;> exact ⟨rfl, rfl, rfl⟩
theorem consumeC_side (e : En) (k n : Int) : (e.consumeC k n).2.side = e.side ∧ (e.consumeC k n).2.oth.length = e.oth.length ∧ (e.consumeC k n).2.rest = e.rest := by
  unfold En.consumeC
  split
  · exact ⟨rfl, rfl, rfl⟩
  · split
    · exact ⟨rfl, rfl, rfl⟩
    · split
      · exact ⟨rfl, rfl, rfl⟩
      · split
        · exact ⟨rfl, rfl, rfl⟩
        · split
          · exact ⟨rfl, rfl, rfl⟩
          · simp only
            split
            · exact ⟨rfl, by simp [En.send], rfl⟩
            · exact ⟨rfl, by simp [En.send], rfl⟩
theorem resetC_side (e : En) (k n : Int) : (e.resetC k n).2.side = e.side ∧ (e.resetC k n).2.oth.length = e.oth.length ∧ (e.resetC k n).2.rest = e.rest := by
  unfold En.resetC
  split
  · exact ⟨rfl, rfl, rfl⟩
  · split
    · exact ⟨rfl, rfl, rfl⟩
    · split
      · exact ⟨rfl, rfl, rfl⟩
      · split
        · simp only
          rw [(back_keeps _ _).1, (back_keeps _ _).2.1, (back_keeps _ _).2.2]
          exact ⟨rfl, by simp [En.send], rfl⟩
        · exact ⟨rfl, rfl, rfl⟩
theorem drain1_side {e e' : En} {s : Bs} (h : e.drain1 = some (s, e')) : e'.side = e.side ∧ e'.oth = e.oth ∧ e'.rest = e.rest := by
  unfold En.drain1 at h
  split at h
  · cases h; exact ⟨rfl, rfl, rfl⟩
  · split at h
    · cases h
    · split at h
      · cases h
      · split at h
        · cases h
        · cases h; exact ⟨rfl, rfl, rfl⟩
theorem drain_side : ∀ (n : Nat) (e : En), (En.drain n e).2.side = e.side ∧ (En.drain n e).2.oth = e.oth ∧ (En.drain n e).2.rest = e.rest
  | 0, e => ⟨rfl, rfl, rfl⟩
  | n + 1, e => by
    cases hd : e.drain1 with
    | none => simp [En.drain, hd]
    | some p =>
      obtain ⟨s, e'⟩ := p
      have h1 := drain1_side hd
      have h2 := drain_side n e'
      simp only [En.drain, hd]
      exact ⟨h2.1.trans h1.1, h2.2.1.trans h1.2.1, h2.2.2.trans h1.2.2⟩
theorem frame_oth (e : En) (f : Fr) : e.oth.length ≤ (e.frame f).2.2.oth.length := by
  unfold En.frame
  split
  · unfold En.headF
    split
    · exact Nat.le_refl _
    · split
      · exact Nat.le_refl _
      · split
        · simp [En.send]
        · simp
  · split
    · unfold En.pieceF
      split
      · exact Nat.le_refl _
      · split
        · exact Nat.le_refl _
        · split
          · exact Nat.le_refl _
          · split
            · simp
            · rw [back_oth]; simp
    · split
      · unfold En.resetF
        split
        · split <;> exact Nat.le_refl _
        · split
          · exact Nat.le_refl _
          · split
            · rw [back_oth]; simp
            · simp
      · split
        · unfold En.creditF
          split
          · split <;> exact Nat.le_refl _
          · split
            · exact Nat.le_refl _
            · split
              · exact Nat.le_refl _
              · split <;> exact Nat.le_refl _
        · split
          · exact Nat.le_refl _
          · split <;> exact Nat.le_refl _
theorem run_oth : ∀ (l : List Fr) (e : En), e.oth.length ≤ (e.run l).2.2.oth.length ∧ (e.run l).2.2.side = e.side
  | [], e => ⟨Nat.le_refl _, rfl⟩
  | f :: l, e => by
    have h1 := frame_oth e f
    have h2 := frame_side e f
    rw [En.run]
    split
    · exact ⟨h1, h2⟩
    · have h3 := run_oth l (e.frame f).2.2
      exact ⟨Nat.le_trans h1 h3.1, h3.2.trans h2⟩
theorem falls_side (e : En) : e.falls.side = e.side := by unfold En.falls; split <;> rfl
theorem feed_side (e : En) (b : Bs) : e.oth.length ≤ (e.feed b).2.oth.length ∧ (e.feed b).2.side = e.side := by
  by_cases hd : e.down = 0
  · rw [e.feed_run b hd _ rfl _ rfl]
    simp only
    rw [falls_oth, falls_side]
    exact run_oth (Lk.all (e.rest ++ b)).1 ((e.at (Lk.all (e.rest ++ b)).2.2).dn (Lk.all (e.rest ++ b)).2.1)
  · rw [e.feed_down b hd]
    exact ⟨Nat.le_refl _, rfl⟩
theorem feed_mass2 {e : En} (hw : Wf e) (b : Bs) : (e.feed b).2.mass + (e.feed b).2.rest.length + e.oth.length ≤ e.mass + e.rest.length + b.length + (e.feed b).2.oth.length + 7 := by
  have h1 := feed_mass hw b
  have h2 := (feed_side e b).1
  unfold En.gr at h1
  split at h1 <;> omega
theorem Wf.othLen {e : En} (h : Wf e) : e.oth.length ≤ 134217729 := by
  by_cases h0 : e.oth.length = 0
  · omega
  · have hx : e.oth[e.oth.length - 1]? = some (e.oth[e.oth.length - 1]'(by omega)) := List.getElem?_eq_getElem _
    have h1 := (h.oth _ _ hx).id
    have h2 := (h.oth _ _ hx).id28
    have h3 := h.side
    omega
theorem Wf.ownLen {e : En} (h : Wf e) : e.own.length ≤ 134217729 := by
  by_cases h0 : e.own.length = 0
  · omega
  · have hx : e.own[e.own.length - 1]? = some (e.own[e.own.length - 1]'(by omega)) := List.getElem?_eq_getElem _
    have h1 := (h.own _ _ hx).id
    have h2 := (h.own _ _ hx).id28
    omega
end Go.Proofs.YtbkpdapagfjmmaaGreatDoor.Lk
