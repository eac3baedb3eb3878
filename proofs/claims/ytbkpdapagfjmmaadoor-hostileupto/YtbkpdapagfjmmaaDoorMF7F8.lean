import Derived.Test.YtbkpdapagfjmmaaDoorMF4F6
/-
  Walks: what an end does with a piece.
-/
namespace Go.Proofs.YtbkpdapagfjmmaaDoor
open Go.RowKit

/-- The stream of the other end that a frame is for, if it goes on. -/
def Lk.En.goesOn (e : Lk.En) (st : Int) : Option (Nat × Lk.Ot) := (Lk.othIx e.oth st).bind fun i => (e.oth[i]?).bind fun o => if o.opn || o.drp then some (i, o) else none
theorem goesOn_some {e : Lk.En} {st : Int} {i : Nat} {o : Lk.Ot} (h : e.goesOn st = some (i, o)) : e.oth[i]? = some o ∧ (o.opn || o.drp) = true ∧ (o.id : Int) = st := by
  unfold Lk.En.goesOn at h
  cases hx : Lk.othIx e.oth st with
  | none => rw [hx] at h; cases h
  | some j =>
    rw [hx] at h
    obtain ⟨x, hxo, hid⟩ := Lk.othIx_some hx
    simp only [Option.bind_some, hxo] at h
    by_cases hd : (x.opn || x.drp) = true
    · rw [if_pos hd] at h
      simp at h
      obtain ⟨rfl, rfl⟩ := h
      exact ⟨hxo, hd, hid⟩
    · rw [if_neg hd] at h
      cases h
theorem goesOn_of {e : Lk.En} (hw : Lk.Wf e) {i : Nat} {o : Lk.Ot} (ho : e.oth[i]? = some o) (hd : (o.opn || o.drp) = true) : e.goesOn (o.id : Int) = some (i, o) := by
  unfold Lk.En.goesOn
  cases hx : Lk.othIx e.oth (o.id : Int) with
  | none => exact absurd rfl (othIx_none hx i o ho)
  | some j =>
    obtain ⟨x, hxo, hid⟩ := Lk.othIx_some hx
    have := set_id hw ho hxo (by omega)
    subst this
    rw [ho] at hxo
    cases hxo
    simp only [Option.bind_some, ho]
    rw [if_pos hd]
theorem goesOn_in {w : World} {b : Nat} {e : Lk.En} {d : PD} (hL : Live w b e d) {st : Int} {i : Nat} {o : Lk.Ot} (h : e.goesOn st = some (i, o)) : ∃ p, d.ins o.id = some p ∧ Is w p 169 (inV o.cr o.held o.drp false) := by
  obtain ⟨ho, hd, hid⟩ := goesOn_some h
  cases hp : d.ins o.id with
  | none =>
    have := (hL.oths i o ho).none hp
    rw [hd] at this
    simp at this
  | some p =>
    obtain ⟨_, cr, cut, hI, hcc⟩ := (hL.oths i o ho).some hp
    obtain ⟨rfl, rfl⟩ := hcc hd
    rw [hd] at hI
    exact ⟨p, rfl, hI⟩
/-- find, as the document has it. -/
theorem findIn_live (b : Nat) (e : Lk.En) (d : PD) (st : Int) (w : World) (hL : Live w b e d) (hk : I64 st) :
    Calls Tryd.prog 90 #[.pointer (some ⟨b, 11, none⟩), .int .i64 st] w fun r w' => (∃ q, r = .returned (.tuple #[q, .bool (e.goesOn st).isSome]) ∧ ∀ i o p, e.goesOn st = some (i, o) → d.ins o.id = some p → q = .pointer (some ⟨p, 0, none⟩)) ∧ ∃ n, w' = w.drewN n := by
  have c17 : w.cell? ⟨b, 17, none⟩ = some (.map (some d.mb)) := hL.rw.blk.cell 17
  cases hg : e.goesOn st with
  | some x =>
    obtain ⟨i, o⟩ := x
    obtain ⟨ho, hd, hid⟩ := goesOn_some hg
    obtain ⟨p, hp, hI⟩ := goesOn_in hL hg
    refine (findIn_some b d.mb d.mn p d.ins st o.cr o.held o.drp false w hL.rw.lt c17 hL.map hk (by rw [← hid]; exact hp) hI).mono ?_
    rintro r w' ⟨rfl, n, rfl⟩
    refine ⟨⟨_, rfl, fun i' o' p' h h' => ?_⟩, n, rfl⟩
    cases h
    rw [hp] at h'
    cases h'
    rfl
  | none =>
    cases hp : d.ins st with
    | none =>
      refine (findIn_none b d.mb d.mn d.ins st w hL.rw.lt c17 hL.map hk hp).mono ?_
      rintro r w' ⟨rfl, n, rfl⟩
      exact ⟨⟨_, rfl, fun i' o' p' h => by cases h⟩, n, rfl⟩
    | some p =>
      obtain ⟨i, o, cr, cut, ho, hid, hI, _, _⟩ := hL.inAt hp
      have hd : (o.opn || o.drp) = false := by
        cases hx : (o.opn || o.drp) with
        | false => rfl
        | true =>
          have := goesOn_of hL.wf ho hx
          rw [hid, hg] at this
          cases this
      rw [hd] at hI
      refine (findIn_some b d.mb d.mn p d.ins st cr o.held cut true w hL.rw.lt c17 hL.map hk hp hI).mono ?_
      rintro r w' ⟨rfl, n, rfl⟩
      exact ⟨⟨_, rfl, fun i' o' p' h => by cases h⟩, n, rfl⟩

/-- Bytes come on an open stream. -/
theorem used_live {w w' : World} {b i p n : Nat} {e : Lk.En} {d : PD} {o : Lk.Ot} (hL : Live w b e d) (ho : e.oth[i]? = some o) (hop : o.opn = true) (hp : d.ins o.id = some p) (hI : Is w' p 169 (inV ((o.cr - n : Nat) : Int) ((o.held + n : Nat) : Int) false false)) (hR : Rw w' b { ecOf e d with icr := ((e.room - n : Nat) : Int) } d.fs) (hO : Only (fun i => i = b ∨ i = p) w w') (hW : Lk.Wf { e with oth := e.oth.set i { o with cr := o.cr - n, held := o.held + n }, room := e.room - n }) :
    LPost w b d { e with oth := e.oth.set i { o with cr := o.cr - n, held := o.held + n }, room := e.room - n } w' := by
  have hOk := hL.wf.oth i o ho
  have hdrp := hOk.two hop
  obtain ⟨_, _, _, hI0, _⟩ := (hL.oths i o ho).some hp
  refine hL.inOp (o' := { o with cr := o.cr - n, held := o.held + n }) ho rfl hR (hO.mono (fun x hx => ?_)) (rs' := d.rs) (mn' := d.mn) (ins' := d.ins) ?_ rfl rfl rfl rfl hL.rowe hL.good hW (fun x hx => .inl hx) ?_ hL.mn ?_ (fun k _ => rfl) (fun q hq => hq)
  · rcases hx with hx | hx
    · exact .inl hx
    · exact .inr (.inr (.inr (hx ▸ hp)))
  · simp [ecOf, nextOth, Lk.En.nextId]
  · refine hL.map.only hO (fun hx => ?_)
    rcases hx with hx | hx
    · exact (hL.sepRow _ (.inl hx)).2.2.2.2.1 rfl
    · exact hL.map.ne hI0 hx
  · unfold OthIs
    show match d.ins (o.id : Int) with | some p => _ | none => _
    rw [hp]
    refine ⟨by simp [hop], ((o.cr - n : Nat) : Int), false, ?_, fun _ => ⟨rfl, hdrp.symm⟩⟩
    simpa [hop, hdrp] using hI
/-- Bytes come on a stream that this end has reset: they are given back. -/
theorem droppedIn_live {w w' : World} {b i p n : Nat} {e : Lk.En} {d : PD} {o : Lk.Ot} {rs' : List Nat} (hL : Live w b e d) (ho : e.oth[i]? = some o) (hop : o.opn = false) (hdr : o.drp = true) (hn64 : n ≤ 268435455) (hp : d.ins o.id = some p) (hI : Is w' p 169 (inV ((o.cr - n : Nat) : Int) 0 true false)) (hR : Rw w' b { ecOf e d with icr := ((e.room - n + n : Nat) : Int), rs := rs' } (d.fs ++ backF n)) (hO : Only (fun i => i = b ∨ i = p ∨ i ∈ d.rs) w w') (hrs : ∀ x ∈ rs', x ∈ d.rs ∨ w.heap.size ≤ x)
    (hW : Lk.Wf (({ e with oth := e.oth.set i { o with cr := o.cr - n }, room := e.room - n } : Lk.En).back n)) :
    LPost w b d (({ e with oth := e.oth.set i { o with cr := o.cr - n }, room := e.room - n } : Lk.En).back n) w' := by
  have hOk := hL.wf.oth i o ho
  have hh0 := hOk.drp hdr
  obtain ⟨_, _, _, hI0, _⟩ := (hL.oths i o ho).some hp
  refine hL.inOp (o' := { o with cr := o.cr - n }) ho rfl hR (hO.mono (fun x hx => ?_)) (rs' := rs') (mn' := d.mn) (ins' := d.ins) ?_ (back_rest _ _).1 (back_rest _ _).2.1 (back_rest _ _).2.2.1 (back_rest _ _).2.2.2.1 ?_ ?_ hW hrs ?_ hL.mn ?_ (fun k _ => rfl) (fun q hq => hq)
  · rcases hx with hx | hx | hx
    · exact .inl hx
    · exact .inr (.inr (.inr (hx ▸ hp)))
    · exact .inr (.inl hx)
  · rw [ecOf_back]
    simp [ecOf, nextOth, Lk.En.nextId]
  · rw [back_row]
    simp [hL.rowe]
  · refine good_append hL.good (fun f hf => ?_)
    unfold backF at hf
    split at hf
    · simp at hf
      subst hf
      exact Lk.good_credit 0 n (by omega) (by omega)
    · simp at hf
  · refine hL.map.only hO (fun hx => ?_)
    rcases hx with hx | hx | hx
    · exact (hL.sepRow _ (.inl hx)).2.2.2.2.1 rfl
    · exact hL.map.ne hI0 hx
    · exact (hL.sepRow _ (.inr hx)).2.2.2.2.1 rfl
  · unfold OthIs
    show match d.ins (o.id : Int) with | some p => _ | none => _
    rw [hp]
    refine ⟨by simp [hdr], ((o.cr - n : Nat) : Int), true, ?_, fun _ => ⟨rfl, hdr.symm⟩⟩
    simpa [hop, hdr, hh0] using hI
end Go.Proofs.YtbkpdapagfjmmaaDoor

/-
  Walks: what an end does with a piece.
-/
namespace Go.Proofs.YtbkpdapagfjmmaaDoor
open Go.RowKit

/-- What a piece does, be it the last or not: the events, the error, the end. -/
def Lk.En.pieceG (e : Lk.En) (st : Nat) (dt : Lk.Bs) : List Lk.Ev × Nat × Lk.En := match e.goesOn st with
  | none => ([], 4, e)
  | some (i, o) => if o.cr < dt.length ∨ e.room < dt.length then ([], 10, e)
    else if o.opn then (if 0 < dt.length then [⟨2, st, 0, [], dt⟩] else [], 0, { e with oth := e.oth.set i { o with cr := o.cr - dt.length, held := o.held + dt.length }, room := e.room - dt.length })
    else ([], 0, ({ e with oth := e.oth.set i { o with cr := o.cr - dt.length }, room := e.room - dt.length } : Lk.En).back dt.length)

theorem frame_new (w : World) (f : Lk.Fr) : Below w.heap.size w (w.alloc (.cells #[.int .i64 (f.k : Int), .int .i64 (f.st : Int), .string (bs f.d)] 114)) := (Below.refl w.heap.size w).alloc (Nat.le_refl _) _

set_option maxHeartbeats 1000000 in
set_option maxRecDepth 100000 in
theorem gotPiece_none (b g B : Nat) (e : Lk.En) (d : PD) (v : Value) (evs : List EvH) (f : Lk.Fr) (w : World) (h : FS w b e d g B v evs) (hst : f.st ≤ 268435455) (hg : e.goesOn (f.st : Int) = none) :
    Calls Tryd.prog 65 #[.pointer (some ⟨b, 0, none⟩), frA f, tellV g] w fun r w' => r = .returned (.int .i64 4) ∧ GPost w b d g B v evs e [] w' := by
  have hb0 := frame_new w f
  have h0 := h.below hb0
  have hbl := h.live.rw.lt
  have HF := hide (fun n => findIn_live b e d (f.st : Int) ((w.alloc (.cells #[.int .i64 (f.k : Int), .int .i64 (f.st : Int), .string (bs f.d)] 114)).drewN n) (h0.drewN n).live ⟨by omega, by omega⟩)
  rw [hg] at HF
  have HH := hide h0
  have HB := hide hb0
  clear h h0 hb0 hg
  unfold tellV
  go_enter Tryd.func65, Tryd.ntmps65
  go_wp2_with fail
  go_region_with (first | (go_at_call 90; refine (unhide HF 1).mono ?_; rintro r w1 ⟨⟨q, rfl, _⟩, n, rfl⟩))
  all_goals
    go_wp2_with fail
    go_ret
    refine ⟨rfl, GPost.before (unhide HB) ?_⟩
    first
      | exact GPost.same_below (unhide HH) (Below.drewN (Below.refl _ _) _)
      | exact GPost.same_below (unhide HH) (Below.drewN (Below.drewN (Below.refl _ _) _) _)

theorem find_quiet (b : Nat) (e : Lk.En) (d : PD) (st : Int) (i p : Nat) (o : Lk.Ot) (w : World) (hL : Live w b e d) (hk : I64 st) (hg : e.goesOn st = some (i, o)) (hp : d.ins o.id = some p) :
    Calls Tryd.prog 90 #[.pointer (some ⟨b, 11, none⟩), .int .i64 st] w fun r w' => r = .returned (.tuple #[.pointer (some ⟨p, 0, none⟩), .bool true]) ∧ ∃ n, w' = w.drewN n := by
  refine (findIn_live b e d st w hL hk).mono ?_
  rintro r w' ⟨⟨q, rfl, hq⟩, n, rfl⟩
  rw [hq i o p hg hp, hg]
  exact ⟨rfl, n, rfl⟩

set_option maxHeartbeats 1000000 in
set_option maxRecDepth 100000 in
theorem gotPiece_flow (b g B i : Nat) (e : Lk.En) (d : PD) (o : Lk.Ot) (v : Value) (evs : List EvH) (f : Lk.Fr) (w : World) (h : FS w b e d g B v evs) (hst : f.st ≤ 268435455) (hg : e.goesOn (f.st : Int) = some (i, o)) (hfl : o.cr < f.d.length ∨ e.room < f.d.length) :
    Calls Tryd.prog 65 #[.pointer (some ⟨b, 0, none⟩), frA f, tellV g] w fun r w' => r = .returned (.int .i64 10) ∧ GPost w b d g B v evs e [] w' := by
  have hb0 := frame_new w f
  have h0 := h.below hb0
  have hbl := h.live.rw.lt
  obtain ⟨p, hp, hI⟩ := goesOn_in h0.live hg
  have hpl := hI.lt
  have hls := bs_size f.d
  have HF := hide (fun n => find_quiet b e d (f.st : Int) i p o ((w.alloc (.cells #[.int .i64 (f.k : Int), .int .i64 (f.st : Int), .string (bs f.d)] 114)).drewN n) (h0.drewN n).live ⟨by omega, by omega⟩ hg hp)
  have HU := hide (fun n => useIn_no b p e.room o.cr o.held f.d.length o.drp false (ecOf e d) d.fs ((w.alloc (.cells #[.int .i64 (f.k : Int), .int .i64 (f.st : Int), .string (bs f.d)] 114)).drewN n) (h0.drewN n).live.rw rfl (hI.drewN n) hfl)
  have HH := hide h0
  have HB := hide hb0
  clear h h0 hb0 hg hp hI hfl
  unfold tellV
  go_enter Tryd.func65, Tryd.ntmps65
  go_wp2_with fail
  go_quiet ((go_at_call 90; exact Calls.quiet_of (unhide HF _)))
  go_wp2_with fail
  go_quiet ((go_at_call 91; exact (unhide HU _).mono fun _ _ h => ⟨h.1, _, h.2⟩))
  go_wp2_with fail
  go_ret
  refine ⟨rfl, GPost.before (unhide HB) ?_⟩
  first
    | exact GPost.same_below (unhide HH) (Below.drewN (Below.refl _ _) _)
    | exact GPost.same_below (unhide HH) (Below.drewN (Below.drewN (Below.refl _ _) _) _)
end Go.Proofs.YtbkpdapagfjmmaaDoor
