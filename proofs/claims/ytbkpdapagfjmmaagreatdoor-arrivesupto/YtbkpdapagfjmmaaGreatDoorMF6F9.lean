import Derived.Test.YtbkpdapagfjmmaaGreatDoorMF3F5
/-
  Walks: what an end does with a credit for a stream.
-/
namespace Go.Proofs.YtbkpdapagfjmmaaGreatDoor
open Go.RowKit

set_option maxHeartbeats 1000000 in
set_option maxRecDepth 100000 in
theorem gotCredit_begun (b g B : Nat) (e : Lk.En) (d : PD) (v : Value) (evs : List EvH) (f : Lk.Fr) (w : World) (x : Bool) (h : FS w b e d g B v evs) (hst : f.st ≠ 0) (_hst2 : f.st ≤ 268435455) (hup : e.upAt (f.st : Int) = none) (hx : decide (f.st % 2 = e.nextId % 2 ∧ f.st < e.nextId) = x) :
    Calls Tryz.prog 94 #[.pointer (some ⟨b, 0, none⟩), frA f, tellV g] w fun r w' => r = .returned (.int .i64 (if x then 0 else 4)) ∧ GPost w b d g B v evs e [] w' := by
  have hb0 := (Below.refl w.heap.size w).alloc (Nat.le_refl _) (.cells #[.int .i64 (f.k : Int), .int .i64 (f.st : Int), .string (bs f.d)] 79)
  have h0 := h.below hb0
  have hbl := h.live.rw.lt
  have hst' : ((f.st : Int) == 0) = false := by rw [beq_eq_false_iff_ne]; omega
  have hF := fun n => find_live b e d (f.st : Int) ((w.alloc (.cells #[.int .i64 (f.k : Int), .int .i64 (f.st : Int), .string (bs f.d)] 79)).drewN n) (h0.drewN n).live
  rw [hup] at hF
  simp only [Option.bind_none, optPtr, Option.isSome] at hF
  have hG := fun n => begunOut_any b f.st e.nextId ((w.alloc (.cells #[.int .i64 (f.k : Int), .int .i64 (f.st : Int), .string (bs f.d)] 79)).drewN n) (h0.live.rw.lt) (h0.live.rw.blk.cell 7)
  rw [hx] at hG
  have HF := hide hF
  have HG := hide hG
  have HH := hide h0
  have HB := hide hb0
  clear h h0 hb0 hst hup hx hF hG
  unfold tellV
  cases x with
  | true =>
    go_enter Tryz.func94, Tryz.ntmps94
    go_wp2_with fail
    go_quiet ((go_at_call 147; exact Calls.quiet_of_same (unhide HF _)))
    go_wp2_with fail
    go_quiet ((go_at_call 144; exact (unhide HG _).mono fun _ _ h => ⟨h.1, _, h.2⟩))
    go_wp2_with fail
    go_ret
    refine ⟨rfl, GPost.before (unhide HB) ?_⟩
    first
      | exact GPost.same_below (unhide HH) (Below.drewN (Below.refl _ _) _)
      | exact GPost.same_below (unhide HH) (Below.drewN (Below.drewN (Below.refl _ _) _) _)
  | false =>
    go_enter Tryz.func94, Tryz.ntmps94
    go_wp2_with fail
    go_quiet ((go_at_call 147; exact Calls.quiet_of_same (unhide HF _)))
    go_wp2_with fail
    go_quiet ((go_at_call 144; exact (unhide HG _).mono fun _ _ h => ⟨h.1, _, h.2⟩))
    go_wp2_with fail
    go_ret
    refine ⟨rfl, GPost.before (unhide HB) ?_⟩
    first
      | exact GPost.same_below (unhide HH) (Below.drewN (Below.refl _ _) _)
      | exact GPost.same_below (unhide HH) (Below.drewN (Below.drewN (Below.refl _ _) _) _)

set_option maxHeartbeats 1000000 in
set_option maxRecDepth 100000 in
theorem gotCredit_own (b g B i : Nat) (e : Lk.En) (d : PD) (o : Lk.Ow) (v : Value) (evs : List EvH) (f : Lk.Fr) (w : World) (h : FS w b e d g B v evs) (hd : f.d.length ≤ 64) (hst : f.st ≠ 0) (_hst2 : f.st ≤ 268435455) (hup : e.upAt (f.st : Int) = some (i, o)) (x : Bool) (hx : decide (Lk.numOf f.d = 0 ∨ 100000 < o.cr + Lk.numOf f.d) = x) (hW : x = false → Lk.Wf { e with own := e.own.set i { o with cr := o.cr + Lk.numOf f.d } }) :
    Calls Tryz.prog 94 #[.pointer (some ⟨b, 0, none⟩), frA f, tellV g] w fun r w' => r = .returned (.int .i64 (if x then 10 else 0)) ∧ GPost w b d g B v evs (if x then e else { e with own := e.own.set i { o with cr := o.cr + Lk.numOf f.d } }) [] w' := by
  have hb0 := (Below.refl w.heap.size w).alloc (Nat.le_refl _) (.cells #[.int .i64 (f.k : Int), .int .i64 (f.st : Int), .string (bs f.d)] 79)
  have h0 := h.below hb0
  have hbl := h.live.rw.lt
  have hst' : ((f.st : Int) == 0) = false := by rw [beq_eq_false_iff_ne]; omega
  have hF := fun n => find_live b e d (f.st : Int) ((w.alloc (.cells #[.int .i64 (f.k : Int), .int .i64 (f.st : Int), .string (bs f.d)] 79)).drewN n) (h0.drewN n).live
  obtain ⟨p, hp, hIp⟩ := upAt_ps h0.live hup
  rw [hup] at hF
  simp only [Option.bind_some, hp, optPtr, ptr, Option.isSome] at hF
  have hpl := hIp.lt
  have ho := (Lk.En.upAt_some hup).1
  have hcr := (h.live.wf.own i o ho).cr
  have hnl := Lk.numOf_le f.d
  have HF := hide hF
  have HH := hide h0
  have HB := hide hb0
  have HNUM := hide (fun W => fnumber_any f W (by omega))
  have HUP := hide (⟨hup, hp, hIp⟩ : _ ∧ _ ∧ _)
  have HX := hide hx
  have HW := hide hW
  unfold frA at HNUM
  generalize Lk.numOf f.d = N at *
  clear h h0 hb0 hst hup hF hp hIp ho hx hW
  unfold tellV
  cases x with
  | true =>
    have hn : N = 0 ∨ 100000 < o.cr + N := by simpa using unhide HX
    have HN := hide hn
    clear hn
    go_enter Tryz.func94, Tryz.ntmps94
    go_wp2_with fail
    go_quiet ((go_at_call 147; exact Calls.quiet_of_same (unhide HF _)))
    go_wp2_with fail
    go_region_with (first
      | (go_at_call 143; refine (unhide HNUM _).mono ?_; rintro r w1 ⟨rfl, hb1⟩)
      | (go_at_call 146; have hF1 := ((unhide HH).drewN (nq + 1)).below hb1; have hIp1 := ((unhide HUP).2.2.drewN (nq + 1)).below hb1 hpl; refine (raise_no p 1 o.cr N w1 hIp1.lt (hIp1.cell 1) (unhide HN) (by omega) hnl).mono ?_; rintro r w2 ⟨rfl, rfl⟩))
    all_goals
      go_wp2_with fail
      go_ret
      refine ⟨rfl, GPost.before (unhide HB) ?_⟩
      have hx := GPost.same_below ((unhide HH).drewN (nq + 1)) hb1
      exact GPost.before (Below.drewN (Below.refl _ _) (nq + 1)) hx
  | false =>
    have hn : ¬ (N = 0 ∨ 100000 < o.cr + N) := by simpa using unhide HX
    have HN := hide hn
    clear hn
    go_enter Tryz.func94, Tryz.ntmps94
    go_wp2_with fail
    go_quiet ((go_at_call 147; exact Calls.quiet_of_same (unhide HF _)))
    go_wp2_with fail
    go_region_with (first
      | (go_at_call 143; refine (unhide HNUM _).mono ?_; rintro r w1 ⟨rfl, hb1⟩)
      | (go_at_call 146; have hF1 := ((unhide HH).drewN (nq + 1)).below hb1; have hIp1 := ((unhide HUP).2.2.drewN (nq + 1)).below hb1 hpl; refine (raise_yes p 1 o.cr N w1 hIp1.lt (hIp1.cell 1) (hIp1.free 1) (unhide HN)).mono ?_; rintro r w2 ⟨rfl, rfl⟩))
    all_goals
      go_wp2_with fail
      go_ret
      refine ⟨rfl, GPost.before (unhide HB) ?_⟩
      have hx := hF1.ofL (raiseOne_live hF1.live N (unhide HUP).1 (unhide HUP).2.1 (unhide HW (by first | rfl | trivial)))
      simp only [Int.natCast_add] at hx
      exact GPost.before (Below.drewN (Below.refl _ _) (nq + 1)) (GPost.before hb1 hx)

theorem upAt_none_some {e : Lk.En} {k : Int} (h : e.upAt k = none) {i : Nat} (hi : Lk.ownIx e.own k = some i) : ∃ o, e.own[i]? = some o ∧ o.done = true := by
  obtain ⟨o, ho, _⟩ := Lk.ownIx_some hi
  unfold Lk.En.upAt at h
  rw [hi] at h
  simp only [Option.bind_some, ho] at h
  cases hd : o.done with
  | true => exact ⟨o, ho, hd⟩
  | false => rw [hd] at h; simp at h
theorem gotCredit_any (b g B : Nat) (e : Lk.En) (d : PD) (v : Value) (evs : List EvH) (f : Lk.Fr) (w : World) (h : FS w b e d g B v evs) (hd : f.d.length ≤ 64) (hst2 : f.st ≤ 268435455) :
    Calls Tryz.prog 94 #[.pointer (some ⟨b, 0, none⟩), frA f, tellV g] w fun r w' => r = .returned (.int .i64 ((e.creditF f).1 : Int)) ∧ GPost w b d g B v evs (e.creditF f).2 [] w' := by
  have hW := h.live.wf.creditF (f := f)
  unfold Lk.En.creditF at hW ⊢
  by_cases hst : f.st = 0
  · rw [if_pos hst] at hW ⊢
    by_cases hn : Lk.numOf f.d = 0 ∨ 100000 < e.all + Lk.numOf f.d
    · rw [if_pos hn]
      exact gotCredit_all_no b g B e d v evs f w h hd hst hn
    · rw [if_neg hn] at hW ⊢
      exact gotCredit_all_yes b g B e d v evs f w h hd hst hn hW
  · rw [if_neg hst] at hW ⊢
    have hbg := ownIx_begun h.live.wf (a := f.st) (by omega)
    cases hix : Lk.ownIx e.own (f.st : Int) with
    | none =>
      rw [hix] at hbg
      have hup : e.upAt (f.st : Int) = none := by unfold Lk.En.upAt; rw [hix]; rfl
      exact gotCredit_begun b g B e d v evs f w false h hst hst2 hup hbg.symm
    | some i =>
      rw [hix] at hW hbg
      obtain ⟨o, ho, hid⟩ := Lk.ownIx_some hix
      simp only [Option.bind_some, ho, Option.map_some] at hW ⊢
      by_cases hdn : o.done = true
      · rw [if_pos hdn]
        have hup : e.upAt (f.st : Int) = none := by unfold Lk.En.upAt; rw [hix]; simp [ho, hdn]
        exact gotCredit_begun b g B e d v evs f w true h hst hst2 hup hbg.symm
      · rw [if_neg hdn] at hW ⊢
        have hup : e.upAt (f.st : Int) = some (i, o) := by unfold Lk.En.upAt; rw [hix]; simp [ho, hdn]
        by_cases hn : Lk.numOf f.d = 0 ∨ 100000 < o.cr + Lk.numOf f.d
        · rw [if_pos hn]
          exact gotCredit_own b g B i e d o v evs f w h hd hst hst2 hup true (by simpa using hn) (fun h => by cases h)
        · rw [if_neg hn] at hW ⊢
          have := gotCredit_own b g B i e d o v evs f w h hd hst hst2 hup false (by simpa using hn) (fun _ => hW)
          exact this
end Go.Proofs.YtbkpdapagfjmmaaGreatDoor

/-
  Walks: what an end does with a piece.
-/
namespace Go.Proofs.YtbkpdapagfjmmaaGreatDoor
open Go.RowKit

/-- The stream of the other end that a frame is for, if it goes on. -/
def Lk.En.goesOn (e : Lk.En) (st : Int) : Option (Nat × Lk.Ot) := (Lk.othIx e.oth st).bind fun i => (e.oth[i]?).bind fun o => if o.opn || o.drp then some (i, o) else none
theorem goesOn_some {e : Lk.En} {st : Int} {i : Nat} {o : Lk.Ot} (h : e.goesOn st = some (i, o)) : e.oth[i]? = some o ∧ (o.opn || o.drp) = true ∧ (o.id : Int) = st := by
  unfold Lk.En.goesOn at h
  cases hx : Lk.othIx e.oth st with
  | none => rw [hx] at h; cases h
  | some j =>
    rw [hx] at h
    obtain ⟨x, hxo, hid⟩ := Lk.othIx_some hx
    simp only [Option.bind_some, hxo] at h
    by_cases hd : (x.opn || x.drp) = true
    · rw [if_pos hd] at h
      simp at h
      obtain ⟨rfl, rfl⟩ := h
      exact ⟨hxo, hd, hid⟩
    · rw [if_neg hd] at h
      cases h
theorem goesOn_of {e : Lk.En} (hw : Lk.Wf e) {i : Nat} {o : Lk.Ot} (ho : e.oth[i]? = some o) (hd : (o.opn || o.drp) = true) : e.goesOn (o.id : Int) = some (i, o) := by
  unfold Lk.En.goesOn
  cases hx : Lk.othIx e.oth (o.id : Int) with
  | none => exact absurd rfl (othIx_none hx i o ho)
  | some j =>
    obtain ⟨x, hxo, hid⟩ := Lk.othIx_some hx
    have := set_id hw ho hxo (by omega)
    subst this
    rw [ho] at hxo
    cases hxo
    simp only [Option.bind_some, ho]
    rw [if_pos hd]
theorem goesOn_in {w : World} {b : Nat} {e : Lk.En} {d : PD} (hL : Live w b e d) {st : Int} {i : Nat} {o : Lk.Ot} (h : e.goesOn st = some (i, o)) : ∃ p, d.ins o.id = some p ∧ Is w p 227 (inV o.cr o.held o.drp false) := by
  obtain ⟨ho, hd, hid⟩ := goesOn_some h
  cases hp : d.ins o.id with
  | none =>
    have := (hL.oths i o ho).none hp
    rw [hd] at this
    simp at this
  | some p =>
    obtain ⟨_, cr, cut, hI, hcc⟩ := (hL.oths i o ho).some hp
    obtain ⟨rfl, rfl⟩ := hcc hd
    rw [hd] at hI
    exact ⟨p, rfl, hI⟩
/-- find, as the document has it. -/
theorem findIn_live (b : Nat) (e : Lk.En) (d : PD) (st : Int) (w : World) (hL : Live w b e d) (hk : I64 st) :
    Calls Tryz.prog 117 #[.pointer (some ⟨b, 11, none⟩), .int .i64 st] w fun r w' => (∃ q, r = .returned (.tuple #[q, .bool (e.goesOn st).isSome]) ∧ ∀ i o p, e.goesOn st = some (i, o) → d.ins o.id = some p → q = .pointer (some ⟨p, 0, none⟩)) ∧ ∃ n, w' = w.drewN n := by
  have c17 : w.cell? ⟨b, 17, none⟩ = some (.map (some d.mb)) := hL.rw.blk.cell 17
  cases hg : e.goesOn st with
  | some x =>
    obtain ⟨i, o⟩ := x
    obtain ⟨ho, hd, hid⟩ := goesOn_some hg
    obtain ⟨p, hp, hI⟩ := goesOn_in hL hg
    refine (findIn_some b d.mb d.mn p d.ins st o.cr o.held o.drp false w hL.rw.lt c17 hL.map hk (by rw [← hid]; exact hp) hI).mono ?_
    rintro r w' ⟨rfl, n, rfl⟩
    refine ⟨⟨_, rfl, fun i' o' p' h h' => ?_⟩, n, rfl⟩
    cases h
    rw [hp] at h'
    cases h'
    rfl
  | none =>
    cases hp : d.ins st with
    | none =>
      refine (findIn_none b d.mb d.mn d.ins st w hL.rw.lt c17 hL.map hk hp).mono ?_
      rintro r w' ⟨rfl, n, rfl⟩
      exact ⟨⟨_, rfl, fun i' o' p' h => by cases h⟩, n, rfl⟩
    | some p =>
      obtain ⟨i, o, cr, cut, ho, hid, hI, _, _⟩ := hL.inAt hp
      have hd : (o.opn || o.drp) = false := by
        cases hx : (o.opn || o.drp) with
        | false => rfl
        | true =>
          have := goesOn_of hL.wf ho hx
          rw [hid, hg] at this
          cases this
      rw [hd] at hI
      refine (findIn_some b d.mb d.mn p d.ins st cr o.held cut true w hL.rw.lt c17 hL.map hk hp hI).mono ?_
      rintro r w' ⟨rfl, n, rfl⟩
      exact ⟨⟨_, rfl, fun i' o' p' h => by cases h⟩, n, rfl⟩

/-- Bytes come on an open stream. -/
theorem used_live {w w' : World} {b i p n : Nat} {e : Lk.En} {d : PD} {o : Lk.Ot} (hL : Live w b e d) (ho : e.oth[i]? = some o) (hop : o.opn = true) (hp : d.ins o.id = some p) (hI : Is w' p 227 (inV ((o.cr - n : Nat) : Int) ((o.held + n : Nat) : Int) false false)) (hR : Rw w' b { ecOf e d with icr := ((e.room - n : Nat) : Int) } d.fs) (hO : Only (fun i => i = b ∨ i = p) w w') (hW : Lk.Wf { e with oth := e.oth.set i { o with cr := o.cr - n, held := o.held + n }, room := e.room - n }) :
    LPost w b d { e with oth := e.oth.set i { o with cr := o.cr - n, held := o.held + n }, room := e.room - n } w' := by
  have hOk := hL.wf.oth i o ho
  have hdrp := hOk.two hop
  obtain ⟨_, _, _, hI0, _⟩ := (hL.oths i o ho).some hp
  refine hL.inOp (o' := { o with cr := o.cr - n, held := o.held + n }) ho rfl hR (hO.mono (fun x hx => ?_)) (rs' := d.rs) (mn' := d.mn) (ins' := d.ins) ?_ rfl rfl rfl rfl hL.rowe hL.good hW (fun x hx => .inl hx) ?_ hL.mn ?_ (fun k _ => rfl) (fun q hq => hq)
  · rcases hx with hx | hx
    · exact .inl hx
    · exact .inr (.inr (.inr (hx ▸ hp)))
  · simp [ecOf, nextOth, Lk.En.nextId]
  · refine hL.map.only hO (fun hx => ?_)
    rcases hx with hx | hx
    · exact (hL.sepRow _ (.inl hx)).2.2.2.2.1 rfl
    · exact hL.map.ne hI0 hx
  · unfold OthIs
    show match d.ins (o.id : Int) with | some p => _ | none => _
    rw [hp]
    refine ⟨by simp [hop], ((o.cr - n : Nat) : Int), false, ?_, fun _ => ⟨rfl, hdrp.symm⟩⟩
    simpa [hop, hdrp] using hI
/-- Bytes come on a stream that this end has reset: they are given back. -/
theorem droppedIn_live {w w' : World} {b i p n : Nat} {e : Lk.En} {d : PD} {o : Lk.Ot} {rs' : List Nat} (hL : Live w b e d) (ho : e.oth[i]? = some o) (hop : o.opn = false) (hdr : o.drp = true) (hn64 : n ≤ 268435455) (hp : d.ins o.id = some p) (hI : Is w' p 227 (inV ((o.cr - n : Nat) : Int) 0 true false)) (hR : Rw w' b { ecOf e d with icr := ((e.room - n + n : Nat) : Int), rs := rs' } (d.fs ++ backF n)) (hO : Only (fun i => i = b ∨ i = p ∨ i ∈ d.rs) w w') (hrs : ∀ x ∈ rs', x ∈ d.rs ∨ w.heap.size ≤ x)
    (hW : Lk.Wf (({ e with oth := e.oth.set i { o with cr := o.cr - n }, room := e.room - n } : Lk.En).back n)) :
    LPost w b d (({ e with oth := e.oth.set i { o with cr := o.cr - n }, room := e.room - n } : Lk.En).back n) w' := by
  have hOk := hL.wf.oth i o ho
  have hh0 := hOk.drp hdr
  obtain ⟨_, _, _, hI0, _⟩ := (hL.oths i o ho).some hp
  refine hL.inOp (o' := { o with cr := o.cr - n }) ho rfl hR (hO.mono (fun x hx => ?_)) (rs' := rs') (mn' := d.mn) (ins' := d.ins) ?_ (back_rest _ _).1 (back_rest _ _).2.1 (back_rest _ _).2.2.1 (back_rest _ _).2.2.2.1 ?_ ?_ hW hrs ?_ hL.mn ?_ (fun k _ => rfl) (fun q hq => hq)
  · rcases hx with hx | hx | hx
    · exact .inl hx
    · exact .inr (.inr (.inr (hx ▸ hp)))
    · exact .inr (.inl hx)
  · rw [ecOf_back]
    simp [ecOf, nextOth, Lk.En.nextId]
  · rw [back_row]
    simp [hL.rowe]
  · refine good_append hL.good (fun f hf => ?_)
    unfold backF at hf
    split at hf
    · simp at hf
      subst hf
      exact Lk.good_credit 0 n (by omega) (by omega)
    · simp at hf
  · refine hL.map.only hO (fun hx => ?_)
    rcases hx with hx | hx | hx
    · exact (hL.sepRow _ (.inl hx)).2.2.2.2.1 rfl
    · exact hL.map.ne hI0 hx
    · exact (hL.sepRow _ (.inr hx)).2.2.2.2.1 rfl
  · unfold OthIs
    show match d.ins (o.id : Int) with | some p => _ | none => _
    rw [hp]
    refine ⟨by simp [hdr], ((o.cr - n : Nat) : Int), true, ?_, fun _ => ⟨rfl, hdr.symm⟩⟩
    simpa [hop, hdr, hh0] using hI
end Go.Proofs.YtbkpdapagfjmmaaGreatDoor

/-
  Walks: what an end does with a piece.
-/
namespace Go.Proofs.YtbkpdapagfjmmaaGreatDoor
open Go.RowKit

/-- What a piece does, be it the last or not: the events, the error, the end. -/
def Lk.En.pieceG (e : Lk.En) (st : Nat) (dt : Lk.Bs) : List Lk.Ev × Nat × Lk.En := match e.goesOn st with
  | none => ([], 4, e)
  | some (i, o) => if o.cr < dt.length ∨ e.room < dt.length then ([], 10, e)
    else if o.opn then (if 0 < dt.length then [⟨2, st, 0, [], dt⟩] else [], 0, { e with oth := e.oth.set i { o with cr := o.cr - dt.length, held := o.held + dt.length }, room := e.room - dt.length })
    else ([], 0, ({ e with oth := e.oth.set i { o with cr := o.cr - dt.length }, room := e.room - dt.length } : Lk.En).back dt.length)

theorem frame_new (w : World) (f : Lk.Fr) : Below w.heap.size w (w.alloc (.cells #[.int .i64 (f.k : Int), .int .i64 (f.st : Int), .string (bs f.d)] 79)) := (Below.refl w.heap.size w).alloc (Nat.le_refl _) _

set_option maxHeartbeats 1000000 in
set_option maxRecDepth 100000 in
theorem gotPiece_none (b g B : Nat) (e : Lk.En) (d : PD) (v : Value) (evs : List EvH) (f : Lk.Fr) (w : World) (h : FS w b e d g B v evs) (hst : f.st ≤ 268435455) (hg : e.goesOn (f.st : Int) = none) :
    Calls Tryz.prog 91 #[.pointer (some ⟨b, 0, none⟩), frA f, tellV g] w fun r w' => r = .returned (.int .i64 4) ∧ GPost w b d g B v evs e [] w' := by
  have hb0 := frame_new w f
  have h0 := h.below hb0
  have hbl := h.live.rw.lt
  have HF := hide (fun n => findIn_live b e d (f.st : Int) ((w.alloc (.cells #[.int .i64 (f.k : Int), .int .i64 (f.st : Int), .string (bs f.d)] 79)).drewN n) (h0.drewN n).live ⟨by omega, by omega⟩)
  rw [hg] at HF
  have HH := hide h0
  have HB := hide hb0
  clear h h0 hb0 hg
  unfold tellV
  go_enter Tryz.func91, Tryz.ntmps91
  go_wp2_with fail
  go_region_with (first | (go_at_call 117; refine (unhide HF 1).mono ?_; rintro r w1 ⟨⟨q, rfl, _⟩, n, rfl⟩))
  all_goals
    go_wp2_with fail
    go_ret
    refine ⟨rfl, GPost.before (unhide HB) ?_⟩
    first
      | exact GPost.same_below (unhide HH) (Below.drewN (Below.refl _ _) _)
      | exact GPost.same_below (unhide HH) (Below.drewN (Below.drewN (Below.refl _ _) _) _)

theorem find_quiet (b : Nat) (e : Lk.En) (d : PD) (st : Int) (i p : Nat) (o : Lk.Ot) (w : World) (hL : Live w b e d) (hk : I64 st) (hg : e.goesOn st = some (i, o)) (hp : d.ins o.id = some p) :
    Calls Tryz.prog 117 #[.pointer (some ⟨b, 11, none⟩), .int .i64 st] w fun r w' => r = .returned (.tuple #[.pointer (some ⟨p, 0, none⟩), .bool true]) ∧ ∃ n, w' = w.drewN n := by
  refine (findIn_live b e d st w hL hk).mono ?_
  rintro r w' ⟨⟨q, rfl, hq⟩, n, rfl⟩
  rw [hq i o p hg hp, hg]
  exact ⟨rfl, n, rfl⟩

set_option maxHeartbeats 1000000 in
set_option maxRecDepth 100000 in
theorem gotPiece_flow (b g B i : Nat) (e : Lk.En) (d : PD) (o : Lk.Ot) (v : Value) (evs : List EvH) (f : Lk.Fr) (w : World) (h : FS w b e d g B v evs) (hst : f.st ≤ 268435455) (hg : e.goesOn (f.st : Int) = some (i, o)) (hfl : o.cr < f.d.length ∨ e.room < f.d.length) :
    Calls Tryz.prog 91 #[.pointer (some ⟨b, 0, none⟩), frA f, tellV g] w fun r w' => r = .returned (.int .i64 10) ∧ GPost w b d g B v evs e [] w' := by
  have hb0 := frame_new w f
  have h0 := h.below hb0
  have hbl := h.live.rw.lt
  obtain ⟨p, hp, hI⟩ := goesOn_in h0.live hg
  have hpl := hI.lt
  have hls := bs_size f.d
  have HF := hide (fun n => find_quiet b e d (f.st : Int) i p o ((w.alloc (.cells #[.int .i64 (f.k : Int), .int .i64 (f.st : Int), .string (bs f.d)] 79)).drewN n) (h0.drewN n).live ⟨by omega, by omega⟩ hg hp)
  have HU := hide (fun n => useIn_no b p e.room o.cr o.held f.d.length o.drp false (ecOf e d) d.fs ((w.alloc (.cells #[.int .i64 (f.k : Int), .int .i64 (f.st : Int), .string (bs f.d)] 79)).drewN n) (h0.drewN n).live.rw rfl (hI.drewN n) hfl)
  have HH := hide h0
  have HB := hide hb0
  clear h h0 hb0 hg hp hI hfl
  unfold tellV
  go_enter Tryz.func91, Tryz.ntmps91
  go_wp2_with fail
  go_quiet ((go_at_call 117; exact Calls.quiet_of (unhide HF _)))
  go_wp2_with fail
  go_quiet ((go_at_call 140; exact (unhide HU _).mono fun _ _ h => ⟨h.1, _, h.2⟩))
  go_wp2_with fail
  go_ret
  refine ⟨rfl, GPost.before (unhide HB) ?_⟩
  first
    | exact GPost.same_below (unhide HH) (Below.drewN (Below.refl _ _) _)
    | exact GPost.same_below (unhide HH) (Below.drewN (Below.drewN (Below.refl _ _) _) _)
end Go.Proofs.YtbkpdapagfjmmaaGreatDoor

/-
  Walks: what an end does with a piece: bytes come.
-/
namespace Go.Proofs.YtbkpdapagfjmmaaGreatDoor
open Go.RowKit

theorem FS.ofL2 {w w' : World} {b : Nat} {e e' : Lk.En} {d : PD} {g B : Nat} {v : Value} {evs : List EvH} (h : FS w b e d g B v evs) (hL : LPost w b d e' w') : ∃ d', FS w' b e' d' g B v evs ∧ (∀ i, foot b d' i → foot b d i ∨ w.heap.size ≤ i) ∧ Only (foot b d) w w' := by
  obtain ⟨d', h1, h2, h3⟩ := hL
  refine ⟨d', ⟨h1, h.told.only h3 h.sep, fun i hi hf => ?_, h.fx.only h3 (fun h0 => by have := h.live.pos 0 h0; omega), Nat.le_trans h.hB h3.size, h.B0, h.gB⟩, h2, h3⟩
  rcases h2 i hf with h' | h'
  · exact h.sep i hi h'
  · have := h.told.lt i hi; omega
/-- What an end is at, from the world that a call found. -/
theorem GPost.of {w wc w' : World} {b : Nat} {d d1 : PD} {g B : Nat} {v : Value} {evs : List EvH} {e1 e2 : Lk.En} {l : List Lk.Ev} (h1 : FS wc b e1 d1 g B v evs) (hf : ∀ i, foot b d1 i → foot b d i ∨ w.heap.size ≤ i) (hO : Only (fun i => foot b d i ∨ toldFoot g v evs i) w wc) (h2 : GPost wc b d1 g B v evs e2 l w') : GPost w b d g B v evs e2 l w' := by
  have := GPost.trans (n1 := []) (l1 := []) rfl (by rw [List.append_nil]; exact h1) hf (fun i hi => .inl (by rwa [List.append_nil] at hi)) hO (by rw [List.append_nil]; exact h2)
  exact this

set_option maxHeartbeats 2000000 in
set_option maxRecDepth 100000 in
theorem gotPiece_open (b g B i : Nat) (e : Lk.En) (d : PD) (o : Lk.Ot) (v : Value) (evs : List EvH) (f : Lk.Fr) (w : World) (h : FS w b e d g B v evs) (hl : evs.length ≤ 2 ^ 40) (hst : f.st ≤ 268435455) (hg : e.goesOn (f.st : Int) = some (i, o)) (hfl : ¬ (o.cr < f.d.length ∨ e.room < f.d.length)) (hop : o.opn = true) (hW : Lk.Wf { e with oth := e.oth.set i { o with cr := o.cr - f.d.length, held := o.held + f.d.length }, room := e.room - f.d.length }) :
    Calls Tryz.prog 91 #[.pointer (some ⟨b, 0, none⟩), frA f, tellV g] w fun r w' => r = .returned (.int .i64 0) ∧ GPost w b d g B v evs { e with oth := e.oth.set i { o with cr := o.cr - f.d.length, held := o.held + f.d.length }, room := e.room - f.d.length } (if 0 < f.d.length then [⟨2, f.st, 0, [], f.d⟩] else []) w' := by
  have hb0 := frame_new w f
  have h0 := h.below hb0
  have hbl := h.live.rw.lt
  obtain ⟨ho, _, _⟩ := goesOn_some hg
  have hOk := h.live.wf.oth i o ho
  have hdrp := hOk.two hop
  obtain ⟨p, hp, hI⟩ := goesOn_in h0.live hg
  rw [hdrp] at hI
  have hpl := hI.lt
  have hls := bs_size f.d
  have hwin := h.live.wf.win2
  have hroom : e.room ≤ 400 := by have := h.live.wf.room; omega
  have hcrb := hOk.cr
  have HF := hide (fun n => find_quiet b e d (f.st : Int) i p o ((w.alloc (.cells #[.int .i64 (f.k : Int), .int .i64 (f.st : Int), .string (bs f.d)] 79)).drewN n) (h0.drewN n).live ⟨by omega, by omega⟩ hg hp)
  have HU := hide (fun n => useIn_yes b p e.room o.cr o.held f.d.length false false (ecOf e d) d.fs ((w.alloc (.cells #[.int .i64 (f.k : Int), .int .i64 (f.st : Int), .string (bs f.d)] 79)).drewN n) (h0.drewN n).live.rw rfl (hI.drewN n) (by omega) (by omega) (by omega) (by omega) (by omega))
  have HFR := hide (Is.new w 79 [.int .i64 (f.k : Int), .int .i64 (f.st : Int), .string (bs f.d)])
  have HH := hide h0
  have HB := hide hb0
  have HX := hide (⟨ho, hop, hp, hW⟩ : _ ∧ _ ∧ _ ∧ _)
  have hpw : p ≠ w.heap.size := fun e => by
    subst e
    exact (unhide HFR).ne hI (Nat.ne_of_beq_eq_false rfl) rfl
  clear h h0 hb0 hg hp hI hfl ho hOk hop hW hdrp hcrb hroom hwin
  unfold tellV
  go_enter Tryz.func91, Tryz.ntmps91
  go_wp2_with fail
  go_quiet ((go_at_call 117; exact Calls.quiet_of (unhide HF _)))
  go_wp2_with fail
  go_cut [9] (fun u wc => u = .int .i64 0 ∧ ∃ d1, FS wc b { e with oth := e.oth.set i { o with cr := o.cr - f.d.length, held := o.held + f.d.length }, room := e.room - f.d.length } d1 g B v evs ∧ Is wc p 227 (inV ((o.cr - f.d.length : Nat) : Int) ((o.held + f.d.length : Nat) : Int) false false) ∧ Is wc w.heap.size 79 [.int .i64 (f.k : Int), .int .i64 (f.st : Int), .string (bs f.d)] ∧ (∀ j, foot b d1 j → foot b d j ∨ w.heap.size ≤ j) ∧ Only (fun j => foot b d j ∨ toldFoot g v evs j) w wc)
  case first =>
    go_region_with (first | (go_at_call 140; refine (unhide HU (nq + 1)).mono ?_; rintro r w1 ⟨rfl, hI1, hR1, hO1⟩))
    all_goals
      go_wp2_with fail
      go_meet
      obtain ⟨ho, hop, hp, hW⟩ := unhide HX
      have hLP := used_live ((unhide HH).drewN (nq + 1)).live ho hop hp hI1 hR1 hO1 hW
      obtain ⟨d1, a2, a3, a5⟩ := ((unhide HH).drewN (nq + 1)).ofL2 hLP
      have hnf : ¬ (w.heap.size = b ∨ w.heap.size = p) := fun hx => by
        rcases hx with hx | hx
        · omega
        · exact hpw hx.symm
      refine ⟨rfl, d1, a2, hI1, ((unhide HFR).drewN (nq + 1)).only hO1 hnf, fun j hj => ?_, ?_⟩
      · rcases a3 j hj with h' | h'
        · exact .inl h'
        · exact .inr (Nat.le_trans (unhide HB).size h')
      · exact (((Only.of_below (unhide HB) _).drewN (nq + 1)).trans a5 (fun j hj _ => .inl hj))
  case rest =>
    obtain ⟨rfl, d1, h1, hI1, hFr, hf1, hO1⟩ := hcut
    have p2 := hI1.cell 2
    simp only [inV, List.getElem?_cons_zero, List.getElem?_cons_succ] at p2
    have hpl1 := hI1.lt
    have k1 := hFr.cell 1
    have k2 := hFr.cell 2
    simp only [List.getElem?_cons_zero, List.getElem?_cons_succ] at k1 k2
    have hfl1 := hFr.lt
    by_cases hne : f.d = []
    · have e0 : bs f.d = ⟨#[]⟩ := by rw [hne]; rfl
      rw [e0] at k2
      have HG := hide (GPost.of h1 hf1 hO1 (GPost.same h1))
      clear h1 hI1 hFr hf1 hO1
      go_wp2_with fail
      all_goals
        go_ret
        refine ⟨rfl, ?_⟩
        simpa [hne] using unhide HG
    · have hlen : 0 < f.d.length := List.length_pos_iff.2 hne
      have hnE := bs_nonempty hne
      have HT := hide (tell_plain b g B _ d1 v evs 2 f.st 0 f.d wc h1 hl)
      have HG := hide (⟨h1, hf1, hO1⟩ : _ ∧ _ ∧ _)
      clear h1 hI1 hFr hf1 hO1
      go_wp2_with fail
      refine (unhide HT).mono ?_
      rintro r w3 ⟨rfl, hG⟩
      go_wp2_with fail
      go_ret
      obtain ⟨h1, hf1, hO1⟩ := unhide HG
      refine ⟨rfl, ?_⟩
      have hx := GPost.of h1 hf1 hO1 hG
      first | exact hx | (rw [if_pos hlen]; exact hx)

set_option maxHeartbeats 2000000 in
set_option maxRecDepth 100000 in
theorem gotPiece_drop (b g B i : Nat) (e : Lk.En) (d : PD) (o : Lk.Ot) (v : Value) (evs : List EvH) (f : Lk.Fr) (w : World) (h : FS w b e d g B v evs) (hst : f.st ≤ 268435455) (hd64 : f.d.length ≤ 64) (hg : e.goesOn (f.st : Int) = some (i, o)) (hfl : ¬ (o.cr < f.d.length ∨ e.room < f.d.length)) (hop : o.opn = false) (hW : Lk.Wf (({ e with oth := e.oth.set i { o with cr := o.cr - f.d.length }, room := e.room - f.d.length } : Lk.En).back f.d.length)) :
    Calls Tryz.prog 91 #[.pointer (some ⟨b, 0, none⟩), frA f, tellV g] w fun r w' => r = .returned (.int .i64 0) ∧ GPost w b d g B v evs (({ e with oth := e.oth.set i { o with cr := o.cr - f.d.length }, room := e.room - f.d.length } : Lk.En).back f.d.length) [] w' := by
  have hb0 := frame_new w f
  have h0 := h.below hb0
  have hbl := h.live.rw.lt
  obtain ⟨ho, hod, hid⟩ := goesOn_some hg
  have hOk := h.live.wf.oth i o ho
  have hdrp : o.drp = true := by rw [hop] at hod; simpa using hod
  have hh0 := hOk.drp hdrp
  obtain ⟨p, hp, hI⟩ := goesOn_in h0.live hg
  rw [hdrp, hh0] at hI
  have hpl := hI.lt
  have hls := bs_size f.d
  have hwin := h.live.wf.win2
  have hroom : e.room ≤ 400 := by have := h.live.wf.room; omega
  have hcrb := hOk.cr
  have HF := hide (fun n => find_quiet b e d (f.st : Int) i p o ((w.alloc (.cells #[.int .i64 (f.k : Int), .int .i64 (f.st : Int), .string (bs f.d)] 79)).drewN n) (h0.drewN n).live ⟨by omega, by omega⟩ hg hp)
  have HU := hide (fun n => useIn_yes b p e.room o.cr 0 f.d.length true false (ecOf e d) d.fs ((w.alloc (.cells #[.int .i64 (f.k : Int), .int .i64 (f.st : Int), .string (bs f.d)] 79)).drewN n) (h0.drewN n).live.rw rfl (hI.drewN n) (by omega) (by omega) (by omega) (by omega) (by omega))
  have HH := hide h0
  have HB := hide hb0
  have HX := hide (⟨ho, hop, hdrp, hp, hW⟩ : _ ∧ _ ∧ _ ∧ _ ∧ _)
  have hrm : e.room - f.d.length ≤ 1000000 := by omega
  clear h h0 hb0 hg hp hI hfl ho hod hid hOk hop hW hdrp hcrb hroom hwin hh0
  unfold tellV
  go_enter Tryz.func91, Tryz.ntmps91
  go_wp2_with fail
  go_quiet ((go_at_call 117; exact Calls.quiet_of (unhide HF _)))
  go_wp2_with fail
  go_cut [9] (fun u wc => u = .int .i64 0 ∧ Is wc p 227 (inV ((o.cr - f.d.length : Nat) : Int) ((0 + f.d.length : Nat) : Int) true false) ∧ Rw wc b { ecOf e d with icr := ((e.room - f.d.length : Nat) : Int) } d.fs ∧ Only (fun j => j = b ∨ j = p) (w.alloc (.cells #[.int .i64 (f.k : Int), .int .i64 (f.st : Int), .string (bs f.d)] 79)) wc)
  case first =>
    go_region_with (first | (go_at_call 140; refine (unhide HU (nq + 1)).mono ?_; rintro r w1 ⟨rfl, hI1, hR1, hO1⟩))
    all_goals
      go_wp2_with fail
      go_meet
      exact ⟨rfl, hI1, hR1, ⟨hO1.os, hO1.tape, hO1.output, hO1.size, hO1.block⟩⟩
  case rest =>
    obtain ⟨rfl, hI1, hR1, hO1⟩ := hcut
    have p2 := hI1.cell 2
    simp only [inV, List.getElem?_cons_zero, List.getElem?_cons_succ] at p2
    have hpl1 := hI1.lt
    have hbl1 := hR1.lt
    have HC := hide (fun k => giveBack_any b p (e.room - f.d.length) (0 + f.d.length) ((o.cr - f.d.length : Nat) : Int) true false { ecOf e d with icr := ((e.room - f.d.length : Nat) : Int) } d.fs (wc.drewN k) (hR1.only ((Only.refl (fun _ => False) wc).drewN k) (fun h => h) (fun _ _ h => h)) rfl (hI1.drewN k) (by omega) hrm)
    unfold putV at HC
    have HO1 := hide hO1
    clear hI1 hR1 hO1
    go_wp2_with fail
    go_cut [] (fun w5 => GPost w b d g B v evs (({ e with oth := e.oth.set i { o with cr := o.cr - f.d.length }, room := e.room - f.d.length } : Lk.En).back f.d.length) [] w5)
    case first =>
      go_region_with (first | (go_at_call 141; refine (unhide HC 1).mono ?_; rintro r w4 ⟨rfl, rs', hrs, hI4, hR4, hO4⟩))
      all_goals
        go_wp2_with fail
        go_meet
        obtain ⟨ho, hop, hdrp, hp, hW⟩ := unhide HX
        have hO1 := unhide HO1
        rw [Nat.zero_add] at hR4
        have hO5 : Only (fun j => j = b ∨ j = p ∨ j ∈ d.rs) (w.alloc (.cells #[.int .i64 (f.k : Int), .int .i64 (f.st : Int), .string (bs f.d)] 79)) w4 := ((hO1.mono (fun j hj => hj.imp id (fun h => .inl h))).drewN 1).trans hO4 (fun j hj _ => hj)
        have hLP := droppedIn_live (unhide HH).live ho hop hdrp (by omega) hp hI4 hR4 hO5 (fun x hx => (hrs x hx).imp id (fun h => Nat.le_trans hO1.size h)) hW
        exact GPost.before (unhide HB) ((unhide HH).ofL hLP)
    case rest =>
      go_wp2_with fail
      go_ret
      exact ⟨rfl, hcut⟩

theorem gotPiece_any (b g B : Nat) (e : Lk.En) (d : PD) (v : Value) (evs : List EvH) (f : Lk.Fr) (w : World) (h : FS w b e d g B v evs) (hl : evs.length ≤ 2 ^ 40) (hst : f.st ≤ 268435455) (hd64 : f.d.length ≤ 64) (hW : Lk.Wf (e.pieceG f.st f.d).2.2) :
    Calls Tryz.prog 91 #[.pointer (some ⟨b, 0, none⟩), frA f, tellV g] w fun r w' => r = .returned (.int .i64 ((e.pieceG f.st f.d).2.1 : Int)) ∧ GPost w b d g B v evs (e.pieceG f.st f.d).2.2 (e.pieceG f.st f.d).1 w' := by
  unfold Lk.En.pieceG at hW ⊢
  cases hg : e.goesOn (f.st : Int) with
  | none => exact gotPiece_none b g B e d v evs f w h hst hg
  | some x =>
    obtain ⟨i, o⟩ := x
    rw [hg] at hW
    simp only at hW ⊢
    by_cases hfl : o.cr < f.d.length ∨ e.room < f.d.length
    · rw [if_pos hfl]
      exact gotPiece_flow b g B i e d o v evs f w h hst hg hfl
    · rw [if_neg hfl] at hW ⊢
      by_cases hop : o.opn = true
      · rw [if_pos hop] at hW ⊢
        exact gotPiece_open b g B i e d o v evs f w h hl hst hg hfl hop hW
      · rw [if_neg hop] at hW ⊢
        exact gotPiece_drop b g B i e d o v evs f w h hst hd64 hg hfl (by simpa using hop) hW
end Go.Proofs.YtbkpdapagfjmmaaGreatDoor
