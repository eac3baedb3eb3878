import Derived.Test.YtbkpdapagfjmmaaGreatDoorMPOPQ
set_option linter.unusedVariables false
set_option maxRecDepth 100000
set_option maxHeartbeats 16000000
namespace Go.Proofs.YtbkpdapagfjmmaaGreatDoor
open Go.RowKit
theorem LPost.trans {w w1 w2 : World} {b : Nat} {d : PD} {e1 e2 : Lk.En} {d1 : PD} (_h1 : Live w1 b e1 d1) (hf : ∀ i, foot b d1 i → foot b d i ∨ w.heap.size ≤ i) (hO : Only (foot b d) w w1) (h2 : LPost w1 b d1 e2 w2) : LPost w b d e2 w2 := by
  obtain ⟨d2, h3, h4, h5⟩ := h2
  refine ⟨d2, h3, fun i hi => ?_, hO.trans h5 (fun i hi hlt => ?_)⟩
  · rcases h4 i hi with h | h
    · exact hf i h
    · exact .inr (Nat.le_trans hO.size h)
  · rcases hf i hi with h | h
    · exact h
    · omega
theorem nodup_drop {R : Option Nat} {ps : List Nat} (h : ps.Nodup) : (dropL R ps).Nodup := by
  cases R with
  | none => exact h
  | some i => exact h.sublist (List.eraseIdx_sublist ps i)
theorem mem_drop {R : Option Nat} {ps : List Nat} {x : Nat} (h : x ∈ dropL R ps) : x ∈ ps := by
  cases R with
  | none => exact h
  | some i => exact List.mem_of_mem_eraseIdx h
theorem len_drop {R : Option Nat} {ps : List Nat} : (dropL R ps).length ≤ ps.length := by
  cases R with
  | none => exact Nat.le_refl _
  | some i => exact (List.eraseIdx_sublist ps i).length_le
def Lk.En.upAt (e : Lk.En) (k : Int) : Option (Nat × Lk.Ow) := (Lk.ownIx e.own k).bind fun i => (e.own[i]?).bind fun o => if o.done then none else some (i, o)
def Lk.En.dropped (e : Lk.En) (k : Int) : Lk.En := match e.upAt k with
  | some (i, o) => { e with own := e.own.set i { o with done := true } }
  | none => e
theorem Lk.En.upAt_some {e : Lk.En} {k : Int} {i : Nat} {o : Lk.Ow} (h : e.upAt k = some (i, o)) : e.own[i]? = some o ∧ o.done = false ∧ (o.id : Int) = k := by
  unfold Lk.En.upAt at h
  cases hx : Lk.ownIx e.own k with
  | none => rw [hx] at h; cases h
  | some j =>
    rw [hx] at h
    obtain ⟨x, hxo, hid⟩ := Lk.ownIx_some hx
    simp only [Option.bind_some, hxo] at h
    cases hd : x.done with
    | true => rw [hd] at h; simp at h
    | false =>
      rw [hd] at h
      simp at h
      obtain ⟨rfl, rfl⟩ := h
      exact ⟨hxo, hd, hid⟩
theorem Wf.dropped {e : Lk.En} (h : Lk.Wf e) (k : Int) : Lk.Wf (e.dropped k) := by
  unfold Lk.En.dropped
  cases hx : e.upAt k with
  | none => exact h
  | some p =>
    obtain ⟨i, o⟩ := p
    obtain ⟨ho, _, _⟩ := Lk.En.upAt_some hx
    have hk := h.own i o ho
    exact h.setOwn (x := { o with done := true }) ho rfl hk.left hk.cr h.all (a := e.all) (t := e.turn)
theorem drop_live (b : Nat) (e : Lk.En) (d : PD) (k : Int) (w : World) (hL : Live w b e d) :
    Calls Tryz.prog 75 #[.pointer (some ⟨b, 3, none⟩), .int .i64 k] w fun r w' => r = .returned (.bool (e.upAt k).isSome) ∧ LPost w b d (e.dropped k) w' := by
  have hup := up_own hL.wf k
  have h4 := hL.ps4
  refine (drop_any b 0 101 (ecOf e d).cells d.sv (upOwn e) d.ps k _ w hL.rw.blk (nbq rfl) (nbq rfl) rfl hL.outs hL.sl (by omega) (up_apart hL.wf) hup).mono ?_
  rintro r w' ⟨rfl, v', hI, ho, hv, hO, hOn⟩
  have hfoot : ∀ x, v'.ownBlock = some x → d.sv.ownBlock = some x ∨ w.heap.size ≤ x := fun x hx => .inl (hv ▸ hx)
  have hrow : ∀ r ∈ d.rs, ¬ (r = b ∨ some r = d.sv.ownBlock) := fun r hr hx => by
    rcases hx with hx | hx
    · subst hx; exact hL.rw.notIn hr
    · exact (hL.sepRow r (.inr hr)).2.2.1 hx.symm
  have hR : Rw w' b { ecOf e d with sv := v' } d.fs := ⟨hI, hL.rw.row.only hOn hrow⟩
  have hout : w'.ownsRow 0 112 2 d.ov e.out.length (hdsV e.out) := own_only hL.out hOn (fun i hi hx => by
    rcases hx with hx | hx
    · exact (hL.sepRow i (.inl hx)).1 hi
    · rcases own_own_ne hL.out hL.sl (nbq rfl) with h | h
      · rw [h] at hi; cases hi
      · exact h (hi.trans hx))
  have hOn' : Only (fun x => x = b ∨ x ∈ d.rs ∨ d.sv.ownBlock = some x ∨ x ∈ d.ps) w w' := hOn.mono (fun x hx => by
    rcases hx with hx | hx
    · exact .inl hx
    · exact .inr (.inr (.inl hx.symm)))
  have hW := Wf.dropped hL.wf k
  refine ⟨?_, ?_⟩
  · rw [Option.isSome_map]
    rfl
  · unfold Lk.En.dropped at hW ⊢
    show LPost w b d (match e.upAt k with | some (i, o) => _ | none => _) w'
    cases hx : e.upAt k with
    | none =>
      rw [hx] at hW
      have hx' : ((Lk.ownIx e.own k).bind fun i => (e.own[i]?).bind fun o => if o.done then none else some (i, o)) = none := hx
      rw [hx'] at ho
      refine hL.outOp hR hOn' (ps' := d.ps) (sv' := v') (ov' := d.ov) (rs' := d.rs) rfl rfl rfl hL.rowe hL.good hW (fun x hx => .inl hx) ho hfoot hout (fun x hx => .inl hx) hO hL.psn (fun x hx => .inl hx) hL.ps4
    | some p =>
      obtain ⟨i, o⟩ := p
      rw [hx] at hW
      have hx' : ((Lk.ownIx e.own k).bind fun i => (e.own[i]?).bind fun o => if o.done then none else some (i, o)) = some (i, o) := hx
      rw [hx'] at ho
      obtain ⟨hoi, hd, _⟩ := Lk.En.upAt_some hx
      have hu : upOwn { e with own := e.own.set i { o with done := true } } = (upOwn e).eraseIdx (posL e.own i) := up_set_done e.own i o { o with done := true } hoi hd rfl
      refine hL.outOp (e' := { e with own := e.own.set i { o with done := true } }) hR hOn' (ps' := d.ps.eraseIdx (posL e.own i)) (sv' := v') (ov' := d.ov) (rs' := d.rs) ?_ rfl rfl hL.rowe hL.good hW (fun x hx => .inl hx) ho hfoot hout (fun x hx => .inl hx) ?_ (nodup_drop (R := some _) hL.psn) (fun x hx => .inl (mem_drop (R := some _) hx)) (Nat.le_trans (len_drop (R := some _)) hL.ps4)
      · simp [ecOf, Lk.En.nextId, nextOth]
      · rw [hu]
        exact hO.drop (some (posL e.own i))
theorem back_row (e : Lk.En) (n : Nat) : (e.back n).row = e.row ++ (backF n).map Lk.Fr.pack := by
  unfold Lk.En.back backF
  split
  · simp [Lk.En.send, Lk.Fr.pack]
  · simp
theorem back_room (e : Lk.En) (n : Nat) : (e.back n).room = e.room + n := by
  unfold Lk.En.back
  split
  · rfl
  · show e.room = _; omega
theorem back_rest (e : Lk.En) (n : Nat) : (e.back n).own = e.own ∧ (e.back n).oth = e.oth ∧ (e.back n).out = e.out ∧ (e.back n).inn = e.inn ∧ (e.back n).down = e.down ∧ (e.back n).rest = e.rest ∧ (e.back n).win = e.win ∧ (e.back n).side = e.side ∧ (e.back n).turn = e.turn ∧ (e.back n).all = e.all ∧ (e.back n).byeS = e.byeS ∧ (e.back n).byeC = e.byeC := by
  unfold Lk.En.back
  split <;> exact ⟨rfl, rfl, rfl, rfl, rfl, rfl, rfl, rfl, rfl, rfl, rfl, rfl⟩
theorem ecOf_back (e : Lk.En) (d : PD) (n : Nat) : ecOf (e.back n) d = { ecOf e d with icr := ((e.room + n : Nat) : Int) } := by
  obtain ⟨h1, h2, h3, h4, h5, h6, h7, h8, h9, h10, h11, h12⟩ := back_rest e n
  have h13 := back_room e n
  simp only [ecOf, h2, h3, h4, h5, h6, h7, h8, h9, h10, h11, h12, h13, Lk.En.nextId, nextOth, h1]
def Lk.En.cutE (e : Lk.En) (i : Nat) (o : Lk.Ot) (code : Nat) : Lk.En := (({ e with oth := e.oth.set i { o with opn := false, drp := true, held := 0 } } : Lk.En).send 3 o.id (Lk.wire code)).back o.held
theorem cut_live (b i p code : Nat) (e : Lk.En) (d : PD) (o : Lk.Ot) (w : World) (hL : Live w b e d) (ho : e.oth[i]? = some o) (hop : o.opn = true) (hp : d.ins o.id = some p) (hc : code ≤ 268435455) (hW : Lk.Wf (e.cutE i o code)) :
    Calls Tryz.prog 119 #[.pointer (some ⟨b, 0, none⟩), .int .i64 (o.id : Int), .pointer (some ⟨p, 0, none⟩), .int .i64 (code : Int)] w fun r w' => r = .returned (.tuple #[]) ∧ LPost w b d (e.cutE i o code) w' := by
  obtain ⟨_, cr, cut, hI, hcc⟩ := (hL.oths i o ho).some hp
  have hOk := hL.wf.oth i o ho
  have hdrp := hOk.two hop
  have hheld := hL.wf.held ho
  have hroom : e.room ≤ 400 := by have := hL.wf.room; have := hL.wf.win2; omega
  have hcc' := hcc (by simp [hop])
  have hid1 : 0 < o.id := by have := hOk.id; have := hL.wf.side; omega
  refine (cut_raw b p e.room o.held o.id code cr cut _ (ecOf e d) d.fs w hL.rw rfl hI (by omega) (by omega) hc).mono ?_
  rintro r w' ⟨rfl, rs', hrs, hI', hR', hO'⟩
  refine ⟨rfl, hL.inOp (o' := { o with opn := false, drp := true, held := 0 }) ho rfl hR' (hO'.mono (fun x hx => ?_)) (rs' := rs') (mn' := d.mn) (ins' := d.ins) ?_ ?_ ?_ ?_ ?_ ?_ ?_ hW hrs ?_ hL.mn ?_ (fun k _ => rfl) (fun q hq => hq)⟩
  · rcases hx with hx | hx | hx
    · exact .inl hx
    · exact .inr (.inr (.inr (hx ▸ hp)))
    · exact .inr (.inl hx)
  · unfold Lk.En.cutE
    rw [ecOf_back]
    simp [ecOf, Lk.En.send, nextOth, Lk.En.nextId]
  · exact (back_rest _ _).1
  · exact (back_rest _ _).2.1
  · exact (back_rest _ _).2.2.1
  · exact (back_rest _ _).2.2.2.1
  · unfold Lk.En.cutE
    rw [back_row]
    simp [Lk.En.send, hL.rowe, cutF, Lk.Fr.pack]
  · refine good_append hL.good (fun f hf => ?_)
    unfold cutF backF at hf
    rcases List.mem_cons.1 hf with hf | hf
    · subst hf; exact Lk.good_reset o.id code hid1 hOk.id28 hc
    · split at hf
      · simp at hf
        subst hf
        exact Lk.good_credit 0 o.held (by omega) (by omega)
      · simp at hf
  · refine hL.map.only hO' (fun hx => ?_)
    rcases hx with hx | hx | hx
    · exact (hL.sepRow _ (.inl hx)).2.2.2.2.1 rfl
    · exact hL.map.ne hI hx
    · exact (hL.sepRow _ (.inr hx)).2.2.2.2.1 rfl
  · unfold OthIs
    show match d.ins (o.id : Int) with | some p => _ | none => _
    rw [hp]
    refine ⟨by simp, cr, true, ?_, fun _ => ⟨hcc'.1, rfl⟩⟩
    simpa [hop] using hI'
end Go.Proofs.YtbkpdapagfjmmaaGreatDoor

namespace Go.Proofs.YtbkpdapagfjmmaaGreatDoor
open Go.RowKit
theorem reset_range (b : Nat) (k code : Int) (w : World) (hb : b < w.heap.size) (c2 : w.cell? ⟨b, 2, none⟩ = some (.int .i64 0)) (hc : code < 0 ∨ 268435455 < code) :
    Calls Tryz.prog 69 #[.pointer (some ⟨b, 0, none⟩), .int .i64 k, .int .i64 code] w fun r w' => r = .returned (.int .i64 1) ∧ w' = w := by
  have hnum : (decide (0 ≤ code) && decide (code ≤ 268435455)) = false := by
    rcases hc with h | h
    · rw [decide_eq_false (by omega)]; rfl
    · rw [decide_eq_false (by omega : ¬ code ≤ 268435455), Bool.and_false]
  clear hc
  go_enter Tryz.func69, Tryz.ntmps69
  go_wp2_with fail
  refine (down_any b 0 w hb c2).mono ?_
  rintro r w1 ⟨rfl, rfl⟩
  go_wp2_with fail
  refine (isNumber_any code _).mono ?_
  rw [hnum]
  rintro r w2 ⟨rfl, rfl⟩
  go_wp2_with fail
  go_ret
  exact ⟨rfl, rfl⟩
theorem reset_own (b i : Nat) (e : Lk.En) (d : PD) (o : Lk.Ow) (k : Int) (code : Nat) (w : World) (hL : Live w b e d) (hdn : e.down = 0) (hc : code ≤ 268435455) (hup : e.upAt k = some (i, o)) :
    Calls Tryz.prog 69 #[.pointer (some ⟨b, 0, none⟩), .int .i64 k, .int .i64 (code : Int)] w fun r w' => r = .returned (.int .i64 0) ∧ LPost w b d (({ e with own := e.own.set i { o with done := true } } : Lk.En).send 3 o.id (Lk.wire code)) w' := by
  have hnum : (decide (0 ≤ (code : Int)) && decide ((code : Int) ≤ 268435455)) = true := by simp; omega
  have c2 : w.cell? ⟨b, 2, none⟩ = some (.int .i64 0) := hL.c2 hdn
  clear hdn
  have hbl := hL.rw.lt
  have hD := drop_live b e d k w hL
  rw [hup] at hD
  have hdr : e.dropped k = { e with own := e.own.set i { o with done := true } } := by unfold Lk.En.dropped; rw [hup]
  rw [hdr] at hD
  obtain ⟨hoi, _, hid⟩ := Lk.En.upAt_some hup
  have hOk := hL.wf.own i o hoi
  have hid1 : 0 < o.id := by have := hOk.id; omega
  have hg := Lk.good_reset o.id code hid1 hOk.id28 hc
  subst hid
  have HD := hide hD
  have HG := hide hg
  clear hL hD hdr hoi hOk hg hup
  go_enter Tryz.func69, Tryz.ntmps69
  go_wp2_with fail
  refine (down_any b 0 w hbl c2).mono ?_
  rintro r w1 ⟨rfl, rfl⟩
  go_wp2_with fail
  refine (isNumber_any _ _).mono ?_
  rw [hnum]
  rintro r w2 ⟨rfl, rfl⟩
  clear hnum
  go_wp2_with fail
  refine (uh HD).mono ?_
  rintro r w3 ⟨rfl, d1, hL1, hf1, hO1⟩
  have hR1 := hL1.rw
  have hbl1 := hR1.lt
  have HF := hide (⟨hL1, hf1, hO1⟩ : _ ∧ _ ∧ _)
  clear hL1 hf1 hO1
  go_wp2_with fail
  go_cut [] (fun wc => LPost w3 b d1 (({ e with own := e.own.set i { o with done := true } } : Lk.En).send 3 o.id (Lk.wire code)) wc)
  case first =>
    go_region_with (first
      | (go_at_call 115; refine (numberFrame_any 3 (o.id : Int) code _ rfl hc _).mono ?_; rintro r w4 ⟨rfl, hb4⟩)
      | (go_at_call 45; refine (putEnd_any b _ d1.fs ⟨3, o.id, Lk.wire code⟩ _ (hR1.ofDrew hb4)).mono ?_; rintro r w5 ⟨rfl, n, hn, hR5, hO5⟩))
    all_goals
      go_wp2_with fail
      go_meet
      have hsz : w3.heap.size ≤ w4.heap.size := hb4.size
      exact (uh HF).1.put hR5 (by omega) ((Only.of_below (undrewB hb4) _).trans hO5 (fun i hi _ => hi)) (uh HG)
  case rest =>
    go_wp2_with fail
    go_ret
    obtain ⟨hL1, hf1, hO1⟩ := uh HF
    exact ⟨rfl, LPost.trans hL1 hf1 hO1 hcut⟩
theorem reset_none (b : Nat) (e : Lk.En) (d : PD) (k : Int) (code : Nat) (w : World) (hL : Live w b e d) (hdn : e.down = 0) (hk : I64 k) (hc : code ≤ 268435455) (hup : e.upAt k = none) (hno : ∀ (i : Nat) (o : Lk.Ot), e.oth[i]? = some o → (o.id : Int) = k → o.opn = false) :
    Calls Tryz.prog 69 #[.pointer (some ⟨b, 0, none⟩), .int .i64 k, .int .i64 (code : Int)] w fun r w' => r = .returned (.int .i64 14) ∧ LPost w b d e w' := by
  have hnum : (decide (0 ≤ (code : Int)) && decide ((code : Int) ≤ 268435455)) = true := by simp; omega
  have c2 : w.cell? ⟨b, 2, none⟩ = some (.int .i64 0) := hL.c2 hdn
  clear hdn
  have hbl := hL.rw.lt
  have hD := drop_live b e d k w hL
  rw [hup] at hD
  have hdr : e.dropped k = e := by unfold Lk.En.dropped; rw [hup]
  rw [hdr] at hD
  have HD := hide hD
  have HNO := hide hno
  clear hL hD hdr hup hno
  go_enter Tryz.func69, Tryz.ntmps69
  go_wp2_with fail
  refine (down_any b 0 w hbl c2).mono ?_
  rintro r w1 ⟨rfl, rfl⟩
  go_wp2_with fail
  refine (isNumber_any _ _).mono ?_
  rw [hnum]
  rintro r w2 ⟨rfl, rfl⟩
  clear hnum
  go_wp2_with fail
  refine (uh HD).mono ?_
  rintro r w3 ⟨rfl, d1, hL1, hf1, hO1⟩
  have hbl1 := hL1.rw.lt
  have c17 : w3.cell? ⟨b, 17, none⟩ = some (.map (some d1.mb)) := hL1.rw.blk.cell 17
  cases hp : d1.ins k with
  | none =>
    have HC := hide (findIn_none b d1.mb d1.mn d1.ins k w3 hbl1 c17 hL1.map hk hp)
    have HF := hide (⟨hL1, hf1, hO1⟩ : _ ∧ _ ∧ _)
    clear hL1 hf1 hO1 hp
    go_wp2_with fail
    refine (uh HC).mono ?_
    rintro r w4 ⟨rfl, n, rfl⟩
    go_wp2_with fail
    go_ret
    obtain ⟨hL1, hf1, hO1⟩ := uh HF
    exact ⟨rfl, d1, hL1.only ((Only.refl (fun _ => False) w3).drewN n) (fun _ _ h => h), hf1, hO1.drewN n⟩
  | some p =>
    obtain ⟨i, o, cr, cut, ho, hid, hI, hcc, _⟩ := hL1.inAt hp
    have hop := uh HNO i o ho hid
    rw [hop] at hI hcc
    simp only [Bool.false_or] at hI hcc
    have HC := hide (findIn_some b d1.mb d1.mn p d1.ins k cr o.held cut _ w3 hbl1 c17 hL1.map hk hp hI)
    have HF := hide (⟨hL1, hf1, hO1⟩ : _ ∧ _ ∧ _)
    have HI := hide hI
    clear hL1 hf1 hO1 hp ho hid hI
    cases hdp : o.drp with
    | false =>
      rw [hdp] at HC
      go_wp2_with fail
      refine (uh HC).mono ?_
      rintro r w4 ⟨rfl, n, rfl⟩
      go_wp2_with fail
      go_ret
      obtain ⟨hL1, hf1, hO1⟩ := uh HF
      exact ⟨rfl, d1, hL1.only ((Only.refl (fun _ => False) w3).drewN n) (fun _ _ h => h), hf1, hO1.drewN n⟩
    | true =>
      rw [hdp] at HC HI hcc
      have hcut := (hcc rfl).2
      rw [hcut] at HI
      have HO := hide (fun n => open_any p cr o.held true false (w3.drewN n) ((uh HI).drewN n))
      clear hcc hcut
      go_wp2_with fail
      refine (uh HC).mono ?_
      rintro r w4 ⟨rfl, n, rfl⟩
      go_wp2_with fail
      refine (uh HO n).mono ?_
      rintro r w5 ⟨rfl, rfl⟩
      go_wp2_with fail
      go_ret
      obtain ⟨hL1, hf1, hO1⟩ := uh HF
      exact ⟨rfl, d1, hL1.only ((Only.refl (fun _ => False) w3).drewN n) (fun _ _ h => h), hf1, hO1.drewN n⟩
theorem reset_cut (b i : Nat) (e : Lk.En) (d : PD) (o : Lk.Ot) (code : Nat) (w : World) (hL : Live w b e d) (hdn : e.down = 0) (hc : code ≤ 268435455) (hup : e.upAt (o.id : Int) = none) (ho : e.oth[i]? = some o) (hop : o.opn = true) (hW : Lk.Wf (e.cutE i o code)) :
    Calls Tryz.prog 69 #[.pointer (some ⟨b, 0, none⟩), .int .i64 (o.id : Int), .int .i64 (code : Int)] w fun r w' => r = .returned (.int .i64 0) ∧ LPost w b d (e.cutE i o code) w' := by
  have hk : I64 (o.id : Int) := ⟨by omega, by have := (hL.wf.oth i o ho).id28; omega⟩
  have hnum : (decide (0 ≤ (code : Int)) && decide ((code : Int) ≤ 268435455)) = true := by simp; omega
  have c2 : w.cell? ⟨b, 2, none⟩ = some (.int .i64 0) := hL.c2 hdn
  clear hdn
  have hbl := hL.rw.lt
  have hD := drop_live b e d (o.id : Int) w hL
  rw [hup] at hD
  have hdr : e.dropped (o.id : Int) = e := by unfold Lk.En.dropped; rw [hup]
  rw [hdr] at hD
  have HD := hide hD
  have HHO := hide (⟨ho, hop⟩ : _ ∧ _)
  clear hL hD hdr hup ho hop
  go_enter Tryz.func69, Tryz.ntmps69
  go_wp2_with fail
  refine (down_any b 0 w hbl c2).mono ?_
  rintro r w1 ⟨rfl, rfl⟩
  go_wp2_with fail
  refine (isNumber_any _ _).mono ?_
  rw [hnum]
  rintro r w2 ⟨rfl, rfl⟩
  clear hnum
  go_wp2_with fail
  refine (uh HD).mono ?_
  rintro r w3 ⟨rfl, d1, hL1, hf1, hO1⟩
  have hbl1 := hL1.rw.lt
  have c17 : w3.cell? ⟨b, 17, none⟩ = some (.map (some d1.mb)) := hL1.rw.blk.cell 17
  obtain ⟨ho, hop⟩ := uh HHO
  obtain ⟨p, hp⟩ : ∃ p, d1.ins o.id = some p := by
    cases hp : d1.ins o.id with
    | some p => exact ⟨p, rfl⟩
    | none =>
      have := (hL1.oths i o ho).none hp
      simp [hop] at this
  obtain ⟨_, cr, cut, hI, hcc⟩ := (hL1.oths i o ho).some hp
  have hdrp := (hL1.wf.oth i o ho).two hop
  rw [hop] at hI hcc
  simp only [Bool.true_or, Bool.not_true] at hI hcc
  have hcut := (hcc trivial).2
  rw [hdrp] at hcut
  rw [hcut] at hI
  have HC := hide (findIn_some b d1.mb d1.mn p d1.ins (o.id : Int) cr o.held false false w3 hbl1 c17 hL1.map hk hp hI)
  have HO := hide (fun n => open_any p cr o.held false false (w3.drewN n) (hI.drewN n))
  have hLn := fun n => hL1.only ((Only.refl (fun _ => False) w3).drewN n) (fun _ _ h => h)
  have HCUT := hide (fun n => cut_live b i p code e d1 o (w3.drewN n) (hLn n) ho hop hp hc hW)
  have HF := hide (⟨hL1, hf1, hO1⟩ : _ ∧ _ ∧ _)
  clear hL1 hf1 hO1 hp ho hop hI hcc hcut hdrp hLn
  go_wp2_with fail
  refine (uh HC).mono ?_
  rintro r w4 ⟨rfl, n, rfl⟩
  go_wp2_with fail
  refine (uh HO n).mono ?_
  rintro r w5 ⟨rfl, rfl⟩
  go_wp2_with fail
  refine (uh HCUT n).mono ?_
  rintro r w6 ⟨rfl, hP⟩
  go_wp2_with fail
  go_ret
  obtain ⟨hL1, hf1, hO1⟩ := uh HF
  exact ⟨rfl, LPost.trans (hL1.only ((Only.refl (fun _ => False) w3).drewN n) (fun _ _ h => h)) hf1 (hO1.drewN n) hP⟩
theorem reset_any (b : Nat) (e : Lk.En) (d : PD) (k code : Int) (w : World) (hL : Live w b e d) (hdn : e.down = 0) (hk : I64 k) :
    Calls Tryz.prog 69 #[.pointer (some ⟨b, 0, none⟩), .int .i64 k, .int .i64 code] w fun r w' => r = .returned (.int .i64 ((e.resetC k code).1 : Int)) ∧ LPost w b d (e.resetC k code).2 w' := by
  have c2 : w.cell? ⟨b, 2, none⟩ = some (.int .i64 0) := hL.c2 hdn
  have hW := hL.wf.resetC k code
  unfold Lk.En.resetC at hW ⊢
  rw [if_neg (by rw [hdn]; simp)] at hW ⊢
  by_cases hc : code < 0 ∨ 268435455 < code
  · rw [if_pos hc]
    refine (reset_range b k code w hL.rw.lt c2 hc).mono ?_
    rintro r w' ⟨rfl, rfl⟩
    exact ⟨rfl, LPost.same hL⟩
  · rw [if_neg hc] at hW ⊢
    obtain ⟨m, rfl⟩ := Int.eq_ofNat_of_zero_le (by omega : 0 ≤ code)
    simp only [Int.toNat_natCast] at hW ⊢
    cases hup : e.upAt k with
    | some q =>
      obtain ⟨i, o⟩ := q
      have hup' : ((Lk.ownIx e.own k).bind fun i => (e.own[i]?).bind fun o => if o.done then none else some (i, o)) = some (i, o) := hup
      rw [hup']
      exact reset_own b i e d o k m w hL hdn (by omega) hup
    | none =>
      have hup' : ((Lk.ownIx e.own k).bind fun i => (e.own[i]?).bind fun o => if o.done then none else some (i, o)) = none := hup
      rw [hup'] at hW ⊢
      simp only at hW ⊢
      cases hix : Lk.othIx e.oth k with
      | none =>
        refine (reset_none b e d k m w hL hdn hk (by omega) hup (fun i o ho hid => absurd hid (othIx_none hix i o ho))).mono ?_
        rintro r w' ⟨rfl, h⟩
        exact ⟨rfl, h⟩
      | some i =>
        obtain ⟨o, ho, hid⟩ := Lk.othIx_some hix
        rw [hix] at hW
        simp only [Option.bind_some, ho] at hW ⊢
        cases hop : o.opn with
        | false =>
          refine (reset_none b e d k m w hL hdn hk (by omega) hup (fun j x hx hxid => ?_)).mono ?_
          · have := set_id hL.wf ho hx (by omega)
            subst this
            rw [ho] at hx
            cases hx
            exact hop
          rintro r w' ⟨rfl, h⟩
          exact ⟨rfl, h⟩
        | true =>
          rw [hop] at hW
          simp only [if_true] at hW ⊢
          subst hid
          exact reset_cut b i e d o m w hL hdn (by omega) hup ho hop hW
end Go.Proofs.YtbkpdapagfjmmaaGreatDoor
