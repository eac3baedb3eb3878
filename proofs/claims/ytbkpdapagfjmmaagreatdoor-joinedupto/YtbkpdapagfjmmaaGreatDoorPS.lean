import Derived.Test.YtbkpdapagfjmmaaGreatDoorMPQPR
/-
  Walks: Reset.
-/
namespace Go.Proofs.YtbkpdapagfjmmaaGreatDoor
open Go.RowKit

theorem reset_range (b : Nat) (k code : Int) (w : World) (hb : b < w.heap.size) (c2 : w.cell? ⟨b, 2, none⟩ = some (.int .i64 0)) (hc : code < 0 ∨ 268435455 < code) :
    Calls Tryz.prog 69 #[.pointer (some ⟨b, 0, none⟩), .int .i64 k, .int .i64 code] w fun r w' => r = .returned (.int .i64 1) ∧ w' = w := by
  have hnum : (decide (0 ≤ code) && decide (code ≤ 268435455)) = false := by
    rcases hc with h | h
    · rw [decide_eq_false (by omega)]; rfl
    · rw [decide_eq_false (by omega : ¬ code ≤ 268435455), Bool.and_false]
  clear hc
  go_enter Tryz.func69, Tryz.ntmps69
  go_wp2_with fail
  refine (down_any b 0 w hb c2).mono ?_
  rintro r w1 ⟨rfl, rfl⟩
  go_wp2_with fail
  refine (isNumber_any code _).mono ?_
  rw [hnum]
  rintro r w2 ⟨rfl, rfl⟩
  go_wp2_with fail
  go_ret
  exact ⟨rfl, rfl⟩

set_option maxHeartbeats 1000000 in
set_option maxRecDepth 100000 in
theorem reset_own (b i : Nat) (e : Lk.En) (d : PD) (o : Lk.Ow) (k : Int) (code : Nat) (w : World) (hL : Live w b e d) (hdn : e.down = 0) (hc : code ≤ 268435455) (hup : e.upAt k = some (i, o)) :
    Calls Tryz.prog 69 #[.pointer (some ⟨b, 0, none⟩), .int .i64 k, .int .i64 (code : Int)] w fun r w' => r = .returned (.int .i64 0) ∧ LPost w b d (({ e with own := e.own.set i { o with done := true } } : Lk.En).send 3 o.id (Lk.wire code)) w' := by
  have hnum : (decide (0 ≤ (code : Int)) && decide ((code : Int) ≤ 268435455)) = true := by simp; omega
  have c2 : w.cell? ⟨b, 2, none⟩ = some (.int .i64 0) := hL.c2 hdn
  clear hdn
  have hbl := hL.rw.lt
  have hD := drop_live b e d k w hL
  rw [hup] at hD
  have hdr : e.dropped k = { e with own := e.own.set i { o with done := true } } := by unfold Lk.En.dropped; rw [hup]
  rw [hdr] at hD
  obtain ⟨hoi, _, hid⟩ := Lk.En.upAt_some hup
  have hOk := hL.wf.own i o hoi
  have hid1 : 0 < o.id := by have := hOk.id; omega
  have hg := Lk.good_reset o.id code hid1 hOk.id28 hc
  subst hid
  have HD := hide hD
  have HG := hide hg
  clear hL hD hdr hoi hOk hg hup
  go_enter Tryz.func69, Tryz.ntmps69
  go_wp2_with fail
  refine (down_any b 0 w hbl c2).mono ?_
  rintro r w1 ⟨rfl, rfl⟩
  go_wp2_with fail
  refine (isNumber_any _ _).mono ?_
  rw [hnum]
  rintro r w2 ⟨rfl, rfl⟩
  clear hnum
  go_wp2_with fail
  refine (unhide HD).mono ?_
  rintro r w3 ⟨rfl, d1, hL1, hf1, hO1⟩
  have hR1 := hL1.rw
  have hbl1 := hR1.lt
  have HF := hide (⟨hL1, hf1, hO1⟩ : _ ∧ _ ∧ _)
  clear hL1 hf1 hO1
  go_wp2_with fail
  go_cut [] (fun wc => LPost w3 b d1 (({ e with own := e.own.set i { o with done := true } } : Lk.En).send 3 o.id (Lk.wire code)) wc)
  case first =>
    go_region_with (first
      | (go_at_call 115; refine (numberFrame_any 3 (o.id : Int) code _ rfl hc _).mono ?_; rintro r w4 ⟨rfl, hb4⟩)
      | (go_at_call 45; refine (putEnd_any b _ d1.fs ⟨3, o.id, Lk.wire code⟩ _ (hR1.ofDrew hb4)).mono ?_; rintro r w5 ⟨rfl, n, hn, hR5, hO5⟩))
    all_goals
      go_wp2_with fail
      go_meet
      have hsz : w3.heap.size ≤ w4.heap.size := hb4.size
      exact (unhide HF).1.put hR5 (by omega) ((Only.of_below (undrewB hb4) _).trans hO5 (fun i hi _ => hi)) (unhide HG)
  case rest =>
    go_wp2_with fail
    go_ret
    obtain ⟨hL1, hf1, hO1⟩ := unhide HF
    exact ⟨rfl, LPost.trans hL1 hf1 hO1 hcut⟩

set_option maxHeartbeats 1000000 in
set_option maxRecDepth 100000 in
theorem reset_none (b : Nat) (e : Lk.En) (d : PD) (k : Int) (code : Nat) (w : World) (hL : Live w b e d) (hdn : e.down = 0) (hk : I64 k) (hc : code ≤ 268435455) (hup : e.upAt k = none) (hno : ∀ (i : Nat) (o : Lk.Ot), e.oth[i]? = some o → (o.id : Int) = k → o.opn = false) :
    Calls Tryz.prog 69 #[.pointer (some ⟨b, 0, none⟩), .int .i64 k, .int .i64 (code : Int)] w fun r w' => r = .returned (.int .i64 14) ∧ LPost w b d e w' := by
  have hnum : (decide (0 ≤ (code : Int)) && decide ((code : Int) ≤ 268435455)) = true := by simp; omega
  have c2 : w.cell? ⟨b, 2, none⟩ = some (.int .i64 0) := hL.c2 hdn
  clear hdn
  have hbl := hL.rw.lt
  have hD := drop_live b e d k w hL
  rw [hup] at hD
  have hdr : e.dropped k = e := by unfold Lk.En.dropped; rw [hup]
  rw [hdr] at hD
  have HD := hide hD
  have HNO := hide hno
  clear hL hD hdr hup hno
  go_enter Tryz.func69, Tryz.ntmps69
  go_wp2_with fail
  refine (down_any b 0 w hbl c2).mono ?_
  rintro r w1 ⟨rfl, rfl⟩
  go_wp2_with fail
  refine (isNumber_any _ _).mono ?_
  rw [hnum]
  rintro r w2 ⟨rfl, rfl⟩
  clear hnum
  go_wp2_with fail
  refine (unhide HD).mono ?_
  rintro r w3 ⟨rfl, d1, hL1, hf1, hO1⟩
  have hbl1 := hL1.rw.lt
  have c17 : w3.cell? ⟨b, 17, none⟩ = some (.map (some d1.mb)) := hL1.rw.blk.cell 17
  cases hp : d1.ins k with
  | none =>
    have HC := hide (findIn_none b d1.mb d1.mn d1.ins k w3 hbl1 c17 hL1.map hk hp)
    have HF := hide (⟨hL1, hf1, hO1⟩ : _ ∧ _ ∧ _)
    clear hL1 hf1 hO1 hp
    go_wp2_with fail
    refine (unhide HC).mono ?_
    rintro r w4 ⟨rfl, n, rfl⟩
    go_wp2_with fail
    go_ret
    obtain ⟨hL1, hf1, hO1⟩ := unhide HF
    exact ⟨rfl, d1, hL1.only ((Only.refl (fun _ => False) w3).drewN n) (fun _ _ h => h), hf1, hO1.drewN n⟩
  | some p =>
    obtain ⟨i, o, cr, cut, ho, hid, hI, hcc, _⟩ := hL1.inAt hp
    have hop := unhide HNO i o ho hid
    rw [hop] at hI hcc
    simp only [Bool.false_or] at hI hcc
    have HC := hide (findIn_some b d1.mb d1.mn p d1.ins k cr o.held cut _ w3 hbl1 c17 hL1.map hk hp hI)
    have HF := hide (⟨hL1, hf1, hO1⟩ : _ ∧ _ ∧ _)
    have HI := hide hI
    clear hL1 hf1 hO1 hp ho hid hI
    cases hdp : o.drp with
    | false =>
      rw [hdp] at HC
      go_wp2_with fail
      refine (unhide HC).mono ?_
      rintro r w4 ⟨rfl, n, rfl⟩
      go_wp2_with fail
      go_ret
      obtain ⟨hL1, hf1, hO1⟩ := unhide HF
      exact ⟨rfl, d1, hL1.only ((Only.refl (fun _ => False) w3).drewN n) (fun _ _ h => h), hf1, hO1.drewN n⟩
    | true =>
      rw [hdp] at HC HI hcc
      have hcut := (hcc rfl).2
      rw [hcut] at HI
      have HO := hide (fun n => open_any p cr o.held true false (w3.drewN n) ((unhide HI).drewN n))
      clear hcc hcut
      go_wp2_with fail
      refine (unhide HC).mono ?_
      rintro r w4 ⟨rfl, n, rfl⟩
      go_wp2_with fail
      refine (unhide HO n).mono ?_
      rintro r w5 ⟨rfl, rfl⟩
      go_wp2_with fail
      go_ret
      obtain ⟨hL1, hf1, hO1⟩ := unhide HF
      exact ⟨rfl, d1, hL1.only ((Only.refl (fun _ => False) w3).drewN n) (fun _ _ h => h), hf1, hO1.drewN n⟩

set_option maxHeartbeats 1000000 in
set_option maxRecDepth 100000 in
theorem reset_cut (b i : Nat) (e : Lk.En) (d : PD) (o : Lk.Ot) (code : Nat) (w : World) (hL : Live w b e d) (hdn : e.down = 0) (hc : code ≤ 268435455) (hup : e.upAt (o.id : Int) = none) (ho : e.oth[i]? = some o) (hop : o.opn = true) (hW : Lk.Wf (e.cutE i o code)) :
    Calls Tryz.prog 69 #[.pointer (some ⟨b, 0, none⟩), .int .i64 (o.id : Int), .int .i64 (code : Int)] w fun r w' => r = .returned (.int .i64 0) ∧ LPost w b d (e.cutE i o code) w' := by
  have hk : I64 (o.id : Int) := ⟨by omega, by have := (hL.wf.oth i o ho).id28; omega⟩
  have hnum : (decide (0 ≤ (code : Int)) && decide ((code : Int) ≤ 268435455)) = true := by simp; omega
  have c2 : w.cell? ⟨b, 2, none⟩ = some (.int .i64 0) := hL.c2 hdn
  clear hdn
  have hbl := hL.rw.lt
  have hD := drop_live b e d (o.id : Int) w hL
  rw [hup] at hD
  have hdr : e.dropped (o.id : Int) = e := by unfold Lk.En.dropped; rw [hup]
  rw [hdr] at hD
  have HD := hide hD
  have HHO := hide (⟨ho, hop⟩ : _ ∧ _)
  clear hL hD hdr hup ho hop
  go_enter Tryz.func69, Tryz.ntmps69
  go_wp2_with fail
  refine (down_any b 0 w hbl c2).mono ?_
  rintro r w1 ⟨rfl, rfl⟩
  go_wp2_with fail
  refine (isNumber_any _ _).mono ?_
  rw [hnum]
  rintro r w2 ⟨rfl, rfl⟩
  clear hnum
  go_wp2_with fail
  refine (unhide HD).mono ?_
  rintro r w3 ⟨rfl, d1, hL1, hf1, hO1⟩
  have hbl1 := hL1.rw.lt
  have c17 : w3.cell? ⟨b, 17, none⟩ = some (.map (some d1.mb)) := hL1.rw.blk.cell 17
  obtain ⟨ho, hop⟩ := unhide HHO
  obtain ⟨p, hp⟩ : ∃ p, d1.ins o.id = some p := by
    cases hp : d1.ins o.id with
    | some p => exact ⟨p, rfl⟩
    | none =>
      have := (hL1.oths i o ho).none hp
      simp [hop] at this
  obtain ⟨_, cr, cut, hI, hcc⟩ := (hL1.oths i o ho).some hp
  have hdrp := (hL1.wf.oth i o ho).two hop
  rw [hop] at hI hcc
  simp only [Bool.true_or, Bool.not_true] at hI hcc
  have hcut := (hcc trivial).2
  rw [hdrp] at hcut
  rw [hcut] at hI
  have HC := hide (findIn_some b d1.mb d1.mn p d1.ins (o.id : Int) cr o.held false false w3 hbl1 c17 hL1.map hk hp hI)
  have HO := hide (fun n => open_any p cr o.held false false (w3.drewN n) (hI.drewN n))
  have hLn := fun n => hL1.only ((Only.refl (fun _ => False) w3).drewN n) (fun _ _ h => h)
  have HCUT := hide (fun n => cut_live b i p code e d1 o (w3.drewN n) (hLn n) ho hop hp hc hW)
  have HF := hide (⟨hL1, hf1, hO1⟩ : _ ∧ _ ∧ _)
  clear hL1 hf1 hO1 hp ho hop hI hcc hcut hdrp hLn
  go_wp2_with fail
  refine (unhide HC).mono ?_
  rintro r w4 ⟨rfl, n, rfl⟩
  go_wp2_with fail
  refine (unhide HO n).mono ?_
  rintro r w5 ⟨rfl, rfl⟩
  go_wp2_with fail
  refine (unhide HCUT n).mono ?_
  rintro r w6 ⟨rfl, hP⟩
  go_wp2_with fail
  go_ret
  obtain ⟨hL1, hf1, hO1⟩ := unhide HF
  exact ⟨rfl, LPost.trans (hL1.only ((Only.refl (fun _ => False) w3).drewN n) (fun _ _ h => h)) hf1 (hO1.drewN n) hP⟩

theorem reset_any (b : Nat) (e : Lk.En) (d : PD) (k code : Int) (w : World) (hL : Live w b e d) (hdn : e.down = 0) (hk : I64 k) :
    Calls Tryz.prog 69 #[.pointer (some ⟨b, 0, none⟩), .int .i64 k, .int .i64 code] w fun r w' => r = .returned (.int .i64 ((e.resetC k code).1 : Int)) ∧ LPost w b d (e.resetC k code).2 w' := by
  have c2 : w.cell? ⟨b, 2, none⟩ = some (.int .i64 0) := hL.c2 hdn
  have hW := hL.wf.resetC k code
  unfold Lk.En.resetC at hW ⊢
  rw [if_neg (by rw [hdn]; simp)] at hW ⊢
  by_cases hc : code < 0 ∨ 268435455 < code
  · rw [if_pos hc]
    refine (reset_range b k code w hL.rw.lt c2 hc).mono ?_
    rintro r w' ⟨rfl, rfl⟩
    exact ⟨rfl, LPost.same hL⟩
  · rw [if_neg hc] at hW ⊢
    obtain ⟨m, rfl⟩ := Int.eq_ofNat_of_zero_le (by omega : 0 ≤ code)
    simp only [Int.toNat_natCast] at hW ⊢
    cases hup : e.upAt k with
    | some q =>
      obtain ⟨i, o⟩ := q
      have hup' : ((Lk.ownIx e.own k).bind fun i => (e.own[i]?).bind fun o => if o.done then none else some (i, o)) = some (i, o) := hup
      rw [hup']
      exact reset_own b i e d o k m w hL hdn (by omega) hup
    | none =>
      have hup' : ((Lk.ownIx e.own k).bind fun i => (e.own[i]?).bind fun o => if o.done then none else some (i, o)) = none := hup
      rw [hup'] at hW ⊢
      simp only at hW ⊢
      cases hix : Lk.othIx e.oth k with
      | none =>
        refine (reset_none b e d k m w hL hdn hk (by omega) hup (fun i o ho hid => absurd hid (othIx_none hix i o ho))).mono ?_
        rintro r w' ⟨rfl, h⟩
        exact ⟨rfl, h⟩
      | some i =>
        obtain ⟨o, ho, hid⟩ := Lk.othIx_some hix
        rw [hix] at hW
        simp only [Option.bind_some, ho] at hW ⊢
        cases hop : o.opn with
        | false =>
          refine (reset_none b e d k m w hL hdn hk (by omega) hup (fun j x hx hxid => ?_)).mono ?_
          · have := set_id hL.wf ho hx (by omega)
            subst this
            rw [ho] at hx
            cases hx
            exact hop
          rintro r w' ⟨rfl, h⟩
          exact ⟨rfl, h⟩
        | true =>
          rw [hop] at hW
          simp only [if_true] at hW ⊢
          subst hid
          exact reset_cut b i e d o m w hL hdn (by omega) hup ho hop hW
end Go.Proofs.YtbkpdapagfjmmaaGreatDoor
