import Derived.Test.YtbkpdapagfjmmaaGreatDoorMPPPR
/-
  Walks: Reset.
-/
namespace Go.Proofs.YtbkpdapagfjmmaaGreatDoor
open Go.RowKit

theorem reset_range (b : Nat) (k code : Int) (w : World) (hb : b < w.heap.size) (c2 : w.cell? ⟨b, 2, none⟩ = some (.int .i64 0)) (hc : code < 0 ∨ 268435455 < code) :
    Calls Tryz.prog 69 #[.pointer (some ⟨b, 0, none⟩), .int .i64 k, .int .i64 code] w fun r w' => r = .returned (.int .i64 1) ∧ w' = w := by
  have hnum : (decide (0 ≤ code) && decide (code ≤ 268435455)) = false := by
    rcases hc with h | h
    · rw [decide_eq_false (by omega)]; rfl
    · rw [decide_eq_false (by omega : ¬ code ≤ 268435455), Bool.and_false]
  clear hc
  go_enter Tryz.func69, Tryz.ntmps69
  go_wp2_with fail
  refine (down_any b 0 w hb c2).mono ?_
  rintro r w1 ⟨rfl, rfl⟩
  go_wp2_with fail
  refine (isNumber_any code _).mono ?_
  rw [hnum]
  rintro r w2 ⟨rfl, rfl⟩
  go_wp2_with fail
  go_ret
  exact ⟨rfl, rfl⟩

set_option maxHeartbeats 1000000 in
set_option maxRecDepth 100000 in
theorem reset_own (b i : Nat) (e : Lk.En) (d : PD) (o : Lk.Ow) (k : Int) (code : Nat) (w : World) (hL : Live w b e d) (hdn : e.down = 0) (hc : code ≤ 268435455) (hup : e.upAt k = some (i, o)) :
    Calls Tryz.prog 69 #[.pointer (some ⟨b, 0, none⟩), .int .i64 k, .int .i64 (code : Int)] w fun r w' => r = .returned (.int .i64 0) ∧ LPost w b d (({ e with own := e.own.set i { o with done := true } } : Lk.En).send 3 o.id (Lk.wire code)) w' := by
  have hnum : (decide (0 ≤ (code : Int)) && decide ((code : Int) ≤ 268435455)) = true := by simp; omega
  have c2 : w.cell? ⟨b, 2, none⟩ = some (.int .i64 0) := hL.c2 hdn
  clear hdn
  have hbl := hL.rw.lt
  have hD := drop_live b e d k w hL
  rw [hup] at hD
  have hdr : e.dropped k = { e with own := e.own.set i { o with done := true } } := by unfold Lk.En.dropped; rw [hup]
  rw [hdr] at hD
  obtain ⟨hoi, _, hid⟩ := Lk.En.upAt_some hup
  have hOk := hL.wf.own i o hoi
  have hid1 : 0 < o.id := by have := hOk.id; omega
  have hg := Lk.good_reset o.id code hid1 hOk.id28 hc
  subst hid
  have HD := hide hD
  have HG := hide hg
  clear hL hD hdr hoi hOk hg hup
  go_enter Tryz.func69, Tryz.ntmps69
  go_wp2_with fail
  refine (down_any b 0 w hbl c2).mono ?_
  rintro r w1 ⟨rfl, rfl⟩
  go_wp2_with fail
  refine (isNumber_any _ _).mono ?_
  rw [hnum]
  rintro r w2 ⟨rfl, rfl⟩
  clear hnum
  go_wp2_with fail
  refine (unhide HD).mono ?_
  rintro r w3 ⟨rfl, d1, hL1, hf1, hO1⟩
  have hR1 := hL1.rw
  have hbl1 := hR1.lt
  have HF := hide (⟨hL1, hf1, hO1⟩ : _ ∧ _ ∧ _)
  clear hL1 hf1 hO1
  go_wp2_with fail
  go_cut [] (fun wc => LPost w3 b d1 (({ e with own := e.own.set i { o with done := true } } : Lk.En).send 3 o.id (Lk.wire code)) wc)
  case first =>
    go_region_with (first
      | (go_at_call 115; refine (numberFrame_any 3 (o.id : Int) code _ rfl hc _).mono ?_; rintro r w4 ⟨rfl, hb4⟩)
      | (go_at_call 45; refine (putEnd_any b _ d1.fs ⟨3, o.id, Lk.wire code⟩ _ (hR1.ofDrew hb4)).mono ?_; rintro r w5 ⟨rfl, n, hn, hR5, hO5⟩))
    all_goals
      go_wp2_with fail
      go_meet
      have hsz : w3.heap.size ≤ w4.heap.size := hb4.size
      exact (unhide HF).1.put hR5 (by omega) ((Only.of_below (undrewB hb4) _).trans hO5 (fun i hi _ => hi)) (unhide HG)
  case rest =>
    go_wp2_with fail
    go_ret
    obtain ⟨hL1, hf1, hO1⟩ := unhide HF
    exact ⟨rfl, LPost.trans hL1 hf1 hO1 hcut⟩

set_option maxHeartbeats 1000000 in
set_option maxRecDepth 100000 in
theorem reset_none (b : Nat) (e : Lk.En) (d : PD) (k : Int) (code : Nat) (w : World) (hL : Live w b e d) (hdn : e.down = 0) (hk : I64 k) (hc : code ≤ 268435455) (hup : e.upAt k = none) (hno : ∀ (i : Nat) (o : Lk.Ot), e.oth[i]? = some o → (o.id : Int) = k → o.opn = false) :
    Calls Tryz.prog 69 #[.pointer (some ⟨b, 0, none⟩), .int .i64 k, .int .i64 (code : Int)] w fun r w' => r = .returned (.int .i64 14) ∧ LPost w b d e w' := by
  have hnum : (decide (0 ≤ (code : Int)) && decide ((code : Int) ≤ 268435455)) = true := by simp; omega
  have c2 : w.cell? ⟨b, 2, none⟩ = some (.int .i64 0) := hL.c2 hdn
  clear hdn
  have hbl := hL.rw.lt
  have hD := drop_live b e d k w hL
  rw [hup] at hD
  have hdr : e.dropped k = e := by unfold Lk.En.dropped; rw [hup]
  rw [hdr] at hD
  have HD := hide hD
  have HNO := hide hno
  clear hL hD hdr hup hno
  go_enter Tryz.func69, Tryz.ntmps69
  go_wp2_with fail
  refine (down_any b 0 w hbl c2).mono ?_
  rintro r w1 ⟨rfl, rfl⟩
  go_wp2_with fail
  refine (isNumber_any _ _).mono ?_
  rw [hnum]
  rintro r w2 ⟨rfl, rfl⟩
  clear hnum
  go_wp2_with fail
  refine (unhide HD).mono ?_
  rintro r w3 ⟨rfl, d1, hL1, hf1, hO1⟩
  have hbl1 := hL1.rw.lt
  have c17 : w3.cell? ⟨b, 17, none⟩ = some (.map (some d1.mb)) := hL1.rw.blk.cell 17
  cases hp : d1.ins k with
  | none =>
    have HC := hide (findIn_none b d1.mb d1.mn d1.ins k w3 hbl1 c17 hL1.map hk hp)
    have HF := hide (⟨hL1, hf1, hO1⟩ : _ ∧ _ ∧ _)
    clear hL1 hf1 hO1 hp
    go_wp2_with fail
    refine (unhide HC).mono ?_
    rintro r w4 ⟨rfl, n, rfl⟩
    go_wp2_with fail
    go_ret
    obtain ⟨hL1, hf1, hO1⟩ := unhide HF
    exact ⟨rfl, d1, hL1.only ((Only.refl (fun _ => False) w3).drewN n) (fun _ _ h => h), hf1, hO1.drewN n⟩
  | some p =>
    obtain ⟨i, o, cr, cut, ho, hid, hI, hcc, _⟩ := hL1.inAt hp
    have hop := unhide HNO i o ho hid
    rw [hop] at hI hcc
    simp only [Bool.false_or] at hI hcc
    have HC := hide (findIn_some b d1.mb d1.mn p d1.ins k cr o.held cut _ w3 hbl1 c17 hL1.map hk hp hI)
    have HF := hide (⟨hL1, hf1, hO1⟩ : _ ∧ _ ∧ _)
    have HI := hide hI
    clear hL1 hf1 hO1 hp ho hid hI
    cases hdp : o.drp with
    | false =>
      rw [hdp] at HC
      go_wp2_with fail
      refine (unhide HC).mono ?_
      rintro r w4 ⟨rfl, n, rfl⟩
      go_wp2_with fail
      go_ret
      obtain ⟨hL1, hf1, hO1⟩ := unhide HF
      exact ⟨rfl, d1, hL1.only ((Only.refl (fun _ => False) w3).drewN n) (fun _ _ h => h), hf1, hO1.drewN n⟩
    | true =>
      rw [hdp] at HC HI hcc
      have hcut := (hcc rfl).2
      rw [hcut] at HI
      have HO := hide (fun n => open_any p cr o.held true false (w3.drewN n) ((unhide HI).drewN n))
      clear hcc hcut
      go_wp2_with fail
      refine (unhide HC).mono ?_
      rintro r w4 ⟨rfl, n, rfl⟩
      go_wp2_with fail
      refine (unhide HO n).mono ?_
      rintro r w5 ⟨rfl, rfl⟩
      go_wp2_with fail
      go_ret
      obtain ⟨hL1, hf1, hO1⟩ := unhide HF
      exact ⟨rfl, d1, hL1.only ((Only.refl (fun _ => False) w3).drewN n) (fun _ _ h => h), hf1, hO1.drewN n⟩

set_option maxHeartbeats 1000000 in
set_option maxRecDepth 100000 in
theorem reset_cut (b i : Nat) (e : Lk.En) (d : PD) (o : Lk.Ot) (code : Nat) (w : World) (hL : Live w b e d) (hdn : e.down = 0) (hc : code ≤ 268435455) (hup : e.upAt (o.id : Int) = none) (ho : e.oth[i]? = some o) (hop : o.opn = true) (hW : Lk.Wf (e.cutE i o code)) :
    Calls Tryz.prog 69 #[.pointer (some ⟨b, 0, none⟩), .int .i64 (o.id : Int), .int .i64 (code : Int)] w fun r w' => r = .returned (.int .i64 0) ∧ LPost w b d (e.cutE i o code) w' := by
  have hk : I64 (o.id : Int) := ⟨by omega, by have := (hL.wf.oth i o ho).id28; omega⟩
  have hnum : (decide (0 ≤ (code : Int)) && decide ((code : Int) ≤ 268435455)) = true := by simp; omega
  have c2 : w.cell? ⟨b, 2, none⟩ = some (.int .i64 0) := hL.c2 hdn
  clear hdn
  have hbl := hL.rw.lt
  have hD := drop_live b e d (o.id : Int) w hL
  rw [hup] at hD
  have hdr : e.dropped (o.id : Int) = e := by unfold Lk.En.dropped; rw [hup]
  rw [hdr] at hD
  have HD := hide hD
  have HHO := hide (⟨ho, hop⟩ : _ ∧ _)
  clear hL hD hdr hup ho hop
  go_enter Tryz.func69, Tryz.ntmps69
  go_wp2_with fail
  refine (down_any b 0 w hbl c2).mono ?_
  rintro r w1 ⟨rfl, rfl⟩
  go_wp2_with fail
  refine (isNumber_any _ _).mono ?_
  rw [hnum]
  rintro r w2 ⟨rfl, rfl⟩
  clear hnum
  go_wp2_with fail
  refine (unhide HD).mono ?_
  rintro r w3 ⟨rfl, d1, hL1, hf1, hO1⟩
  have hbl1 := hL1.rw.lt
  have c17 : w3.cell? ⟨b, 17, none⟩ = some (.map (some d1.mb)) := hL1.rw.blk.cell 17
  obtain ⟨ho, hop⟩ := unhide HHO
  obtain ⟨p, hp⟩ : ∃ p, d1.ins o.id = some p := by
    cases hp : d1.ins o.id with
    | some p => exact ⟨p, rfl⟩
    | none =>
      have := (hL1.oths i o ho).none hp
      simp [hop] at this
  obtain ⟨_, cr, cut, hI, hcc⟩ := (hL1.oths i o ho).some hp
  have hdrp := (hL1.wf.oth i o ho).two hop
  rw [hop] at hI hcc
  simp only [Bool.true_or, Bool.not_true] at hI hcc
  have hcut := (hcc trivial).2
  rw [hdrp] at hcut
  rw [hcut] at hI
  have HC := hide (findIn_some b d1.mb d1.mn p d1.ins (o.id : Int) cr o.held false false w3 hbl1 c17 hL1.map hk hp hI)
  have HO := hide (fun n => open_any p cr o.held false false (w3.drewN n) (hI.drewN n))
  have hLn := fun n => hL1.only ((Only.refl (fun _ => False) w3).drewN n) (fun _ _ h => h)
  have HCUT := hide (fun n => cut_live b i p code e d1 o (w3.drewN n) (hLn n) ho hop hp hc hW)
  have HF := hide (⟨hL1, hf1, hO1⟩ : _ ∧ _ ∧ _)
  clear hL1 hf1 hO1 hp ho hop hI hcc hcut hdrp hLn
  go_wp2_with fail
  refine (unhide HC).mono ?_
  rintro r w4 ⟨rfl, n, rfl⟩
  go_wp2_with fail
  refine (unhide HO n).mono ?_
  rintro r w5 ⟨rfl, rfl⟩
  go_wp2_with fail
  refine (unhide HCUT n).mono ?_
  rintro r w6 ⟨rfl, hP⟩
  go_wp2_with fail
  go_ret
  obtain ⟨hL1, hf1, hO1⟩ := unhide HF
  exact ⟨rfl, LPost.trans (hL1.only ((Only.refl (fun _ => False) w3).drewN n) (fun _ _ h => h)) hf1 (hO1.drewN n) hP⟩

theorem reset_any (b : Nat) (e : Lk.En) (d : PD) (k code : Int) (w : World) (hL : Live w b e d) (hdn : e.down = 0) (hk : I64 k) :
    Calls Tryz.prog 69 #[.pointer (some ⟨b, 0, none⟩), .int .i64 k, .int .i64 code] w fun r w' => r = .returned (.int .i64 ((e.resetC k code).1 : Int)) ∧ LPost w b d (e.resetC k code).2 w' := by
  have c2 : w.cell? ⟨b, 2, none⟩ = some (.int .i64 0) := hL.c2 hdn
  have hW := hL.wf.resetC k code
  unfold Lk.En.resetC at hW ⊢
  rw [if_neg (by rw [hdn]; simp)] at hW ⊢
  by_cases hc : code < 0 ∨ 268435455 < code
  · rw [if_pos hc]
    refine (reset_range b k code w hL.rw.lt c2 hc).mono ?_
    rintro r w' ⟨rfl, rfl⟩
    exact ⟨rfl, LPost.same hL⟩
  · rw [if_neg hc] at hW ⊢
    obtain ⟨m, rfl⟩ := Int.eq_ofNat_of_zero_le (by omega : 0 ≤ code)
    simp only [Int.toNat_natCast] at hW ⊢
    cases hup : e.upAt k with
    | some q =>
      obtain ⟨i, o⟩ := q
      have hup' : ((Lk.ownIx e.own k).bind fun i => (e.own[i]?).bind fun o => if o.done then none else some (i, o)) = some (i, o) := hup
      rw [hup']
      exact reset_own b i e d o k m w hL hdn (by omega) hup
    | none =>
      have hup' : ((Lk.ownIx e.own k).bind fun i => (e.own[i]?).bind fun o => if o.done then none else some (i, o)) = none := hup
      rw [hup'] at hW ⊢
      simp only at hW ⊢
      cases hix : Lk.othIx e.oth k with
      | none =>
        refine (reset_none b e d k m w hL hdn hk (by omega) hup (fun i o ho hid => absurd hid (othIx_none hix i o ho))).mono ?_
        rintro r w' ⟨rfl, h⟩
        exact ⟨rfl, h⟩
      | some i =>
        obtain ⟨o, ho, hid⟩ := Lk.othIx_some hix
        rw [hix] at hW
        simp only [Option.bind_some, ho] at hW ⊢
        cases hop : o.opn with
        | false =>
          refine (reset_none b e d k m w hL hdn hk (by omega) hup (fun j x hx hxid => ?_)).mono ?_
          · have := set_id hL.wf ho hx (by omega)
            subst this
            rw [ho] at hx
            cases hx
            exact hop
          rintro r w' ⟨rfl, h⟩
          exact ⟨rfl, h⟩
        | true =>
          rw [hop] at hW
          simp only [if_true] at hW ⊢
          subst hid
          exact reset_cut b i e d o m w hL hdn (by omega) hup ho hop hW
end Go.Proofs.YtbkpdapagfjmmaaGreatDoor

/-
  Walks: a frame is drained.
-/
namespace Go.Proofs.YtbkpdapagfjmmaaGreatDoor
open Go.RowKit

theorem most_eq (e : Lk.En) (o : Lk.Ow) : e.most o = mostN e.all o := by
  unfold Lk.En.most mostN
  cases h : o.left with
  | nil => simp
  | cons a t => simp
theorem may_eq (e : Lk.En) (o : Lk.Ow) : e.may o = (!o.done && mayN e.all o) := by
  unfold Lk.En.may mayN mostN
  congr 1
  cases h : o.left with
  | nil => simp
  | cons a t =>
    simp only [List.isEmpty_cons, Bool.false_or, List.length_cons]
    rw [Bool.eq_iff_iff]
    simp only [Bool.and_eq_true, decide_eq_true_eq]
    omega
theorem next_eq (e : Lk.En) : nextN e.all e.turn (upOwn e) = e.next.map (posL e.own) := by
  unfold nextN Lk.En.next
  have h1 := up_find (aboveN e.all e.turn) e.own
  have h2 := up_find (mayN e.all) e.own
  have e1 : (fun o => !o.done && aboveN e.all e.turn o) = fun o => e.may o && decide (e.turn < o.id) := by
    funext o
    rw [may_eq, aboveN, Bool.and_assoc]
  have e2 : (fun o => !o.done && mayN e.all o) = e.may := by
    funext o
    rw [may_eq]
  rw [e1] at h1
  rw [e2] at h2
  show (match (upL e.own).findIdx? (aboveN e.all e.turn) with | some i => some i | none => (upL e.own).findIdx? (mayN e.all)) = _
  rw [h1, h2]
  cases (e.own.findIdx? fun o => e.may o && decide (e.turn < o.id)) <;> rfl

theorem eraseIdx_set_same {α : Type} (l : List α) (i : Nat) (x : α) : (l.set i x).eraseIdx i = l.eraseIdx i := by
  apply List.ext_getElem?
  intro j
  rw [List.getElem?_eraseIdx, List.getElem?_eraseIdx]
  split
  · rw [List.getElem?_set_ne (by omega)]
  · rw [List.getElem?_set_ne (by omega)]
theorem up_body {e : Lk.En} {i : Nat} {o : Lk.Ow} (ho : e.own[i]? = some o) (hd : o.done = false) : upOwn (e.bodyOf i o).2 = dropL (overN e.all o (posL e.own i)) ((upOwn e).set (posL e.own i) (sentOw e.all o)) := by
  show upL (e.own.set i ⟨o.id, o.left.drop (e.most o), o.cr - e.most o, o.done || decide (e.most o = o.left.length)⟩) = _
  rw [most_eq]
  unfold overN
  by_cases h : mostN e.all o = o.left.length
  · rw [if_pos h]
    have hx : (o.done || decide (mostN e.all o = o.left.length)) = true := by simp [h]
    rw [hx, up_set_done e.own i o _ ho hd rfl]
    simp only [dropL]
    rw [eraseIdx_set_same]
    rfl
  · rw [if_neg h]
    have hx : (o.done || decide (mostN e.all o = o.left.length)) = false := by simp [h, hd]
    rw [hx, up_set_up e.own i o _ ho hd rfl]
    simp only [dropL, sentOw, hd]
    rfl

/-- What a call of Drain's leaves: nothing new is kept. -/
def DPost (w : World) (b g B : Nat) (d : PD) (e' : Lk.En) (xs : Lk.Bs) (w' : World) : Prop := ∃ d', Live w' b e' d' ∧ (∀ i, foot b d' i → foot b d i) ∧ Gath w' g B xs ∧ Only (fun i => foot b d i ∨ B ≤ i) w w'

theorem takeLive (b g B : Nat) (e : Lk.En) (d : PD) (s : Lk.Bs) (r : List Lk.Bs) (xs : Lk.Bs) (w : World) (hL : Live w b e d) (hrow : e.row = s :: r) (hG : Gath w g B xs) (hg : B ≤ g) (hB : ∀ i, foot b d i → i < B) (hl : xs.length ≤ 2 ^ 44) (hW : Lk.Wf { e with row := r }) :
    Calls Tryz.prog 37 #[.pointer (some ⟨b, 18, none⟩), gathV g] w fun q w' => q = .returned (.bool true) ∧ DPost w b g B d { e with row := r } (xs ++ s) w' := by
  have hrw := hL.rw
  have hre := hL.rowe
  rw [hrow] at hre
  rcases hrw.row.empty with ⟨h, _⟩ | ⟨f, fs', r0, rs', hf, hr, _, _, _⟩
  · have h' : d.fs = [] := h
    rw [h'] at hre
    simp at hre
  have hf' : d.fs = f :: fs' := hf
  have hr' : d.rs = r0 :: rs' := hr
  rw [hf'] at hre
  simp only [List.map_cons, List.cons.injEq] at hre
  have hgf := hL.good f (by rw [hf']; simp)
  have hC := hrw.row
  rw [hf] at hC
  have hC' : Chain w (firstV (r0 :: rs')) (lastV (r0 :: rs')) (f :: fs') (r0 :: rs') := by
    have := hC
    rw [show (ecOf e d).rs = d.rs from rfl, hr'] at this
    exact this
  have hrsB : ∀ x ∈ r0 :: rs', x < B := fun x hx => hB x (.inr (.inr (.inr (.inr (.inr (.inl (by rw [hr']; exact hx)))))))
  refine (takeRow_some b 18 g r0 B 101 (ecOf e d).cells f fs' rs' xs w hrw.blk (Nat.ne_of_beq_eq_false rfl) (by rw [← hr']; rfl) (by rw [← hr']; rfl) hC' hG hg (hB b (.inl rfl)) hrsB hl hgf.k7 hgf.st28 hgf.len).mono ?_
  rintro q w' ⟨rfl, hI, hCh, hG', hO⟩
  have hR' : Rw w' b { ecOf e d with rs := rs' } fs' := ⟨hI, hCh⟩
  have hsub : ∀ i, foot b { d with rs := rs', fs := fs' } i → foot b d i := by
    intro i hi
    rcases hi with hi | hi | hi | hi | hi | hi | hi | hi
    · exact .inl hi
    · exact .inr (.inl hi)
    · exact .inr (.inr (.inl hi))
    · exact .inr (.inr (.inr (.inl hi)))
    · exact .inr (.inr (.inr (.inr (.inl hi))))
    · exact .inr (.inr (.inr (.inr (.inr (.inl (by rw [hr']; exact List.mem_cons_of_mem _ hi))))))
    · exact .inr (.inr (.inr (.inr (.inr (.inr (.inl hi))))))
    · exact .inr (.inr (.inr (.inr (.inr (.inr (.inr hi))))))
  have hs := hL.sepRow
  have hno : ∀ i, foot b d i → i ≠ b → ¬ (i = b ∨ B ≤ i) := fun i hi hne hx => by
    rcases hx with hx | hx
    · exact hne hx
    · have := hB i hi; omega
  refine ⟨rfl, { d with rs := rs', fs := fs' }, ⟨hR', hre.2, fun f' hf'' => hL.good f' (by rw [hf']; exact List.mem_cons_of_mem _ hf''), ?_, ?_, ?_, ?_, hL.psn, hL.ps4, ?_, hL.mn, ?_, hL.none, hL.inj, hW, fun i hi => hL.pos i (hsub i hi)⟩, hsub, by rw [hre.1]; exact hG', hO.mono (fun i hi => ?_)⟩
  · exact own_only hL.out hO (fun i hi => hno i (.inr (.inl hi)) (fun e => (hs i (.inl e)).1 hi))
  · exact own_only hL.inn hO (fun i hi => hno i (.inr (.inr (.inl hi))) (fun e => (hs i (.inl e)).2.1 hi))
  · exact own_only hL.sl hO (fun i hi => hno i (.inr (.inr (.inr (.inl hi)))) (fun e => (hs i (.inl e)).2.2.1 hi))
  · exact hL.outs.only hO (fun p hp => hno p (.inr (.inr (.inr (.inr (.inl hp))))) (fun e => (hs p (.inl e)).2.2.2.1 hp))
  · exact hL.map.only hO (hno d.mb (.inr (.inr (.inr (.inr (.inr (.inr (.inl rfl))))))) (fun e => (hs _ (.inl e)).2.2.2.2.1 rfl))
  · exact fun i o ho => (hL.oths i o ho).only hO (fun p hp => hno p (.inr (.inr (.inr (.inr (.inr (.inr (.inr ⟨_, hp⟩))))))) (fun e => (hs p (.inl e)).2.2.2.2.2 _ hp))
  · rcases hi with hi | hi
    · exact .inl (.inl hi)
    · exact .inr hi

theorem takeLive_none (b g : Nat) (e : Lk.En) (d : PD) (w : World) (hL : Live w b e d) (hrow : e.row = []) :
    Calls Tryz.prog 37 #[.pointer (some ⟨b, 18, none⟩), gathV g] w fun q w' => q = .returned (.bool false) ∧ w' = w := by
  have hre := hL.rowe
  rw [hrow] at hre
  have hfs : d.fs = [] := by
    cases h : d.fs with
    | nil => rfl
    | cons a t => rw [h] at hre; simp at hre
  rcases hL.rw.row.empty with ⟨_, hr, _⟩ | ⟨f, fs', r0, rs', hf, _⟩
  · have hr' : d.rs = [] := hr
    exact takeRow_none b 18 g 101 (ecOf e d).cells w hL.rw.blk (by rw [show (ecOf e d).cells[18]? = some (firstV d.rs) from rfl, hr']; rfl)
  · have h' : d.fs = f :: fs' := hf
    rw [hfs] at h'
    cases h'

theorem nextLive (b : Nat) (e : Lk.En) (d : PD) (w : World) (hL : Live w b e d) :
    Calls Tryz.prog 73 #[.pointer (some ⟨b, 3, none⟩)] w fun q w' => q = .returned (.tuple #[optPtr ((e.next.map (posL e.own)).bind fun i => d.ps[i]?), .bool e.next.isSome]) ∧ ∃ n, w' = w.drewN n := by
  have hb := hL.rw.lt
  have c10 : w.cell? ⟨b, 10, none⟩ = some d.sv := hL.rw.blk.cell 10
  have c9 : w.cell? ⟨b, 9, none⟩ = some (.int .i64 (e.all : Int)) := hL.rw.blk.cell 9
  have c8 : w.cell? ⟨b, 8, none⟩ = some (.int .i64 (e.turn : Int)) := hL.rw.blk.cell 8
  have hne := next_eq e
  have h4 := hL.ps4
  rcases hL.sl.2 with ⟨h0, hl0⟩ | ⟨g, cap, cur, h0, _⟩
  · have hps : d.ps = [] := List.eq_nil_of_length_eq_zero hl0
    have hup : upOwn e = [] := List.eq_nil_of_length_eq_zero (by rw [hL.outs.len, hps]; rfl)
    rw [hup] at hne
    have hnx : e.next = none := by
      cases hx : e.next with
      | none => rfl
      | some i => rw [hx] at hne; simp [nextN] at hne
    rw [hnx]
    rw [h0] at c10
    refine (nextToSend_nil b w hb c10).mono ?_
    rintro q w' ⟨rfl, rfl⟩
    exact ⟨rfl, 0, rfl⟩
  · have hsl := hL.sl
    rw [h0] at c10 hsl
    have := nextToSend_some b 0 g d.ps.length cap e.all e.turn (upOwn e) d.ps _ w hb c10 c9 c8 hL.outs hsl (hide rfl) (by omega) (hide hne)
    rw [Option.isSome_map] at this
    exact this

theorem sendLive_none (b g : Nat) (e : Lk.En) (d : PD) (w : World) (hL : Live w b e d) (hn : e.next = none) :
    Calls Tryz.prog 38 #[.pointer (some ⟨b, 3, none⟩), gathV g] w fun q w' => q = .returned (.bool false) ∧ ∃ n, w' = w.drewN n := by
  have := nextLive b e d w hL
  rw [hn] at this
  exact sendOut_none b g w this

theorem sendLive (b g B i : Nat) (e : Lk.En) (d : PD) (o : Lk.Ow) (xs : Lk.Bs) (w : World) (hL : Live w b e d) (hn : e.next = some i) (ho : e.own[i]? = some o) (hG : Gath w g B xs) (hg : B ≤ g) (hB : ∀ i, foot b d i → i < B) (hl : xs.length ≤ 2 ^ 44) (hW : Lk.Wf (e.bodyOf i o).2) :
    Calls Tryz.prog 38 #[.pointer (some ⟨b, 3, none⟩), gathV g] w fun q w' => q = .returned (.bool true) ∧ DPost w b g B d (e.bodyOf i o).2 (xs ++ (e.bodyOf i o).1) w' := by
  obtain ⟨o', ho', hmay⟩ := Lk.next_may hn
  rw [ho] at ho'
  cases ho'
  have hd : o.done = false := by
    unfold Lk.En.may at hmay
    cases hx : o.done with
    | false => rfl
    | true => rw [hx] at hmay; simp at hmay
  have hOk := hL.wf.own i o ho
  have hpos := up_get e.own i o ho hd
  have hpl : posL e.own i < d.ps.length := by
    rw [← hL.outs.len]
    exact (List.getElem?_eq_some_iff.1 hpos).1
  obtain ⟨p, hp⟩ : ∃ p, d.ps[posL e.own i]? = some p := ⟨_, List.getElem?_eq_getElem hpl⟩
  have hN := nextLive b e d w hL
  rw [hn] at hN
  simp only [Option.map_some, Option.bind_some, hp, optPtr, ptr, Option.isSome] at hN
  have h4 := hL.ps4
  refine (sendOut_some b B 0 g (posL e.own i) p e.all e.turn 101 (ecOf e d).cells d.sv o (upOwn e) d.ps xs w hL.rw.blk (Nat.ne_of_beq_eq_false rfl) (Nat.ne_of_beq_eq_false rfl) rfl rfl rfl hL.outs hL.psn (up_apart hL.wf) hL.sl (by omega) hpos hp hN hG hg (hB b (.inl rfl)) (fun x hx => hB x (.inr (.inr (.inr (.inr (.inl hx)))))) (fun x hx => hB x (.inr (.inr (.inr (.inl hx))))) hl hOk.id28 (by have := hL.wf.all; omega) (by have := hOk.cr; omega) (by have := hOk.left; omega)).mono ?_
  rintro q w' ⟨rfl, v', hI, hsl, hv, hO, hG', hOn⟩
  have hub := up_body ho hd
  have hs := hL.sepRow
  have hsub : ∀ x, foot b { d with ps := dropL (overN e.all o (posL e.own i)) d.ps, sv := v' } x → foot b d x := by
    intro x hx
    rcases hx with hx | hx | hx | hx | hx | hx | hx | hx
    · exact .inl hx
    · exact .inr (.inl hx)
    · exact .inr (.inr (.inl hx))
    · exact .inr (.inr (.inr (.inl (hv ▸ hx))))
    · exact .inr (.inr (.inr (.inr (.inl (mem_drop hx)))))
    · exact .inr (.inr (.inr (.inr (.inr (.inl hx)))))
    · exact .inr (.inr (.inr (.inr (.inr (.inr (.inl hx))))))
    · exact .inr (.inr (.inr (.inr (.inr (.inr (.inr hx))))))
  -- blocks that are none of those that turned
  have hI2 : ∀ x, (d.sv.ownBlock = some x ∨ x ∈ d.ps) → (∃ c, Is w x 169 c) ∨ (∃ c, Is w x 173 c) := by
    intro x hx
    rcases hx with hx | hx
    · left
      rcases hL.sl.2 with ⟨h0, _⟩ | ⟨g, cap, cur, h0, _, hg, _⟩
      · rw [h0] at hx; simp [Value.ownBlock] at hx
      · rw [h0] at hx
        simp [Value.ownBlock] at hx
        subst hx
        exact ⟨cur.toList, by unfold Is; simpa using hg⟩
    · obtain ⟨o, hy⟩ := hL.outs.mem hx; exact .inr ⟨_, hy⟩
  have hno : ∀ x, foot b d x → x ≠ b → (d.sv.ownBlock = some x ∨ x ∈ d.ps → False) → ¬ (x = b ∨ some x = d.sv.ownBlock ∨ x ∈ d.ps ∨ B ≤ x) := fun x hx hne hsp hy => by
    rcases hy with hy | hy | hy | hy
    · exact hne hy
    · exact hsp (.inl hy.symm)
    · exact hsp (.inr hy)
    · have := hB x hx; omega
  have hrowsep : ∀ x ∈ d.rs, (d.sv.ownBlock = some x ∨ x ∈ d.ps → False) := fun x hx hy => by
    rcases hy with hy | hy
    · exact (hs x (.inr hx)).2.2.1 hy
    · exact (hs x (.inr hx)).2.2.2.1 hy
  have hec : ({ ecOf e d with sent := (o.id : Int), ocr := ((e.all - mostN e.all o : Nat) : Int), sv := v' } : EC) = ecOf (e.bodyOf i o).2 { d with ps := dropL (overN e.all o (posL e.own i)) d.ps, sv := v' } := by
    simp [ecOf, Lk.En.bodyOf, most_eq, Lk.En.nextId, nextOth]
  have hR' : Rw w' b (ecOf (e.bodyOf i o).2 { d with ps := dropL (overN e.all o (posL e.own i)) d.ps, sv := v' }) d.fs := by
    rw [← hec]
    exact ⟨hI, hL.rw.row.only hOn (fun r hr => hno r (.inr (.inr (.inr (.inr (.inr (.inl hr)))))) (fun e => hL.rw.notIn (e ▸ hr)) (hrowsep r hr))⟩
  have hpk : (e.bodyOf i o).1 = (bodyN e.all o).pack := by
    simp only [Lk.En.bodyOf, bodyN, Lk.Fr.pack, most_eq]
  refine ⟨rfl, { d with ps := dropL (overN e.all o (posL e.own i)) d.ps, sv := v' }, ⟨hR', hL.rowe, hL.good, ?_, ?_, hsl, by rw [hub]; exact hO, nodup_drop hL.psn, Nat.le_trans len_drop hL.ps4, ?_, hL.mn, ?_, hL.none, hL.inj, hW, fun x hx => hL.pos x (hsub x hx)⟩, hsub, by rw [hpk]; exact hG', hOn.mono (fun x hx => ?_)⟩
  · refine own_only hL.out hOn (fun x hx => hno x (.inr (.inl hx)) (fun e => (hs x (.inl e)).1 hx) (fun hy => ?_))
    rcases hI2 x hy with ⟨c, hI⟩ | ⟨c, hI⟩ <;> exact own_ne hL.out hI (Nat.ne_of_beq_eq_false rfl) hx.symm
  · refine own_only hL.inn hOn (fun x hx => hno x (.inr (.inr (.inl hx))) (fun e => (hs x (.inl e)).2.1 hx) (fun hy => ?_))
    rcases hI2 x hy with ⟨c, hI⟩ | ⟨c, hI⟩ <;> exact own_ne hL.inn hI (Nat.ne_of_beq_eq_false rfl) hx.symm
  · refine hL.map.only hOn (hno d.mb (.inr (.inr (.inr (.inr (.inr (.inr (.inl rfl))))))) (fun e => (hs _ (.inl e)).2.2.2.2.1 rfl) (fun hy => ?_))
    rcases hI2 _ hy with ⟨c, hI⟩ | ⟨c, hI⟩ <;> exact hL.map.ne hI rfl
  · refine fun j x hx => (hL.oths j x hx).only hOn (fun q hq => hno q (.inr (.inr (.inr (.inr (.inr (.inr (.inr ⟨_, hq⟩))))))) (fun e => (hs q (.inl e)).2.2.2.2.2 _ hq) (fun hy => ?_))
    obtain ⟨_, _, _, _, _, _, hz, _⟩ := hL.inAt hq
    rcases hI2 q hy with ⟨c, hI⟩ | ⟨c, hI⟩ <;> exact hI.ne hz (Nat.ne_of_beq_eq_false rfl) rfl
  · rcases hx with hx | hx | hx | hx
    · exact .inl (.inl hx)
    · exact .inl (.inr (.inr (.inr (.inl hx.symm))))
    · exact .inl (.inr (.inr (.inr (.inr (.inl hx)))))
    · exact .inr hx
end Go.Proofs.YtbkpdapagfjmmaaGreatDoor
