import Derived.Test.YtbkpdapagfjmmaaDoorMF7F8
/-
  Walks: what an end does with a piece: bytes come.
-/
namespace Go.Proofs.YtbkpdapagfjmmaaDoor
open Go.RowKit

theorem FS.ofL2 {w w' : World} {b : Nat} {e e' : Lk.En} {d : PD} {g B : Nat} {v : Value} {evs : List EvH} (h : FS w b e d g B v evs) (hL : LPost w b d e' w') : ∃ d', FS w' b e' d' g B v evs ∧ (∀ i, foot b d' i → foot b d i ∨ w.heap.size ≤ i) ∧ Only (foot b d) w w' := by
  obtain ⟨d', h1, h2, h3⟩ := hL
  refine ⟨d', ⟨h1, h.told.only h3 h.sep, fun i hi hf => ?_, h.fx.only h3 (fun h0 => by have := h.live.pos 0 h0; omega), Nat.le_trans h.hB h3.size, h.B0, h.gB⟩, h2, h3⟩
  rcases h2 i hf with h' | h'
  · exact h.sep i hi h'
  · have := h.told.lt i hi; omega
/-- What an end is at, from the world that a call found. -/
theorem GPost.of {w wc w' : World} {b : Nat} {d d1 : PD} {g B : Nat} {v : Value} {evs : List EvH} {e1 e2 : Lk.En} {l : List Lk.Ev} (h1 : FS wc b e1 d1 g B v evs) (hf : ∀ i, foot b d1 i → foot b d i ∨ w.heap.size ≤ i) (hO : Only (fun i => foot b d i ∨ toldFoot g v evs i) w wc) (h2 : GPost wc b d1 g B v evs e2 l w') : GPost w b d g B v evs e2 l w' := by
  have := GPost.trans (n1 := []) (l1 := []) rfl (by rw [List.append_nil]; exact h1) hf (fun i hi => .inl (by rwa [List.append_nil] at hi)) hO (by rw [List.append_nil]; exact h2)
  exact this

set_option maxHeartbeats 2000000 in
set_option maxRecDepth 100000 in
theorem gotPiece_open (b g B i : Nat) (e : Lk.En) (d : PD) (o : Lk.Ot) (v : Value) (evs : List EvH) (f : Lk.Fr) (w : World) (h : FS w b e d g B v evs) (hl : evs.length ≤ 2 ^ 40) (hst : f.st ≤ 268435455) (hg : e.goesOn (f.st : Int) = some (i, o)) (hfl : ¬ (o.cr < f.d.length ∨ e.room < f.d.length)) (hop : o.opn = true) (hW : Lk.Wf { e with oth := e.oth.set i { o with cr := o.cr - f.d.length, held := o.held + f.d.length }, room := e.room - f.d.length }) :
    Calls Tryd.prog 65 #[.pointer (some ⟨b, 0, none⟩), frA f, tellV g] w fun r w' => r = .returned (.int .i64 0) ∧ GPost w b d g B v evs { e with oth := e.oth.set i { o with cr := o.cr - f.d.length, held := o.held + f.d.length }, room := e.room - f.d.length } (if 0 < f.d.length then [⟨2, f.st, 0, [], f.d⟩] else []) w' := by
  have hb0 := frame_new w f
  have h0 := h.below hb0
  have hbl := h.live.rw.lt
  obtain ⟨ho, _, _⟩ := goesOn_some hg
  have hOk := h.live.wf.oth i o ho
  have hdrp := hOk.two hop
  obtain ⟨p, hp, hI⟩ := goesOn_in h0.live hg
  rw [hdrp] at hI
  have hpl := hI.lt
  have hls := bs_size f.d
  have hwin := h.live.wf.win2
  have hroom : e.room ≤ 400 := by have := h.live.wf.room; omega
  have hcrb := hOk.cr
  have HF := hide (fun n => find_quiet b e d (f.st : Int) i p o ((w.alloc (.cells #[.int .i64 (f.k : Int), .int .i64 (f.st : Int), .string (bs f.d)] 114)).drewN n) (h0.drewN n).live ⟨by omega, by omega⟩ hg hp)
  have HU := hide (fun n => useIn_yes b p e.room o.cr o.held f.d.length false false (ecOf e d) d.fs ((w.alloc (.cells #[.int .i64 (f.k : Int), .int .i64 (f.st : Int), .string (bs f.d)] 114)).drewN n) (h0.drewN n).live.rw rfl (hI.drewN n) (by omega) (by omega) (by omega) (by omega) (by omega))
  have HFR := hide (Is.new w 114 [.int .i64 (f.k : Int), .int .i64 (f.st : Int), .string (bs f.d)])
  have HH := hide h0
  have HB := hide hb0
  have HX := hide (⟨ho, hop, hp, hW⟩ : _ ∧ _ ∧ _ ∧ _)
  have hpw : p ≠ w.heap.size := fun e => by
    subst e
    exact (unhide HFR).ne hI (Nat.ne_of_beq_eq_false rfl) rfl
  clear h h0 hb0 hg hp hI hfl ho hOk hop hW hdrp hcrb hroom hwin
  unfold tellV
  go_enter Tryd.func65, Tryd.ntmps65
  go_wp2_with fail
  go_quiet ((go_at_call 90; exact Calls.quiet_of (unhide HF _)))
  go_wp2_with fail
  go_cut [9] (fun u wc => u = .int .i64 0 ∧ ∃ d1, FS wc b { e with oth := e.oth.set i { o with cr := o.cr - f.d.length, held := o.held + f.d.length }, room := e.room - f.d.length } d1 g B v evs ∧ Is wc p 169 (inV ((o.cr - f.d.length : Nat) : Int) ((o.held + f.d.length : Nat) : Int) false false) ∧ Is wc w.heap.size 114 [.int .i64 (f.k : Int), .int .i64 (f.st : Int), .string (bs f.d)] ∧ (∀ j, foot b d1 j → foot b d j ∨ w.heap.size ≤ j) ∧ Only (fun j => foot b d j ∨ toldFoot g v evs j) w wc)
  case first =>
    go_region_with (first | (go_at_call 91; refine (unhide HU (nq + 1)).mono ?_; rintro r w1 ⟨rfl, hI1, hR1, hO1⟩))
    all_goals
      go_wp2_with fail
      go_meet
      obtain ⟨ho, hop, hp, hW⟩ := unhide HX
      have hLP := used_live ((unhide HH).drewN (nq + 1)).live ho hop hp hI1 hR1 hO1 hW
      obtain ⟨d1, a2, a3, a5⟩ := ((unhide HH).drewN (nq + 1)).ofL2 hLP
      have hnf : ¬ (w.heap.size = b ∨ w.heap.size = p) := fun hx => by
        rcases hx with hx | hx
        · omega
        · exact hpw hx.symm
      refine ⟨rfl, d1, a2, hI1, ((unhide HFR).drewN (nq + 1)).only hO1 hnf, fun j hj => ?_, ?_⟩
      · rcases a3 j hj with h' | h'
        · exact .inl h'
        · exact .inr (Nat.le_trans (unhide HB).size h')
      · exact (((Only.of_below (unhide HB) _).drewN (nq + 1)).trans a5 (fun j hj _ => .inl hj))
  case rest =>
    obtain ⟨rfl, d1, h1, hI1, hFr, hf1, hO1⟩ := hcut
    have p2 := hI1.cell 2
    simp only [inV, List.getElem?_cons_zero, List.getElem?_cons_succ] at p2
    have hpl1 := hI1.lt
    have k1 := hFr.cell 1
    have k2 := hFr.cell 2
    simp only [List.getElem?_cons_zero, List.getElem?_cons_succ] at k1 k2
    have hfl1 := hFr.lt
    by_cases hne : f.d = []
    · have e0 : bs f.d = ⟨#[]⟩ := by rw [hne]; rfl
      rw [e0] at k2
      have HG := hide (GPost.of h1 hf1 hO1 (GPost.same h1))
      clear h1 hI1 hFr hf1 hO1
      go_wp2_with fail
      all_goals
        go_ret
        refine ⟨rfl, ?_⟩
        simpa [hne] using unhide HG
    · have hlen : 0 < f.d.length := List.length_pos_iff.2 hne
      have hnE := bs_nonempty hne
      have HT := hide (tell_plain b g B _ d1 v evs 2 f.st 0 f.d wc h1 hl)
      have HG := hide (⟨h1, hf1, hO1⟩ : _ ∧ _ ∧ _)
      clear h1 hI1 hFr hf1 hO1
      go_wp2_with fail
      refine (unhide HT).mono ?_
      rintro r w3 ⟨rfl, hG⟩
      go_wp2_with fail
      go_ret
      obtain ⟨h1, hf1, hO1⟩ := unhide HG
      refine ⟨rfl, ?_⟩
      have hx := GPost.of h1 hf1 hO1 hG
      first | exact hx | (rw [if_pos hlen]; exact hx)

set_option maxHeartbeats 2000000 in
set_option maxRecDepth 100000 in
theorem gotPiece_drop (b g B i : Nat) (e : Lk.En) (d : PD) (o : Lk.Ot) (v : Value) (evs : List EvH) (f : Lk.Fr) (w : World) (h : FS w b e d g B v evs) (hst : f.st ≤ 268435455) (hd64 : f.d.length ≤ 64) (hg : e.goesOn (f.st : Int) = some (i, o)) (hfl : ¬ (o.cr < f.d.length ∨ e.room < f.d.length)) (hop : o.opn = false) (hW : Lk.Wf (({ e with oth := e.oth.set i { o with cr := o.cr - f.d.length }, room := e.room - f.d.length } : Lk.En).back f.d.length)) :
    Calls Tryd.prog 65 #[.pointer (some ⟨b, 0, none⟩), frA f, tellV g] w fun r w' => r = .returned (.int .i64 0) ∧ GPost w b d g B v evs (({ e with oth := e.oth.set i { o with cr := o.cr - f.d.length }, room := e.room - f.d.length } : Lk.En).back f.d.length) [] w' := by
  have hb0 := frame_new w f
  have h0 := h.below hb0
  have hbl := h.live.rw.lt
  obtain ⟨ho, hod, hid⟩ := goesOn_some hg
  have hOk := h.live.wf.oth i o ho
  have hdrp : o.drp = true := by rw [hop] at hod; simpa using hod
  have hh0 := hOk.drp hdrp
  obtain ⟨p, hp, hI⟩ := goesOn_in h0.live hg
  rw [hdrp, hh0] at hI
  have hpl := hI.lt
  have hls := bs_size f.d
  have hwin := h.live.wf.win2
  have hroom : e.room ≤ 400 := by have := h.live.wf.room; omega
  have hcrb := hOk.cr
  have HF := hide (fun n => find_quiet b e d (f.st : Int) i p o ((w.alloc (.cells #[.int .i64 (f.k : Int), .int .i64 (f.st : Int), .string (bs f.d)] 114)).drewN n) (h0.drewN n).live ⟨by omega, by omega⟩ hg hp)
  have HU := hide (fun n => useIn_yes b p e.room o.cr 0 f.d.length true false (ecOf e d) d.fs ((w.alloc (.cells #[.int .i64 (f.k : Int), .int .i64 (f.st : Int), .string (bs f.d)] 114)).drewN n) (h0.drewN n).live.rw rfl (hI.drewN n) (by omega) (by omega) (by omega) (by omega) (by omega))
  have HH := hide h0
  have HB := hide hb0
  have HX := hide (⟨ho, hop, hdrp, hp, hW⟩ : _ ∧ _ ∧ _ ∧ _ ∧ _)
  have hrm : e.room - f.d.length ≤ 1000000 := by omega
  clear h h0 hb0 hg hp hI hfl ho hod hid hOk hop hW hdrp hcrb hroom hwin hh0
  unfold tellV
  go_enter Tryd.func65, Tryd.ntmps65
  go_wp2_with fail
  go_quiet ((go_at_call 90; exact Calls.quiet_of (unhide HF _)))
  go_wp2_with fail
  go_cut [9] (fun u wc => u = .int .i64 0 ∧ Is wc p 169 (inV ((o.cr - f.d.length : Nat) : Int) ((0 + f.d.length : Nat) : Int) true false) ∧ Rw wc b { ecOf e d with icr := ((e.room - f.d.length : Nat) : Int) } d.fs ∧ Only (fun j => j = b ∨ j = p) (w.alloc (.cells #[.int .i64 (f.k : Int), .int .i64 (f.st : Int), .string (bs f.d)] 114)) wc)
  case first =>
    go_region_with (first | (go_at_call 91; refine (unhide HU (nq + 1)).mono ?_; rintro r w1 ⟨rfl, hI1, hR1, hO1⟩))
    all_goals
      go_wp2_with fail
      go_meet
      exact ⟨rfl, hI1, hR1, ⟨hO1.os, hO1.tape, hO1.output, hO1.size, hO1.block⟩⟩
  case rest =>
    obtain ⟨rfl, hI1, hR1, hO1⟩ := hcut
    have p2 := hI1.cell 2
    simp only [inV, List.getElem?_cons_zero, List.getElem?_cons_succ] at p2
    have hpl1 := hI1.lt
    have hbl1 := hR1.lt
    have HC := hide (fun k => giveBack_any b p (e.room - f.d.length) (0 + f.d.length) ((o.cr - f.d.length : Nat) : Int) true false { ecOf e d with icr := ((e.room - f.d.length : Nat) : Int) } d.fs (wc.drewN k) (hR1.only ((Only.refl (fun _ => False) wc).drewN k) (fun h => h) (fun _ _ h => h)) rfl (hI1.drewN k) (by omega) hrm)
    unfold putV at HC
    have HO1 := hide hO1
    clear hI1 hR1 hO1
    go_wp2_with fail
    go_cut [] (fun w5 => GPost w b d g B v evs (({ e with oth := e.oth.set i { o with cr := o.cr - f.d.length }, room := e.room - f.d.length } : Lk.En).back f.d.length) [] w5)
    case first =>
      go_region_with (first | (go_at_call 92; refine (unhide HC 1).mono ?_; rintro r w4 ⟨rfl, rs', hrs, hI4, hR4, hO4⟩))
      all_goals
        go_wp2_with fail
        go_meet
        obtain ⟨ho, hop, hdrp, hp, hW⟩ := unhide HX
        have hO1 := unhide HO1
        rw [Nat.zero_add] at hR4
        have hO5 : Only (fun j => j = b ∨ j = p ∨ j ∈ d.rs) (w.alloc (.cells #[.int .i64 (f.k : Int), .int .i64 (f.st : Int), .string (bs f.d)] 114)) w4 := ((hO1.mono (fun j hj => hj.imp id (fun h => .inl h))).drewN 1).trans hO4 (fun j hj _ => hj)
        have hLP := droppedIn_live (unhide HH).live ho hop hdrp (by omega) hp hI4 hR4 hO5 (fun x hx => (hrs x hx).imp id (fun h => Nat.le_trans hO1.size h)) hW
        exact GPost.before (unhide HB) ((unhide HH).ofL hLP)
    case rest =>
      go_wp2_with fail
      go_ret
      exact ⟨rfl, hcut⟩

theorem gotPiece_any (b g B : Nat) (e : Lk.En) (d : PD) (v : Value) (evs : List EvH) (f : Lk.Fr) (w : World) (h : FS w b e d g B v evs) (hl : evs.length ≤ 2 ^ 40) (hst : f.st ≤ 268435455) (hd64 : f.d.length ≤ 64) (hW : Lk.Wf (e.pieceG f.st f.d).2.2) :
    Calls Tryd.prog 65 #[.pointer (some ⟨b, 0, none⟩), frA f, tellV g] w fun r w' => r = .returned (.int .i64 ((e.pieceG f.st f.d).2.1 : Int)) ∧ GPost w b d g B v evs (e.pieceG f.st f.d).2.2 (e.pieceG f.st f.d).1 w' := by
  unfold Lk.En.pieceG at hW ⊢
  cases hg : e.goesOn (f.st : Int) with
  | none => exact gotPiece_none b g B e d v evs f w h hst hg
  | some x =>
    obtain ⟨i, o⟩ := x
    rw [hg] at hW
    simp only at hW ⊢
    by_cases hfl : o.cr < f.d.length ∨ e.room < f.d.length
    · rw [if_pos hfl]
      exact gotPiece_flow b g B i e d o v evs f w h hst hg hfl
    · rw [if_neg hfl] at hW ⊢
      by_cases hop : o.opn = true
      · rw [if_pos hop] at hW ⊢
        exact gotPiece_open b g B i e d o v evs f w h hl hst hg hfl hop hW
      · rw [if_neg hop] at hW ⊢
        exact gotPiece_drop b g B i e d o v evs f w h hst hd64 hg hfl (by simpa using hop) hW
end Go.Proofs.YtbkpdapagfjmmaaDoor

/-
  Walks: what an end does with the last piece.
-/
namespace Go.Proofs.YtbkpdapagfjmmaaDoor
open Go.RowKit

/-- A stream of the other end ends. -/
def Lk.En.endE (e : Lk.En) (i : Nat) : Lk.En := match e.oth[i]? with
  | some o => { e with oth := e.oth.set i { o with opn := false, drp := false } }
  | none => e
theorem set_twice {α : Type} (l : List α) (i : Nat) (x y : α) : (l.set i x).set i y = l.set i y := List.set_set _
theorem pieceF_one (e : Lk.En) (f : Lk.Fr) (hk : f.k ≠ 2) : e.pieceF f = e.pieceG f.st f.d := by
  unfold Lk.En.pieceF Lk.En.pieceG Lk.En.goesOn
  cases hx : Lk.othIx e.oth (f.st : Int) with
  | none => rfl
  | some i =>
    obtain ⟨o, ho, _⟩ := Lk.othIx_some hx
    simp only [Option.bind_some, ho, Option.map_some]
    by_cases hg : (o.opn || o.drp) = true
    · have h1 : ¬ (!o.opn && !o.drp) = true := by
        cases h1 : o.opn <;> cases h2 : o.drp <;> simp_all
      rw [if_pos hg, if_neg h1]
      simp only
      by_cases hop : o.opn = true
      · rw [if_pos hop, if_pos hop]
        have e1 : decide (f.k ≠ 2) = true := by simpa using hk
        rw [if_neg hk, e1, Bool.and_true, List.append_nil]
        rw [show (true : Bool) = o.opn from hop.symm]
      · rw [if_neg hop, if_neg hop]
        have e1 : decide (f.k ≠ 2) = o.drp := by
          have : o.drp = true := by
            cases h2 : o.drp with
            | true => rfl
            | false => rw [h2] at hg; simp at hg; exact absurd hg hop
          rw [this]
          simpa using hk
        rw [e1]
    · have h1 : (!o.opn && !o.drp) = true := by
        cases h1 : o.opn <;> cases h2 : o.drp <;> simp_all
      rw [if_neg hg, if_pos h1]
theorem pieceF_last (e : Lk.En) (f : Lk.Fr) (hk : f.k = 2) : e.pieceF f = match e.goesOn f.st with
    | none => ([], 4, e)
    | some (i, o) => if o.cr < f.d.length ∨ e.room < f.d.length then ([], 10, e) else ((e.pieceG f.st f.d).1 ++ (if o.opn then [⟨3, f.st, 0, [], []⟩] else []), 0, (e.pieceG f.st f.d).2.2.endE i) := by
  unfold Lk.En.pieceF Lk.En.pieceG
  cases hx : Lk.othIx e.oth (f.st : Int) with
  | none => unfold Lk.En.goesOn; rw [hx]; rfl
  | some i =>
    obtain ⟨o, ho, _⟩ := Lk.othIx_some hx
    have hil := (List.getElem?_eq_some_iff.1 ho).1
    simp only [Option.bind_some, ho, Option.map_some]
    by_cases hg : (o.opn || o.drp) = true
    · have h1 : ¬ (!o.opn && !o.drp) = true := by
        cases h1 : o.opn <;> cases h2 : o.drp <;> simp_all
      have hgo : e.goesOn (f.st : Int) = some (i, o) := by unfold Lk.En.goesOn; rw [hx]; simp only [Option.bind_some, ho]; rw [if_pos hg]
      rw [if_neg h1, hgo]
      simp only
      by_cases hfl : o.cr < f.d.length ∨ e.room < f.d.length
      · rw [if_pos hfl, if_pos hfl]
      · rw [if_neg hfl, if_neg hfl, if_neg hfl]
        by_cases hop : o.opn = true
        · rw [if_pos hop, if_pos hop, if_pos hop, if_pos hk]
          have e1 : decide (f.k ≠ 2) = false := by simp [hk]
          unfold Lk.En.endE
          rw [List.getElem?_set_self hil]
          simp only [e1, Bool.and_false, set_twice]
        · rw [if_neg hop, if_neg hop, if_neg hop]
          have e1 : decide (f.k ≠ 2) = false := by simp [hk]
          have e2 : o.opn = false := by simpa using hop
          unfold Lk.En.endE
          rw [(back_rest _ _).2.1, List.getElem?_set_self hil]
          simp only [e1, set_twice, List.append_nil, e2]
          unfold Lk.En.back
          split <;> rfl
    · have h1 : (!o.opn && !o.drp) = true := by
        cases h1 : o.opn <;> cases h2 : o.drp <;> simp_all
      have hgo : e.goesOn (f.st : Int) = none := by unfold Lk.En.goesOn; rw [hx]; simp only [Option.bind_some, ho]; rw [if_neg hg]
      rw [if_pos h1, hgo]

theorem endIn_live (b i : Nat) (e : Lk.En) (d : PD) (o : Lk.Ot) (w : World) (hL : Live w b e d) (hg : e.goesOn (o.id : Int) = some (i, o)) (hW : Lk.Wf { e with oth := e.oth.set i { o with opn := false, drp := false } }) :
    Calls Tryd.prog 95 #[.pointer (some ⟨b, 11, none⟩), .int .i64 (o.id : Int)] w fun r w' => r = .returned (.tuple #[]) ∧ LPost w b d { e with oth := e.oth.set i { o with opn := false, drp := false } } w' := by
  obtain ⟨ho, hod, _⟩ := goesOn_some hg
  obtain ⟨p, hp, hI⟩ := goesOn_in hL hg
  have hOk := hL.wf.oth i o ho
  refine (endIn_raw b d.mb d.mn p o.held d.ins (o.id : Int) o.cr o.drp false (ecOf e d) d.fs w hL.rw rfl hL.map ⟨by omega, by have := hOk.id28; omega⟩ hp hI).mono ?_
  rintro r w' ⟨rfl, hR, hI', hM, hO⟩
  refine ⟨rfl, hL.inOp (o' := { o with opn := false, drp := false }) ho rfl hR (hO.mono (fun x hx => ?_)) (rs' := d.rs) (mn' := d.mn) ?_ rfl rfl rfl rfl hL.rowe hL.good hW (fun x hx => .inl hx) hM hL.mn ?_ (fun k hk => ?_) (fun q hq => ?_)⟩
  · rcases hx with hx | hx
    · exact .inr (.inr (.inr (hx ▸ hp)))
    · exact .inr (.inr (.inl hx))
  · simp [ecOf, nextOth, Lk.En.nextId]
  · unfold OthIs
    show match (if 0 < o.held then d.ins else fun x => if x = (o.id : Int) then none else d.ins x) (o.id : Int) with | some p => _ | none => _
    by_cases h0 : 0 < o.held
    · rw [if_pos h0, hp]
      exact ⟨by simp [h0], o.cr, o.drp, by simpa using hI', fun hx => by simp at hx⟩
    · rw [if_neg h0]
      simp
      omega
  · split
    · rfl
    · simp [hk]
  · split at hq
    · exact hq
    · simp at hq
end Go.Proofs.YtbkpdapagfjmmaaDoor
