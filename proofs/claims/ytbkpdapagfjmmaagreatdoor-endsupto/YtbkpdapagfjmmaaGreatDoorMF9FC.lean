import Derived.Test.YtbkpdapagfjmmaaGreatDoorMF5F8
set_option linter.unusedVariables false
set_option maxRecDepth 100000
set_option maxHeartbeats 16000000
namespace Go.Proofs.YtbkpdapagfjmmaaGreatDoor
open Go.RowKit
theorem FS.ofL2 {w w' : World} {b : Nat} {e e' : Lk.En} {d : PD} {g B : Nat} {v : Value} {evs : List EvH} (h : FS w b e d g B v evs) (hL : LPost w b d e' w') : ∃ d', FS w' b e' d' g B v evs ∧ (∀ i, foot b d' i → foot b d i ∨ w.heap.size ≤ i) ∧ Only (foot b d) w w' := by
  obtain ⟨d', h1, h2, h3⟩ := hL
  refine ⟨d', ⟨h1, h.told.only h3 h.sep, fun i hi hf => ?_, h.fx.only h3 (fun h0 => by have := h.live.pos 0 h0; omega), Nat.le_trans h.hB h3.size, h.B0, h.gB⟩, h2, h3⟩
  rcases h2 i hf with h' | h'
  · exact h.sep i hi h'
  · have := h.told.lt i hi; omega
theorem GPost.of {w wc w' : World} {b : Nat} {d d1 : PD} {g B : Nat} {v : Value} {evs : List EvH} {e1 e2 : Lk.En} {l : List Lk.Ev} (h1 : FS wc b e1 d1 g B v evs) (hf : ∀ i, foot b d1 i → foot b d i ∨ w.heap.size ≤ i) (hO : Only (fun i => foot b d i ∨ toldFoot g v evs i) w wc) (h2 : GPost wc b d1 g B v evs e2 l w') : GPost w b d g B v evs e2 l w' := by
  have := GPost.trans (n1 := []) (l1 := []) rfl (by rw [List.append_nil]; exact h1) hf (fun i hi => .inl (by rwa [List.append_nil] at hi)) hO (by rw [List.append_nil]; exact h2)
  exact this
theorem gotPiece_open (b g B i : Nat) (e : Lk.En) (d : PD) (o : Lk.Ot) (v : Value) (evs : List EvH) (f : Lk.Fr) (w : World) (h : FS w b e d g B v evs) (hl : evs.length ≤ 2 ^ 40) (hst : f.st ≤ 268435455) (hg : e.goesOn (f.st : Int) = some (i, o)) (hfl : ¬ (o.cr < f.d.length ∨ e.room < f.d.length)) (hop : o.opn = true) (hW : Lk.Wf { e with oth := e.oth.set i { o with cr := o.cr - f.d.length, held := o.held + f.d.length }, room := e.room - f.d.length }) :
    Calls Tryz.prog 91 #[.pointer (some ⟨b, 0, none⟩), frA f, tellV g] w fun r w' => r = .returned (.int .i64 0) ∧ GPost w b d g B v evs { e with oth := e.oth.set i { o with cr := o.cr - f.d.length, held := o.held + f.d.length }, room := e.room - f.d.length } (if 0 < f.d.length then [⟨2, f.st, 0, [], f.d⟩] else []) w' := by
  have hb0 := frame_new w f
  have h0 := h.below hb0
  have hbl := h.live.rw.lt
  obtain ⟨ho, _, _⟩ := goesOn_some hg
  have hOk := h.live.wf.oth i o ho
  have hdrp := hOk.two hop
  obtain ⟨p, hp, hI⟩ := goesOn_in h0.live hg
  rw [hdrp] at hI
  have hpl := hI.lt
  have hls := bs_size f.d
  have hwin := h.live.wf.win2
  have hroom : e.room ≤ 400 := by have := h.live.wf.room; omega
  have hcrb := hOk.cr
  have HF := hide (fun n => find_quiet b e d (f.st : Int) i p o ((w.alloc (.cells #[.int .i64 (f.k : Int), .int .i64 (f.st : Int), .string (bs f.d)] 79)).drewN n) (h0.drewN n).live ⟨by omega, by omega⟩ hg hp)
  have HU := hide (fun n => useIn_yes b p e.room o.cr o.held f.d.length false false (ecOf e d) d.fs ((w.alloc (.cells #[.int .i64 (f.k : Int), .int .i64 (f.st : Int), .string (bs f.d)] 79)).drewN n) (h0.drewN n).live.rw rfl (hI.drewN n) (by omega) (by omega) (by omega) (by omega) (by omega))
  have HFR := hide (Is.new w 79 [.int .i64 (f.k : Int), .int .i64 (f.st : Int), .string (bs f.d)])
  have HH := hide h0
  have HB := hide hb0
  have HX := hide (⟨ho, hop, hp, hW⟩ : _ ∧ _ ∧ _ ∧ _)
  have hpw : p ≠ w.heap.size := fun e => by
    subst e
    exact (uh HFR).ne hI (nbq rfl) rfl
  clear h h0 hb0 hg hp hI hfl ho hOk hop hW hdrp hcrb hroom hwin
  unfold tellV
  go_enter Tryz.func91, Tryz.ntmps91
  go_wp2_with fail
  go_quiet ((go_at_call 117; exact Calls.quiet_of (uh HF _)))
  go_wp2_with fail
  go_cut [9] (fun u wc => u = .int .i64 0 ∧ ∃ d1, FS wc b { e with oth := e.oth.set i { o with cr := o.cr - f.d.length, held := o.held + f.d.length }, room := e.room - f.d.length } d1 g B v evs ∧ Is wc p 227 (inV ((o.cr - f.d.length : Nat) : Int) ((o.held + f.d.length : Nat) : Int) false false) ∧ Is wc w.heap.size 79 [.int .i64 (f.k : Int), .int .i64 (f.st : Int), .string (bs f.d)] ∧ (∀ j, foot b d1 j → foot b d j ∨ w.heap.size ≤ j) ∧ Only (fun j => foot b d j ∨ toldFoot g v evs j) w wc)
  case first =>
    go_region_with (first | (go_at_call 140; refine (uh HU (nq + 1)).mono ?_; rintro r w1 ⟨rfl, hI1, hR1, hO1⟩))
    all_goals
      go_wp2_with fail
      go_meet
      obtain ⟨ho, hop, hp, hW⟩ := uh HX
      have hLP := used_live ((uh HH).drewN (nq + 1)).live ho hop hp hI1 hR1 hO1 hW
      obtain ⟨d1, a2, a3, a5⟩ := ((uh HH).drewN (nq + 1)).ofL2 hLP
      have hnf : ¬ (w.heap.size = b ∨ w.heap.size = p) := fun hx => by
        rcases hx with hx | hx
        · omega
        · exact hpw hx.symm
      refine ⟨rfl, d1, a2, hI1, ((uh HFR).drewN (nq + 1)).only hO1 hnf, fun j hj => ?_, ?_⟩
      · rcases a3 j hj with h' | h'
        · exact .inl h'
        · exact .inr (Nat.le_trans (uh HB).size h')
      · exact (((Only.of_below (uh HB) _).drewN (nq + 1)).trans a5 (fun j hj _ => .inl hj))
  case rest =>
    obtain ⟨rfl, d1, h1, hI1, hFr, hf1, hO1⟩ := hcut
    have p2 := hI1.cell 2
    simp only [inV, List.getElem?_cons_zero, List.getElem?_cons_succ] at p2
    have hpl1 := hI1.lt
    have k1 := hFr.cell 1
    have k2 := hFr.cell 2
    simp only [List.getElem?_cons_zero, List.getElem?_cons_succ] at k1 k2
    have hfl1 := hFr.lt
    by_cases hne : f.d = []
    · have e0 : bs f.d = ⟨#[]⟩ := by rw [hne]; rfl
      rw [e0] at k2
      have HG := hide (GPost.of h1 hf1 hO1 (GPost.same h1))
      clear h1 hI1 hFr hf1 hO1
      go_wp2_with fail
      all_goals
        go_ret
        refine ⟨rfl, ?_⟩
        simpa [hne] using uh HG
    · have hlen : 0 < f.d.length := List.length_pos_iff.2 hne
      have hnE := bs_nonempty hne
      have HT := hide (tell_plain b g B _ d1 v evs 2 f.st 0 f.d wc h1 hl)
      have HG := hide (⟨h1, hf1, hO1⟩ : _ ∧ _ ∧ _)
      clear h1 hI1 hFr hf1 hO1
      go_wp2_with fail
      refine (uh HT).mono ?_
      rintro r w3 ⟨rfl, hG⟩
      go_wp2_with fail
      go_ret
      obtain ⟨h1, hf1, hO1⟩ := uh HG
      refine ⟨rfl, ?_⟩
      have hx := GPost.of h1 hf1 hO1 hG
      first | exact hx | (rw [if_pos hlen]; exact hx)
theorem gotPiece_drop (b g B i : Nat) (e : Lk.En) (d : PD) (o : Lk.Ot) (v : Value) (evs : List EvH) (f : Lk.Fr) (w : World) (h : FS w b e d g B v evs) (hst : f.st ≤ 268435455) (hd64 : f.d.length ≤ 64) (hg : e.goesOn (f.st : Int) = some (i, o)) (hfl : ¬ (o.cr < f.d.length ∨ e.room < f.d.length)) (hop : o.opn = false) (hW : Lk.Wf (({ e with oth := e.oth.set i { o with cr := o.cr - f.d.length }, room := e.room - f.d.length } : Lk.En).back f.d.length)) :
    Calls Tryz.prog 91 #[.pointer (some ⟨b, 0, none⟩), frA f, tellV g] w fun r w' => r = .returned (.int .i64 0) ∧ GPost w b d g B v evs (({ e with oth := e.oth.set i { o with cr := o.cr - f.d.length }, room := e.room - f.d.length } : Lk.En).back f.d.length) [] w' := by
  have hb0 := frame_new w f
  have h0 := h.below hb0
  have hbl := h.live.rw.lt
  obtain ⟨ho, hod, hid⟩ := goesOn_some hg
  have hOk := h.live.wf.oth i o ho
  have hdrp : o.drp = true := by rw [hop] at hod; simpa using hod
  have hh0 := hOk.drp hdrp
  obtain ⟨p, hp, hI⟩ := goesOn_in h0.live hg
  rw [hdrp, hh0] at hI
  have hpl := hI.lt
  have hls := bs_size f.d
  have hwin := h.live.wf.win2
  have hroom : e.room ≤ 400 := by have := h.live.wf.room; omega
  have hcrb := hOk.cr
  have HF := hide (fun n => find_quiet b e d (f.st : Int) i p o ((w.alloc (.cells #[.int .i64 (f.k : Int), .int .i64 (f.st : Int), .string (bs f.d)] 79)).drewN n) (h0.drewN n).live ⟨by omega, by omega⟩ hg hp)
  have HU := hide (fun n => useIn_yes b p e.room o.cr 0 f.d.length true false (ecOf e d) d.fs ((w.alloc (.cells #[.int .i64 (f.k : Int), .int .i64 (f.st : Int), .string (bs f.d)] 79)).drewN n) (h0.drewN n).live.rw rfl (hI.drewN n) (by omega) (by omega) (by omega) (by omega) (by omega))
  have HH := hide h0
  have HB := hide hb0
  have HX := hide (⟨ho, hop, hdrp, hp, hW⟩ : _ ∧ _ ∧ _ ∧ _ ∧ _)
  have hrm : e.room - f.d.length ≤ 1000000 := by omega
  clear h h0 hb0 hg hp hI hfl ho hod hid hOk hop hW hdrp hcrb hroom hwin hh0
  unfold tellV
  go_enter Tryz.func91, Tryz.ntmps91
  go_wp2_with fail
  go_quiet ((go_at_call 117; exact Calls.quiet_of (uh HF _)))
  go_wp2_with fail
  go_cut [9] (fun u wc => u = .int .i64 0 ∧ Is wc p 227 (inV ((o.cr - f.d.length : Nat) : Int) ((0 + f.d.length : Nat) : Int) true false) ∧ Rw wc b { ecOf e d with icr := ((e.room - f.d.length : Nat) : Int) } d.fs ∧ Only (fun j => j = b ∨ j = p) (w.alloc (.cells #[.int .i64 (f.k : Int), .int .i64 (f.st : Int), .string (bs f.d)] 79)) wc)
  case first =>
    go_region_with (first | (go_at_call 140; refine (uh HU (nq + 1)).mono ?_; rintro r w1 ⟨rfl, hI1, hR1, hO1⟩))
    all_goals
      go_wp2_with fail
      go_meet
      exact ⟨rfl, hI1, hR1, ⟨hO1.os, hO1.tape, hO1.output, hO1.size, hO1.block⟩⟩
  case rest =>
    obtain ⟨rfl, hI1, hR1, hO1⟩ := hcut
    have p2 := hI1.cell 2
    simp only [inV, List.getElem?_cons_zero, List.getElem?_cons_succ] at p2
    have hpl1 := hI1.lt
    have hbl1 := hR1.lt
    have HC := hide (fun k => giveBack_any b p (e.room - f.d.length) (0 + f.d.length) ((o.cr - f.d.length : Nat) : Int) true false { ecOf e d with icr := ((e.room - f.d.length : Nat) : Int) } d.fs (wc.drewN k) (hR1.only ((Only.refl (fun _ => False) wc).drewN k) (fun h => h) (fun _ _ h => h)) rfl (hI1.drewN k) (by omega) hrm)
    unfold putV at HC
    have HO1 := hide hO1
    clear hI1 hR1 hO1
    go_wp2_with fail
    go_cut [] (fun w5 => GPost w b d g B v evs (({ e with oth := e.oth.set i { o with cr := o.cr - f.d.length }, room := e.room - f.d.length } : Lk.En).back f.d.length) [] w5)
    case first =>
      go_region_with (first | (go_at_call 141; refine (uh HC 1).mono ?_; rintro r w4 ⟨rfl, rs', hrs, hI4, hR4, hO4⟩))
      all_goals
        go_wp2_with fail
        go_meet
        obtain ⟨ho, hop, hdrp, hp, hW⟩ := uh HX
        have hO1 := uh HO1
        rw [Nat.zero_add] at hR4
        have hO5 : Only (fun j => j = b ∨ j = p ∨ j ∈ d.rs) (w.alloc (.cells #[.int .i64 (f.k : Int), .int .i64 (f.st : Int), .string (bs f.d)] 79)) w4 := ((hO1.mono (fun j hj => hj.imp id (fun h => .inl h))).drewN 1).trans hO4 (fun j hj _ => hj)
        have hLP := droppedIn_live (uh HH).live ho hop hdrp (by omega) hp hI4 hR4 hO5 (fun x hx => (hrs x hx).imp id (fun h => Nat.le_trans hO1.size h)) hW
        exact GPost.before (uh HB) ((uh HH).ofL hLP)
    case rest =>
      go_wp2_with fail
      go_ret
      exact ⟨rfl, hcut⟩
theorem gotPiece_any (b g B : Nat) (e : Lk.En) (d : PD) (v : Value) (evs : List EvH) (f : Lk.Fr) (w : World) (h : FS w b e d g B v evs) (hl : evs.length ≤ 2 ^ 40) (hst : f.st ≤ 268435455) (hd64 : f.d.length ≤ 64) (hW : Lk.Wf (e.pieceG f.st f.d).2.2) :
    Calls Tryz.prog 91 #[.pointer (some ⟨b, 0, none⟩), frA f, tellV g] w fun r w' => r = .returned (.int .i64 ((e.pieceG f.st f.d).2.1 : Int)) ∧ GPost w b d g B v evs (e.pieceG f.st f.d).2.2 (e.pieceG f.st f.d).1 w' := by
  unfold Lk.En.pieceG at hW ⊢
  cases hg : e.goesOn (f.st : Int) with
  | none => exact gotPiece_none b g B e d v evs f w h hst hg
  | some x =>
    obtain ⟨i, o⟩ := x
    rw [hg] at hW
    simp only at hW ⊢
    by_cases hfl : o.cr < f.d.length ∨ e.room < f.d.length
    · rw [if_pos hfl]
      exact gotPiece_flow b g B i e d o v evs f w h hst hg hfl
    · rw [if_neg hfl] at hW ⊢
      by_cases hop : o.opn = true
      · rw [if_pos hop] at hW ⊢
        exact gotPiece_open b g B i e d o v evs f w h hl hst hg hfl hop hW
      · rw [if_neg hop] at hW ⊢
        exact gotPiece_drop b g B i e d o v evs f w h hst hd64 hg hfl (by simpa using hop) hW
end Go.Proofs.YtbkpdapagfjmmaaGreatDoor

namespace Go.Proofs.YtbkpdapagfjmmaaGreatDoor
open Go.RowKit
def Lk.En.endE (e : Lk.En) (i : Nat) : Lk.En := match e.oth[i]? with
  | some o => { e with oth := e.oth.set i { o with opn := false, drp := false } }
  | none => e
theorem set_twice {α : Type} (l : List α) (i : Nat) (x y : α) : (l.set i x).set i y = l.set i y := List.set_set _
theorem pieceF_one (e : Lk.En) (f : Lk.Fr) (hk : f.k ≠ 2) : e.pieceF f = e.pieceG f.st f.d := by
  unfold Lk.En.pieceF Lk.En.pieceG Lk.En.goesOn
  cases hx : Lk.othIx e.oth (f.st : Int) with
  | none => rfl
  | some i =>
    obtain ⟨o, ho, _⟩ := Lk.othIx_some hx
    simp only [Option.bind_some, ho, Option.map_some]
    by_cases hg : (o.opn || o.drp) = true
    · have h1 : ¬ (!o.opn && !o.drp) = true := by
        cases h1 : o.opn <;> cases h2 : o.drp <;> simp_all
      rw [if_pos hg, if_neg h1]
      simp only
      by_cases hop : o.opn = true
      · rw [if_pos hop, if_pos hop]
        have e1 : decide (f.k ≠ 2) = true := by simpa using hk
        rw [if_neg hk, e1, Bool.and_true, List.append_nil]
        rw [show (true : Bool) = o.opn from hop.symm]
      · rw [if_neg hop, if_neg hop]
        have e1 : decide (f.k ≠ 2) = o.drp := by
          have : o.drp = true := by
            cases h2 : o.drp with
            | true => rfl
            | false => rw [h2] at hg; simp at hg; exact absurd hg hop
          rw [this]
          simpa using hk
        rw [e1]
    · have h1 : (!o.opn && !o.drp) = true := by
        cases h1 : o.opn <;> cases h2 : o.drp <;> simp_all
      rw [if_neg hg, if_pos h1]
theorem pieceF_last (e : Lk.En) (f : Lk.Fr) (hk : f.k = 2) : e.pieceF f = match e.goesOn f.st with
    | none => ([], 4, e)
    | some (i, o) => if o.cr < f.d.length ∨ e.room < f.d.length then ([], 10, e) else ((e.pieceG f.st f.d).1 ++ (if o.opn then [⟨3, f.st, 0, [], []⟩] else []), 0, (e.pieceG f.st f.d).2.2.endE i) := by
  unfold Lk.En.pieceF Lk.En.pieceG
  cases hx : Lk.othIx e.oth (f.st : Int) with
  | none => unfold Lk.En.goesOn; rw [hx]; rfl
  | some i =>
    obtain ⟨o, ho, _⟩ := Lk.othIx_some hx
    have hil := (List.getElem?_eq_some_iff.1 ho).1
    simp only [Option.bind_some, ho, Option.map_some]
    by_cases hg : (o.opn || o.drp) = true
    · have h1 : ¬ (!o.opn && !o.drp) = true := by
        cases h1 : o.opn <;> cases h2 : o.drp <;> simp_all
      have hgo : e.goesOn (f.st : Int) = some (i, o) := by unfold Lk.En.goesOn; rw [hx]; simp only [Option.bind_some, ho]; rw [if_pos hg]
      rw [if_neg h1, hgo]
      simp only
      by_cases hfl : o.cr < f.d.length ∨ e.room < f.d.length
      · rw [if_pos hfl, if_pos hfl]
      · rw [if_neg hfl, if_neg hfl, if_neg hfl]
        by_cases hop : o.opn = true
        · rw [if_pos hop, if_pos hop, if_pos hop, if_pos hk]
          have e1 : decide (f.k ≠ 2) = false := by simp [hk]
          unfold Lk.En.endE
          rw [List.getElem?_set_self hil]
          simp only [e1, Bool.and_false, set_twice]
        · rw [if_neg hop, if_neg hop, if_neg hop]
          have e1 : decide (f.k ≠ 2) = false := by simp [hk]
          have e2 : o.opn = false := by simpa using hop
          unfold Lk.En.endE
          rw [(back_rest _ _).2.1, List.getElem?_set_self hil]
          simp only [e1, set_twice, List.append_nil, e2]
          unfold Lk.En.back
          split <;> rfl
    · have h1 : (!o.opn && !o.drp) = true := by
        cases h1 : o.opn <;> cases h2 : o.drp <;> simp_all
      have hgo : e.goesOn (f.st : Int) = none := by unfold Lk.En.goesOn; rw [hx]; simp only [Option.bind_some, ho]; rw [if_neg hg]
      rw [if_pos h1, hgo]
theorem endIn_live (b i : Nat) (e : Lk.En) (d : PD) (o : Lk.Ot) (w : World) (hL : Live w b e d) (hg : e.goesOn (o.id : Int) = some (i, o)) (hW : Lk.Wf { e with oth := e.oth.set i { o with opn := false, drp := false } }) :
    Calls Tryz.prog 142 #[.pointer (some ⟨b, 11, none⟩), .int .i64 (o.id : Int)] w fun r w' => r = .returned (.tuple #[]) ∧ LPost w b d { e with oth := e.oth.set i { o with opn := false, drp := false } } w' := by
  obtain ⟨ho, hod, _⟩ := goesOn_some hg
  obtain ⟨p, hp, hI⟩ := goesOn_in hL hg
  have hOk := hL.wf.oth i o ho
  refine (endIn_raw b d.mb d.mn p o.held d.ins (o.id : Int) o.cr o.drp false (ecOf e d) d.fs w hL.rw rfl hL.map ⟨by omega, by have := hOk.id28; omega⟩ hp hI).mono ?_
  rintro r w' ⟨rfl, hR, hI', hM, hO⟩
  refine ⟨rfl, hL.inOp (o' := { o with opn := false, drp := false }) ho rfl hR (hO.mono (fun x hx => ?_)) (rs' := d.rs) (mn' := d.mn) ?_ rfl rfl rfl rfl hL.rowe hL.good hW (fun x hx => .inl hx) hM hL.mn ?_ (fun k hk => ?_) (fun q hq => ?_)⟩
  · rcases hx with hx | hx
    · exact .inr (.inr (.inr (hx ▸ hp)))
    · exact .inr (.inr (.inl hx))
  · simp [ecOf, nextOth, Lk.En.nextId]
  · unfold OthIs
    show match (if 0 < o.held then d.ins else fun x => if x = (o.id : Int) then none else d.ins x) (o.id : Int) with | some p => _ | none => _
    by_cases h0 : 0 < o.held
    · rw [if_pos h0, hp]
      exact ⟨by simp [h0], o.cr, o.drp, by simpa using hI', fun hx => by simp at hx⟩
    · rw [if_neg h0]
      simp
      omega
  · split
    · rfl
    · simp [hk]
  · split at hq
    · exact hq
    · simp at hq
end Go.Proofs.YtbkpdapagfjmmaaGreatDoor

namespace Go.Proofs.YtbkpdapagfjmmaaGreatDoor
open Go.RowKit
theorem FS.new {w : World} {b : Nat} {e : Lk.En} {d : PD} {g B : Nat} {v : Value} {evs : List EvH} (h : FS w b e d g B v evs) : ¬ (foot b d w.heap.size ∨ toldFoot g v evs w.heap.size) := fun hx => by
  rcases hx with hx | hx
  · have := h.live.lt _ hx; omega
  · have := h.told.lt _ hx; omega
theorem endIn_at (b i : Nat) (e : Lk.En) (d : PD) (o : Lk.Ot) (k : Int) (hk : (o.id : Int) = k) (w : World) (hL : Live w b e d) (hg : e.goesOn k = some (i, o)) (hW : Lk.Wf { e with oth := e.oth.set i { o with opn := false, drp := false } }) :
    Calls Tryz.prog 142 #[.pointer (some ⟨b, 11, none⟩), .int .i64 k] w fun r w' => r = .returned (.tuple #[]) ∧ LPost w b d { e with oth := e.oth.set i { o with opn := false, drp := false } } w' := by
  subst hk
  exact endIn_live b i e d o w hL hg hW
theorem gotLast_err (b g B : Nat) (d : PD) (v : Value) (evs : List EvH) (f : Lk.Fr) (ec : Nat) (e' : Lk.En) (evl : List Lk.Ev) (w : World) (hec : ec ≠ 0)
    (hP : Calls Tryz.prog 91 #[.pointer (some ⟨b, 0, none⟩), frA f, tellV g] (w.alloc (.cells #[.int .i64 (f.k : Int), .int .i64 (f.st : Int), .string (bs f.d)] 79)) fun r w' => r = .returned (.int .i64 (ec : Int)) ∧ GPost (w.alloc (.cells #[.int .i64 (f.k : Int), .int .i64 (f.st : Int), .string (bs f.d)] 79)) b d g B v evs e' evl w') :
    Calls Tryz.prog 92 #[.pointer (some ⟨b, 0, none⟩), frA f, tellV g] w fun r w' => r = .returned (.int .i64 (ec : Int)) ∧ GPost w b d g B v evs e' evl w' := by
  have HP := hide hP
  have hne : ((ec : Int) != 0) = true := by rw [bne_iff_ne]; omega
  have HB := hide (frame_new w f)
  clear hP hec
  unfold tellV at *
  unfold frA at HP
  go_enter Tryz.func92, Tryz.ntmps92
  go_wp2_with fail
  refine (uh HP).mono ?_
  rintro r w1 ⟨rfl, hG⟩
  go_wp2_with fail
  go_ret
  exact ⟨rfl, GPost.before (uh HB) hG⟩
theorem gotLast_ok (b g B i : Nat) (e e1 : Lk.En) (d : PD) (o1 : Lk.Ot) (v : Value) (evs : List EvH) (f : Lk.Fr) (evl : List Lk.Ev) (w : World) (h : FS w b e d g B v evs) (hl : evs.length + evl.length ≤ 2 ^ 40) (hst : f.st ≤ 268435455) (hid : o1.id = f.st) (hg : e1.goesOn (f.st : Int) = some (i, o1)) (hW : Lk.Wf { e1 with oth := e1.oth.set i { o1 with opn := false, drp := false } })
    (hP : Calls Tryz.prog 91 #[.pointer (some ⟨b, 0, none⟩), frA f, tellV g] (w.alloc (.cells #[.int .i64 (f.k : Int), .int .i64 (f.st : Int), .string (bs f.d)] 79)) fun r w' => r = .returned (.int .i64 0) ∧ GPost (w.alloc (.cells #[.int .i64 (f.k : Int), .int .i64 (f.st : Int), .string (bs f.d)] 79)) b d g B v evs e1 evl w') :
    Calls Tryz.prog 92 #[.pointer (some ⟨b, 0, none⟩), frA f, tellV g] w fun r w' => r = .returned (.int .i64 0) ∧ GPost w b d g B v evs { e1 with oth := e1.oth.set i { o1 with opn := false, drp := false } } (evl ++ if o1.opn then [⟨3, f.st, 0, [], []⟩] else []) w' := by
  have hnew := h.new
  have HP := hide hP
  have HB := hide (frame_new w f)
  have HFR := hide (Is.new w 79 [.int .i64 (f.k : Int), .int .i64 (f.st : Int), .string (bs f.d)])
  have HX := hide (⟨hg, hW, hid⟩ : _ ∧ _ ∧ _)
  generalize hEV : (evl ++ if o1.opn then [⟨3, f.st, 0, [], []⟩] else []) = EV
  generalize hEE : ({ e1 with oth := e1.oth.set i { o1 with opn := false, drp := false } } : Lk.En) = EE
  have HEV := hide hEV
  have HEE := hide hEE
  clear hP h hg hW hid hEV hEE
  unfold tellV at *
  unfold frA at HP
  go_enter Tryz.func92, Tryz.ntmps92
  go_wp2_with fail
  refine (uh HP).mono ?_
  rintro r w1 ⟨rfl, d1, v1, n1, hn1, hF1, hf1, ht1, hO1⟩
  have hFr1 := (uh HFR).only hO1 hnew
  have k1 := hFr1.cell 1
  simp only [List.getElem?_cons_zero, List.getElem?_cons_succ] at k1
  have hfl1 := hFr1.lt
  have hbl1 := hF1.live.rw.lt
  obtain ⟨hg, hW, hid⟩ := uh HX
  obtain ⟨p, hp, hI⟩ := goesOn_in hF1.live hg
  have hpl := hI.lt
  have hlen1 : (evs ++ n1).length ≤ 2 ^ 40 := by
    have : n1.length = evl.length := by rw [← hn1]; simp
    rw [List.length_append]
    omega
  obtain ⟨ho1, hod, _⟩ := goesOn_some hg
  have htwo := (hF1.live.wf.oth i o1 ho1).two
  have HF := hide (fun n => find_quiet b e1 d1 (f.st : Int) i p o1 (w1.drewN n) (hF1.drewN n).live ⟨by omega, by omega⟩ hg hp)
  have HOP := hide (fun n => open_any p o1.cr o1.held o1.drp false (w1.drewN n) (hI.drewN n))
  have HF1 := hide (⟨hn1, hF1, hf1, ht1, hO1, hFr1⟩ : _ ∧ _ ∧ _ ∧ _ ∧ _ ∧ _)
  clear hn1 hF1 hf1 ht1 hO1 hFr1 hg hW hp hI ho1
  by_cases hop : o1.opn = true
  · have hdrp := htwo hop
    rw [hdrp] at HOP
    clear htwo hod hdrp
    go_wp2_with fail
    go_quiet ((go_at_call 117; exact Calls.quiet_of (uh HF _)))
    go_wp2_with fail
    refine (uh HOP _).mono ?_
    rintro r w2 ⟨rfl, rfl⟩
    obtain ⟨hn1, hF1, hf1, ht1, hO1, hFr1⟩ := uh HF1
    have HT := hide (tell_plain b g B e1 d1 v1 (evs ++ n1) 3 f.st 0 [] (w1.drewN nq) (hF1.drewN nq) hlen1)
    have e0 : bs [] = ⟨#[]⟩ := rfl
    rw [e0] at HT
    have hnew1 := (hF1.drewN nq).new
    clear hn1 hF1 hf1 ht1 hO1 hFr1
    go_wp2_with fail
    refine (uh HT).mono ?_
    rintro r w3 ⟨rfl, d3, v3, n3, hn3, hF3, hf3, ht3, hO3⟩
    obtain ⟨hn1, hF1, hf1, ht1, hO1, hFr1⟩ := uh HF1
    have hFr3 := (hFr1.drewN nq).only hO3 (fun hx => by
      have hsz : w.heap.size < w1.heap.size := hfl1
      rcases hx with hx | hx
      · rcases hf1 _ hx with h' | h'
        · exact hnew (.inl h')
        · rw [World.size_alloc] at h'; omega
      · rcases ht1 _ hx with h' | h'
        · exact hnew (.inr h')
        · rw [World.size_alloc] at h'; omega)
    have k3 := hFr3.cell 1
    simp only [List.getElem?_cons_zero, List.getElem?_cons_succ] at k3
    have hfl3 := hFr3.lt
    have hbl3 := hF3.live.rw.lt
    obtain ⟨hg, hW, hid⟩ := uh HX
    have HEND := hide (fun n => endIn_at b i e1 d3 o1 (f.st : Int) (by rw [hid]) (w3.drewN n) (hF3.drewN n).live hg hW)
    have HF3 := hide (⟨hn3, hF3, hf3, ht3, hO3⟩ : _ ∧ _ ∧ _ ∧ _ ∧ _)
    clear hn1 hF1 hf1 ht1 hO1 hFr1 hn3 hF3 hf3 ht3 hO3 hFr3 hg hW
    go_wp2_with fail
    go_cut [] (fun w6 => GPost w b d g B v evs EE EV w6)
    case first =>
      go_region_with (first | (go_at_call 142; refine (uh HEND 1).mono ?_; rintro r w5 ⟨rfl, hLP⟩))
      all_goals
        go_wp2_with fail
        go_meet
        obtain ⟨hn1, hF1, hf1, ht1, hO1, hFr1⟩ := uh HF1
        obtain ⟨hn3, hF3, hf3, ht3, hO3⟩ := uh HF3
        have g1 : GPost w3 b d3 g B v3 (evs ++ n1 ++ n3) EE [] w5 := GPost.before (Below.drewN (Below.refl _ _) 1) (by rw [← uh HEE]; exact (hF3.drewN 1).ofL hLP)
        have g2 : GPost (w1.drewN nq) b d1 g B v1 (evs ++ n1) EE ([⟨3, f.st, 0, [], []⟩] ++ []) w5 := GPost.trans hn3 hF3 hf3 ht3 hO3 g1
        have g3 : GPost _ b d g B v evs EE (evl ++ ([⟨3, f.st, 0, [], []⟩] ++ [])) w5 := GPost.trans hn1 (hF1.drewN nq) hf1 ht1 (hO1.drewN nq) g2
        have g4 := GPost.before (uh HB) g3
        rw [← uh HEV, if_pos hop]
        simpa using g4
    case rest =>
      go_wp2_with fail
      go_ret
      exact ⟨rfl, hcut⟩
  · have hop' : o1.opn = false := by simpa using hop
    have hdrp : o1.drp = true := by rw [hop'] at hod; simpa using hod
    rw [hdrp] at HOP
    clear htwo hod hdrp
    go_wp2_with fail
    go_quiet ((go_at_call 117; exact Calls.quiet_of (uh HF _)))
    go_wp2_with fail
    refine (uh HOP _).mono ?_
    rintro r w2 ⟨rfl, rfl⟩
    obtain ⟨hn1, hF1, hf1, ht1, hO1, hFr1⟩ := uh HF1
    obtain ⟨hg, hW, hid⟩ := uh HX
    have HEND := hide (fun n => endIn_at b i e1 d1 o1 (f.st : Int) (by rw [hid]) (w1.drewN n) (hF1.drewN n).live hg hW)
    clear hn1 hF1 hf1 ht1 hO1 hFr1 hg hW
    go_wp2_with fail
    go_cut [] (fun w6 => GPost w b d g B v evs EE EV w6)
    case first =>
      go_region_with (first | (go_at_call 142; refine (uh HEND (nq + 1)).mono ?_; rintro r w5 ⟨rfl, hLP⟩))
      all_goals
        go_wp2_with fail
        go_meet
        obtain ⟨hn1, hF1, hf1, ht1, hO1, hFr1⟩ := uh HF1
        have g2 : GPost w1 b d1 g B v1 (evs ++ n1) EE [] w5 := GPost.before (Below.drewN (Below.refl _ _) (nq + 1)) (by rw [← uh HEE]; exact (hF1.drewN (nq + 1)).ofL hLP)
        have g3 : GPost _ b d g B v evs EE (evl ++ []) w5 := GPost.trans hn1 hF1 hf1 ht1 hO1 g2
        have g4 := GPost.before (uh HB) g3
        rw [← uh HEV, if_neg hop]
        exact g4
    case rest =>
      go_wp2_with fail
      go_ret
      exact ⟨rfl, hcut⟩
end Go.Proofs.YtbkpdapagfjmmaaGreatDoor

namespace Go.Proofs.YtbkpdapagfjmmaaGreatDoor
open Go.RowKit
theorem Wf_pieceG {e : Lk.En} (h : Lk.Wf e) (st : Nat) (dt : Lk.Bs) (hd : dt.length ≤ 64) : Lk.Wf (e.pieceG st dt).2.2 := by
  unfold Lk.En.pieceG
  cases hg : e.goesOn (st : Int) with
  | none => exact h
  | some x =>
    obtain ⟨i, o⟩ := x
    obtain ⟨ho, hod, _⟩ := goesOn_some hg
    have hOk := h.oth i o ho
    simp only
    by_cases hfl : o.cr < dt.length ∨ e.room < dt.length
    · rw [if_pos hfl]; exact h
    · rw [if_neg hfl]
      by_cases hop : o.opn = true
      · rw [if_pos hop]
        have hdr := hOk.two hop
        exact h.setOth (x := { o with cr := o.cr - dt.length, held := o.held + dt.length }) ho rfl (by have := hOk.cr; show o.cr - dt.length + (o.held + dt.length) ≤ _; omega) hOk.two (fun hx => by rw [show ({ o with cr := o.cr - dt.length, held := o.held + dt.length } : Lk.Ot).drp = o.drp from rfl, hdr] at hx; cases hx) (by show e.room - dt.length + (o.held + dt.length) = _; omega)
      · rw [if_neg hop]
        refine Lk.Wf.back ?_ (by omega)
        have := h.setOth (x := { o with cr := o.cr - dt.length }) (r := e.room - dt.length + dt.length) ho rfl (by have := hOk.cr; show o.cr - dt.length + o.held ≤ _; omega) hOk.two hOk.drp (by show e.room - dt.length + dt.length + o.held = _; omega)
        exact this
theorem pieceG_on {e : Lk.En} (hw : Lk.Wf e) {st i : Nat} {o : Lk.Ot} {dt : Lk.Bs} (hd : dt.length ≤ 64) (hg : e.goesOn (st : Int) = some (i, o)) (hfl : ¬ (o.cr < dt.length ∨ e.room < dt.length)) : ∃ o1, (e.pieceG st dt).2.2.goesOn (st : Int) = some (i, o1) ∧ o1.opn = o.opn ∧ o1.id = st ∧ (e.pieceG st dt).2.1 = 0 ∧ (e.pieceG st dt).1.length ≤ 1 := by
  obtain ⟨ho, hod, hid⟩ := goesOn_some hg
  have hil := (List.getElem?_eq_some_iff.1 ho).1
  have hW := Wf_pieceG hw st dt hd
  unfold Lk.En.pieceG at hW ⊢
  rw [hg] at hW ⊢
  simp only at hW ⊢
  rw [if_neg hfl] at hW ⊢
  by_cases hop : o.opn = true
  · rw [if_pos hop] at hW ⊢
    have := goesOn_of (i := i) (o := { o with cr := o.cr - dt.length, held := o.held + dt.length }) hW (by show (e.oth.set i _)[i]? = _; rw [List.getElem?_set_self hil]) hod
    simp only at this
    rw [hid] at this
    refine ⟨_, this, rfl, by show o.id = st; omega, rfl, ?_⟩
    simp only
    split <;> simp
  · rw [if_neg hop] at hW ⊢
    have := goesOn_of (i := i) (o := { o with cr := o.cr - dt.length }) hW (by rw [(back_rest _ _).2.1]; show (e.oth.set i _)[i]? = _; rw [List.getElem?_set_self hil]) hod
    simp only at this
    rw [hid] at this
    exact ⟨_, this, rfl, by show o.id = st; omega, rfl, by simp⟩
theorem gotLast_any (b g B : Nat) (e : Lk.En) (d : PD) (v : Value) (evs : List EvH) (f : Lk.Fr) (w : World) (h : FS w b e d g B v evs) (hl : evs.length + 1 ≤ 2 ^ 40) (hst : f.st ≤ 268435455) (hd64 : f.d.length ≤ 64) (hk : f.k = 2) (hW2 : Lk.Wf (e.pieceF f).2.2) :
    Calls Tryz.prog 92 #[.pointer (some ⟨b, 0, none⟩), frA f, tellV g] w fun r w' => r = .returned (.int .i64 ((e.pieceF f).2.1 : Int)) ∧ GPost w b d g B v evs (e.pieceF f).2.2 (e.pieceF f).1 w' := by
  have hP := gotPiece_any b g B e d v evs f _ (h.below (frame_new w f)) (by omega) hst hd64 (Wf_pieceG h.live.wf f.st f.d hd64)
  rw [pieceF_last e f hk] at hW2 ⊢
  cases hg : e.goesOn (f.st : Int) with
  | none =>
    have hpg : e.pieceG f.st f.d = ([], 4, e) := by unfold Lk.En.pieceG; rw [hg]
    rw [hpg] at hP
    exact gotLast_err b g B d v evs f 4 e [] w (by omega) hP
  | some x =>
    obtain ⟨i, o⟩ := x
    rw [hg] at hW2
    simp only at hW2 ⊢
    by_cases hfl : o.cr < f.d.length ∨ e.room < f.d.length
    · rw [if_pos hfl]
      have hpg : e.pieceG f.st f.d = ([], 10, e) := by
        unfold Lk.En.pieceG
        rw [hg]
        simp only
        rw [if_pos hfl]
      rw [hpg] at hP
      exact gotLast_err b g B d v evs f 10 e [] w (by omega) hP
    · rw [if_neg hfl] at hW2 ⊢
      obtain ⟨o1, hg1, hop1, hid1, herr, hlen⟩ := pieceG_on h.live.wf hd64 hg hfl
      rw [herr] at hP
      obtain ⟨ho1, _, _⟩ := goesOn_some hg1
      have hend : (e.pieceG f.st f.d).2.2.endE i = { (e.pieceG f.st f.d).2.2 with oth := (e.pieceG f.st f.d).2.2.oth.set i { o1 with opn := false, drp := false } } := by unfold Lk.En.endE; rw [ho1]
      rw [hend] at hW2 ⊢
      have := gotLast_ok b g B i e (e.pieceG f.st f.d).2.2 d o1 v evs f (e.pieceG f.st f.d).1 w h (by omega) hst hid1 hg1 hW2 hP
      rw [hop1] at this
      exact this
end Go.Proofs.YtbkpdapagfjmmaaGreatDoor
