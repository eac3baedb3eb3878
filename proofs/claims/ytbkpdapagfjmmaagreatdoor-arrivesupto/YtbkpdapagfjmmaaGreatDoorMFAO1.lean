import Derived.Test.YtbkpdapagfjmmaaGreatDoorMF6F9
import Derived.Test.YtbkpdapagfjmmaaGreatDoorMPGW3
import Derived.Test.YtbkpdapagfjmmaaGreatDoorMT5R1
/-
  Walks: what an end does with the last piece.
-/
namespace Go.Proofs.YtbkpdapagfjmmaaGreatDoor
open Go.RowKit

/-- A stream of the other end ends. -/
def Lk.En.endE (e : Lk.En) (i : Nat) : Lk.En := match e.oth[i]? with
  | some o => { e with oth := e.oth.set i { o with opn := false, drp := false } }
  | none => e
theorem set_twice {α : Type} (l : List α) (i : Nat) (x y : α) : (l.set i x).set i y = l.set i y := List.set_set _
theorem pieceF_one (e : Lk.En) (f : Lk.Fr) (hk : f.k ≠ 2) : e.pieceF f = e.pieceG f.st f.d := by
  unfold Lk.En.pieceF Lk.En.pieceG Lk.En.goesOn
  cases hx : Lk.othIx e.oth (f.st : Int) with
  | none => rfl
  | some i =>
    obtain ⟨o, ho, _⟩ := Lk.othIx_some hx
    simp only [Option.bind_some, ho, Option.map_some]
    by_cases hg : (o.opn || o.drp) = true
    · have h1 : ¬ (!o.opn && !o.drp) = true := by
        cases h1 : o.opn <;> cases h2 : o.drp <;> simp_all
      rw [if_pos hg, if_neg h1]
      simp only
      by_cases hop : o.opn = true
      · rw [if_pos hop, if_pos hop]
        have e1 : decide (f.k ≠ 2) = true := by simpa using hk
        rw [if_neg hk, e1, Bool.and_true, List.append_nil]
        rw [show (true : Bool) = o.opn from hop.symm]
      · rw [if_neg hop, if_neg hop]
        have e1 : decide (f.k ≠ 2) = o.drp := by
          have : o.drp = true := by
            cases h2 : o.drp with
            | true => rfl
            | false => rw [h2] at hg; simp at hg; exact absurd hg hop
          rw [this]
          simpa using hk
        rw [e1]
    · have h1 : (!o.opn && !o.drp) = true := by
        cases h1 : o.opn <;> cases h2 : o.drp <;> simp_all
      rw [if_neg hg, if_pos h1]
theorem pieceF_last (e : Lk.En) (f : Lk.Fr) (hk : f.k = 2) : e.pieceF f = match e.goesOn f.st with
    | none => ([], 4, e)
    | some (i, o) => if o.cr < f.d.length ∨ e.room < f.d.length then ([], 10, e) else ((e.pieceG f.st f.d).1 ++ (if o.opn then [⟨3, f.st, 0, [], []⟩] else []), 0, (e.pieceG f.st f.d).2.2.endE i) := by
  unfold Lk.En.pieceF Lk.En.pieceG
  cases hx : Lk.othIx e.oth (f.st : Int) with
  | none => unfold Lk.En.goesOn; rw [hx]; rfl
  | some i =>
    obtain ⟨o, ho, _⟩ := Lk.othIx_some hx
    have hil := (List.getElem?_eq_some_iff.1 ho).1
    simp only [Option.bind_some, ho, Option.map_some]
    by_cases hg : (o.opn || o.drp) = true
    · have h1 : ¬ (!o.opn && !o.drp) = true := by
        cases h1 : o.opn <;> cases h2 : o.drp <;> simp_all
      have hgo : e.goesOn (f.st : Int) = some (i, o) := by unfold Lk.En.goesOn; rw [hx]; simp only [Option.bind_some, ho]; rw [if_pos hg]
      rw [if_neg h1, hgo]
      simp only
      by_cases hfl : o.cr < f.d.length ∨ e.room < f.d.length
      · rw [if_pos hfl, if_pos hfl]
      · rw [if_neg hfl, if_neg hfl, if_neg hfl]
        by_cases hop : o.opn = true
        · rw [if_pos hop, if_pos hop, if_pos hop, if_pos hk]
          have e1 : decide (f.k ≠ 2) = false := by simp [hk]
          unfold Lk.En.endE
          rw [List.getElem?_set_self hil]
          simp only [e1, Bool.and_false, set_twice]
        · rw [if_neg hop, if_neg hop, if_neg hop]
          have e1 : decide (f.k ≠ 2) = false := by simp [hk]
          have e2 : o.opn = false := by simpa using hop
          unfold Lk.En.endE
          rw [(back_rest _ _).2.1, List.getElem?_set_self hil]
          simp only [e1, set_twice, List.append_nil, e2]
          unfold Lk.En.back
          split <;> rfl
    · have h1 : (!o.opn && !o.drp) = true := by
        cases h1 : o.opn <;> cases h2 : o.drp <;> simp_all
      have hgo : e.goesOn (f.st : Int) = none := by unfold Lk.En.goesOn; rw [hx]; simp only [Option.bind_some, ho]; rw [if_neg hg]
      rw [if_pos h1, hgo]

theorem endIn_live (b i : Nat) (e : Lk.En) (d : PD) (o : Lk.Ot) (w : World) (hL : Live w b e d) (hg : e.goesOn (o.id : Int) = some (i, o)) (hW : Lk.Wf { e with oth := e.oth.set i { o with opn := false, drp := false } }) :
    Calls Tryz.prog 142 #[.pointer (some ⟨b, 11, none⟩), .int .i64 (o.id : Int)] w fun r w' => r = .returned (.tuple #[]) ∧ LPost w b d { e with oth := e.oth.set i { o with opn := false, drp := false } } w' := by
  obtain ⟨ho, hod, _⟩ := goesOn_some hg
  obtain ⟨p, hp, hI⟩ := goesOn_in hL hg
  have hOk := hL.wf.oth i o ho
  refine (endIn_raw b d.mb d.mn p o.held d.ins (o.id : Int) o.cr o.drp false (ecOf e d) d.fs w hL.rw rfl hL.map ⟨by omega, by have := hOk.id28; omega⟩ hp hI).mono ?_
  rintro r w' ⟨rfl, hR, hI', hM, hO⟩
  refine ⟨rfl, hL.inOp (o' := { o with opn := false, drp := false }) ho rfl hR (hO.mono (fun x hx => ?_)) (rs' := d.rs) (mn' := d.mn) ?_ rfl rfl rfl rfl hL.rowe hL.good hW (fun x hx => .inl hx) hM hL.mn ?_ (fun k hk => ?_) (fun q hq => ?_)⟩
  · rcases hx with hx | hx
    · exact .inr (.inr (.inr (hx ▸ hp)))
    · exact .inr (.inr (.inl hx))
  · simp [ecOf, nextOth, Lk.En.nextId]
  · unfold OthIs
    show match (if 0 < o.held then d.ins else fun x => if x = (o.id : Int) then none else d.ins x) (o.id : Int) with | some p => _ | none => _
    by_cases h0 : 0 < o.held
    · rw [if_pos h0, hp]
      exact ⟨by simp [h0], o.cr, o.drp, by simpa using hI', fun hx => by simp at hx⟩
    · rw [if_neg h0]
      simp
      omega
  · split
    · rfl
    · simp [hk]
  · split at hq
    · exact hq
    · simp at hq
end Go.Proofs.YtbkpdapagfjmmaaGreatDoor

/-
  Walks: what an end does with the last piece.
-/
namespace Go.Proofs.YtbkpdapagfjmmaaGreatDoor
open Go.RowKit

theorem FS.new {w : World} {b : Nat} {e : Lk.En} {d : PD} {g B : Nat} {v : Value} {evs : List EvH} (h : FS w b e d g B v evs) : ¬ (foot b d w.heap.size ∨ toldFoot g v evs w.heap.size) := fun hx => by
  rcases hx with hx | hx
  · have := h.live.lt _ hx; omega
  · have := h.told.lt _ hx; omega

theorem endIn_at (b i : Nat) (e : Lk.En) (d : PD) (o : Lk.Ot) (k : Int) (hk : (o.id : Int) = k) (w : World) (hL : Live w b e d) (hg : e.goesOn k = some (i, o)) (hW : Lk.Wf { e with oth := e.oth.set i { o with opn := false, drp := false } }) :
    Calls Tryz.prog 142 #[.pointer (some ⟨b, 11, none⟩), .int .i64 k] w fun r w' => r = .returned (.tuple #[]) ∧ LPost w b d { e with oth := e.oth.set i { o with opn := false, drp := false } } w' := by
  subst hk
  exact endIn_live b i e d o w hL hg hW
theorem gotLast_err (b g B : Nat) (d : PD) (v : Value) (evs : List EvH) (f : Lk.Fr) (ec : Nat) (e' : Lk.En) (evl : List Lk.Ev) (w : World) (hec : ec ≠ 0)
    (hP : Calls Tryz.prog 91 #[.pointer (some ⟨b, 0, none⟩), frA f, tellV g] (w.alloc (.cells #[.int .i64 (f.k : Int), .int .i64 (f.st : Int), .string (bs f.d)] 79)) fun r w' => r = .returned (.int .i64 (ec : Int)) ∧ GPost (w.alloc (.cells #[.int .i64 (f.k : Int), .int .i64 (f.st : Int), .string (bs f.d)] 79)) b d g B v evs e' evl w') :
    Calls Tryz.prog 92 #[.pointer (some ⟨b, 0, none⟩), frA f, tellV g] w fun r w' => r = .returned (.int .i64 (ec : Int)) ∧ GPost w b d g B v evs e' evl w' := by
  have HP := hide hP
  have hne : ((ec : Int) != 0) = true := by rw [bne_iff_ne]; omega
  have HB := hide (frame_new w f)
  clear hP hec
  unfold tellV at *
  unfold frA at HP
  go_enter Tryz.func92, Tryz.ntmps92
  go_wp2_with fail
  refine (unhide HP).mono ?_
  rintro r w1 ⟨rfl, hG⟩
  go_wp2_with fail
  go_ret
  exact ⟨rfl, GPost.before (unhide HB) hG⟩

set_option maxHeartbeats 2000000 in
set_option maxRecDepth 100000 in
theorem gotLast_ok (b g B i : Nat) (e e1 : Lk.En) (d : PD) (o1 : Lk.Ot) (v : Value) (evs : List EvH) (f : Lk.Fr) (evl : List Lk.Ev) (w : World) (h : FS w b e d g B v evs) (hl : evs.length + evl.length ≤ 2 ^ 40) (hst : f.st ≤ 268435455) (hid : o1.id = f.st) (hg : e1.goesOn (f.st : Int) = some (i, o1)) (hW : Lk.Wf { e1 with oth := e1.oth.set i { o1 with opn := false, drp := false } })
    (hP : Calls Tryz.prog 91 #[.pointer (some ⟨b, 0, none⟩), frA f, tellV g] (w.alloc (.cells #[.int .i64 (f.k : Int), .int .i64 (f.st : Int), .string (bs f.d)] 79)) fun r w' => r = .returned (.int .i64 0) ∧ GPost (w.alloc (.cells #[.int .i64 (f.k : Int), .int .i64 (f.st : Int), .string (bs f.d)] 79)) b d g B v evs e1 evl w') :
    Calls Tryz.prog 92 #[.pointer (some ⟨b, 0, none⟩), frA f, tellV g] w fun r w' => r = .returned (.int .i64 0) ∧ GPost w b d g B v evs { e1 with oth := e1.oth.set i { o1 with opn := false, drp := false } } (evl ++ if o1.opn then [⟨3, f.st, 0, [], []⟩] else []) w' := by
  have hnew := h.new
  have HP := hide hP
  have HB := hide (frame_new w f)
  have HFR := hide (Is.new w 79 [.int .i64 (f.k : Int), .int .i64 (f.st : Int), .string (bs f.d)])
  have HX := hide (⟨hg, hW, hid⟩ : _ ∧ _ ∧ _)
  generalize hEV : (evl ++ if o1.opn then [⟨3, f.st, 0, [], []⟩] else []) = EV
  generalize hEE : ({ e1 with oth := e1.oth.set i { o1 with opn := false, drp := false } } : Lk.En) = EE
  have HEV := hide hEV
  have HEE := hide hEE
  clear hP h hg hW hid hEV hEE
  unfold tellV at *
  unfold frA at HP
  go_enter Tryz.func92, Tryz.ntmps92
  go_wp2_with fail
  refine (unhide HP).mono ?_
  rintro r w1 ⟨rfl, d1, v1, n1, hn1, hF1, hf1, ht1, hO1⟩
  have hFr1 := (unhide HFR).only hO1 hnew
  have k1 := hFr1.cell 1
  simp only [List.getElem?_cons_zero, List.getElem?_cons_succ] at k1
  have hfl1 := hFr1.lt
  have hbl1 := hF1.live.rw.lt
  obtain ⟨hg, hW, hid⟩ := unhide HX
  obtain ⟨p, hp, hI⟩ := goesOn_in hF1.live hg
  have hpl := hI.lt
  have hlen1 : (evs ++ n1).length ≤ 2 ^ 40 := by
    have : n1.length = evl.length := by rw [← hn1]; simp
    rw [List.length_append]
    omega
  obtain ⟨ho1, hod, _⟩ := goesOn_some hg
  have htwo := (hF1.live.wf.oth i o1 ho1).two
  have HF := hide (fun n => find_quiet b e1 d1 (f.st : Int) i p o1 (w1.drewN n) (hF1.drewN n).live ⟨by omega, by omega⟩ hg hp)
  have HOP := hide (fun n => open_any p o1.cr o1.held o1.drp false (w1.drewN n) (hI.drewN n))
  have HF1 := hide (⟨hn1, hF1, hf1, ht1, hO1, hFr1⟩ : _ ∧ _ ∧ _ ∧ _ ∧ _ ∧ _)
  clear hn1 hF1 hf1 ht1 hO1 hFr1 hg hW hp hI ho1
  by_cases hop : o1.opn = true
  · have hdrp := htwo hop
    rw [hdrp] at HOP
    clear htwo hod hdrp
    go_wp2_with fail
    go_quiet ((go_at_call 117; exact Calls.quiet_of (unhide HF _)))
    go_wp2_with fail
    refine (unhide HOP _).mono ?_
    rintro r w2 ⟨rfl, rfl⟩
    obtain ⟨hn1, hF1, hf1, ht1, hO1, hFr1⟩ := unhide HF1
    have HT := hide (tell_plain b g B e1 d1 v1 (evs ++ n1) 3 f.st 0 [] (w1.drewN nq) (hF1.drewN nq) hlen1)
    have e0 : bs [] = ⟨#[]⟩ := rfl
    rw [e0] at HT
    have hnew1 := (hF1.drewN nq).new
    clear hn1 hF1 hf1 ht1 hO1 hFr1
    go_wp2_with fail
    refine (unhide HT).mono ?_
    rintro r w3 ⟨rfl, d3, v3, n3, hn3, hF3, hf3, ht3, hO3⟩
    obtain ⟨hn1, hF1, hf1, ht1, hO1, hFr1⟩ := unhide HF1
    have hFr3 := (hFr1.drewN nq).only hO3 (fun hx => by
      have hsz : w.heap.size < w1.heap.size := hfl1
      rcases hx with hx | hx
      · rcases hf1 _ hx with h' | h'
        · exact hnew (.inl h')
        · rw [World.size_alloc] at h'; omega
      · rcases ht1 _ hx with h' | h'
        · exact hnew (.inr h')
        · rw [World.size_alloc] at h'; omega)
    have k3 := hFr3.cell 1
    simp only [List.getElem?_cons_zero, List.getElem?_cons_succ] at k3
    have hfl3 := hFr3.lt
    have hbl3 := hF3.live.rw.lt
    obtain ⟨hg, hW, hid⟩ := unhide HX
    have HEND := hide (fun n => endIn_at b i e1 d3 o1 (f.st : Int) (by rw [hid]) (w3.drewN n) (hF3.drewN n).live hg hW)
    have HF3 := hide (⟨hn3, hF3, hf3, ht3, hO3⟩ : _ ∧ _ ∧ _ ∧ _ ∧ _)
    clear hn1 hF1 hf1 ht1 hO1 hFr1 hn3 hF3 hf3 ht3 hO3 hFr3 hg hW
    go_wp2_with fail
    go_cut [] (fun w6 => GPost w b d g B v evs EE EV w6)
    case first =>
      go_region_with (first | (go_at_call 142; refine (unhide HEND 1).mono ?_; rintro r w5 ⟨rfl, hLP⟩))
      all_goals
        go_wp2_with fail
        go_meet
        obtain ⟨hn1, hF1, hf1, ht1, hO1, hFr1⟩ := unhide HF1
        obtain ⟨hn3, hF3, hf3, ht3, hO3⟩ := unhide HF3
        have g1 : GPost w3 b d3 g B v3 (evs ++ n1 ++ n3) EE [] w5 := GPost.before (Below.drewN (Below.refl _ _) 1) (by rw [← unhide HEE]; exact (hF3.drewN 1).ofL hLP)
        have g2 : GPost (w1.drewN nq) b d1 g B v1 (evs ++ n1) EE ([⟨3, f.st, 0, [], []⟩] ++ []) w5 := GPost.trans hn3 hF3 hf3 ht3 hO3 g1
        have g3 : GPost _ b d g B v evs EE (evl ++ ([⟨3, f.st, 0, [], []⟩] ++ [])) w5 := GPost.trans hn1 (hF1.drewN nq) hf1 ht1 (hO1.drewN nq) g2
        have g4 := GPost.before (unhide HB) g3
        rw [← unhide HEV, if_pos hop]
        simpa using g4
    case rest =>
      go_wp2_with fail
      go_ret
      exact ⟨rfl, hcut⟩
  · have hop' : o1.opn = false := by simpa using hop
    have hdrp : o1.drp = true := by rw [hop'] at hod; simpa using hod
    rw [hdrp] at HOP
    clear htwo hod hdrp
    go_wp2_with fail
    go_quiet ((go_at_call 117; exact Calls.quiet_of (unhide HF _)))
    go_wp2_with fail
    refine (unhide HOP _).mono ?_
    rintro r w2 ⟨rfl, rfl⟩
    obtain ⟨hn1, hF1, hf1, ht1, hO1, hFr1⟩ := unhide HF1
    obtain ⟨hg, hW, hid⟩ := unhide HX
    have HEND := hide (fun n => endIn_at b i e1 d1 o1 (f.st : Int) (by rw [hid]) (w1.drewN n) (hF1.drewN n).live hg hW)
    clear hn1 hF1 hf1 ht1 hO1 hFr1 hg hW
    go_wp2_with fail
    go_cut [] (fun w6 => GPost w b d g B v evs EE EV w6)
    case first =>
      go_region_with (first | (go_at_call 142; refine (unhide HEND (nq + 1)).mono ?_; rintro r w5 ⟨rfl, hLP⟩))
      all_goals
        go_wp2_with fail
        go_meet
        obtain ⟨hn1, hF1, hf1, ht1, hO1, hFr1⟩ := unhide HF1
        have g2 : GPost w1 b d1 g B v1 (evs ++ n1) EE [] w5 := GPost.before (Below.drewN (Below.refl _ _) (nq + 1)) (by rw [← unhide HEE]; exact (hF1.drewN (nq + 1)).ofL hLP)
        have g3 : GPost _ b d g B v evs EE (evl ++ []) w5 := GPost.trans hn1 hF1 hf1 ht1 hO1 g2
        have g4 := GPost.before (unhide HB) g3
        rw [← unhide HEV, if_neg hop]
        exact g4
    case rest =>
      go_wp2_with fail
      go_ret
      exact ⟨rfl, hcut⟩
end Go.Proofs.YtbkpdapagfjmmaaGreatDoor

/-
  Walks: what an end does with the last piece, with a reset.
-/
namespace Go.Proofs.YtbkpdapagfjmmaaGreatDoor
open Go.RowKit

theorem Wf_pieceG {e : Lk.En} (h : Lk.Wf e) (st : Nat) (dt : Lk.Bs) (hd : dt.length ≤ 64) : Lk.Wf (e.pieceG st dt).2.2 := by
  unfold Lk.En.pieceG
  cases hg : e.goesOn (st : Int) with
  | none => exact h
  | some x =>
    obtain ⟨i, o⟩ := x
    obtain ⟨ho, hod, _⟩ := goesOn_some hg
    have hOk := h.oth i o ho
    simp only
    by_cases hfl : o.cr < dt.length ∨ e.room < dt.length
    · rw [if_pos hfl]; exact h
    · rw [if_neg hfl]
      by_cases hop : o.opn = true
      · rw [if_pos hop]
        have hdr := hOk.two hop
        exact h.setOth (x := { o with cr := o.cr - dt.length, held := o.held + dt.length }) ho rfl (by have := hOk.cr; show o.cr - dt.length + (o.held + dt.length) ≤ _; omega) hOk.two (fun hx => by rw [show ({ o with cr := o.cr - dt.length, held := o.held + dt.length } : Lk.Ot).drp = o.drp from rfl, hdr] at hx; cases hx) (by show e.room - dt.length + (o.held + dt.length) = _; omega)
      · rw [if_neg hop]
        refine Lk.Wf.back ?_ (by omega)
        have := h.setOth (x := { o with cr := o.cr - dt.length }) (r := e.room - dt.length + dt.length) ho rfl (by have := hOk.cr; show o.cr - dt.length + o.held ≤ _; omega) hOk.two hOk.drp (by show e.room - dt.length + dt.length + o.held = _; omega)
        exact this
theorem pieceG_on {e : Lk.En} (hw : Lk.Wf e) {st i : Nat} {o : Lk.Ot} {dt : Lk.Bs} (hd : dt.length ≤ 64) (hg : e.goesOn (st : Int) = some (i, o)) (hfl : ¬ (o.cr < dt.length ∨ e.room < dt.length)) : ∃ o1, (e.pieceG st dt).2.2.goesOn (st : Int) = some (i, o1) ∧ o1.opn = o.opn ∧ o1.id = st ∧ (e.pieceG st dt).2.1 = 0 ∧ (e.pieceG st dt).1.length ≤ 1 := by
  obtain ⟨ho, hod, hid⟩ := goesOn_some hg
  have hil := (List.getElem?_eq_some_iff.1 ho).1
  have hW := Wf_pieceG hw st dt hd
  unfold Lk.En.pieceG at hW ⊢
  rw [hg] at hW ⊢
  simp only at hW ⊢
  rw [if_neg hfl] at hW ⊢
  by_cases hop : o.opn = true
  · rw [if_pos hop] at hW ⊢
    have := goesOn_of (i := i) (o := { o with cr := o.cr - dt.length, held := o.held + dt.length }) hW (by show (e.oth.set i _)[i]? = _; rw [List.getElem?_set_self hil]) hod
    simp only at this
    rw [hid] at this
    refine ⟨_, this, rfl, by show o.id = st; omega, rfl, ?_⟩
    simp only
    split <;> simp
  · rw [if_neg hop] at hW ⊢
    have := goesOn_of (i := i) (o := { o with cr := o.cr - dt.length }) hW (by rw [(back_rest _ _).2.1]; show (e.oth.set i _)[i]? = _; rw [List.getElem?_set_self hil]) hod
    simp only at this
    rw [hid] at this
    exact ⟨_, this, rfl, by show o.id = st; omega, rfl, by simp⟩

theorem gotLast_any (b g B : Nat) (e : Lk.En) (d : PD) (v : Value) (evs : List EvH) (f : Lk.Fr) (w : World) (h : FS w b e d g B v evs) (hl : evs.length + 1 ≤ 2 ^ 40) (hst : f.st ≤ 268435455) (hd64 : f.d.length ≤ 64) (hk : f.k = 2) (hW2 : Lk.Wf (e.pieceF f).2.2) :
    Calls Tryz.prog 92 #[.pointer (some ⟨b, 0, none⟩), frA f, tellV g] w fun r w' => r = .returned (.int .i64 ((e.pieceF f).2.1 : Int)) ∧ GPost w b d g B v evs (e.pieceF f).2.2 (e.pieceF f).1 w' := by
  have hP := gotPiece_any b g B e d v evs f _ (h.below (frame_new w f)) (by omega) hst hd64 (Wf_pieceG h.live.wf f.st f.d hd64)
  rw [pieceF_last e f hk] at hW2 ⊢
  cases hg : e.goesOn (f.st : Int) with
  | none =>
    have hpg : e.pieceG f.st f.d = ([], 4, e) := by unfold Lk.En.pieceG; rw [hg]
    rw [hpg] at hP
    exact gotLast_err b g B d v evs f 4 e [] w (by omega) hP
  | some x =>
    obtain ⟨i, o⟩ := x
    rw [hg] at hW2
    simp only at hW2 ⊢
    by_cases hfl : o.cr < f.d.length ∨ e.room < f.d.length
    · rw [if_pos hfl]
      have hpg : e.pieceG f.st f.d = ([], 10, e) := by
        unfold Lk.En.pieceG
        rw [hg]
        simp only
        rw [if_pos hfl]
      rw [hpg] at hP
      exact gotLast_err b g B d v evs f 10 e [] w (by omega) hP
    · rw [if_neg hfl] at hW2 ⊢
      obtain ⟨o1, hg1, hop1, hid1, herr, hlen⟩ := pieceG_on h.live.wf hd64 hg hfl
      rw [herr] at hP
      obtain ⟨ho1, _, _⟩ := goesOn_some hg1
      have hend : (e.pieceG f.st f.d).2.2.endE i = { (e.pieceG f.st f.d).2.2 with oth := (e.pieceG f.st f.d).2.2.oth.set i { o1 with opn := false, drp := false } } := by unfold Lk.En.endE; rw [ho1]
      rw [hend] at hW2 ⊢
      have := gotLast_ok b g B i e (e.pieceG f.st f.d).2.2 d o1 v evs f (e.pieceG f.st f.d).1 w h (by omega) hst hid1 hg1 hW2 hP
      rw [hop1] at this
      exact this
end Go.Proofs.YtbkpdapagfjmmaaGreatDoor

/-
  Walks: what an end does with a reset.
-/
namespace Go.Proofs.YtbkpdapagfjmmaaGreatDoor
open Go.RowKit

/-- All that waits of a stream is given back. -/
theorem giveBack_live (b i p : Nat) (e : Lk.En) (d : PD) (o : Lk.Ot) (w : World) (hL : Live w b e d) (ho : e.oth[i]? = some o) (hod : (o.opn || o.drp) = true) (hp : d.ins o.id = some p) (hW : Lk.Wf (({ e with oth := e.oth.set i { o with held := 0 } } : Lk.En).back o.held)) :
    Calls Tryz.prog 141 #[.pointer (some ⟨b, 11, none⟩), .pointer (some ⟨p, 0, none⟩), putV b] w fun r w' => r = .returned (.tuple #[]) ∧ LPost w b d (({ e with oth := e.oth.set i { o with held := 0 } } : Lk.En).back o.held) w' := by
  obtain ⟨_, cr, cut, hI, hcc⟩ := (hL.oths i o ho).some hp
  obtain ⟨rfl, rfl⟩ := hcc hod
  rw [hod] at hI
  have hheld := hL.wf.held ho
  have hroom : e.room ≤ 400 := by have := hL.wf.room; have := hL.wf.win2; omega
  refine (giveBack_any b p e.room o.held o.cr o.drp false (ecOf e d) d.fs w hL.rw rfl hI (by omega) (by omega)).mono ?_
  rintro r w' ⟨rfl, rs', hrs, hI', hR', hO'⟩
  refine ⟨rfl, hL.inOp (o' := { o with held := 0 }) ho rfl hR' (hO'.mono (fun x hx => ?_)) (rs' := rs') (mn' := d.mn) (ins' := d.ins) ?_ (back_rest _ _).1 (back_rest _ _).2.1 (back_rest _ _).2.2.1 (back_rest _ _).2.2.2.1 ?_ ?_ hW hrs ?_ hL.mn ?_ (fun k _ => rfl) (fun q hq => hq)⟩
  · rcases hx with hx | hx | hx
    · exact .inl hx
    · exact .inr (.inr (.inr (hx ▸ hp)))
    · exact .inr (.inl hx)
  · rw [ecOf_back]
    simp [ecOf, nextOth, Lk.En.nextId]
  · rw [back_row]
    simp [hL.rowe]
  · refine good_append hL.good (fun f hf => ?_)
    unfold backF at hf
    split at hf
    · simp at hf
      subst hf
      exact Lk.good_credit 0 o.held (by omega) (by omega)
    · simp at hf
  · refine hL.map.only hO' (fun hx => ?_)
    rcases hx with hx | hx | hx
    · exact (hL.sepRow _ (.inl hx)).2.2.2.2.1 rfl
    · exact hL.map.ne hI hx
    · exact (hL.sepRow _ (.inr hx)).2.2.2.2.1 rfl
  · unfold OthIs
    show match d.ins (o.id : Int) with | some p => _ | none => _
    rw [hp]
    refine ⟨by simp only [hod, Bool.true_or], (o.cr : Int), o.drp, ?_, fun _ => ⟨rfl, rfl⟩⟩
    simpa [hod] using hI'


/-- The event that a reset is told by, in its variable: laid behind the number's reading, or ahead of it. -/
def ToldAt (w : World) (f : Lk.Fr) (N : Nat) (u : Value) (wc : World) : Prop := ∃ t, u = .pointer (some ⟨t, 0, none⟩) ∧ w.heap.size < t ∧ Is wc t 116 [.int .i64 4, .int .i64 (f.st : Int), .int .i64 (N : Int), .slice none 0 0, .string ⟨#[]⟩] ∧ Is wc w.heap.size 79 [.int .i64 (f.k : Int), .int .i64 (f.st : Int), .string (bs f.d)] ∧ Below w.heap.size w wc
theorem told_after {w w1 : World} {f : Lk.Fr} {N : Nat} (hFr : Is w1 w.heap.size 79 [.int .i64 (f.k : Int), .int .i64 (f.st : Int), .string (bs f.d)]) (hb : Below w.heap.size w w1) : ToldAt w f N (.pointer (some ⟨w1.heap.size, 0, none⟩)) (w1.alloc (.cells #[.int .i64 4, .int .i64 (f.st : Int), .int .i64 (N : Int), .slice none 0 0, .string ⟨#[]⟩] 116)) :=
  ⟨w1.heap.size, rfl, hFr.lt, Is.new w1 116 [.int .i64 4, .int .i64 (f.st : Int), .int .i64 (N : Int), .slice none 0 0, .string ⟨#[]⟩], hFr.alloc _, hb.alloc hb.size _⟩
theorem told_ahead {w w1 : World} {f : Lk.Fr} {N : Nat} (hFr : Is w1 w.heap.size 79 [.int .i64 (f.k : Int), .int .i64 (f.st : Int), .string (bs f.d)]) (hX : Is w1 (w.heap.size + 1) 116 [.int .i64 0, .int .i64 0, .int .i64 0, .slice none 0 0, .string ⟨#[]⟩]) (hb : Below w.heap.size w w1) :
    ToldAt w f N (.pointer (some ⟨w.heap.size + 1, 0, none⟩)) (((((w1.setCell ⟨w.heap.size + 1, 0, none⟩ (.int .i64 4)).setCell ⟨w.heap.size + 1, 1, none⟩ (.int .i64 (f.st : Int))).setCell ⟨w.heap.size + 1, 2, none⟩ (.int .i64 (N : Int))).setCell ⟨w.heap.size + 1, 3, none⟩ (.slice none 0 0)).setCell ⟨w.heap.size + 1, 4, none⟩ (.string ⟨#[]⟩)) :=
  ⟨w.heap.size + 1, rfl, by omega, ((((hX.set 0 _).set 1 _).set 2 _).set 3 _).set 4 _, ((((hFr.other _ _ (by simp)).other _ _ (by simp)).other _ _ (by simp)).other _ _ (by simp)).other _ _ (by simp), ((((hb.setCell (by simp) _).setCell (by simp) _).setCell (by simp) _).setCell (by simp) _).setCell (by simp) _⟩
end Go.Proofs.YtbkpdapagfjmmaaGreatDoor

/-
  Walks: a byte is taken.
-/
namespace Go.Proofs.YtbkpdapagfjmmaaGreatDoor
open Go.RowKit

theorem one_no (b : Nat) (T : TypeId) (s : ByteArray) (p : Nat) (more : List Value) (w : World) (hs : s.size ≤ maxLen) (hp : s.size ≤ p) (hI : Is w b T (.string s :: .int .i64 p :: more)) :
    Calls Tryz.prog 131 #[.pointer (some ⟨b, 0, none⟩)] w fun e w' => e = .returned (.tuple #[.int .u8 0, .bool false]) ∧ Is w' b T (.string s :: .int .i64 p :: more) ∧ Turns b w w' := by
  have HE := hide (fun w hI => ended_any b T s p more w hs hI)
  go_enter Tryz.func131, Tryz.ntmps131
  go_wp2_with fail
  refine (unhide HE _ hI).mono ?_
  rintro e w1 ⟨rfl, n1, rfl⟩
  have hd : decide (s.size ≤ p) = true := by simp; omega
  go_wp2_with fail
  go_ret2
  exact ⟨rfl, hI.drewN _, (Turns.refl _ _).drewN _⟩

theorem one_yes (b : Nat) (T : TypeId) (s : ByteArray) (p : Nat) (more : List Value) (w : World) (hs : s.size ≤ maxLen) (hp : p < s.size) (hI : Is w b T (.string s :: .int .i64 p :: more)) :
    Calls Tryz.prog 131 #[.pointer (some ⟨b, 0, none⟩)] w fun e w' => e = .returned (.tuple #[.int .u8 (s[p].toNat : Int), .bool true]) ∧ Is w' b T (.string s :: .int .i64 ((p + 1 : Nat) : Int) :: more) ∧ Turns b w w' := by
  have HE := hide (fun w hI => ended_any b T s p more w hs hI)
  unfold maxLen at hs
  have c0 : w.cell? ⟨b, 0, none⟩ = some (.string s) := hI.cell 0
  have c1 : w.cell? ⟨b, 1, none⟩ = some (.int .i64 p) := hI.cell 1
  have f1 : w.frozen? ⟨b, 1, none⟩ = false := hI.free 1
  go_enter Tryz.func131, Tryz.ntmps131
  go_wp2_with fail
  refine (unhide HE _ hI).mono ?_
  rintro e w1 ⟨rfl, n1, rfl⟩
  have hd : decide (s.size ≤ p) = false := by simp; omega
  go_wp2_with fail
  go_quiet (fail)
  go_wp2_with fail
  go_ret2
  exact ⟨rfl, (hI.drewN _).set 1 _, ((Turns.refl _ _).drewN _).set 1 _⟩

end Go.Proofs.YtbkpdapagfjmmaaGreatDoor
