import Derived.Test.YtbkpdapagfjmmaaGreatDoorMKFF4
set_option linter.unusedVariables false
set_option maxRecDepth 100000
set_option maxHeartbeats 16000000
namespace Go.Proofs.YtbkpdapagfjmmaaGreatDoor
open Go.RowKit
theorem find_live (b : Nat) (e : Lk.En) (d : PD) (k : Int) (w : World) (hL : Live w b e d) :
    Calls Tryz.prog 147 #[.pointer (some ⟨b, 3, none⟩), .int .i64 k] w fun r w' => r = .returned (.tuple #[optPtr ((e.upAt k).bind fun p => d.ps[posL e.own p.1]?), .bool (e.upAt k).isSome]) ∧ w' = w := by
  have hup := up_own hL.wf k
  have h4 := hL.ps4
  have := find_any b 0 101 (ecOf e d).cells d.sv (upOwn e) d.ps k _ w hL.rw.blk rfl hL.outs hL.sl (by omega) hup
  rw [Option.isSome_map] at this
  refine this.mono ?_
  rintro r w' ⟨rfl, rfl⟩
  refine ⟨?_, rfl⟩
  show _ = Ending.returned (.tuple #[optPtr ((e.upAt k).bind fun p => d.ps[posL e.own p.1]?), .bool (e.upAt k).isSome])
  have : (((Lk.ownIx e.own k).bind fun i => (e.own[i]?).bind fun o => if o.done then none else some (i, o)).map fun p => posL e.own p.1).bind (fun i => d.ps[i]?) = (e.upAt k).bind fun p => d.ps[posL e.own p.1]? := by
    show ((e.upAt k).map fun p => posL e.own p.1).bind (fun i => d.ps[i]?) = _
    cases e.upAt k <;> rfl
  rw [this]
  rfl
theorem upAt_ps {w : World} {b : Nat} {e : Lk.En} {d : PD} {k : Int} {i : Nat} {o : Lk.Ow} (hL : Live w b e d) (h : e.upAt k = some (i, o)) : ∃ p, d.ps[posL e.own i]? = some p ∧ Is w p 173 (owV o) := by
  obtain ⟨ho, hd, _⟩ := Lk.En.upAt_some h
  have hpos := up_get e.own i o ho hd
  obtain ⟨o', p, h1, h2, h3⟩ := hL.outs.get (List.getElem?_eq_some_iff.1 hpos).1
  have : some o' = some o := h1.symm.trans hpos
  cases this
  exact ⟨p, h2, h3⟩
theorem raiseAll_live {w : World} {b : Nat} {e : Lk.En} {d : PD} (hL : Live w b e d) (n : Nat) (hW : Lk.Wf { e with all := e.all + n }) : LPost w b d { e with all := e.all + n } (w.setCell ⟨b, 9, none⟩ (.int .i64 ((e.all + n : Nat) : Int))) := by
  have hO : Only (· = b) w (w.setCell ⟨b, 9, none⟩ (.int .i64 ((e.all + n : Nat) : Int))) := (Only.refl (· = b) w).set b 9 _ (fun _ => rfl)
  have hI : Is (w.setCell ⟨b, 9, none⟩ (.int .i64 ((e.all + n : Nat) : Int))) b 101 ({ ecOf e d with ocr := ((e.all + n : Nat) : Int) } : EC).cells := hL.rw.blk.set 9 _
  exact ⟨_, hL.rowOp (e' := { e with all := e.all + n }) (rs' := d.rs) (hL.rw.cell hI hO rfl) (hO.mono (fun i hi => .inl hi)) rfl rfl rfl rfl rfl hL.rowe hL.good hW (fun x hx => .inl hx)⟩
theorem raiseOne_live {w : World} {b i p : Nat} {e : Lk.En} {d : PD} {o : Lk.Ow} {k : Int} (hL : Live w b e d) (n : Nat) (hup : e.upAt k = some (i, o)) (hp : d.ps[posL e.own i]? = some p) (hW : Lk.Wf { e with own := e.own.set i { o with cr := o.cr + n } }) : LPost w b d { e with own := e.own.set i { o with cr := o.cr + n } } (w.setCell ⟨p, 1, none⟩ (.int .i64 ((o.cr + n : Nat) : Int))) := by
  obtain ⟨ho, hd, _⟩ := Lk.En.upAt_some hup
  have hpos := up_get e.own i o ho hd
  have hIp := hL.outs.is _ o p hpos hp
  have hmem : p ∈ d.ps := List.mem_of_getElem? hp
  have hO : Only (· = p) w (w.setCell ⟨p, 1, none⟩ (.int .i64 ((o.cr + n : Nat) : Int))) := (Only.refl (· = p) w).set p 1 _ (fun _ => rfl)
  have hnp : ∀ x, (x = b ∨ x ∈ d.rs) → ¬ x = p := fun x hx e => (hL.sepRow x hx).2.2.2.1 (e ▸ hmem)
  have hIp' : Is (w.setCell ⟨p, 1, none⟩ (.int .i64 ((o.cr + n : Nat) : Int))) p 173 (owV { o with cr := o.cr + n }) := hIp.set 1 _
  have hu : upOwn { e with own := e.own.set i { o with cr := o.cr + n } } = (upOwn e).set (posL e.own i) { o with cr := o.cr + n } := up_set_up e.own i o { o with cr := o.cr + n } ho hd hd
  refine hL.outOp (e' := { e with own := e.own.set i { o with cr := o.cr + n } }) (ps' := d.ps) (sv' := d.sv) (ov' := d.ov) (rs' := d.rs) (hL.rw.only hO (hnp b (.inl rfl)) (fun r hr => hnp r (.inr hr))) (hO.mono (fun x hx => .inr (.inr (.inr (hx ▸ hmem))))) ?_ rfl rfl hL.rowe hL.good hW (fun x hx => .inl hx) ?_ (fun x hx => .inl hx) ?_ (fun x hx => .inl hx) ?_ hL.psn (fun x hx => .inl hx) hL.ps4
  · simp [ecOf, Lk.En.nextId, nextOth]
  · exact own_only hL.sl hO (fun x hx e => by subst e; exact own_ne hL.sl hIp (nbq rfl) hx.symm)
  · exact own_only hL.out hO (fun x hx e => by subst e; exact own_ne hL.out hIp (nbq rfl) hx.symm)
  · rw [hu]
    exact hL.outs.set hp hL.psn hIp' (fun q _ hne cs hc => hc.only hO hne)
theorem gotCredit_all_no (b g B : Nat) (e : Lk.En) (d : PD) (v : Value) (evs : List EvH) (f : Lk.Fr) (w : World) (h : FS w b e d g B v evs) (hd : f.d.length ≤ 64) (hst : f.st = 0) (hn : Lk.numOf f.d = 0 ∨ 100000 < e.all + Lk.numOf f.d) :
    Calls Tryz.prog 94 #[.pointer (some ⟨b, 0, none⟩), frA f, tellV g] w fun r w' => r = .returned (.int .i64 10) ∧ GPost w b d g B v evs e [] w' := by
  have hb0 := (Below.refl w.heap.size w).alloc (Nat.le_refl _) (.cells #[.int .i64 (f.k : Int), .int .i64 (f.st : Int), .string (bs f.d)] 79)
  have h0 := h.below hb0
  have hbl := h.live.rw.lt
  have hnl := Lk.numOf_le f.d
  have hall := h.live.wf.all
  have hst' : ((f.st : Int) == 0) = true := by rw [beq_iff_eq]; omega
  have HH := hide h0
  have HB := hide hb0
  have HNUM := hide (fun W => fnumber_any f W (by omega))
  have HHN := hide hn
  unfold frA at HNUM
  generalize Lk.numOf f.d = N at *
  clear h h0 hb0 hn hst
  unfold tellV
  go_enter Tryz.func94, Tryz.ntmps94
  go_wp2_with fail
  go_region_with (first
    | (go_at_call 143; refine (uh HNUM _).mono ?_; rintro r w1 ⟨rfl, hb1⟩)
    | (go_at_call 146; have hF1 := (uh HH).below (undrewB hb1); refine (raise_no b 9 e.all N w1 hF1.live.rw.lt (hF1.live.rw.blk.cell 9) (uh HHN) (by omega) hnl).mono ?_; rintro r w2 ⟨rfl, rfl⟩))
  all_goals
    go_wp2_with fail
    go_ret
    refine ⟨rfl, ?_⟩
    have hx := GPost.same_below (uh HH) (undrewB hb1)
    exact GPost.before (uh HB) hx
theorem gotCredit_all_yes (b g B : Nat) (e : Lk.En) (d : PD) (v : Value) (evs : List EvH) (f : Lk.Fr) (w : World) (h : FS w b e d g B v evs) (hd : f.d.length ≤ 64) (hst : f.st = 0) (hn : ¬ (Lk.numOf f.d = 0 ∨ 100000 < e.all + Lk.numOf f.d)) (hW : Lk.Wf { e with all := e.all + Lk.numOf f.d }) :
    Calls Tryz.prog 94 #[.pointer (some ⟨b, 0, none⟩), frA f, tellV g] w fun r w' => r = .returned (.int .i64 0) ∧ GPost w b d g B v evs { e with all := e.all + Lk.numOf f.d } [] w' := by
  have hb0 := (Below.refl w.heap.size w).alloc (Nat.le_refl _) (.cells #[.int .i64 (f.k : Int), .int .i64 (f.st : Int), .string (bs f.d)] 79)
  have h0 := h.below hb0
  have hbl := h.live.rw.lt
  have hst' : ((f.st : Int) == 0) = true := by rw [beq_iff_eq]; omega
  have HH := hide h0
  have HB := hide hb0
  have HNUM := hide (fun W => fnumber_any f W (by omega))
  have HHN := hide hn
  have HW := hide hW
  unfold frA at HNUM
  generalize Lk.numOf f.d = N at *
  clear h h0 hb0 hn hst hW
  unfold tellV
  go_enter Tryz.func94, Tryz.ntmps94
  go_wp2_with fail
  go_region_with (first
    | (go_at_call 143; refine (uh HNUM _).mono ?_; rintro r w1 ⟨rfl, hb1⟩)
    | (go_at_call 146; have hF1 := (uh HH).below (undrewB hb1); refine (raise_yes b 9 e.all N w1 hF1.live.rw.lt (hF1.live.rw.blk.cell 9) (hF1.live.rw.blk.free 9) (uh HHN)).mono ?_; rintro r w2 ⟨rfl, rfl⟩))
  all_goals
    go_wp2_with fail
    go_ret
    refine ⟨rfl, ?_⟩
    have hx := hF1.ofL (raiseAll_live hF1.live N (uh HW))
    exact GPost.before (uh HB) (GPost.before (undrewB hb1) hx)
end Go.Proofs.YtbkpdapagfjmmaaGreatDoor

namespace Go.Proofs.YtbkpdapagfjmmaaGreatDoor
open Go.RowKit
theorem gotCredit_begun (b g B : Nat) (e : Lk.En) (d : PD) (v : Value) (evs : List EvH) (f : Lk.Fr) (w : World) (x : Bool) (h : FS w b e d g B v evs) (hst : f.st ≠ 0) (_hst2 : f.st ≤ 268435455) (hup : e.upAt (f.st : Int) = none) (hx : decide (f.st % 2 = e.nextId % 2 ∧ f.st < e.nextId) = x) :
    Calls Tryz.prog 94 #[.pointer (some ⟨b, 0, none⟩), frA f, tellV g] w fun r w' => r = .returned (.int .i64 (if x then 0 else 4)) ∧ GPost w b d g B v evs e [] w' := by
  have hb0 := (Below.refl w.heap.size w).alloc (Nat.le_refl _) (.cells #[.int .i64 (f.k : Int), .int .i64 (f.st : Int), .string (bs f.d)] 79)
  have h0 := h.below hb0
  have hbl := h.live.rw.lt
  have hst' : ((f.st : Int) == 0) = false := by rw [beq_eq_false_iff_ne]; omega
  have hF := fun n => find_live b e d (f.st : Int) ((w.alloc (.cells #[.int .i64 (f.k : Int), .int .i64 (f.st : Int), .string (bs f.d)] 79)).drewN n) (h0.drewN n).live
  rw [hup] at hF
  simp only [Option.bind_none, optPtr, Option.isSome] at hF
  have hG := fun n => begunOut_any b f.st e.nextId ((w.alloc (.cells #[.int .i64 (f.k : Int), .int .i64 (f.st : Int), .string (bs f.d)] 79)).drewN n) (h0.live.rw.lt) (h0.live.rw.blk.cell 7)
  rw [hx] at hG
  have HF := hide hF
  have HG := hide hG
  have HH := hide h0
  have HB := hide hb0
  clear h h0 hb0 hst hup hx hF hG
  unfold tellV
  cases x with
  | true =>
    go_enter Tryz.func94, Tryz.ntmps94
    go_wp2_with fail
    go_quiet ((go_at_call 147; exact Calls.quiet_of_same (uh HF _)))
    go_wp2_with fail
    go_quiet ((go_at_call 144; exact (uh HG _).mono fun _ _ h => ⟨h.1, _, h.2⟩))
    go_wp2_with fail
    go_ret
    refine ⟨rfl, GPost.before (uh HB) ?_⟩
    first
      | exact GPost.same_below (uh HH) (Below.drewN (Below.refl _ _) _)
      | exact GPost.same_below (uh HH) (Below.drewN (Below.drewN (Below.refl _ _) _) _)
  | false =>
    go_enter Tryz.func94, Tryz.ntmps94
    go_wp2_with fail
    go_quiet ((go_at_call 147; exact Calls.quiet_of_same (uh HF _)))
    go_wp2_with fail
    go_quiet ((go_at_call 144; exact (uh HG _).mono fun _ _ h => ⟨h.1, _, h.2⟩))
    go_wp2_with fail
    go_ret
    refine ⟨rfl, GPost.before (uh HB) ?_⟩
    first
      | exact GPost.same_below (uh HH) (Below.drewN (Below.refl _ _) _)
      | exact GPost.same_below (uh HH) (Below.drewN (Below.drewN (Below.refl _ _) _) _)
theorem gotCredit_own (b g B i : Nat) (e : Lk.En) (d : PD) (o : Lk.Ow) (v : Value) (evs : List EvH) (f : Lk.Fr) (w : World) (h : FS w b e d g B v evs) (hd : f.d.length ≤ 64) (hst : f.st ≠ 0) (_hst2 : f.st ≤ 268435455) (hup : e.upAt (f.st : Int) = some (i, o)) (x : Bool) (hx : decide (Lk.numOf f.d = 0 ∨ 100000 < o.cr + Lk.numOf f.d) = x) (hW : x = false → Lk.Wf { e with own := e.own.set i { o with cr := o.cr + Lk.numOf f.d } }) :
    Calls Tryz.prog 94 #[.pointer (some ⟨b, 0, none⟩), frA f, tellV g] w fun r w' => r = .returned (.int .i64 (if x then 10 else 0)) ∧ GPost w b d g B v evs (if x then e else { e with own := e.own.set i { o with cr := o.cr + Lk.numOf f.d } }) [] w' := by
  have hb0 := (Below.refl w.heap.size w).alloc (Nat.le_refl _) (.cells #[.int .i64 (f.k : Int), .int .i64 (f.st : Int), .string (bs f.d)] 79)
  have h0 := h.below hb0
  have hbl := h.live.rw.lt
  have hst' : ((f.st : Int) == 0) = false := by rw [beq_eq_false_iff_ne]; omega
  have hF := fun n => find_live b e d (f.st : Int) ((w.alloc (.cells #[.int .i64 (f.k : Int), .int .i64 (f.st : Int), .string (bs f.d)] 79)).drewN n) (h0.drewN n).live
  obtain ⟨p, hp, hIp⟩ := upAt_ps h0.live hup
  rw [hup] at hF
  simp only [Option.bind_some, hp, optPtr, ptr, Option.isSome] at hF
  have hpl := hIp.lt
  have ho := (Lk.En.upAt_some hup).1
  have hcr := (h.live.wf.own i o ho).cr
  have hnl := Lk.numOf_le f.d
  have HF := hide hF
  have HH := hide h0
  have HB := hide hb0
  have HNUM := hide (fun W => fnumber_any f W (by omega))
  have HUP := hide (⟨hup, hp, hIp⟩ : _ ∧ _ ∧ _)
  have HX := hide hx
  have HW := hide hW
  unfold frA at HNUM
  generalize Lk.numOf f.d = N at *
  clear h h0 hb0 hst hup hF hp hIp ho hx hW
  unfold tellV
  cases x with
  | true =>
    have hn : N = 0 ∨ 100000 < o.cr + N := by simpa using uh HX
    have HN := hide hn
    clear hn
    go_enter Tryz.func94, Tryz.ntmps94
    go_wp2_with fail
    go_quiet ((go_at_call 147; exact Calls.quiet_of_same (uh HF _)))
    go_wp2_with fail
    go_region_with (first
      | (go_at_call 143; refine (uh HNUM _).mono ?_; rintro r w1 ⟨rfl, hb1⟩)
      | (go_at_call 146; have hF1 := ((uh HH).drewN (nq + 1)).below hb1; have hIp1 := ((uh HUP).2.2.drewN (nq + 1)).below hb1 hpl; refine (raise_no p 1 o.cr N w1 hIp1.lt (hIp1.cell 1) (uh HN) (by omega) hnl).mono ?_; rintro r w2 ⟨rfl, rfl⟩))
    all_goals
      go_wp2_with fail
      go_ret
      refine ⟨rfl, GPost.before (uh HB) ?_⟩
      have hx := GPost.same_below ((uh HH).drewN (nq + 1)) hb1
      exact GPost.before (Below.drewN (Below.refl _ _) (nq + 1)) hx
  | false =>
    have hn : ¬ (N = 0 ∨ 100000 < o.cr + N) := by simpa using uh HX
    have HN := hide hn
    clear hn
    go_enter Tryz.func94, Tryz.ntmps94
    go_wp2_with fail
    go_quiet ((go_at_call 147; exact Calls.quiet_of_same (uh HF _)))
    go_wp2_with fail
    go_region_with (first
      | (go_at_call 143; refine (uh HNUM _).mono ?_; rintro r w1 ⟨rfl, hb1⟩)
      | (go_at_call 146; have hF1 := ((uh HH).drewN (nq + 1)).below hb1; have hIp1 := ((uh HUP).2.2.drewN (nq + 1)).below hb1 hpl; refine (raise_yes p 1 o.cr N w1 hIp1.lt (hIp1.cell 1) (hIp1.free 1) (uh HN)).mono ?_; rintro r w2 ⟨rfl, rfl⟩))
    all_goals
      go_wp2_with fail
      go_ret
      refine ⟨rfl, GPost.before (uh HB) ?_⟩
      have hx := hF1.ofL (raiseOne_live hF1.live N (uh HUP).1 (uh HUP).2.1 (uh HW (by first | rfl | trivial)))
      simp only [Int.natCast_add] at hx
      exact GPost.before (Below.drewN (Below.refl _ _) (nq + 1)) (GPost.before hb1 hx)
theorem upAt_none_some {e : Lk.En} {k : Int} (h : e.upAt k = none) {i : Nat} (hi : Lk.ownIx e.own k = some i) : ∃ o, e.own[i]? = some o ∧ o.done = true := by
  obtain ⟨o, ho, _⟩ := Lk.ownIx_some hi
  unfold Lk.En.upAt at h
  rw [hi] at h
  simp only [Option.bind_some, ho] at h
  cases hd : o.done with
  | true => exact ⟨o, ho, hd⟩
  | false => rw [hd] at h; simp at h
theorem gotCredit_any (b g B : Nat) (e : Lk.En) (d : PD) (v : Value) (evs : List EvH) (f : Lk.Fr) (w : World) (h : FS w b e d g B v evs) (hd : f.d.length ≤ 64) (hst2 : f.st ≤ 268435455) :
    Calls Tryz.prog 94 #[.pointer (some ⟨b, 0, none⟩), frA f, tellV g] w fun r w' => r = .returned (.int .i64 ((e.creditF f).1 : Int)) ∧ GPost w b d g B v evs (e.creditF f).2 [] w' := by
  have hW := h.live.wf.creditF (f := f)
  unfold Lk.En.creditF at hW ⊢
  by_cases hst : f.st = 0
  · rw [if_pos hst] at hW ⊢
    by_cases hn : Lk.numOf f.d = 0 ∨ 100000 < e.all + Lk.numOf f.d
    · rw [if_pos hn]
      exact gotCredit_all_no b g B e d v evs f w h hd hst hn
    · rw [if_neg hn] at hW ⊢
      exact gotCredit_all_yes b g B e d v evs f w h hd hst hn hW
  · rw [if_neg hst] at hW ⊢
    have hbg := ownIx_begun h.live.wf (a := f.st) (by omega)
    cases hix : Lk.ownIx e.own (f.st : Int) with
    | none =>
      rw [hix] at hbg
      have hup : e.upAt (f.st : Int) = none := by unfold Lk.En.upAt; rw [hix]; rfl
      exact gotCredit_begun b g B e d v evs f w false h hst hst2 hup hbg.symm
    | some i =>
      rw [hix] at hW hbg
      obtain ⟨o, ho, hid⟩ := Lk.ownIx_some hix
      simp only [Option.bind_some, ho, Option.map_some] at hW ⊢
      by_cases hdn : o.done = true
      · rw [if_pos hdn]
        have hup : e.upAt (f.st : Int) = none := by unfold Lk.En.upAt; rw [hix]; simp [ho, hdn]
        exact gotCredit_begun b g B e d v evs f w true h hst hst2 hup hbg.symm
      · rw [if_neg hdn] at hW ⊢
        have hup : e.upAt (f.st : Int) = some (i, o) := by unfold Lk.En.upAt; rw [hix]; simp [ho, hdn]
        by_cases hn : Lk.numOf f.d = 0 ∨ 100000 < o.cr + Lk.numOf f.d
        · rw [if_pos hn]
          exact gotCredit_own b g B i e d o v evs f w h hd hst hst2 hup true (by simpa using hn) (fun h => by cases h)
        · rw [if_neg hn] at hW ⊢
          have := gotCredit_own b g B i e d o v evs f w h hd hst hst2 hup false (by simpa using hn) (fun _ => hW)
          exact this
end Go.Proofs.YtbkpdapagfjmmaaGreatDoor

namespace Go.Proofs.YtbkpdapagfjmmaaGreatDoor
open Go.RowKit
def Lk.En.goesOn (e : Lk.En) (st : Int) : Option (Nat × Lk.Ot) := (Lk.othIx e.oth st).bind fun i => (e.oth[i]?).bind fun o => if o.opn || o.drp then some (i, o) else none
theorem goesOn_some {e : Lk.En} {st : Int} {i : Nat} {o : Lk.Ot} (h : e.goesOn st = some (i, o)) : e.oth[i]? = some o ∧ (o.opn || o.drp) = true ∧ (o.id : Int) = st := by
  unfold Lk.En.goesOn at h
  cases hx : Lk.othIx e.oth st with
  | none => rw [hx] at h; cases h
  | some j =>
    rw [hx] at h
    obtain ⟨x, hxo, hid⟩ := Lk.othIx_some hx
    simp only [Option.bind_some, hxo] at h
    by_cases hd : (x.opn || x.drp) = true
    · rw [if_pos hd] at h
      simp at h
      obtain ⟨rfl, rfl⟩ := h
      exact ⟨hxo, hd, hid⟩
    · rw [if_neg hd] at h
      cases h
theorem goesOn_of {e : Lk.En} (hw : Lk.Wf e) {i : Nat} {o : Lk.Ot} (ho : e.oth[i]? = some o) (hd : (o.opn || o.drp) = true) : e.goesOn (o.id : Int) = some (i, o) := by
  unfold Lk.En.goesOn
  cases hx : Lk.othIx e.oth (o.id : Int) with
  | none => exact absurd rfl (othIx_none hx i o ho)
  | some j =>
    obtain ⟨x, hxo, hid⟩ := Lk.othIx_some hx
    have := set_id hw ho hxo (by omega)
    subst this
    rw [ho] at hxo
    cases hxo
    simp only [Option.bind_some, ho]
    rw [if_pos hd]
theorem goesOn_in {w : World} {b : Nat} {e : Lk.En} {d : PD} (hL : Live w b e d) {st : Int} {i : Nat} {o : Lk.Ot} (h : e.goesOn st = some (i, o)) : ∃ p, d.ins o.id = some p ∧ Is w p 227 (inV o.cr o.held o.drp false) := by
  obtain ⟨ho, hd, hid⟩ := goesOn_some h
  cases hp : d.ins o.id with
  | none =>
    have := (hL.oths i o ho).none hp
    rw [hd] at this
    simp at this
  | some p =>
    obtain ⟨_, cr, cut, hI, hcc⟩ := (hL.oths i o ho).some hp
    obtain ⟨rfl, rfl⟩ := hcc hd
    rw [hd] at hI
    exact ⟨p, rfl, hI⟩
theorem findIn_live (b : Nat) (e : Lk.En) (d : PD) (st : Int) (w : World) (hL : Live w b e d) (hk : I64 st) :
    Calls Tryz.prog 117 #[.pointer (some ⟨b, 11, none⟩), .int .i64 st] w fun r w' => (∃ q, r = .returned (.tuple #[q, .bool (e.goesOn st).isSome]) ∧ ∀ i o p, e.goesOn st = some (i, o) → d.ins o.id = some p → q = .pointer (some ⟨p, 0, none⟩)) ∧ ∃ n, w' = w.drewN n := by
  have c17 : w.cell? ⟨b, 17, none⟩ = some (.map (some d.mb)) := hL.rw.blk.cell 17
  cases hg : e.goesOn st with
  | some x =>
    obtain ⟨i, o⟩ := x
    obtain ⟨ho, hd, hid⟩ := goesOn_some hg
    obtain ⟨p, hp, hI⟩ := goesOn_in hL hg
    refine (findIn_some b d.mb d.mn p d.ins st o.cr o.held o.drp false w hL.rw.lt c17 hL.map hk (by rw [← hid]; exact hp) hI).mono ?_
    rintro r w' ⟨rfl, n, rfl⟩
    refine ⟨⟨_, rfl, fun i' o' p' h h' => ?_⟩, n, rfl⟩
    cases h
    rw [hp] at h'
    cases h'
    rfl
  | none =>
    cases hp : d.ins st with
    | none =>
      refine (findIn_none b d.mb d.mn d.ins st w hL.rw.lt c17 hL.map hk hp).mono ?_
      rintro r w' ⟨rfl, n, rfl⟩
      exact ⟨⟨_, rfl, fun i' o' p' h => by cases h⟩, n, rfl⟩
    | some p =>
      obtain ⟨i, o, cr, cut, ho, hid, hI, _, _⟩ := hL.inAt hp
      have hd : (o.opn || o.drp) = false := by
        cases hx : (o.opn || o.drp) with
        | false => rfl
        | true =>
          have := goesOn_of hL.wf ho hx
          rw [hid, hg] at this
          cases this
      rw [hd] at hI
      refine (findIn_some b d.mb d.mn p d.ins st cr o.held cut true w hL.rw.lt c17 hL.map hk hp hI).mono ?_
      rintro r w' ⟨rfl, n, rfl⟩
      exact ⟨⟨_, rfl, fun i' o' p' h => by cases h⟩, n, rfl⟩
theorem used_live {w w' : World} {b i p n : Nat} {e : Lk.En} {d : PD} {o : Lk.Ot} (hL : Live w b e d) (ho : e.oth[i]? = some o) (hop : o.opn = true) (hp : d.ins o.id = some p) (hI : Is w' p 227 (inV ((o.cr - n : Nat) : Int) ((o.held + n : Nat) : Int) false false)) (hR : Rw w' b { ecOf e d with icr := ((e.room - n : Nat) : Int) } d.fs) (hO : Only (fun i => i = b ∨ i = p) w w') (hW : Lk.Wf { e with oth := e.oth.set i { o with cr := o.cr - n, held := o.held + n }, room := e.room - n }) :
    LPost w b d { e with oth := e.oth.set i { o with cr := o.cr - n, held := o.held + n }, room := e.room - n } w' := by
  have hOk := hL.wf.oth i o ho
  have hdrp := hOk.two hop
  obtain ⟨_, _, _, hI0, _⟩ := (hL.oths i o ho).some hp
  refine hL.inOp (o' := { o with cr := o.cr - n, held := o.held + n }) ho rfl hR (hO.mono (fun x hx => ?_)) (rs' := d.rs) (mn' := d.mn) (ins' := d.ins) ?_ rfl rfl rfl rfl hL.rowe hL.good hW (fun x hx => .inl hx) ?_ hL.mn ?_ (fun k _ => rfl) (fun q hq => hq)
  · rcases hx with hx | hx
    · exact .inl hx
    · exact .inr (.inr (.inr (hx ▸ hp)))
  · simp [ecOf, nextOth, Lk.En.nextId]
  · refine hL.map.only hO (fun hx => ?_)
    rcases hx with hx | hx
    · exact (hL.sepRow _ (.inl hx)).2.2.2.2.1 rfl
    · exact hL.map.ne hI0 hx
  · unfold OthIs
    show match d.ins (o.id : Int) with | some p => _ | none => _
    rw [hp]
    refine ⟨by simp [hop], ((o.cr - n : Nat) : Int), false, ?_, fun _ => ⟨rfl, hdrp.symm⟩⟩
    simpa [hop, hdrp] using hI
theorem droppedIn_live {w w' : World} {b i p n : Nat} {e : Lk.En} {d : PD} {o : Lk.Ot} {rs' : List Nat} (hL : Live w b e d) (ho : e.oth[i]? = some o) (hop : o.opn = false) (hdr : o.drp = true) (hn64 : n ≤ 268435455) (hp : d.ins o.id = some p) (hI : Is w' p 227 (inV ((o.cr - n : Nat) : Int) 0 true false)) (hR : Rw w' b { ecOf e d with icr := ((e.room - n + n : Nat) : Int), rs := rs' } (d.fs ++ backF n)) (hO : Only (fun i => i = b ∨ i = p ∨ i ∈ d.rs) w w') (hrs : ∀ x ∈ rs', x ∈ d.rs ∨ w.heap.size ≤ x)
    (hW : Lk.Wf (({ e with oth := e.oth.set i { o with cr := o.cr - n }, room := e.room - n } : Lk.En).back n)) :
    LPost w b d (({ e with oth := e.oth.set i { o with cr := o.cr - n }, room := e.room - n } : Lk.En).back n) w' := by
  have hOk := hL.wf.oth i o ho
  have hh0 := hOk.drp hdr
  obtain ⟨_, _, _, hI0, _⟩ := (hL.oths i o ho).some hp
  refine hL.inOp (o' := { o with cr := o.cr - n }) ho rfl hR (hO.mono (fun x hx => ?_)) (rs' := rs') (mn' := d.mn) (ins' := d.ins) ?_ (back_rest _ _).1 (back_rest _ _).2.1 (back_rest _ _).2.2.1 (back_rest _ _).2.2.2.1 ?_ ?_ hW hrs ?_ hL.mn ?_ (fun k _ => rfl) (fun q hq => hq)
  · rcases hx with hx | hx | hx
    · exact .inl hx
    · exact .inr (.inr (.inr (hx ▸ hp)))
    · exact .inr (.inl hx)
  · rw [ecOf_back]
    simp [ecOf, nextOth, Lk.En.nextId]
  · rw [back_row]
    simp [hL.rowe]
  · refine good_append hL.good (fun f hf => ?_)
    unfold backF at hf
    split at hf
    · simp at hf
      subst hf
      exact Lk.good_credit 0 n (by omega) (by omega)
    · simp at hf
  · refine hL.map.only hO (fun hx => ?_)
    rcases hx with hx | hx | hx
    · exact (hL.sepRow _ (.inl hx)).2.2.2.2.1 rfl
    · exact hL.map.ne hI0 hx
    · exact (hL.sepRow _ (.inr hx)).2.2.2.2.1 rfl
  · unfold OthIs
    show match d.ins (o.id : Int) with | some p => _ | none => _
    rw [hp]
    refine ⟨by simp [hdr], ((o.cr - n : Nat) : Int), true, ?_, fun _ => ⟨rfl, hdr.symm⟩⟩
    simpa [hop, hdr, hh0] using hI
end Go.Proofs.YtbkpdapagfjmmaaGreatDoor

namespace Go.Proofs.YtbkpdapagfjmmaaGreatDoor
open Go.RowKit
def Lk.En.pieceG (e : Lk.En) (st : Nat) (dt : Lk.Bs) : List Lk.Ev × Nat × Lk.En := match e.goesOn st with
  | none => ([], 4, e)
  | some (i, o) => if o.cr < dt.length ∨ e.room < dt.length then ([], 10, e)
    else if o.opn then (if 0 < dt.length then [⟨2, st, 0, [], dt⟩] else [], 0, { e with oth := e.oth.set i { o with cr := o.cr - dt.length, held := o.held + dt.length }, room := e.room - dt.length })
    else ([], 0, ({ e with oth := e.oth.set i { o with cr := o.cr - dt.length }, room := e.room - dt.length } : Lk.En).back dt.length)
theorem frame_new (w : World) (f : Lk.Fr) : Below w.heap.size w (w.alloc (.cells #[.int .i64 (f.k : Int), .int .i64 (f.st : Int), .string (bs f.d)] 79)) := (Below.refl w.heap.size w).alloc (Nat.le_refl _) _
theorem gotPiece_none (b g B : Nat) (e : Lk.En) (d : PD) (v : Value) (evs : List EvH) (f : Lk.Fr) (w : World) (h : FS w b e d g B v evs) (hst : f.st ≤ 268435455) (hg : e.goesOn (f.st : Int) = none) :
    Calls Tryz.prog 91 #[.pointer (some ⟨b, 0, none⟩), frA f, tellV g] w fun r w' => r = .returned (.int .i64 4) ∧ GPost w b d g B v evs e [] w' := by
  have hb0 := frame_new w f
  have h0 := h.below hb0
  have hbl := h.live.rw.lt
  have HF := hide (fun n => findIn_live b e d (f.st : Int) ((w.alloc (.cells #[.int .i64 (f.k : Int), .int .i64 (f.st : Int), .string (bs f.d)] 79)).drewN n) (h0.drewN n).live ⟨by omega, by omega⟩)
  rw [hg] at HF
  have HH := hide h0
  have HB := hide hb0
  clear h h0 hb0 hg
  unfold tellV
  go_enter Tryz.func91, Tryz.ntmps91
  go_wp2_with fail
  go_region_with (first | (go_at_call 117; refine (uh HF 1).mono ?_; rintro r w1 ⟨⟨q, rfl, _⟩, n, rfl⟩))
  all_goals
    go_wp2_with fail
    go_ret
    refine ⟨rfl, GPost.before (uh HB) ?_⟩
    first
      | exact GPost.same_below (uh HH) (Below.drewN (Below.refl _ _) _)
      | exact GPost.same_below (uh HH) (Below.drewN (Below.drewN (Below.refl _ _) _) _)
theorem find_quiet (b : Nat) (e : Lk.En) (d : PD) (st : Int) (i p : Nat) (o : Lk.Ot) (w : World) (hL : Live w b e d) (hk : I64 st) (hg : e.goesOn st = some (i, o)) (hp : d.ins o.id = some p) :
    Calls Tryz.prog 117 #[.pointer (some ⟨b, 11, none⟩), .int .i64 st] w fun r w' => r = .returned (.tuple #[.pointer (some ⟨p, 0, none⟩), .bool true]) ∧ ∃ n, w' = w.drewN n := by
  refine (findIn_live b e d st w hL hk).mono ?_
  rintro r w' ⟨⟨q, rfl, hq⟩, n, rfl⟩
  rw [hq i o p hg hp, hg]
  exact ⟨rfl, n, rfl⟩
theorem gotPiece_flow (b g B i : Nat) (e : Lk.En) (d : PD) (o : Lk.Ot) (v : Value) (evs : List EvH) (f : Lk.Fr) (w : World) (h : FS w b e d g B v evs) (hst : f.st ≤ 268435455) (hg : e.goesOn (f.st : Int) = some (i, o)) (hfl : o.cr < f.d.length ∨ e.room < f.d.length) :
    Calls Tryz.prog 91 #[.pointer (some ⟨b, 0, none⟩), frA f, tellV g] w fun r w' => r = .returned (.int .i64 10) ∧ GPost w b d g B v evs e [] w' := by
  have hb0 := frame_new w f
  have h0 := h.below hb0
  have hbl := h.live.rw.lt
  obtain ⟨p, hp, hI⟩ := goesOn_in h0.live hg
  have hpl := hI.lt
  have hls := bs_size f.d
  have HF := hide (fun n => find_quiet b e d (f.st : Int) i p o ((w.alloc (.cells #[.int .i64 (f.k : Int), .int .i64 (f.st : Int), .string (bs f.d)] 79)).drewN n) (h0.drewN n).live ⟨by omega, by omega⟩ hg hp)
  have HU := hide (fun n => useIn_no b p e.room o.cr o.held f.d.length o.drp false (ecOf e d) d.fs ((w.alloc (.cells #[.int .i64 (f.k : Int), .int .i64 (f.st : Int), .string (bs f.d)] 79)).drewN n) (h0.drewN n).live.rw rfl (hI.drewN n) hfl)
  have HH := hide h0
  have HB := hide hb0
  clear h h0 hb0 hg hp hI hfl
  unfold tellV
  go_enter Tryz.func91, Tryz.ntmps91
  go_wp2_with fail
  go_quiet ((go_at_call 117; exact Calls.quiet_of (uh HF _)))
  go_wp2_with fail
  go_quiet ((go_at_call 140; exact (uh HU _).mono fun _ _ h => ⟨h.1, _, h.2⟩))
  go_wp2_with fail
  go_ret
  refine ⟨rfl, GPost.before (uh HB) ?_⟩
  first
    | exact GPost.same_below (uh HH) (Below.drewN (Below.refl _ _) _)
    | exact GPost.same_below (uh HH) (Below.drewN (Below.drewN (Below.refl _ _) _) _)
end Go.Proofs.YtbkpdapagfjmmaaGreatDoor
