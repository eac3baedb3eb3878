import Derived.Test.YtbkpdapagfjmmaaGreatDoorMF2F3
/-
  Walks: what an end does with a credit.
-/
namespace Go.Proofs.YtbkpdapagfjmmaaGreatDoor
open Go.RowKit

theorem raise_no (x i c n : Nat) (w : World) (_hx : x < w.heap.size) (hc : w.cell? ⟨x, i, none⟩ = some (.int .i64 (c : Int))) (hn : n = 0 ∨ 100000 < c + n) (hc2 : c ≤ 1000000) (hn2 : n ≤ 268435455) :
    Calls Tryz.prog 146 #[.pointer (some ⟨x, i, none⟩), .int .i64 (n : Int)] w fun r w' => r = .returned (.int .i64 10) ∧ w' = w := by
  by_cases h0 : n = 0
  · subst h0
    clear hn
    go_enter Tryz.func146, Tryz.ntmps146
    go_wp2_with fail
    go_ret
    exact ⟨rfl, rfl⟩
  · have h1 : ((n : Int) == 0) = false := by rw [beq_eq_false_iff_ne]; omega
    have h2 : 100000 < (c : Int) + (n : Int) := by omega
    clear hn h0
    go_enter Tryz.func146, Tryz.ntmps146
    go_wp2_with fail
    go_ret
    exact ⟨rfl, rfl⟩
theorem raise_yes (x i c n : Nat) (w : World) (_hx : x < w.heap.size) (hc : w.cell? ⟨x, i, none⟩ = some (.int .i64 (c : Int))) (hf : w.frozen? ⟨x, i, none⟩ = false) (hn : ¬ (n = 0 ∨ 100000 < c + n)) :
    Calls Tryz.prog 146 #[.pointer (some ⟨x, i, none⟩), .int .i64 (n : Int)] w fun r w' => r = .returned (.int .i64 0) ∧ w' = w.setCell ⟨x, i, none⟩ (.int .i64 ((c + n : Nat) : Int)) := by
  have h1 : ((n : Int) == 0) = false := by rw [beq_eq_false_iff_ne]; omega
  have h2 : ¬ 100000 < (c : Int) + (n : Int) := by omega
  have e1 : (c : Int) + (n : Int) = ((c + n : Nat) : Int) := by omega
  have HE := hide e1
  clear hn e1
  go_enter Tryz.func146, Tryz.ntmps146
  go_wp2_with fail
  go_ret
  exact ⟨rfl, by rw [unhide HE]⟩

theorem hasBegun_any (a n : Nat) (w : World) : Calls Tryz.prog 174 #[.int .i64 (a : Int), .int .i64 (n : Int)] w fun r w' => r = .returned (.bool (decide (a % 2 = n % 2 ∧ a < n))) ∧ w' = w := by
  have r1 : Int.tmod (a : Int) 2 = ((a % 2 : Nat) : Int) := by simp [Int.tmod]
  have r2 : Int.tmod (n : Int) 2 = ((n % 2 : Nat) : Int) := by simp [Int.tmod]
  generalize hP : decide (a % 2 = n % 2 ∧ a < n) = P
  have HP := hide hP
  clear hP
  by_cases h : a % 2 = n % 2
  · have h' : (((a % 2 : Nat) : Int) == ((n % 2 : Nat) : Int)) = true := by rw [beq_iff_eq]; omega
    generalize a % 2 = x at *
    generalize n % 2 = y at *
    go_enter Tryz.func174, Tryz.ntmps174
    go_wp2_with fail
    go_ret
    refine ⟨ret_bool ?_, rfl⟩
    rw [← unhide HP, Bool.eq_iff_iff]
    simp [h]
  · have h' : (((a % 2 : Nat) : Int) == ((n % 2 : Nat) : Int)) = false := by rw [beq_eq_false_iff_ne]; omega
    generalize a % 2 = x at *
    generalize n % 2 = y at *
    go_enter Tryz.func174, Tryz.ntmps174
    go_wp2_with fail
    go_ret
    refine ⟨ret_bool ?_, rfl⟩
    rw [← unhide HP]
    simp [h]
theorem begunOut_any (b a n : Nat) (w : World) (_hb : b < w.heap.size) (c : w.cell? ⟨b, 7, none⟩ = some (.int .i64 (n : Int))) : Calls Tryz.prog 144 #[.pointer (some ⟨b, 3, none⟩), .int .i64 (a : Int)] w fun r w' => r = .returned (.bool (decide (a % 2 = n % 2 ∧ a < n))) ∧ w' = w := by
  go_enter Tryz.func144, Tryz.ntmps144
  go_wp2_with fail
  refine (hasBegun_any a n _).mono ?_
  rintro r w1 ⟨rfl, rfl⟩
  go_wp2_with fail
  go_ret
  exact ⟨ret_bool (by simp), rfl⟩
theorem begunIn_any (b a n : Nat) (w : World) (_hb : b < w.heap.size) (c : w.cell? ⟨b, 15, none⟩ = some (.int .i64 (n : Int))) : Calls Tryz.prog 145 #[.pointer (some ⟨b, 11, none⟩), .int .i64 (a : Int)] w fun r w' => r = .returned (.bool (decide (a % 2 = n % 2 ∧ a < n))) ∧ w' = w := by
  go_enter Tryz.func145, Tryz.ntmps145
  go_wp2_with fail
  refine (hasBegun_any a n _).mono ?_
  rintro r w1 ⟨rfl, rfl⟩
  go_wp2_with fail
  go_ret
  exact ⟨ret_bool (by simp), rfl⟩
/-- The numbers tell which streams of its own have begun. -/
theorem ownIx_begun {e : Lk.En} (hw : Lk.Wf e) {a : Nat} (h0 : 0 < a) : (Lk.ownIx e.own (a : Int)).isSome = decide (a % 2 = e.nextId % 2 ∧ a < e.nextId) := by
  have hs := hw.side
  rw [Bool.eq_iff_iff]
  simp only [decide_eq_true_eq]
  unfold Lk.En.nextId
  constructor
  · intro h
    obtain ⟨i, hi⟩ := Option.isSome_iff_exists.1 h
    obtain ⟨o, ho, hid⟩ := Lk.ownIx_some hi
    have h1 := (hw.own i o ho).id
    have h2 := (List.getElem?_eq_some_iff.1 ho).1
    omega
  · intro ⟨h1, h2⟩
    have hi : (a - 1 - e.side) / 2 < e.own.length := by omega
    have ho := List.getElem?_eq_getElem hi
    have hid := (hw.own _ _ ho).id
    cases hx : Lk.ownIx e.own (a : Int) with
    | some i => rfl
    | none =>
      unfold Lk.ownIx at hx
      rw [List.findIdx?_eq_none_iff] at hx
      have := hx _ (List.getElem_mem hi)
      simp at this
      omega
theorem othIx_begun {e : Lk.En} (hw : Lk.Wf e) {a : Nat} (h0 : 0 < a) : (Lk.othIx e.oth (a : Int)).isSome = decide (a % 2 = nextOth e % 2 ∧ a < nextOth e) := by
  have hs := hw.side
  rw [Bool.eq_iff_iff]
  simp only [decide_eq_true_eq]
  unfold nextOth
  constructor
  · intro h
    obtain ⟨i, hi⟩ := Option.isSome_iff_exists.1 h
    obtain ⟨o, ho, hid⟩ := Lk.othIx_some hi
    have h1 := (hw.oth i o ho).id
    have h2 := (List.getElem?_eq_some_iff.1 ho).1
    omega
  · intro ⟨h1, h2⟩
    have hi : (a - 2 + e.side) / 2 < e.oth.length := by omega
    have ho := List.getElem?_eq_getElem hi
    have hid := (hw.oth _ _ ho).id
    cases hx : Lk.othIx e.oth (a : Int) with
    | some i => rfl
    | none =>
      unfold Lk.othIx at hx
      rw [List.findIdx?_eq_none_iff] at hx
      have := hx _ (List.getElem_mem hi)
      simp at this
      omega
end Go.Proofs.YtbkpdapagfjmmaaGreatDoor

/-
  Walks: what an end does with a credit.
-/
namespace Go.Proofs.YtbkpdapagfjmmaaGreatDoor
open Go.RowKit

theorem find_live (b : Nat) (e : Lk.En) (d : PD) (k : Int) (w : World) (hL : Live w b e d) :
    Calls Tryz.prog 147 #[.pointer (some ⟨b, 3, none⟩), .int .i64 k] w fun r w' => r = .returned (.tuple #[optPtr ((e.upAt k).bind fun p => d.ps[posL e.own p.1]?), .bool (e.upAt k).isSome]) ∧ w' = w := by
  have hup := up_own hL.wf k
  have h4 := hL.ps4
  have := find_any b 0 101 (ecOf e d).cells d.sv (upOwn e) d.ps k _ w hL.rw.blk rfl hL.outs hL.sl (by omega) hup
  rw [Option.isSome_map] at this
  refine this.mono ?_
  rintro r w' ⟨rfl, rfl⟩
  refine ⟨?_, rfl⟩
  show _ = Ending.returned (.tuple #[optPtr ((e.upAt k).bind fun p => d.ps[posL e.own p.1]?), .bool (e.upAt k).isSome])
  have : (((Lk.ownIx e.own k).bind fun i => (e.own[i]?).bind fun o => if o.done then none else some (i, o)).map fun p => posL e.own p.1).bind (fun i => d.ps[i]?) = (e.upAt k).bind fun p => d.ps[posL e.own p.1]? := by
    show ((e.upAt k).map fun p => posL e.own p.1).bind (fun i => d.ps[i]?) = _
    cases e.upAt k <;> rfl
  rw [this]
  rfl
theorem upAt_ps {w : World} {b : Nat} {e : Lk.En} {d : PD} {k : Int} {i : Nat} {o : Lk.Ow} (hL : Live w b e d) (h : e.upAt k = some (i, o)) : ∃ p, d.ps[posL e.own i]? = some p ∧ Is w p 173 (owV o) := by
  obtain ⟨ho, hd, _⟩ := Lk.En.upAt_some h
  have hpos := up_get e.own i o ho hd
  obtain ⟨o', p, h1, h2, h3⟩ := hL.outs.get (List.getElem?_eq_some_iff.1 hpos).1
  have : some o' = some o := h1.symm.trans hpos
  cases this
  exact ⟨p, h2, h3⟩

/-- The credit of all streams together grows. -/
theorem raiseAll_live {w : World} {b : Nat} {e : Lk.En} {d : PD} (hL : Live w b e d) (n : Nat) (hW : Lk.Wf { e with all := e.all + n }) : LPost w b d { e with all := e.all + n } (w.setCell ⟨b, 9, none⟩ (.int .i64 ((e.all + n : Nat) : Int))) := by
  have hO : Only (· = b) w (w.setCell ⟨b, 9, none⟩ (.int .i64 ((e.all + n : Nat) : Int))) := (Only.refl (· = b) w).set b 9 _ (fun _ => rfl)
  have hI : Is (w.setCell ⟨b, 9, none⟩ (.int .i64 ((e.all + n : Nat) : Int))) b 101 ({ ecOf e d with ocr := ((e.all + n : Nat) : Int) } : EC).cells := hL.rw.blk.set 9 _
  exact ⟨_, hL.rowOp (e' := { e with all := e.all + n }) (rs' := d.rs) (hL.rw.cell hI hO rfl) (hO.mono (fun i hi => .inl hi)) rfl rfl rfl rfl rfl hL.rowe hL.good hW (fun x hx => .inl hx)⟩
/-- That of one stream. -/
theorem raiseOne_live {w : World} {b i p : Nat} {e : Lk.En} {d : PD} {o : Lk.Ow} {k : Int} (hL : Live w b e d) (n : Nat) (hup : e.upAt k = some (i, o)) (hp : d.ps[posL e.own i]? = some p) (hW : Lk.Wf { e with own := e.own.set i { o with cr := o.cr + n } }) : LPost w b d { e with own := e.own.set i { o with cr := o.cr + n } } (w.setCell ⟨p, 1, none⟩ (.int .i64 ((o.cr + n : Nat) : Int))) := by
  obtain ⟨ho, hd, _⟩ := Lk.En.upAt_some hup
  have hpos := up_get e.own i o ho hd
  have hIp := hL.outs.is _ o p hpos hp
  have hmem : p ∈ d.ps := List.mem_of_getElem? hp
  have hO : Only (· = p) w (w.setCell ⟨p, 1, none⟩ (.int .i64 ((o.cr + n : Nat) : Int))) := (Only.refl (· = p) w).set p 1 _ (fun _ => rfl)
  have hnp : ∀ x, (x = b ∨ x ∈ d.rs) → ¬ x = p := fun x hx e => (hL.sepRow x hx).2.2.2.1 (e ▸ hmem)
  have hIp' : Is (w.setCell ⟨p, 1, none⟩ (.int .i64 ((o.cr + n : Nat) : Int))) p 173 (owV { o with cr := o.cr + n }) := hIp.set 1 _
  have hu : upOwn { e with own := e.own.set i { o with cr := o.cr + n } } = (upOwn e).set (posL e.own i) { o with cr := o.cr + n } := up_set_up e.own i o { o with cr := o.cr + n } ho hd hd
  refine hL.outOp (e' := { e with own := e.own.set i { o with cr := o.cr + n } }) (ps' := d.ps) (sv' := d.sv) (ov' := d.ov) (rs' := d.rs) (hL.rw.only hO (hnp b (.inl rfl)) (fun r hr => hnp r (.inr hr))) (hO.mono (fun x hx => .inr (.inr (.inr (hx ▸ hmem))))) ?_ rfl rfl hL.rowe hL.good hW (fun x hx => .inl hx) ?_ (fun x hx => .inl hx) ?_ (fun x hx => .inl hx) ?_ hL.psn (fun x hx => .inl hx) hL.ps4
  · simp [ecOf, Lk.En.nextId, nextOth]
  · exact own_only hL.sl hO (fun x hx e => by subst e; exact own_ne hL.sl hIp (Nat.ne_of_beq_eq_false rfl) hx.symm)
  · exact own_only hL.out hO (fun x hx e => by subst e; exact own_ne hL.out hIp (Nat.ne_of_beq_eq_false rfl) hx.symm)
  · rw [hu]
    exact hL.outs.set hp hL.psn hIp' (fun q _ hne cs hc => hc.only hO hne)

set_option maxHeartbeats 1000000 in
set_option maxRecDepth 100000 in
theorem gotCredit_all_no (b g B : Nat) (e : Lk.En) (d : PD) (v : Value) (evs : List EvH) (f : Lk.Fr) (w : World) (h : FS w b e d g B v evs) (hd : f.d.length ≤ 64) (hst : f.st = 0) (hn : Lk.numOf f.d = 0 ∨ 100000 < e.all + Lk.numOf f.d) :
    Calls Tryz.prog 94 #[.pointer (some ⟨b, 0, none⟩), frA f, tellV g] w fun r w' => r = .returned (.int .i64 10) ∧ GPost w b d g B v evs e [] w' := by
  have hb0 := (Below.refl w.heap.size w).alloc (Nat.le_refl _) (.cells #[.int .i64 (f.k : Int), .int .i64 (f.st : Int), .string (bs f.d)] 79)
  have h0 := h.below hb0
  have hbl := h.live.rw.lt
  have hnl := Lk.numOf_le f.d
  have hall := h.live.wf.all
  have hst' : ((f.st : Int) == 0) = true := by rw [beq_iff_eq]; omega
  have HH := hide h0
  have HB := hide hb0
  have HNUM := hide (fun W => fnumber_any f W (by omega))
  have HHN := hide hn
  unfold frA at HNUM
  generalize Lk.numOf f.d = N at *
  clear h h0 hb0 hn hst
  unfold tellV
  go_enter Tryz.func94, Tryz.ntmps94
  go_wp2_with fail
  go_region_with (first
    | (go_at_call 143; refine (unhide HNUM _).mono ?_; rintro r w1 ⟨rfl, hb1⟩)
    | (go_at_call 146; have hF1 := (unhide HH).below (undrewB hb1); refine (raise_no b 9 e.all N w1 hF1.live.rw.lt (hF1.live.rw.blk.cell 9) (unhide HHN) (by omega) hnl).mono ?_; rintro r w2 ⟨rfl, rfl⟩))
  all_goals
    go_wp2_with fail
    go_ret
    refine ⟨rfl, ?_⟩
    have hx := GPost.same_below (unhide HH) (undrewB hb1)
    exact GPost.before (unhide HB) hx
set_option maxHeartbeats 1000000 in
set_option maxRecDepth 100000 in
theorem gotCredit_all_yes (b g B : Nat) (e : Lk.En) (d : PD) (v : Value) (evs : List EvH) (f : Lk.Fr) (w : World) (h : FS w b e d g B v evs) (hd : f.d.length ≤ 64) (hst : f.st = 0) (hn : ¬ (Lk.numOf f.d = 0 ∨ 100000 < e.all + Lk.numOf f.d)) (hW : Lk.Wf { e with all := e.all + Lk.numOf f.d }) :
    Calls Tryz.prog 94 #[.pointer (some ⟨b, 0, none⟩), frA f, tellV g] w fun r w' => r = .returned (.int .i64 0) ∧ GPost w b d g B v evs { e with all := e.all + Lk.numOf f.d } [] w' := by
  have hb0 := (Below.refl w.heap.size w).alloc (Nat.le_refl _) (.cells #[.int .i64 (f.k : Int), .int .i64 (f.st : Int), .string (bs f.d)] 79)
  have h0 := h.below hb0
  have hbl := h.live.rw.lt
  have hst' : ((f.st : Int) == 0) = true := by rw [beq_iff_eq]; omega
  have HH := hide h0
  have HB := hide hb0
  have HNUM := hide (fun W => fnumber_any f W (by omega))
  have HHN := hide hn
  have HW := hide hW
  unfold frA at HNUM
  generalize Lk.numOf f.d = N at *
  clear h h0 hb0 hn hst hW
  unfold tellV
  go_enter Tryz.func94, Tryz.ntmps94
  go_wp2_with fail
  go_region_with (first
    | (go_at_call 143; refine (unhide HNUM _).mono ?_; rintro r w1 ⟨rfl, hb1⟩)
    | (go_at_call 146; have hF1 := (unhide HH).below (undrewB hb1); refine (raise_yes b 9 e.all N w1 hF1.live.rw.lt (hF1.live.rw.blk.cell 9) (hF1.live.rw.blk.free 9) (unhide HHN)).mono ?_; rintro r w2 ⟨rfl, rfl⟩))
  all_goals
    go_wp2_with fail
    go_ret
    refine ⟨rfl, ?_⟩
    have hx := hF1.ofL (raiseAll_live hF1.live N (unhide HW))
    exact GPost.before (unhide HB) (GPost.before (undrewB hb1) hx)
end Go.Proofs.YtbkpdapagfjmmaaGreatDoor

/-
  Walks: what an end does with a credit for a stream.
-/
namespace Go.Proofs.YtbkpdapagfjmmaaGreatDoor
open Go.RowKit

set_option maxHeartbeats 1000000 in
set_option maxRecDepth 100000 in
theorem gotCredit_begun (b g B : Nat) (e : Lk.En) (d : PD) (v : Value) (evs : List EvH) (f : Lk.Fr) (w : World) (x : Bool) (h : FS w b e d g B v evs) (hst : f.st ≠ 0) (_hst2 : f.st ≤ 268435455) (hup : e.upAt (f.st : Int) = none) (hx : decide (f.st % 2 = e.nextId % 2 ∧ f.st < e.nextId) = x) :
    Calls Tryz.prog 94 #[.pointer (some ⟨b, 0, none⟩), frA f, tellV g] w fun r w' => r = .returned (.int .i64 (if x then 0 else 4)) ∧ GPost w b d g B v evs e [] w' := by
  have hb0 := (Below.refl w.heap.size w).alloc (Nat.le_refl _) (.cells #[.int .i64 (f.k : Int), .int .i64 (f.st : Int), .string (bs f.d)] 79)
  have h0 := h.below hb0
  have hbl := h.live.rw.lt
  have hst' : ((f.st : Int) == 0) = false := by rw [beq_eq_false_iff_ne]; omega
  have hF := fun n => find_live b e d (f.st : Int) ((w.alloc (.cells #[.int .i64 (f.k : Int), .int .i64 (f.st : Int), .string (bs f.d)] 79)).drewN n) (h0.drewN n).live
  rw [hup] at hF
  simp only [Option.bind_none, optPtr, Option.isSome] at hF
  have hG := fun n => begunOut_any b f.st e.nextId ((w.alloc (.cells #[.int .i64 (f.k : Int), .int .i64 (f.st : Int), .string (bs f.d)] 79)).drewN n) (h0.live.rw.lt) (h0.live.rw.blk.cell 7)
  rw [hx] at hG
  have HF := hide hF
  have HG := hide hG
  have HH := hide h0
  have HB := hide hb0
  clear h h0 hb0 hst hup hx hF hG
  unfold tellV
  cases x with
  | true =>
    go_enter Tryz.func94, Tryz.ntmps94
    go_wp2_with fail
    go_quiet ((go_at_call 147; exact Calls.quiet_of_same (unhide HF _)))
    go_wp2_with fail
    go_quiet ((go_at_call 144; exact (unhide HG _).mono fun _ _ h => ⟨h.1, _, h.2⟩))
    go_wp2_with fail
    go_ret
    refine ⟨rfl, GPost.before (unhide HB) ?_⟩
    first
      | exact GPost.same_below (unhide HH) (Below.drewN (Below.refl _ _) _)
      | exact GPost.same_below (unhide HH) (Below.drewN (Below.drewN (Below.refl _ _) _) _)
  | false =>
    go_enter Tryz.func94, Tryz.ntmps94
    go_wp2_with fail
    go_quiet ((go_at_call 147; exact Calls.quiet_of_same (unhide HF _)))
    go_wp2_with fail
    go_quiet ((go_at_call 144; exact (unhide HG _).mono fun _ _ h => ⟨h.1, _, h.2⟩))
    go_wp2_with fail
    go_ret
    refine ⟨rfl, GPost.before (unhide HB) ?_⟩
    first
      | exact GPost.same_below (unhide HH) (Below.drewN (Below.refl _ _) _)
      | exact GPost.same_below (unhide HH) (Below.drewN (Below.drewN (Below.refl _ _) _) _)

set_option maxHeartbeats 1000000 in
set_option maxRecDepth 100000 in
theorem gotCredit_own (b g B i : Nat) (e : Lk.En) (d : PD) (o : Lk.Ow) (v : Value) (evs : List EvH) (f : Lk.Fr) (w : World) (h : FS w b e d g B v evs) (hd : f.d.length ≤ 64) (hst : f.st ≠ 0) (_hst2 : f.st ≤ 268435455) (hup : e.upAt (f.st : Int) = some (i, o)) (x : Bool) (hx : decide (Lk.numOf f.d = 0 ∨ 100000 < o.cr + Lk.numOf f.d) = x) (hW : x = false → Lk.Wf { e with own := e.own.set i { o with cr := o.cr + Lk.numOf f.d } }) :
    Calls Tryz.prog 94 #[.pointer (some ⟨b, 0, none⟩), frA f, tellV g] w fun r w' => r = .returned (.int .i64 (if x then 10 else 0)) ∧ GPost w b d g B v evs (if x then e else { e with own := e.own.set i { o with cr := o.cr + Lk.numOf f.d } }) [] w' := by
  have hb0 := (Below.refl w.heap.size w).alloc (Nat.le_refl _) (.cells #[.int .i64 (f.k : Int), .int .i64 (f.st : Int), .string (bs f.d)] 79)
  have h0 := h.below hb0
  have hbl := h.live.rw.lt
  have hst' : ((f.st : Int) == 0) = false := by rw [beq_eq_false_iff_ne]; omega
  have hF := fun n => find_live b e d (f.st : Int) ((w.alloc (.cells #[.int .i64 (f.k : Int), .int .i64 (f.st : Int), .string (bs f.d)] 79)).drewN n) (h0.drewN n).live
  obtain ⟨p, hp, hIp⟩ := upAt_ps h0.live hup
  rw [hup] at hF
  simp only [Option.bind_some, hp, optPtr, ptr, Option.isSome] at hF
  have hpl := hIp.lt
  have ho := (Lk.En.upAt_some hup).1
  have hcr := (h.live.wf.own i o ho).cr
  have hnl := Lk.numOf_le f.d
  have HF := hide hF
  have HH := hide h0
  have HB := hide hb0
  have HNUM := hide (fun W => fnumber_any f W (by omega))
  have HUP := hide (⟨hup, hp, hIp⟩ : _ ∧ _ ∧ _)
  have HX := hide hx
  have HW := hide hW
  unfold frA at HNUM
  generalize Lk.numOf f.d = N at *
  clear h h0 hb0 hst hup hF hp hIp ho hx hW
  unfold tellV
  cases x with
  | true =>
    have hn : N = 0 ∨ 100000 < o.cr + N := by simpa using unhide HX
    have HN := hide hn
    clear hn
    go_enter Tryz.func94, Tryz.ntmps94
    go_wp2_with fail
    go_quiet ((go_at_call 147; exact Calls.quiet_of_same (unhide HF _)))
    go_wp2_with fail
    go_region_with (first
      | (go_at_call 143; refine (unhide HNUM _).mono ?_; rintro r w1 ⟨rfl, hb1⟩)
      | (go_at_call 146; have hF1 := ((unhide HH).drewN (nq + 1)).below hb1; have hIp1 := ((unhide HUP).2.2.drewN (nq + 1)).below hb1 hpl; refine (raise_no p 1 o.cr N w1 hIp1.lt (hIp1.cell 1) (unhide HN) (by omega) hnl).mono ?_; rintro r w2 ⟨rfl, rfl⟩))
    all_goals
      go_wp2_with fail
      go_ret
      refine ⟨rfl, GPost.before (unhide HB) ?_⟩
      have hx := GPost.same_below ((unhide HH).drewN (nq + 1)) hb1
      exact GPost.before (Below.drewN (Below.refl _ _) (nq + 1)) hx
  | false =>
    have hn : ¬ (N = 0 ∨ 100000 < o.cr + N) := by simpa using unhide HX
    have HN := hide hn
    clear hn
    go_enter Tryz.func94, Tryz.ntmps94
    go_wp2_with fail
    go_quiet ((go_at_call 147; exact Calls.quiet_of_same (unhide HF _)))
    go_wp2_with fail
    go_region_with (first
      | (go_at_call 143; refine (unhide HNUM _).mono ?_; rintro r w1 ⟨rfl, hb1⟩)
      | (go_at_call 146; have hF1 := ((unhide HH).drewN (nq + 1)).below hb1; have hIp1 := ((unhide HUP).2.2.drewN (nq + 1)).below hb1 hpl; refine (raise_yes p 1 o.cr N w1 hIp1.lt (hIp1.cell 1) (hIp1.free 1) (unhide HN)).mono ?_; rintro r w2 ⟨rfl, rfl⟩))
    all_goals
      go_wp2_with fail
      go_ret
      refine ⟨rfl, GPost.before (unhide HB) ?_⟩
      have hx := hF1.ofL (raiseOne_live hF1.live N (unhide HUP).1 (unhide HUP).2.1 (unhide HW (by first | rfl | trivial)))
      simp only [Int.natCast_add] at hx
      exact GPost.before (Below.drewN (Below.refl _ _) (nq + 1)) (GPost.before hb1 hx)

theorem upAt_none_some {e : Lk.En} {k : Int} (h : e.upAt k = none) {i : Nat} (hi : Lk.ownIx e.own k = some i) : ∃ o, e.own[i]? = some o ∧ o.done = true := by
  obtain ⟨o, ho, _⟩ := Lk.ownIx_some hi
  unfold Lk.En.upAt at h
  rw [hi] at h
  simp only [Option.bind_some, ho] at h
  cases hd : o.done with
  | true => exact ⟨o, ho, hd⟩
  | false => rw [hd] at h; simp at h
theorem gotCredit_any (b g B : Nat) (e : Lk.En) (d : PD) (v : Value) (evs : List EvH) (f : Lk.Fr) (w : World) (h : FS w b e d g B v evs) (hd : f.d.length ≤ 64) (hst2 : f.st ≤ 268435455) :
    Calls Tryz.prog 94 #[.pointer (some ⟨b, 0, none⟩), frA f, tellV g] w fun r w' => r = .returned (.int .i64 ((e.creditF f).1 : Int)) ∧ GPost w b d g B v evs (e.creditF f).2 [] w' := by
  have hW := h.live.wf.creditF (f := f)
  unfold Lk.En.creditF at hW ⊢
  by_cases hst : f.st = 0
  · rw [if_pos hst] at hW ⊢
    by_cases hn : Lk.numOf f.d = 0 ∨ 100000 < e.all + Lk.numOf f.d
    · rw [if_pos hn]
      exact gotCredit_all_no b g B e d v evs f w h hd hst hn
    · rw [if_neg hn] at hW ⊢
      exact gotCredit_all_yes b g B e d v evs f w h hd hst hn hW
  · rw [if_neg hst] at hW ⊢
    have hbg := ownIx_begun h.live.wf (a := f.st) (by omega)
    cases hix : Lk.ownIx e.own (f.st : Int) with
    | none =>
      rw [hix] at hbg
      have hup : e.upAt (f.st : Int) = none := by unfold Lk.En.upAt; rw [hix]; rfl
      exact gotCredit_begun b g B e d v evs f w false h hst hst2 hup hbg.symm
    | some i =>
      rw [hix] at hW hbg
      obtain ⟨o, ho, hid⟩ := Lk.ownIx_some hix
      simp only [Option.bind_some, ho, Option.map_some] at hW ⊢
      by_cases hdn : o.done = true
      · rw [if_pos hdn]
        have hup : e.upAt (f.st : Int) = none := by unfold Lk.En.upAt; rw [hix]; simp [ho, hdn]
        exact gotCredit_begun b g B e d v evs f w true h hst hst2 hup hbg.symm
      · rw [if_neg hdn] at hW ⊢
        have hup : e.upAt (f.st : Int) = some (i, o) := by unfold Lk.En.upAt; rw [hix]; simp [ho, hdn]
        by_cases hn : Lk.numOf f.d = 0 ∨ 100000 < o.cr + Lk.numOf f.d
        · rw [if_pos hn]
          exact gotCredit_own b g B i e d o v evs f w h hd hst hst2 hup true (by simpa using hn) (fun h => by cases h)
        · rw [if_neg hn] at hW ⊢
          have := gotCredit_own b g B i e d o v evs f w h hd hst hst2 hup false (by simpa using hn) (fun _ => hW)
          exact this
end Go.Proofs.YtbkpdapagfjmmaaGreatDoor
