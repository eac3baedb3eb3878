import Derived.Test.YtbkpdapagfjmmaaGreatDoorMPLPN
set_option linter.unusedVariables false
set_option maxRecDepth 100000
set_option maxHeartbeats 16000000
namespace Go.Proofs.YtbkpdapagfjmmaaGreatDoor
open Go.RowKit
theorem consumeIn_none (b mb mn : Nat) (ins : Int → Option Nat) (k n : Int) (w : World) (_hb : b < w.heap.size) (c : w.cell? ⟨b, 17, none⟩ = some (.map (some mb))) (hM : MapIs Tryz.prog 3 w mb mn ins) (hk : I64 k) (hp : ins k = none) :
    Calls Tryz.prog 68 #[.pointer (some ⟨b, 11, none⟩), .int .i64 k, .int .i64 n, putV b] w fun e w' => e = .returned (.int .i64 14) ∧ w' = w := by
  have hl := (look_in hM hk).1
  rw [hp] at hl
  simp only [optPtr, Option.isSome] at hl
  clear hM hp hk
  unfold putV
  go_enter Tryz.func68, Tryz.ntmps68
  go_wp2_with fail
  go_ret
  exact ⟨rfl, rfl⟩
theorem consumeIn_few (b mb mn p held : Nat) (ins : Int → Option Nat) (k n cr : Int) (cut ended : Bool) (w : World) (_hb : b < w.heap.size) (c : w.cell? ⟨b, 17, none⟩ = some (.map (some mb))) (hM : MapIs Tryz.prog 3 w mb mn ins) (hk : I64 k) (hp : ins k = some p) (hI : Is w p 227 (inV cr (held : Int) cut ended)) (hn : (held : Int) < n) :
    Calls Tryz.prog 68 #[.pointer (some ⟨b, 11, none⟩), .int .i64 k, .int .i64 n, putV b] w fun e w' => e = .returned (.int .i64 14) ∧ w' = w := by
  have hl := (look_in hM hk).1
  rw [hp] at hl
  simp only [optPtr, ptr, Option.isSome] at hl
  have p1 := hI.cell 1
  simp only [inV, List.getElem?_cons_zero, List.getElem?_cons_succ] at p1
  have hpl := hI.lt
  clear hM hp hk hI
  unfold putV
  go_enter Tryz.func68, Tryz.ntmps68
  go_wp2_with fail
  go_ret
  exact ⟨rfl, rfl⟩
def eatF (st n : Nat) (ended : Bool) : List Lk.Fr := ⟨4, 0, Lk.wire n⟩ :: if ended then [] else [⟨4, st, Lk.wire n⟩]
def eatCr (ended : Bool) (cr : Int) (n : Nat) : Int := if ended then cr else cr + n
def eatIns (ended : Bool) (left : Nat) (st : Int) (ins : Int → Option Nat) : Int → Option Nat := if ended = true ∧ left = 0 then (fun x => if x = st then none else ins x) else ins
theorem consumeIn_yes (b mb mn p held icr n st : Nat) (cr : Int) (ins : Int → Option Nat) (cut ended : Bool) (c : EC) (fs : List Lk.Fr) (w : World) (hR : Rw w b c fs) (hmp : c.mp = .map (some mb)) (hic : c.icr = (icr : Int)) (hM : MapIs Tryz.prog 3 w mb mn ins) (hst : st ≤ 268435455) (hp : ins (st : Int) = some p) (hI : Is w p 227 (inV cr (held : Int) cut ended)) (hn : n ≤ held) (hh : held ≤ 1000000) (hicr : icr ≤ 1000000) (hcr : ended = false → 0 ≤ cr ∧ cr ≤ 1000000) :
    Calls Tryz.prog 68 #[.pointer (some ⟨b, 11, none⟩), .int .i64 (st : Int), .int .i64 (n : Int), putV b] w fun e w' => e = .returned (.int .i64 0) ∧ ∃ rs', (∀ x ∈ rs', x ∈ c.rs ∨ w.heap.size ≤ x) ∧ Is w' p 227 (inV (eatCr ended cr n) ((held - n : Nat) : Int) cut ended)
      ∧ Rw w' b { c with icr := ((icr + n : Nat) : Int), rs := rs' } (fs ++ eatF st n ended) ∧ MapIs Tryz.prog 3 w' mb mn (eatIns ended (held - n) (st : Int) ins) ∧ Only (fun i => i = b ∨ i ∈ c.rs ∨ i = mb ∨ i = p) w w' := by
  have hk : I64 (st : Int) := ⟨by omega, by omega⟩
  have hl := (look_in hM hk).1
  rw [hp] at hl
  simp only [optPtr, ptr, Option.isSome] at hl
  have hne := hR.neIn hI
  have hpb := hne.1
  have hbl := hR.lt
  have hpl := hI.lt
  have hpm : mb ≠ p := fun e => hM.ne hI e
  have p1 := hI.cell 1
  have q1 := hI.free 1
  simp only [inV, List.getElem?_cons_zero, List.getElem?_cons_succ] at p1
  have c16 : w.cell? ⟨b, 16, none⟩ = some (.int .i64 c.icr) := hR.blk.cell 16
  have c17 : w.cell? ⟨b, 17, none⟩ = some c.mp := hR.blk.cell 17
  have f16 := hR.blk.free 16
  rw [hic] at c16
  rw [hmp] at c17
  have hn' : ¬ (held : Int) < (n : Int) := by omega
  have e1 : (held : Int) - (n : Int) = ((held - n : Nat) : Int) := by omega
  have e2 : (icr : Int) + (n : Int) = ((icr + n : Nat) : Int) := by omega
  have hO1 : Only (fun i => i = b ∨ i ∈ c.rs ∨ i = mb ∨ i = p) w ((w.setCell ⟨p, 1, none⟩ (.int .i64 ((held : Int) - (n : Int)))).setCell ⟨b, 16, none⟩ (.int .i64 ((icr : Int) + (n : Int)))) := ((Only.refl _ w).set p 1 _ (fun _ => .inr (.inr (.inr rfl)))).set b 16 _ (fun _ => .inl rfl)
  have hI1 : Is ((w.setCell ⟨p, 1, none⟩ (.int .i64 ((held : Int) - (n : Int)))).setCell ⟨b, 16, none⟩ (.int .i64 ((icr : Int) + (n : Int)))) p 227 (inV cr ((held - n : Nat) : Int) cut ended) := by
    have := (hI.set 1 (.int .i64 ((held : Int) - (n : Int)))).other ⟨b, 16, none⟩ (.int .i64 ((icr : Int) + (n : Int))) hpb
    rw [e1] at this ⊢
    exact this
  have hO1' : Only (fun i => i = b ∨ i = p) w ((w.setCell ⟨p, 1, none⟩ (.int .i64 ((held : Int) - (n : Int)))).setCell ⟨b, 16, none⟩ (.int .i64 ((icr : Int) + (n : Int)))) := ((Only.refl _ w).set p 1 _ (fun _ => .inr rfl)).set b 16 _ (fun _ => .inl rfl)
  have hB1 : Is ((w.setCell ⟨p, 1, none⟩ (.int .i64 ((held : Int) - (n : Int)))).setCell ⟨b, 16, none⟩ (.int .i64 ((icr : Int) + (n : Int)))) b 101 ({ c with icr := ((icr + n : Nat) : Int) } : EC).cells := by
    have := (hR.blk.other ⟨p, 1, none⟩ (.int .i64 ((held : Int) - (n : Int))) (fun e => hpb e.symm)).set 16 (.int .i64 ((icr : Int) + (n : Int)))
    rw [e2] at this ⊢
    exact this
  have hR1 : Rw ((w.setCell ⟨p, 1, none⟩ (.int .i64 ((held : Int) - (n : Int)))).setCell ⟨b, 16, none⟩ (.int .i64 ((icr : Int) + (n : Int)))) b { c with icr := ((icr + n : Nat) : Int) } fs :=
    ⟨hB1, hR.row.only hO1' (fun r hr hx => by
      rcases hx with hx | hx
      · subst hx; exact hR.notIn hr
      · subst hx; exact hne.2 hr)⟩
  have hM1 := hM.only hO1' (fun hx => by
      rcases hx with hx | hx
      · exact (hR.neMap hM).1 hx.symm
      · exact hpm hx)
  have HF1 := hide (⟨hR1, hI1, hM1, hO1⟩ : _ ∧ _ ∧ _ ∧ _)
  have HMP := hide hmp
  have HP := hide hp
  clear hR hI hM hne hmp hic hp e1 e2 hO1' hB1 hR1 hI1 hM1 hO1
  unfold putV
  go_enter Tryz.func68, Tryz.ntmps68
  go_wp2_with fail
  refine (numberFrame_any 4 0 n _ rfl (by omega) _).mono ?_
  rintro e w2 ⟨rfl, hb2⟩
  obtain ⟨hR1, hI1, hM1, hO1⟩ := uh HF1
  have hR2 := hR1.below hb2
  have hI2 := hI1.below hb2 hI1.lt
  have hM2 := hM1.only (Only.of_below hb2 (fun _ => False)) (fun h => h)
  have hO2 := hO1.below hb2
  clear hR1 hI1 hM1 hO1 hb2 HF1
  go_wp2_with fail
  refine (putEnd_any b _ fs ⟨4, 0, Lk.wire n⟩ w2 hR2).mono ?_
  rintro e w3 ⟨rfl, m, hm, hR3, hO3⟩
  have hne2 := hR2.neIn hI2
  have hnm2 := hR2.neMap hM2
  have hI3 := hI2.only hO3 (fun hx => by
    rcases hx with hx | hx
    · exact hne2.1 hx
    · exact hne2.2 hx)
  have hM3 := hM2.only hO3 (fun hx => by
    rcases hx with hx | hx
    · exact hnm2.1 hx.symm
    · exact hnm2.2 _ hx rfl)
  have hO4 : Only (fun i => i = b ∨ i ∈ c.rs ∨ i = mb ∨ i = p) w w3 := hO2.trans hO3 (fun i hi _ => hi.imp id (fun h => .inl h))
  have hmw : w.heap.size ≤ m := by have := hO2.size; omega
  have r3 := hI3.cell 3
  have r0 := hI3.cell 0
  have s0 := hI3.free 0
  have hpl3 := hI3.lt
  simp only [inV, List.getElem?_cons_zero, List.getElem?_cons_succ] at r3 r0
  have d17 : w3.cell? ⟨b, 17, none⟩ = some c.mp := hR3.blk.cell 17
  rw [uh HMP] at d17
  have hbl3 := hR3.lt
  clear hR2 hI2 hM2 hO2 hne2 hnm2 hO3
  cases ended with
  | true =>
    by_cases h0 : held - n = 0
    · have hI3' := hI3
      rw [h0] at hI3'
      have HC := hide (forget_yes b mb mn p ins (st : Int) cr cut w3 hbl3 d17 hM3 hk (uh HP) hI3')
      have hnm3 := hR3.neMap hM3
      have HF := hide (⟨hR3, hI3, hO4, hnm3⟩ : _ ∧ _ ∧ _ ∧ _)
      clear hR3 hI3 hI3' hM3 hO4 hnm3
      go_wp2_with fail
      refine (uh HC).mono ?_
      rintro e w4 ⟨rfl, hM4, hO5⟩
      go_wp2_with fail
      go_ret
      obtain ⟨hR3, hI3, hO4, hnm3⟩ := uh HF
      have ei : eatIns true (held - n) (st : Int) ins = fun x => if x = (st : Int) then none else ins x := by unfold eatIns; rw [if_pos ⟨rfl, h0⟩]
      exact ⟨rfl, _, snoc_new hmw, hI3.only hO5 (fun e => hpm e.symm), by simpa [eatF] using hR3.only hO5 hnm3.1 hnm3.2, by rw [ei]; exact hM4, hO4.trans hO5 (fun i hi _ => .inr (.inr (.inl hi)))⟩
    · have HC := hide (forget_no b mb mn p ins (st : Int) cr (held - n) cut true w3 hbl3 d17 hM3 hk (uh HP) hI3 (.inr (by omega)))
      have HF := hide (⟨hR3, hI3, hM3, hO4⟩ : _ ∧ _ ∧ _ ∧ _)
      clear hR3 hI3 hM3 hO4
      go_wp2_with fail
      refine (uh HC).mono ?_
      rintro e w4 ⟨rfl, rfl⟩
      go_wp2_with fail
      go_ret
      obtain ⟨hR3, hI3, hM3, hO4⟩ := uh HF
      have ei : eatIns true (held - n) (st : Int) ins = ins := by unfold eatIns; rw [if_neg (fun h => h0 h.2)]
      exact ⟨rfl, _, snoc_new hmw, hI3, by simpa [eatF] using hR3, by rw [ei]; exact hM3, hO4⟩
  | false =>
    have hcr' := hcr rfl
    clear hcr
    have hO5 : Only (fun i => i = p) w3 (w3.setCell ⟨p, 0, none⟩ (.int .i64 (cr + (n : Int)))) := (Only.refl _ w3).set p 0 _ (fun _ => rfl)
    have hI4 : Is (w3.setCell ⟨p, 0, none⟩ (.int .i64 (cr + (n : Int)))) p 227 (inV (cr + (n : Int)) ((held - n : Nat) : Int) cut false) := hI3.set 0 (.int .i64 (cr + (n : Int)))
    have hne3 := hR3.neIn hI3
    have hR4 := hR3.only hO5 (fun e => hne3.1 e.symm) (fun r hr e => hne3.2 (e ▸ hr))
    have hM4 := hM3.only hO5 hpm
    have hO6 := hO4.trans hO5 (fun i hi _ => .inr (.inr (.inr hi)))
    have HF := hide (⟨hR4, hI4, hM4, hO6⟩ : _ ∧ _ ∧ _ ∧ _)
    clear hR3 hI3 hM3 hO4 hO5 hI4 hR4 hM4 hO6 hne3
    go_wp2_with fail
    refine (numberFrame_any 4 st n _ rfl (by omega) _).mono ?_
    rintro e w5 ⟨rfl, hb5⟩
    obtain ⟨hR4, hI4, hM4, hO6⟩ := uh HF
    have hR5 := hR4.below hb5
    have hI5 := hI4.below hb5 hI4.lt
    have hM5 := hM4.only (Only.of_below hb5 (fun _ => False)) (fun h => h)
    have hO7 := hO6.below hb5
    clear hR4 hI4 hM4 hO6 hb5 HF
    go_wp2_with fail
    refine (putEnd_any b _ _ ⟨4, st, Lk.wire n⟩ w5 hR5).mono ?_
    rintro e w6 ⟨rfl, m2, hm2, hR6, hO8⟩
    have hne5 := hR5.neIn hI5
    have hnm5 := hR5.neMap hM5
    have hI6 := hI5.only hO8 (fun hx => by
      rcases hx with hx | hx
      · exact hne5.1 hx
      · exact hne5.2 hx)
    have hM6 := hM5.only hO8 (fun hx => by
      rcases hx with hx | hx
      · exact hnm5.1 hx.symm
      · exact hnm5.2 _ hx rfl)
    have hO9 : Only (fun i => i = b ∨ i ∈ c.rs ∨ i = mb ∨ i = p) w w6 := hO7.trans hO8 (fun i hi hlt => by
      rcases hi with hi | hi
      · exact .inl hi
      · rcases List.mem_append.1 hi with hi | hi
        · exact .inr (.inl hi)
        · simp at hi; omega)
    have hmw2 : w.heap.size ≤ m2 := by have := hO7.size; omega
    have d17 : w6.cell? ⟨b, 17, none⟩ = some c.mp := hR6.blk.cell 17
    rw [uh HMP] at d17
    have HC := hide (forget_no b mb mn p ins (st : Int) _ (held - n) cut false w6 hR6.lt d17 hM6 hk (uh HP) hI6 (.inl rfl))
    have HF := hide (⟨hR6, hI6, hM6, hO9⟩ : _ ∧ _ ∧ _ ∧ _)
    clear hR5 hI5 hM5 hO7 hO8 hR6 hI6 hM6 hO9 hne5 hnm5
    go_wp2_with fail
    refine (uh HC).mono ?_
    rintro e w7 ⟨rfl, rfl⟩
    go_wp2_with fail
    go_ret
    obtain ⟨hR6, hI6, hM6, hO9⟩ := uh HF
    have ei : eatIns false (held - n) (st : Int) ins = ins := by unfold eatIns; rw [if_neg (by simp)]
    refine ⟨rfl, c.rs ++ [m] ++ [m2], fun x hx => ?_, hI6, by simpa [eatF] using hR6, by rw [ei]; exact hM6, hO9⟩
    rcases List.mem_append.1 hx with hx | hx
    · exact snoc_new hmw x hx
    · simp at hx; subst hx; exact .inr hmw2
theorem consume_call (b : Nat) (k n : Int) (w : World) (hb : b < w.heap.size) (c2 : w.cell? ⟨b, 2, none⟩ = some (.int .i64 0)) (hn : ¬ n < 1) (Q : Ending → World → Prop) (hQ : Calls Tryz.prog 68 #[.pointer (some ⟨b, 11, none⟩), .int .i64 k, .int .i64 n, putV b] w.drew fun r w' => (∃ x, r = .returned (.int .i64 x)) ∧ Q r w') :
    Calls Tryz.prog 31 #[.pointer (some ⟨b, 0, none⟩), .int .i64 k, .int .i64 n] w Q := by
  have HQ := hide hQ
  clear hQ
  unfold putV at HQ
  go_enter Tryz.func31, Tryz.ntmps31
  go_wp2_with fail
  refine (down_any b 0 w hb c2).mono ?_
  rintro r w1 ⟨rfl, rfl⟩
  go_wp2_with fail
  go_region_with (first | (go_at_call 68; refine (uh HQ).mono ?_; rintro r w2 ⟨⟨x, rfl⟩, hq⟩))
  all_goals
    go_wp2_with fail
    go_ret
    exact hq
theorem consume_range (b : Nat) (k n : Int) (w : World) (hb : b < w.heap.size) (c2 : w.cell? ⟨b, 2, none⟩ = some (.int .i64 0)) (hn : n < 1) :
    Calls Tryz.prog 31 #[.pointer (some ⟨b, 0, none⟩), .int .i64 k, .int .i64 n] w fun r w' => r = .returned (.int .i64 1) ∧ w' = w := by
  go_enter Tryz.func31, Tryz.ntmps31
  go_wp2_with fail
  refine (down_any b 0 w hb c2).mono ?_
  rintro r w1 ⟨rfl, rfl⟩
  go_wp2_with fail
  go_ret
  exact ⟨rfl, rfl⟩
end Go.Proofs.YtbkpdapagfjmmaaGreatDoor

namespace Go.Proofs.YtbkpdapagfjmmaaGreatDoor
open Go.RowKit
theorem Live.drew {w : World} {b : Nat} {e : Lk.En} {d : PD} (h : Live w b e d) : Live w.drew b e d := h.only ((Only.refl (fun _ => False) w).drew) (fun _ _ h => h)
theorem LPost.undrew {w w' : World} {b : Nat} {e : Lk.En} {d : PD} (h : LPost w.drew b d e w') : LPost w b d e w' := by
  obtain ⟨d', h1, h2, h3⟩ := h
  exact ⟨d', h1, h2, h3.undrew⟩
theorem othIx_none {l : List Lk.Ot} {k : Int} (h : Lk.othIx l k = none) : ∀ (i : Nat) (o : Lk.Ot), l[i]? = some o → (o.id : Int) ≠ k := by
  intro i o ho e
  unfold Lk.othIx at h
  rw [List.findIdx?_eq_none_iff] at h
  have := h o (List.mem_of_getElem? ho)
  simp [e] at this
theorem good_append {fs gs : List Lk.Fr} (h : ∀ f ∈ fs, Lk.Good f.k f.st f.d) (h' : ∀ f ∈ gs, Lk.Good f.k f.st f.d) : ∀ f ∈ fs ++ gs, Lk.Good f.k f.st f.d := by
  intro f hf
  rcases List.mem_append.1 hf with hf | hf
  · exact h f hf
  · exact h' f hf
theorem consumed (b : Nat) (e : Lk.En) (d : PD) (k n : Int) (w : World) (hL : Live w b e d) (hdn : e.down = 0) (hk : I64 k) (hn : 1 ≤ n) :
    Calls Tryz.prog 68 #[.pointer (some ⟨b, 11, none⟩), .int .i64 k, .int .i64 n, putV b] w fun r w' => r = .returned (.int .i64 ((e.consumeC k n).1 : Int)) ∧ LPost w b d (e.consumeC k n).2 w' := by
  have c17 : w.cell? ⟨b, 17, none⟩ = some (.map (some d.mb)) := hL.rw.blk.cell 17
  have hC := Lk.Wf.consumeC hL.wf k n
  unfold Lk.En.consumeC at hC ⊢
  rw [if_neg (by rw [hdn]; simp), if_neg (by omega)] at hC ⊢
  cases hix : Lk.othIx e.oth k with
  | none =>
    refine (consumeIn_none b d.mb d.mn d.ins k n w hL.rw.lt c17 hL.map hk (hL.none k (othIx_none hix))).mono ?_
    rintro r w' ⟨rfl, rfl⟩
    exact ⟨rfl, LPost.same hL⟩
  | some i =>
    rw [hix] at hC
    obtain ⟨o, ho, hid⟩ := Lk.othIx_some hix
    simp only [ho] at hC ⊢
    have hOk := hL.wf.oth i o ho
    have hoth := hL.oths i o ho
    by_cases hfew : (o.held : Int) < n
    · rw [if_pos hfew]
      cases hp : d.ins o.id with
      | none =>
        refine (consumeIn_none b d.mb d.mn d.ins k n w hL.rw.lt c17 hL.map hk (by rw [← hid]; exact hp)).mono ?_
        rintro r w' ⟨rfl, rfl⟩
        exact ⟨rfl, LPost.same hL⟩
      | some p =>
        obtain ⟨_, cr, cut, hI, _⟩ := hoth.some hp
        refine (consumeIn_few b d.mb d.mn p o.held d.ins k n cr cut _ w hL.rw.lt c17 hL.map hk (by rw [← hid]; exact hp) hI hfew).mono ?_
        rintro r w' ⟨rfl, rfl⟩
        exact ⟨rfl, LPost.same hL⟩
    · rw [if_neg hfew] at hC ⊢
      obtain ⟨m, rfl⟩ := Int.eq_ofNat_of_zero_le (by omega : 0 ≤ n)
      simp only [Int.toNat_natCast] at hC ⊢
      have hm : m ≤ o.held := by omega
      have hm1 : 1 ≤ m := by omega
      have hheld := hL.wf.held ho
      have hdrp : o.drp = false := by
        cases hx : o.drp with
        | false => rfl
        | true => have := hOk.drp hx; omega
      obtain ⟨p, hp⟩ : ∃ p, d.ins o.id = some p := by
        cases hp : d.ins o.id with
        | some p => exact ⟨p, rfl⟩
        | none =>
          have := hoth.none hp
          simp at this
          omega
      obtain ⟨_, cr, cut, hI, hcc⟩ := hoth.some hp
      have hroom : e.room ≤ 400 := by have := hL.wf.room; have := hL.wf.win2; omega
      have hwin := hL.wf.win2
      have hcrb := hOk.cr
      rw [hdrp] at hI hcc
      simp only [Bool.or_false] at hI hcc
      rw [← hid]
      refine (consumeIn_yes b d.mb d.mn p o.held e.room m o.id cr d.ins cut (!o.opn) (ecOf e d) d.fs w hL.rw rfl rfl hL.map hOk.id28 hp hI hm (by omega) (by omega) (fun hx => by
        have := hcc (by simpa using hx)
        omega)).mono ?_
      rintro r w' ⟨rfl, rs', hrs, hI', hR', hM', hO'⟩
      refine ⟨rfl, ?_⟩
      refine hL.inOp (o' := o.eat m) ho rfl hR' (hO'.mono (fun x hx => ?_)) (rs' := rs') (mn' := d.mn) ?_ ?_ ?_ ?_ ?_ ?_ ?_ hC hrs hM' hL.mn ?_ ?_ ?_
      · rcases hx with hx | hx | hx | hx
        · exact .inl hx
        · exact .inr (.inl hx)
        · exact .inr (.inr (.inl hx))
        · exact .inr (.inr (.inr (hx ▸ hp)))
      · cases hop : o.opn <;> simp [ecOf, Lk.En.send, nextOth, Lk.En.nextId]
      · cases hop : o.opn <;> rfl
      · cases hop : o.opn <;> rfl
      · cases hop : o.opn <;> rfl
      · cases hop : o.opn <;> rfl
      · cases hop : o.opn <;> simp [Lk.En.send, hL.rowe, eatF, Lk.Fr.pack]
      · refine good_append hL.good (fun f hf => ?_)
        unfold eatF at hf
        rcases List.mem_cons.1 hf with hf | hf
        · subst hf; exact Lk.good_credit 0 m (by omega) (by omega)
        · split at hf
          · simp at hf
          · simp at hf
            subst hf
            exact Lk.good_credit o.id m hOk.id28 (by omega)
      · unfold OthIs eatIns
        show match (if (!o.opn) = true ∧ o.held - m = 0 then (fun x => if x = (o.id : Int) then none else d.ins x) else d.ins) (o.id : Int) with | some p => _ | none => _
        cases hop : o.opn with
        | true =>
          rw [if_neg (by simp), hp]
          rw [hop] at hI' hcc
          refine ⟨by simp [Lk.Ot.eat, hop], _, cut, by simpa [Lk.Ot.eat, hop] using hI', fun _ => ?_⟩
          have := hcc rfl
          simp [Lk.Ot.eat, hop, eatCr, this.1, hdrp, this.2]
        | false =>
          rw [hop] at hI'
          by_cases h0 : o.held - m = 0
          · rw [if_pos ⟨by simp, h0⟩]
            simp [Lk.Ot.eat, hop, hdrp]
            omega
          · rw [if_neg (fun h => h0 h.2), hp]
            refine ⟨by simp [Lk.Ot.eat, hop, hdrp]; omega, _, cut, by simpa [Lk.Ot.eat, hop, hdrp] using hI', fun hx => ?_⟩
            simp [Lk.Ot.eat, hop, hdrp] at hx
      · intro x hx
        unfold eatIns
        split
        · simp [hx]
        · rfl
      · intro q hq
        unfold eatIns at hq
        split at hq
        · simp at hq
        · exact hq
theorem consume_any (b : Nat) (e : Lk.En) (d : PD) (k n : Int) (w : World) (hL : Live w b e d) (hdn : e.down = 0) (hk : I64 k) :
    Calls Tryz.prog 31 #[.pointer (some ⟨b, 0, none⟩), .int .i64 k, .int .i64 n] w fun r w' => r = .returned (.int .i64 ((e.consumeC k n).1 : Int)) ∧ LPost w b d (e.consumeC k n).2 w' := by
  have c2 : w.cell? ⟨b, 2, none⟩ = some (.int .i64 0) := hL.c2 hdn
  by_cases hn : n < 1
  · refine (consume_range b k n w hL.rw.lt c2 hn).mono ?_
    rintro r w' ⟨rfl, rfl⟩
    unfold Lk.En.consumeC
    rw [if_neg (by rw [hdn]; simp), if_pos hn]
    exact ⟨rfl, LPost.same hL⟩
  · refine consume_call b k n w hL.rw.lt c2 hn _ ?_
    refine (consumed b e d k n w.drew hL.drew hdn hk (by omega)).mono ?_
    rintro r w' ⟨rfl, h⟩
    exact ⟨⟨_, rfl⟩, rfl, h.undrew⟩
end Go.Proofs.YtbkpdapagfjmmaaGreatDoor

namespace Go.Proofs.YtbkpdapagfjmmaaGreatDoor
open Go.RowKit
def upL (l : List Lk.Ow) : List Lk.Ow := l.filter fun o => !o.done
def posL (l : List Lk.Ow) (i : Nat) : Nat := (upL (l.take i)).length
theorem upL_cons (x : Lk.Ow) (l : List Lk.Ow) : upL (x :: l) = if x.done then upL l else x :: upL l := by
  unfold upL
  cases h : x.done <;> simp [h]
theorem posL_cons (x : Lk.Ow) (l : List Lk.Ow) (i : Nat) : posL (x :: l) (i + 1) = posL l i + if x.done then 0 else 1 := by
  unfold posL
  rw [List.take_succ_cons, upL_cons]
  cases h : x.done <;> simp
theorem posL_zero (l : List Lk.Ow) : posL l 0 = 0 := by simp [posL, upL]
theorem up_get : ∀ (l : List Lk.Ow) (i : Nat) (o : Lk.Ow), l[i]? = some o → o.done = false → (upL l)[posL l i]? = some o
  | [], i, o, h, _ => by simp at h
  | x :: l, 0, o, h, hd => by
    simp at h
    subst h
    rw [upL_cons, posL_zero, hd]
    simp
  | x :: l, i + 1, o, h, hd => by
    have ih := up_get l i o (by simpa using h) hd
    rw [upL_cons, posL_cons]
    cases hx : x.done <;> simp [ih]
theorem up_set_done : ∀ (l : List Lk.Ow) (i : Nat) (o x : Lk.Ow), l[i]? = some o → o.done = false → x.done = true → upL (l.set i x) = (upL l).eraseIdx (posL l i)
  | [], i, o, x, h, _, _ => by simp at h
  | y :: l, 0, o, x, h, hd, hx => by
    simp at h
    subst h
    rw [List.set_cons_zero, upL_cons, upL_cons, posL_zero, hd, hx]
    simp
  | y :: l, i + 1, o, x, h, hd, hx => by
    have ih := up_set_done l i o x (by simpa using h) hd hx
    rw [List.set_cons_succ, upL_cons, upL_cons, posL_cons, ih]
    cases hy : y.done <;> simp
theorem up_set_up : ∀ (l : List Lk.Ow) (i : Nat) (o x : Lk.Ow), l[i]? = some o → o.done = false → x.done = false → upL (l.set i x) = (upL l).set (posL l i) x
  | [], i, o, x, h, _, _ => by simp at h
  | y :: l, 0, o, x, h, hd, hx => by
    simp at h
    subst h
    rw [List.set_cons_zero, upL_cons, upL_cons, posL_zero, hd, hx]
    simp
  | y :: l, i + 1, o, x, h, hd, hx => by
    have ih := up_set_up l i o x (by simpa using h) hd hx
    rw [List.set_cons_succ, upL_cons, upL_cons, posL_cons, ih]
    cases hy : y.done <;> simp
theorem up_find (f : Lk.Ow → Bool) : ∀ (l : List Lk.Ow), (upL l).findIdx? f = (l.findIdx? fun o => !o.done && f o).map (posL l)
  | [] => rfl
  | x :: l => by
    have ih := up_find f l
    rw [upL_cons, List.findIdx?_cons]
    cases hx : x.done with
    | true =>
      simp only [if_true, Bool.not_true, Bool.false_and, Bool.false_eq_true, if_false]
      rw [ih, Option.map_map]
      congr 1
      funext i
      simp [posL_cons, hx]
    | false =>
      simp only [Bool.false_eq_true, if_false, Bool.not_false, Bool.true_and]
      rw [List.findIdx?_cons]
      cases hf : f x with
      | true => simp [posL_zero]
      | false =>
        simp only [Bool.false_eq_true, if_false]
        rw [ih, Option.map_map, Option.map_map]
        congr 1
        funext i
        simp [posL_cons, hx]
theorem own_id {e : Lk.En} (hw : Lk.Wf e) {i j : Nat} {o x : Lk.Ow} (ho : e.own[i]? = some o) (hx : e.own[j]? = some x) (h : x.id = o.id) : j = i := by
  have h1 := (hw.own i o ho).id
  have h2 := (hw.own j x hx).id
  omega
theorem up_mem {l : List Lk.Ow} {j : Nat} {o : Lk.Ow} (h : (upL l)[j]? = some o) : ∃ i, l[i]? = some o ∧ o.done = false ∧ posL l i = j := by
  induction l generalizing j with
  | nil => simp [upL] at h
  | cons x l ih =>
    rw [upL_cons] at h
    cases hx : x.done with
    | true =>
      rw [hx] at h
      obtain ⟨i, h1, h2, h3⟩ := ih (by simpa using h)
      exact ⟨i + 1, by simpa using h1, h2, by rw [posL_cons, hx, h3]; rfl⟩
    | false =>
      rw [hx] at h
      cases j with
      | zero =>
        simp at h
        subst h
        exact ⟨0, rfl, hx, posL_zero _⟩
      | succ j =>
        obtain ⟨i, h1, h2, h3⟩ := ih (by simpa using h)
        exact ⟨i + 1, by simpa using h1, h2, by rw [posL_cons, hx, h3]; rfl⟩
theorem up_apart {e : Lk.En} (hw : Lk.Wf e) : Apart (upOwn e) := by
  intro a b x y hx hy h
  obtain ⟨i, h1, _, h3⟩ := up_mem (l := e.own) hx
  obtain ⟨j, h4, _, h6⟩ := up_mem (l := e.own) hy
  have := own_id hw h4 h1 h
  subst this
  omega
theorem up_own {e : Lk.En} (hw : Lk.Wf e) (k : Int) : (upOwn e).findIdx? (isId k) = ((Lk.ownIx e.own k).bind fun i => (e.own[i]?).bind fun o => if o.done then none else some (i, o)).map fun p => posL e.own p.1 := by
  have h := up_find (isId k) e.own
  show (upL e.own).findIdx? (isId k) = _
  rw [h]
  cases hix : Lk.ownIx e.own k with
  | none =>
    have : (e.own.findIdx? fun o => !o.done && isId k o) = none := by
      rw [List.findIdx?_eq_none_iff]
      intro x hx
      unfold Lk.ownIx at hix
      rw [List.findIdx?_eq_none_iff] at hix
      have := hix x hx
      simp at this
      simp [isId, this]
    rw [this]
    rfl
  | some i =>
    obtain ⟨o, ho, hid⟩ := Lk.ownIx_some hix
    obtain ⟨hil, _, hbefore⟩ := List.findIdx?_eq_some_iff_getElem.1 hix
    simp only [Option.bind_some, ho]
    cases hd : o.done with
    | true =>
      have : (e.own.findIdx? fun o => !o.done && isId k o) = none := by
        rw [List.findIdx?_eq_none_iff]
        intro x hx
        obtain ⟨j, hj⟩ := List.getElem?_of_mem hx
        cases hk : isId k x with
        | false => simp
        | true =>
          unfold isId at hk
          have := own_id hw ho hj (by simp at hk; omega)
          subst this
          rw [ho] at hj
          cases hj
          simp [hd]
      rw [this]
      rfl
    | false =>
      have : (e.own.findIdx? fun o => !o.done && isId k o) = some i := by
        rw [List.findIdx?_eq_some_iff_getElem]
        refine ⟨hil, ?_, fun j hj => ?_⟩
        · have : e.own[i] = o := by rw [List.getElem?_eq_getElem hil] at ho; cases ho; rfl
          rw [this, hd]
          simp [isId, hid]
        · have := hbefore j hj
          simp at this
          simp [isId, this]
      rw [this]
      rfl
theorem Live.outOp {w w' : World} {b : Nat} {e e' : Lk.En} {d : PD} {c' : EC} {fs' : List Lk.Fr} {rs' ps' : List Nat} {sv' ov' : Value} (h : Live w b e d) (hR : Rw w' b c' fs') (hO : Only (fun x => x = b ∨ x ∈ d.rs ∨ d.sv.ownBlock = some x ∨ x ∈ d.ps) w w')
    (hc : c' = ecOf e' { d with rs := rs', fs := fs', ps := ps', sv := sv', ov := ov' }) (h2 : e'.oth = e.oth) (h4 : e'.inn = e.inn) (hrow : e'.row = fs'.map Lk.Fr.pack) (hg : ∀ f ∈ fs', Lk.Good f.k f.st f.d) (hw : Lk.Wf e') (hp : ∀ x ∈ rs', x ∈ d.rs ∨ w.heap.size ≤ x)
    (hsl : w'.ownsRow 0 169 1 sv' ps'.length (ps'.map ptr)) (hsv : ∀ x, sv'.ownBlock = some x → d.sv.ownBlock = some x ∨ w.heap.size ≤ x) (hov : w'.ownsRow 0 112 2 ov' e'.out.length (hdsV e'.out)) (hovb : ∀ x, ov'.ownBlock = some x → d.ov.ownBlock = some x ∨ w.heap.size ≤ x)
    (hout : Outs w' (upOwn e') ps') (hnd : ps'.Nodup) (hps : ∀ x ∈ ps', x ∈ d.ps ∨ w.heap.size ≤ x) (h4s : ps'.length ≤ 4) : LPost w b d e' w' := by
  have hs := h.sepRow
  have hsepO : ∀ x, (d.sv.ownBlock = some x ∨ x ∈ d.ps) → d.iv.ownBlock ≠ some x ∧ x ≠ d.mb ∧ ∀ k, d.ins k ≠ some x := by
    intro x hx
    have hI : (∃ c, Is w x 169 c) ∨ (∃ c, Is w x 173 c) := by
      rcases hx with hx | hx
      · left
        rcases h.sl.2 with ⟨h0, _⟩ | ⟨g, cap, cur, h0, _, hg, _⟩
        · rw [h0] at hx; simp [Value.ownBlock] at hx
        · rw [h0] at hx
          simp [Value.ownBlock] at hx
          subst hx
          exact ⟨cur.toList, by unfold Is; simpa using hg⟩
      · obtain ⟨o, hy⟩ := h.outs.mem hx; exact .inr ⟨_, hy⟩
    refine ⟨fun e => ?_, fun e => ?_, fun k hk => ?_⟩
    · rcases hI with ⟨c, hI⟩ | ⟨c, hI⟩ <;> exact own_ne h.inn hI (nbq rfl) e.symm
    · rcases hI with ⟨c, hI⟩ | ⟨c, hI⟩ <;> exact h.map.ne hI e.symm
    · obtain ⟨_, _, _, _, _, _, hy, _⟩ := h.inAt hk
      rcases hI with ⟨c, hI⟩ | ⟨c, hI⟩ <;> exact hI.ne hy (nbq rfl) rfl
  have hf : ∀ x, foot b { d with rs := rs', fs := fs', ps := ps', sv := sv', ov := ov' } x → foot b d x ∨ w.heap.size ≤ x := by
    intro x hx
    rcases hx with hx | hx | hx | hx | hx | hx | hx | hx
    · exact .inl (.inl hx)
    · exact (hovb x hx).imp (fun h => .inr (.inl h)) id
    · exact .inl (.inr (.inr (.inl hx)))
    · exact (hsv x hx).imp (fun h => .inr (.inr (.inr (.inl h)))) id
    · exact (hps x hx).imp (fun h => .inr (.inr (.inr (.inr (.inl h))))) id
    · exact (hp x hx).imp (fun h => .inr (.inr (.inr (.inr (.inr (.inl h)))))) id
    · exact .inl (.inr (.inr (.inr (.inr (.inr (.inr (.inl hx)))))))
    · exact .inl (.inr (.inr (.inr (.inr (.inr (.inr (.inr hx)))))))
  refine ⟨{ d with rs := rs', fs := fs', ps := ps', sv := sv', ov := ov' }, ⟨by rw [← hc]; exact hR, hrow, hg, hov, ?_, hsl, hout, hnd, h4s, ?_, by rw [h2]; exact h.mn, ?_, by rw [h2]; exact h.none, h.inj, hw, ?_⟩, hf, hO.mono (fun x hx => ?_)⟩
  · rw [h4]
    refine own_only h.inn hO (fun i hi hx => ?_)
    rcases hx with hx | hx | hx | hx
    · exact (hs i (.inl hx)).2.1 hi
    · exact (hs i (.inr hx)).2.1 hi
    · exact (hsepO i (.inl hx)).1 hi
    · exact (hsepO i (.inr hx)).1 hi
  · refine h.map.only hO (fun hx => ?_)
    rcases hx with hx | hx | hx | hx
    · exact (hs _ (.inl hx)).2.2.2.2.1 rfl
    · exact (hs _ (.inr hx)).2.2.2.2.1 rfl
    · exact (hsepO _ (.inl hx)).2.1 rfl
    · exact (hsepO _ (.inr hx)).2.1 rfl
  · rw [h2]
    refine fun i o ho => (h.oths i o ho).only hO (fun p hp hx => ?_)
    rcases hx with hx | hx | hx | hx
    · exact (hs p (.inl hx)).2.2.2.2.2 _ hp
    · exact (hs p (.inr hx)).2.2.2.2.2 _ hp
    · exact (hsepO p (.inl hx)).2.2 _ hp
    · exact (hsepO p (.inr hx)).2.2 _ hp
  · intro x hx
    rcases hf x hx with h' | h'
    · exact h.pos x h'
    · have := h.pos b (.inl rfl)
      have := h.rw.lt
      omega
  · rcases hx with hx | hx | hx | hx
    · exact .inl hx
    · exact .inr (.inr (.inr (.inr (.inr (.inl hx)))))
    · exact .inr (.inr (.inr (.inl hx)))
    · exact .inr (.inr (.inr (.inr (.inl hx))))
end Go.Proofs.YtbkpdapagfjmmaaGreatDoor
