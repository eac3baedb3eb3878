import Derived.Test.YtbkpdapagfjmmaaGreatDoorA11
set_option linter.unusedVariables false
set_option maxRecDepth 100000
set_option maxHeartbeats 16000000
namespace Go.Proofs.YtbkpdapagfjmmaaGreatDoor
open Go.RowKit
open Go.Maps (Keyed)
theorem CS : Keyed Tryz.prog 3 := Maps.int_keyed Tryz.underlying3
def I64 (k : Int) : Prop := -9223372036854775808 <= k ∧ k <= 9223372036854775807
theorem CU {k : Int} (h : I64 k) : keyOf Tryz.prog 3 (.int .i64 k) = some (.int .i64 k) := Maps.keyOf_int_mk Tryz.underlying3 (WalkArith.wf_i64 h)
theorem PK (w : World) : (zeroValue 224).run Tryz.prog w = .ok (.pointer none) w := by kernel_rfl
theorem look_in {w : World} {mb mn : Nat} {ins : Int -> Option Nat} (h : bW Tryz.prog 3 w mb mn ins) {k : Int} (hk : I64 k) :
 (Instr.lookup 94 (.map (some mb)) (.int .i64 k) true).run Tryz.prog w = .ok (.tuple #[bu (ins k), .bool (ins k).isSome]) w ∧ (Instr.lookup 94 (.map (some mb)) (.int .i64 k) false).run Tryz.prog w = .ok (bu (ins k)) w :=
 h.look CS Tryz.underlying94 (PK w) k (CU hk)
theorem nC (b mb mn : Nat) (ins : Int -> Option Nat) (k : Int) (w : World) (_hb : b < w.heap.size) (c : w.cell? ⟨b, 17, none⟩ = some (.map (some mb))) (hM : bW Tryz.prog 3 w mb mn ins) (hk : I64 k) (hp : ins k = none) :
 Calls Tryz.prog 117 #[.pointer (some ⟨b, 11, none⟩), .int .i64 k] w fun e w' => e = .returned (.tuple #[.pointer none, .bool false]) ∧ ∃ n, w' = w.drewN n := by
 have hl := (look_in hM hk).1
 rw [hp] at hl
 simp only [bu, Option.isSome] at hl
 clear hM hp hk
 go_enter Tryz.func117, Tryz.ntmps117
 go_wp2_with fail
 go_quiet (fail)
 go_wp2_with fail
 go_ret2
 exact ⟨rfl, _, rfl⟩
theorem jr (b mb mn p : Nat) (ins : Int -> Option Nat) (k cr held : Int) (cut ended : Bool) (w : World) (_hb : b < w.heap.size) (c : w.cell? ⟨b, 17, none⟩ = some (.map (some mb))) (hM : bW Tryz.prog 3 w mb mn ins) (hk : I64 k) (hp : ins k = some p) (hI : Is w p 227 (inV cr held cut ended)) :
 Calls Tryz.prog 117 #[.pointer (some ⟨b, 11, none⟩), .int .i64 k] w fun e w' => e = .returned (.tuple #[.pointer (some ⟨p, 0, none⟩), .bool (!ended)]) ∧ ∃ n, w' = w.drewN n := by
 have hl := (look_in hM hk).1
 rw [hp] at hl
 simp only [bu, ptr, Option.isSome] at hl
 have c3 := hI.cell 3
 simp only [inV, List.getElem?_cons_zero, List.getElem?_cons_succ] at c3
 have hpl := hI.lt
 clear hM hp hk hI
 go_enter Tryz.func117, Tryz.ntmps117
 go_wp2_with fail
 go_quiet (fail)
 go_wp2_with fail
 go_ret2
 exact ⟨rfl, _, rfl⟩
theorem open_any (p : Nat) (cr held : Int) (cut ended : Bool) (w : World) (hI : Is w p 227 (inV cr held cut ended)) :
 Calls Tryz.prog 118 #[.pointer (some ⟨p, 0, none⟩)] w fun e w' => e = .returned (.bool (!cut && !ended)) ∧ w' = w := by
 have c2 := hI.cell 2
 have c3 := hI.cell 3
 simp only [inV, List.getElem?_cons_zero, List.getElem?_cons_succ] at c2 c3
 have hpl := hI.lt
 clear hI
 cases cut with
 | true =>
   go_enter Tryz.func118, Tryz.ntmps118
   go_wp2_with fail
   go_ret
   exact ⟨rfl, rfl⟩
 | false =>
   go_enter Tryz.func118, Tryz.ntmps118
   go_wp2_with fail
   go_ret
   exact ⟨by first | rfl | simp, rfl⟩
theorem tq (b mb mn p : Nat) (ins : Int -> Option Nat) (k cr : Int) (held : Nat) (cut ended : Bool) (w : World) (_hb : b < w.heap.size) (c : w.cell? ⟨b, 17, none⟩ = some (.map (some mb))) (hM : bW Tryz.prog 3 w mb mn ins) (hk : I64 k) (hp : ins k = some p) (hI : Is w p 227 (inV cr held cut ended)) (hn : ended = false ∨ 0 < held) :
 Calls Tryz.prog 116 #[.pointer (some ⟨b, 11, none⟩), .int .i64 k] w fun e w' => e = .returned (.tuple #[]) ∧ w' = w := by
 have hl := (look_in hM hk).2
 rw [hp] at hl
 simp only [bu, ptr] at hl
 have c1 := hI.cell 1
 have c3 := hI.cell 3
 simp only [inV, List.getElem?_cons_zero, List.getElem?_cons_succ] at c1 c3
 have hpl := hI.lt
 clear hM hp hk hI
 cases ended with
 | false =>
   go_enter Tryz.func116, Tryz.ntmps116
   go_wp2_with fail
   go_end0
   exact ⟨rfl, rfl⟩
 | true =>
   have h0 : ((held : Int) == 0) = false := by rw [beq_eq_false_iff_ne]; rcases hn with h | h; cases h; omega
   clear hn
   go_enter Tryz.func116, Tryz.ntmps116
   go_wp2_with fail
   go_end0
   exact ⟨rfl, rfl⟩
theorem wI (b mb mn p : Nat) (ins : Int -> Option Nat) (k cr : Int) (cut : Bool) (w : World) (_hb : b < w.heap.size) (c : w.cell? ⟨b, 17, none⟩ = some (.map (some mb))) (hM : bW Tryz.prog 3 w mb mn ins) (hk : I64 k) (hp : ins k = some p) (hI : Is w p 227 (inV cr 0 cut true)) :
 Calls Tryz.prog 116 #[.pointer (some ⟨b, 11, none⟩), .int .i64 k] w fun e w' => e = .returned (.tuple #[]) ∧ bW Tryz.prog 3 w' mb mn (fun x => if x = k then none else ins x) ∧ Only (· = mb) w w' := by
 have hl := (look_in hM hk).2
 rw [hp] at hl
 simp only [bu, ptr] at hl
 have c1 := hI.cell 1
 have c3 := hI.cell 3
 simp only [inV, List.getElem?_cons_zero, List.getElem?_cons_succ] at c1 c3
 have hpl := hI.lt
 obtain ⟨w', hdel, hM', hO'⟩ := hM.del CS Tryz.underlying94 k (CU hk) 0
 have HM := hide hM'
 have HO := hide hO'
 clear hM hp hk hI hM' hO'
 go_enter Tryz.func116, Tryz.ntmps116
 go_wp2_with fail
 go_end0
 exact ⟨rfl, uh HM, uh HO⟩
theorem bW.drew {P : Program} {K : TypeId} {w : World} {b n : Nat} {ins : Int -> Option Nat} (h : bW P K w b n ins) : bW P K w.drew b n ins := h.only ((Only.refl (fun _ => False) w).drew) (fun h => h)
theorem bW.alloc {P : Program} {K : TypeId} {w : World} {b n : Nat} {ins : Int -> Option Nat} (h : bW P K w b n ins) (o : Obj) : bW P K (w.alloc o) b n ins := h.only ((Only.refl (fun _ => False) w).alloc o) (fun h => h)
theorem Rw.alloc {w : World} {b : Nat} {c : EC} {fs : List Lk.Fr} (h : Rw w b c fs) (o : Obj) : Rw (w.alloc o) b c fs := h.only ((Only.refl (fun _ => False) w).alloc o) (fun h => h) (fun _ _ h => h)
theorem Rw.Gv {w : World} {b mb n : Nat} {c : EC} {fs : List Lk.Fr} {P : Program} {K : TypeId} {ins : Int -> Option Nat} (h : Rw w b c fs) (hM : bW P K w mb n ins) : b ≠ mb ∧ ∀ r ∈ c.rs, r ≠ mb := by
 refine ⟨fun e => hM.ne h.blk e.symm, fun r hr e => ?_⟩
 obtain ⟨_, _, hx⟩ := h.row.links.is r hr
 exact hM.ne hx e.symm
theorem CV (b mb mn n : Nat) (ins : Int -> Option Nat) (c : EC) (fs : List Lk.Fr) (w : World) (hR : Rw w b c fs) (hmp : c.mp = .map (some mb)) (hn : c.su = (n : Int)) (hn2 : n <= 268435457) (hM : bW Tryz.prog 3 w mb mn ins) (hmn : mn <= 268435457) :
 Calls Tryz.prog 139 #[.pointer (some ⟨b, 11, none⟩)] w fun e w' => e = .returned (.pointer (some ⟨w.heap.size, 0, none⟩)) ∧ Is w' w.heap.size 227 (inV c.kN 0 false false) ∧ Rw w' b { c with su := (n : Int) + 2 } fs ∧ bW Tryz.prog 3 w' mb (mn + 1) (fun x => if x = (n : Int) then some w.heap.size else ins x) ∧ Only (fun i => i = b ∨ i = mb) w w' := by
 have hbl := hR.lt
 have c14 : w.cell? ⟨b, 14, none⟩ = some (.int .i64 c.kN) := hR.blk.cell 14
 have hI0 := Is.new w 227 (inV c.kN 0 false false)
 have hR0 := (hR.alloc (.cells (inV c.kN 0 false false).toArray 227)).drew
 have hM0 := (hM.alloc (.cells (inV c.kN 0 false false).toArray 227)).drew
 have hml := hM.lt
 obtain ⟨w1, hput, hM1, hO1⟩ := hM0.put CS Tryz.underlying94 (by unfold maxLen; omega) (n : Int) (CU ⟨by omega, by omega⟩) w.heap.size
 have hne := hR0.Gv hM0
 have hR1 := hR0.only hO1 hne.1 hne.2
 have hI1 := hI0.drew.only hO1 (by omega)
 have BB := hR1.lt
 have c15 : w.cell? ⟨b, 15, none⟩ = some (.int .i64 c.su) := hR.blk.cell 15
 have c17 : w.cell? ⟨b, 17, none⟩ = some c.mp := hR.blk.cell 17
 have d15 : w1.cell? ⟨b, 15, none⟩ = some (.int .i64 c.su) := hR1.blk.cell 15
 have g15 := hR1.blk.free 15
 rw [hn] at c15 d15
 rw [hmp] at c17
 have hOw : Only (fun i => i = b ∨ i = mb) w w1 := (((Only.refl _ w).alloc (.cells (inV c.kN 0 false false).toArray 227)).drew).trans hO1 (fun i hi _ => .inr hi)
 have HR1 := hide hR1
 have HI1 := hide hI1
 have HM1 := hide hM1
 have HOW := hide hOw
 clear hR hR0 hM hM0 hO1 hR1 hI1 hM1 hOw hI0 hne
 unfold ptr at hput
 simp only [inV] at hput
 go_enter Tryz.func139, Tryz.ntmps139
 go_wp2_with fail
 go_region
 all_goals
  go_wp2_with fail
  go_ret
  have hO2 : Only (· = b) w1 (w1.setCell ⟨b, 15, none⟩ (.int .i64 ((n : Int) + 2))) := (Only.refl _ w1).set b 15 _ (fun _ => rfl)
  have hI2 : Is (w1.setCell ⟨b, 15, none⟩ (.int .i64 ((n : Int) + 2))) b 101 ({ c with su := (n : Int) + 2 } : EC).cells := (uh HR1).blk.set 15 _
  refine ⟨rfl, (uh HI1).only hO2 (by omega), (uh HR1).cell hI2 hO2 rfl, (uh HM1).only hO2 (fun e => (uh HM1).ne (uh HR1).blk e), ((uh HOW).set b 15 _ (fun _ => .inl rfl))⟩
theorem Rw.KZ {w : World} {b p : Nat} {c : EC} {fs : List Lk.Fr} {cs : List Value} (h : Rw w b c fs) (hI : Is w p 227 cs) : p ≠ b ∧ p ∉ c.rs := by
 refine ⟨fun e => by subst e; exact h.blk.ne hI (nbq rfl) rfl, fun hr => ?_⟩
 obtain ⟨_, _, hx⟩ := h.row.links.is p hr
 exact hI.ne hx (nbq rfl) rfl
theorem MV (b p icr cr held n : Nat) (cut ended : Bool) (c : EC) (fs : List Lk.Fr) (w : World) (hR : Rw w b c fs) (hic : c.icr = (icr : Int)) (hI : Is w p 227 (inV cr held cut ended)) (hn : cr < n ∨ icr < n) :
 Calls Tryz.prog 140 #[.pointer (some ⟨b, 11, none⟩), .pointer (some ⟨p, 0, none⟩), .int .i64 (n : Int)] w fun e w' => e = .returned (.int .i64 10) ∧ w' = w := by
 have hbl := hR.lt
 have c16 : w.cell? ⟨b, 16, none⟩ = some (.int .i64 c.icr) := hR.blk.cell 16
 rw [hic] at c16
 have p0 := hI.cell 0
 simp only [inV, List.getElem?_cons_zero] at p0
 have hpl := hI.lt
 clear hR hI hic
 by_cases h1 : cr < n
 . have h1' : (cr : Int) < (n : Int) := by omega
   clear hn
   go_enter Tryz.func140, Tryz.ntmps140
   go_wp2_with fail
   go_ret
   exact ⟨rfl, rfl⟩
 . have h1' : ¬ (cr : Int) < (n : Int) := by omega
   have h2' : (icr : Int) < (n : Int) := by omega
   clear hn
   go_enter Tryz.func140, Tryz.ntmps140
   go_wp2_with fail
   go_ret
   exact ⟨rfl, rfl⟩
theorem Ac (b p icr cr held n : Nat) (cut ended : Bool) (c : EC) (fs : List Lk.Fr) (w : World) (hR : Rw w b c fs) (hic : c.icr = (icr : Int)) (hI : Is w p 227 (inV cr held cut ended)) (h1 : n <= cr) (h2 : n <= icr) (hcr : cr <= 1000000) (QH : icr <= 1000000) (hh : held <= 1000000) :
 Calls Tryz.prog 140 #[.pointer (some ⟨b, 11, none⟩), .pointer (some ⟨p, 0, none⟩), .int .i64 (n : Int)] w fun e w' => e = .returned (.int .i64 0) ∧ Is w' p 227 (inV ((cr - n : Nat) : Int) ((held + n : Nat) : Int) cut ended) ∧ Rw w' b { c with icr := ((icr - n : Nat) : Int) } fs ∧ Only (fun i => i = b ∨ i = p) w w' := by
 have hbl := hR.lt
 have hne := hR.KZ hI
 have hpb := hne.1
 have c16 : w.cell? ⟨b, 16, none⟩ = some (.int .i64 c.icr) := hR.blk.cell 16
 have f16 := hR.blk.free 16
 rw [hic] at c16
 have p0 := hI.cell 0
 have p1 := hI.cell 1
 have q0 := hI.free 0
 have q1 := hI.free 1
 simp only [inV, List.getElem?_cons_zero, List.getElem?_cons_succ] at p0 p1
 have hpl := hI.lt
 have h1' : ¬ (cr : Int) < (n : Int) := by omega
 have h2' : ¬ (icr : Int) < (n : Int) := by omega
 have HR := hide hR
 have HI := hide hI
 have HNE := hide hne.2
 have e1 : (cr : Int) - (n : Int) = ((cr - n : Nat) : Int) := by omega
 have e2 : (icr : Int) - (n : Int) = ((icr - n : Nat) : Int) := by omega
 have e3 : (held : Int) + (n : Int) = ((held + n : Nat) : Int) := by omega
 have HE := hide (⟨e1, e2, e3⟩ : _ ∧ _ ∧ _)
 clear hR hI hic hne e1 e2 e3
 go_enter Tryz.func140, Tryz.ntmps140
 go_wp2_with fail
 go_ret
 obtain ⟨e1, e2, e3⟩ := uh HE
 rw [e1, e2, e3]
 have hIa := (((uh HI).set 0 (.int .i64 ((cr - n : Nat) : Int))).other ⟨b, 16, none⟩ (.int .i64 ((icr - n : Nat) : Int)) hpb).set 1 (.int .i64 ((held + n : Nat) : Int))
 have hBa := (((uh HR).blk.other ⟨p, 0, none⟩ (.int .i64 ((cr - n : Nat) : Int)) (fun e => hpb e.symm)).set 16 (.int .i64 ((icr - n : Nat) : Int))).other ⟨p, 1, none⟩ (.int .i64 ((held + n : Nat) : Int)) (fun e => hpb e.symm)
 have hOa : Only (fun i => i = b ∨ i = p) w _ := (((Only.refl _ w).set p 0 (.int .i64 ((cr - n : Nat) : Int)) (fun _ => .inr rfl)).set b 16 (.int .i64 ((icr - n : Nat) : Int)) (fun _ => .inl rfl)).set p 1 (.int .i64 ((held + n : Nat) : Int)) (fun _ => .inr rfl)
 refine ⟨rfl, hIa, ⟨hBa, (uh HR).row.only hOa (fun r hr hx => ?_)⟩, hOa⟩
 rcases hx with rfl | rfl
 . exact (uh HR).I4 hr
 . exact uh HNE hr
def uS (n : Nat) : List Lk.Fr := if 0 < n then [⟨4, 0, Lk.wire n⟩] else []
theorem xY (b p : Nat) (cr : Int) (cut ended : Bool) (c : EC) (fs : List Lk.Fr) (w : World) (hR : Rw w b c fs) (hI : Is w p 227 (inV cr 0 cut ended)) :
 Calls Tryz.prog 141 #[.pointer (some ⟨b, 11, none⟩), .pointer (some ⟨p, 0, none⟩), oN b] w fun e w' => e = .returned (.tuple #[]) ∧ Is w' p 227 (inV cr 0 cut ended) ∧ Rw w' b c fs ∧ Only (fun i => i = p) w w' := by
 have hne := hR.KZ hI
 have p1 := hI.cell 1
 have q1 := hI.free 1
 simp only [inV, List.getElem?_cons_zero, List.getElem?_cons_succ] at p1
 have hpl := hI.lt
 have HR := hide hR
 have HI := hide hI
 have HNE := hide hne
 clear hR hI hne
 unfold oN
 go_enter Tryz.func141, Tryz.ntmps141
 go_wp2_with fail
 go_end0
 have hO : Only (fun i => i = p) w _ := (Only.refl _ w).set p 1 (.int .i64 0) (fun _ => rfl)
 refine ⟨rfl, (uh HI).set 1 _, (uh HR).only hO (fun e => (uh HNE).1 e.symm) (fun r hr e => (uh HNE).2 (e ▸ hr)), hO⟩
theorem xZ (b p icr held : Nat) (cr : Int) (cut ended : Bool) (c : EC) (fs : List Lk.Fr) (w : World) (hR : Rw w b c fs) (hic : c.icr = (icr : Int)) (hI : Is w p 227 (inV cr (held : Int) cut ended)) (h0 : 0 < held) (hh : held <= 1000000) (QH : icr <= 1000000) :
 Calls Tryz.prog 141 #[.pointer (some ⟨b, 11, none⟩), .pointer (some ⟨p, 0, none⟩), oN b] w fun e w' => e = .returned (.tuple #[]) ∧ ∃ n, w.heap.size <= n ∧ Is w' p 227 (inV cr 0 cut ended) ∧ Rw w' b { c with icr := ((icr + held : Nat) : Int), rs := c.rs ++ [n] } (fs ++ [⟨4, 0, Lk.wire held⟩]) ∧ Only (fun i => i = b ∨ i = p ∨ i ∈ c.rs) w w' := by
 have hne := hR.KZ hI
 have hpb := hne.1
 have hbl := hR.lt
 have p1 := hI.cell 1
 simp only [inV, List.getElem?_cons_zero, List.getElem?_cons_succ] at p1
 have hpl := hI.lt
 have c16 : w.cell? ⟨b, 16, none⟩ = some (.int .i64 c.icr) := hR.blk.cell 16
 have f16 := hR.blk.free 16
 rw [hic] at c16
 have h0' : 0 < (held : Int) := by omega
 have e1 : (icr : Int) + (held : Int) = ((icr + held : Nat) : Int) := by omega
 have hO1 : Only (· = b) w ((w.drew).setCell ⟨b, 16, none⟩ (.int .i64 ((icr : Int) + (held : Int)))) := (Only.refl (· = b) w).drew.set b 16 _ (fun _ => rfl)
 have hB1 : Is ((w.drew).setCell ⟨b, 16, none⟩ (.int .i64 ((icr : Int) + (held : Int)))) b 101 ({ c with icr := ((icr + held : Nat) : Int) } : EC).cells := by
  have := hR.blk.drew.set 16 (.int .i64 ((icr : Int) + (held : Int)))
  rw [e1] at this ⊢
  exact this
 have hR1 : Rw ((w.drew).setCell ⟨b, 16, none⟩ (.int .i64 ((icr : Int) + (held : Int)))) b { c with icr := ((icr + held : Nat) : Int) } fs := hR.cell hB1 hO1 rfl
 have hI1 := hI.only hO1 hpb
 have HR1 := hide hR1
 have HI1 := hide hI1
 have HO1 := hide hO1
 have HNE := hide hne.2
 clear hR hI hic hne e1 hB1 hR1 hI1 hO1
 unfold oN
 go_enter Tryz.func141, Tryz.ntmps141
 go_wp2_with fail
 go_region
 go_wp2_with fail
 refine (dS 4 0 held _ rfl (by omega) _).mono ?_
 rintro e w2 ⟨rfl, hb2⟩
 have hR2 := (uh HR1).below hb2
 have hI2 := (uh HI1).below hb2 (uh HI1).lt
 have hO2 : Only (fun i => i = b ∨ i = p ∨ i ∈ c.rs) w w2 := ((uh HO1).mono (fun i hi => .inl hi)).below hb2
 clear hb2
 go_wp2_with fail
 refine (fC b _ fs ⟨4, 0, Lk.wire held⟩ w2 hR2).mono ?_
 rintro e w3 ⟨rfl, n, hn, hR3, hO3⟩
 have hI3 := hI2.only hO3 (fun hx => by
  rcases hx with hx | hx
  . exact hpb hx
  . exact uh HNE hx)
 have hO4 := hO2.trans hO3 (fun i hi _ => by
  rcases hi with hi | hi
  . exact .inl hi
  . exact .inr (.inr hi))
 have hnw : w.heap.size <= n := by have := hO2.size; omega
 have p1 := hI3.cell 1
 have q1 := hI3.free 1
 have hpl := hI3.lt
 simp only [inV, List.getElem?_cons_zero, List.getElem?_cons_succ] at p1
 have MW := hR3.KZ hI3
 have HF := hide (⟨hR3, hI3, hO4, MW⟩ : _ ∧ _ ∧ _ ∧ _)
 clear hR2 hI2 hO2 hR3 hI3 hO3 hO4 MW
 go_wp2_with fail
 go_end0
 obtain ⟨hR3, hI3, hO4, MW⟩ := uh HF
 have hO5 : Only (fun i => i = p) w3 _ := (Only.refl _ w3).set p 1 (.int .i64 0) (fun _ => rfl)
 exact ⟨rfl, n, hnw, hI3.set 1 _, hR3.only hO5 (fun e => MW.1 e.symm) (fun r hr e => MW.2 (e ▸ hr)), hO4.trans hO5 (fun i hi _ => .inr (.inl hi))⟩
theorem lC (b p icr held : Nat) (cr : Int) (cut ended : Bool) (c : EC) (fs : List Lk.Fr) (w : World) (hR : Rw w b c fs) (hic : c.icr = (icr : Int)) (hI : Is w p 227 (inV cr (held : Int) cut ended)) (hh : held <= 1000000) (QH : icr <= 1000000) :
 Calls Tryz.prog 141 #[.pointer (some ⟨b, 11, none⟩), .pointer (some ⟨p, 0, none⟩), oN b] w fun e w' => e = .returned (.tuple #[]) ∧ ∃ rs', (∀ x ∈ rs', x ∈ c.rs ∨ w.heap.size <= x) ∧ Is w' p 227 (inV cr 0 cut ended) ∧ Rw w' b { c with icr := ((icr + held : Nat) : Int), rs := rs' } (fs ++ uS held) ∧ Only (fun i => i = b ∨ i = p ∨ i ∈ c.rs) w w' := by
 by_cases h0 : 0 < held
 . refine (xZ b p icr held cr cut ended c fs w hR hic hI h0 hh QH).mono ?_
   rintro e w' ⟨rfl, n, hn, hI', hR', hO⟩
   exact ⟨rfl, _, iV hn, hI', by unfold uS; rw [if_pos h0]; exact hR', hO⟩
 . obtain rfl : held = 0 := by omega
   refine (xY b p cr cut ended c fs w hR hI).mono ?_
   rintro e w' ⟨rfl, hI', hR', hO⟩
   refine ⟨rfl, c.rs, fun x hx => .inl hx, hI', ?_, hO.mono (fun i hi => .inr (.inl hi))⟩
   have e : ({ c with icr := ((icr + 0 : Nat) : Int), rs := c.rs } : EC) = c := by
    rw [Nat.add_zero, <- hic]
   rw [e]
   simpa [uS] using hR'
def Tj (st code held : Nat) : List Lk.Fr := ⟨3, st, Lk.wire code⟩ :: uS held
theorem PL (b p icr held st code : Nat) (cr : Int) (cut ended : Bool) (c : EC) (fs : List Lk.Fr) (w : World) (hR : Rw w b c fs) (hic : c.icr = (icr : Int)) (hI : Is w p 227 (inV cr (held : Int) cut ended)) (hh : held <= 1000000) (QH : icr <= 1000000) (hcode : code <= 268435455) :
 Calls Tryz.prog 119 #[.pointer (some ⟨b, 0, none⟩), .int .i64 (st : Int), .pointer (some ⟨p, 0, none⟩), .int .i64 (code : Int)] w fun e w' => e = .returned (.tuple #[]) ∧ ∃ rs', (∀ x ∈ rs', x ∈ c.rs ∨ w.heap.size <= x) ∧ Is w' p 227 (inV cr 0 true ended) ∧ Rw w' b { c with icr := ((icr + held : Nat) : Int), rs := rs' } (fs ++ Tj st code held) ∧ Only (fun i => i = b ∨ i = p ∨ i ∈ c.rs) w w' := by
 have hne := hR.KZ hI
 have hpb := hne.1
 have hbl := hR.lt
 have p2 := hI.cell 2
 have q2 := hI.free 2
 simp only [inV, List.getElem?_cons_zero, List.getElem?_cons_succ] at p2
 have hpl := hI.lt
 have hI1 : Is (w.setCell ⟨p, 2, none⟩ (.bool true)) p 227 (inV cr (held : Int) true ended) := hI.set 2 (.bool true)
 have hO1 : Only (fun i => i = p) w (w.setCell ⟨p, 2, none⟩ (.bool true)) := (Only.refl _ w).set p 2 _ (fun _ => rfl)
 have hR1 := hR.only hO1 (fun e => hpb e.symm) (fun r hr e => hne.2 (e ▸ hr))
 have HI1 := hide hI1
 have HO1 := hide hO1
 have HR1 := hide hR1
 have HNE := hide hne.2
 have HIC := hide hic
 clear hR hI hI1 hO1 hR1 hne hic
 go_enter Tryz.func119, Tryz.ntmps119
 go_wp2_with fail
 go_cut [] (fun wc => ∃ n, w.heap.size <= n ∧ Is wc p 227 (inV cr (held : Int) true ended) ∧ Rw wc b { c with rs := c.rs ++ [n] } (fs ++ [⟨3, st, Lk.wire code⟩]) ∧ Only (fun i => i = b ∨ i = p ∨ i ∈ c.rs) w wc)
 case first =>
  go_region_with (first
   | (go_at_call 115; refine (dS 3 st code _ rfl hcode _).mono ?_; rintro e w2 ⟨rfl, hb2⟩)
   | (go_at_call 45; refine (fC b c fs ⟨3, st, Lk.wire code⟩ _ ((uh HR1).EH hb2)).mono ?_; rintro e w3 ⟨rfl, n, hn, hR3, hO3⟩))
  all_goals
   go_wp2_with fail
   go_meet
   have hO2 : Only (fun i => i = b ∨ i = p ∨ i ∈ c.rs) w w2 := ((uh HO1).mono (fun i hi => .inr (.inl hi))).below (bQ hb2)
   have hsz := hO2.size
   refine ⟨n, by omega, ((uh HI1).below (bQ hb2) (uh HI1).lt).only hO3 (fun hx => ?_), hR3, hO2.trans hO3 (fun i hi _ => ?_)⟩
   . rcases hx with hx | hx
     . exact hpb hx
     . exact uh HNE hx
   . rcases hi with hi | hi
     . exact .inl hi
     . exact .inr (.inr hi)
 case rest =>
  obtain ⟨n, hn, hI2, hR2, hO2⟩ := hcut
  have Oy := hR2.lt
  have HC := hide (fun k => lC b p icr held cr true ended { c with rs := c.rs ++ [n] } (fs ++ [⟨3, st, Lk.wire code⟩]) (wc.drewN k) (hR2.only ((Only.refl (fun _ => False) wc).drewN k) (fun h => h) (fun _ _ h => h)) (uh HIC) (hI2.drewN k) hh QH)
  have HO2 := hide hO2
  clear hI2 hR2 hO2
  unfold oN at HC
  go_wp2_with fail
  go_region_with (first | (go_at_call 141; refine (uh HC 1).mono ?_; rintro e w4 ⟨rfl, rs', hrs, hI4, hR4, hO4⟩))
  all_goals
   go_wp2_with fail
   go_end0
   have hO2 := uh HO2
   have hsz := hO2.size
   refine ⟨rfl, rs', fun x hx => ?_, hI4, by simpa [Tj] using hR4, (hO2.drewN 1).trans hO4 (fun i hi hlt => ?_)⟩
   . rcases hrs x hx with h | h
     . exact iV hn x h
     . exact .inr (Nat.le_trans hsz h)
   . rcases hi with hi | hi | hi
     . exact .inl hi
     . exact .inr (.inl hi)
     . rcases iV hn i hi with h | h
       . exact .inr (.inr h)
       . omega
theorem Jy (b mb mn p held : Nat) (ins : Int -> Option Nat) (k cr : Int) (cut ended : Bool) (c : EC) (fs : List Lk.Fr) (w : World) (hR : Rw w b c fs) (hmp : c.mp = .map (some mb)) (hM : bW Tryz.prog 3 w mb mn ins) (hk : I64 k) (hp : ins k = some p) (hI : Is w p 227 (inV cr (held : Int) cut ended)) :
 Calls Tryz.prog 142 #[.pointer (some ⟨b, 11, none⟩), .int .i64 k] w fun e w' => e = .returned (.tuple #[]) ∧ Rw w' b c fs ∧ Is w' p 227 (inV cr (held : Int) cut true) ∧ bW Tryz.prog 3 w' mb mn (if 0 < held then ins else fun x => if x = k then none else ins x) ∧ Only (fun i => i = p ∨ i = mb) w w' := by
 have hne := hR.KZ hI
 have hnm := hR.Gv hM
 have hbl := hR.lt
 have hl := (look_in hM hk).2
 rw [hp] at hl
 simp only [bu, ptr] at hl
 have c17 : w.cell? ⟨b, 17, none⟩ = some c.mp := hR.blk.cell 17
 rw [hmp] at c17
 have p3 := hI.cell 3
 have q3 := hI.free 3
 simp only [inV, List.getElem?_cons_zero, List.getElem?_cons_succ] at p3
 have hpl := hI.lt
 have hpm : mb ≠ p := fun e => hM.ne hI e
 have hO1 : Only (fun i => i = p) w (w.setCell ⟨p, 3, none⟩ (.bool true)) := (Only.refl _ w).set p 3 _ (fun _ => rfl)
 have hI1 : Is (w.setCell ⟨p, 3, none⟩ (.bool true)) p 227 (inV cr (held : Int) cut true) := hI.set 3 (.bool true)
 have hR1 := hR.only hO1 (fun e => hne.1 e.symm) (fun r hr e => hne.2 (e ▸ hr))
 have hM1 := hM.only hO1 hpm
 have d17 : (w.setCell ⟨p, 3, none⟩ (.bool true)).cell? ⟨b, 17, none⟩ = some c.mp := hR1.blk.cell 17
 rw [hmp] at d17
 by_cases h0 : 0 < held
 . rw [if_pos h0]
   have HC := hide (tq b mb mn p ins k cr held cut true _ hR1.lt d17 hM1 hk hp hI1 (.inr h0))
   have HF := hide (⟨hR1, hI1, hM1, hO1⟩ : _ ∧ _ ∧ _ ∧ _)
   clear hR hM hI hR1 hI1 hM1 hO1 hne hnm
   go_enter Tryz.func142, Tryz.ntmps142
   go_wp2_with fail
   refine (uh HC).mono ?_
   rintro e w1 ⟨rfl, rfl⟩
   go_wp2_with fail
   go_end0
   obtain ⟨hR1, hI1, hM1, hO1⟩ := uh HF
   exact ⟨rfl, hR1, hI1, hM1, hO1.mono (fun i hi => .inl hi)⟩
 . obtain rfl : held = 0 := by omega
   rw [if_neg h0]
   have HC := hide (wI b mb mn p ins k cr cut _ hR1.lt d17 hM1 hk hp hI1)
   have HF := hide (⟨hR1, hI1, hO1, hnm⟩ : _ ∧ _ ∧ _ ∧ _)
   clear hR hM hI hR1 hI1 hM1 hO1 hne hnm
   go_enter Tryz.func142, Tryz.ntmps142
   go_wp2_with fail
   refine (uh HC).mono ?_
   rintro e w1 ⟨rfl, hM2, hO2⟩
   go_wp2_with fail
   go_end0
   obtain ⟨hR1, hI1, hO1, hnm⟩ := uh HF
   exact ⟨rfl, hR1.only hO2 hnm.1 hnm.2, hI1.only hO2 (fun e => hpm e.symm), hM2, (hO1.mono (fun i hi => .inl hi)).trans hO2 (fun i hi _ => .inr hi)⟩
theorem EJ {e : Lk.En} (hw : Lk.Wf e) {i j : Nat} {o x : Lk.Ot} (ho : e.oth[i]? = some o) (hx : e.oth[j]? = some x) (h : x.id = o.id) : j = i := by
 have h1 := (hw.oth i o ho).id
 have h2 := (hw.oth j x hx).id
 have := hw.side
 omega
theorem Live.QI {w w' : World} {b i mn' : Nat} {e e' : Lk.En} {d : PD} {c' : EC} {fs' : List Lk.Fr} {rs' : List Nat} {ins' : Int -> Option Nat} {o o' : Lk.Ot} (h : Live w b e d) (ho : e.oth[i]? = some o) (hid : o'.id = o.id) (hR : Rw w' b c' fs') (hO : Only (fun x => x = b ∨ x ∈ d.rs ∨ x = d.mb ∨ d.ins o.id = some x) w w')
 (hc : c' = fH e' { d with rs := rs', fs := fs', mn := mn', ins := ins' }) (h1 : e'.own = e.own) (h2 : e'.oth = e.oth.set i o') (h3 : e'.out = e.out) (h4 : e'.inn = e.inn) (hrow : e'.row = fs'.map Lk.Fr.pack) (hg : ∀ f ∈ fs', Lk.Good f.k f.st f.d) (hw : Lk.Wf e') (hp : ∀ x ∈ rs', x ∈ d.rs ∨ w.heap.size <= x)
 (hM : bW Tryz.prog 3 w' d.mb mn' ins') (hmn : mn' <= e.oth.length) (hoth : ji w' ins' o') (hins : ∀ k, k ≠ (o.id : Int) -> ins' k = d.ins k) (hin : ∀ p, ins' o.id = some p -> d.ins o.id = some p) : bf w b d e' w' := by
 have hs := h.fQ
 have hil := (List.getElem?_eq_some_iff.1 ho).1
 have hsub : ∀ k p, ins' k = some p -> d.ins k = some p := by
  intro k p hk
  by_cases e : k = (o.id : Int)
  . subst e; exact hin p hk
  . rw [<- hins k e]; exact hk
 have EK : ∀ x, d.ins o.id = some x -> d.ov.ownBlock ≠ some x ∧ d.iv.ownBlock ≠ some x ∧ d.sv.ownBlock ≠ some x ∧ x ∉ d.ps ∧ x ≠ d.mb := by
  intro x hx
  obtain ⟨_, _, _, _, _, _, hI, _⟩ := h.KX hx
  refine ⟨fun e => own_ne h.out hI (nbq rfl) e.symm, fun e => own_ne h.inn hI (nbq rfl) e.symm, fun e => own_ne h.sl hI (nbq rfl) e.symm, fun hm => ?_, fun e => h.map.ne hI e.symm⟩
  obtain ⟨_, hy⟩ := h.outs.mem hm
  exact hI.ne hy (nbq rfl) rfl
 have hov : ∀ v : Value, (∀ i, v.ownBlock = some i -> (i = b ∨ i ∈ d.rs) -> False) -> v.ownBlock ≠ some d.mb -> (∀ i, d.ins o.id = some i -> v.ownBlock ≠ some i) -> ∀ i, v.ownBlock = some i -> ¬ (i = b ∨ i ∈ d.rs ∨ i = d.mb ∨ d.ins o.id = some i) := by
  intro v a1 a2 a3 i hi hx
  rcases hx with hx | hx | hx | hx
  . exact a1 i hi (.inl hx)
  . exact a1 i hi (.inr hx)
  . exact a2 (hx ▸ hi)
  . exact a3 i hx hi
 have hf : ∀ x, foot b { d with rs := rs', fs := fs', mn := mn', ins := ins' } x -> foot b d x ∨ w.heap.size <= x := by
  intro x hx
  rcases hx with hx | hx | hx | hx | hx | hx | hx | ⟨k, hx⟩
  . exact .inl (.inl hx)
  . exact .inl (.inr (.inl hx))
  . exact .inl (.inr (.inr (.inl hx)))
  . exact .inl (.inr (.inr (.inr (.inl hx))))
  . exact .inl (.inr (.inr (.inr (.inr (.inl hx)))))
  . exact (hp x hx).imp (fun h => .inr (.inr (.inr (.inr (.inr (.inl h)))))) id
  . exact .inl (.inr (.inr (.inr (.inr (.inr (.inr (.inl hx)))))))
  . exact .inl (.inr (.inr (.inr (.inr (.inr (.inr (.inr ⟨k, hsub k x hx⟩)))))))
 refine ⟨{ d with rs := rs', fs := fs', mn := mn', ins := ins' }, ⟨by rw [<- hc]; exact hR, hrow, hg, ?_, ?_, ?_, ?_, h.psn, h.ps4, hM, by rw [h2, List.length_set]; exact hmn, ?_, ?_, fun k k' p hk hk' => h.inj k k' p (hsub k p hk) (hsub k' p hk'), hw, ?_⟩, hf, hO.mono (fun x hx => ?_)⟩
 . rw [h3]; exact ag h.out hO (hov _ (fun i hi hx => (hs i hx).1 hi) (h.map.Eg h.out) (fun i hi => (EK i hi).1))
 . rw [h4]; exact ag h.inn hO (hov _ (fun i hi hx => (hs i hx).2.1 hi) (h.map.Eg h.inn) (fun i hi => (EK i hi).2.1))
 . exact ag h.sl hO (hov _ (fun i hi hx => (hs i hx).2.2.1 hi) (h.map.Eg h.sl) (fun i hi => (EK i hi).2.2.1))
 . have : gJ e' = gJ e := by unfold gJ; rw [h1]
   rw [this]
   refine h.outs.only hO (fun p hp hx => ?_)
   rcases hx with hx | hx | hx | hx
   . exact (hs p (.inl hx)).2.2.2.1 hp
   . exact (hs p (.inr hx)).2.2.2.1 hp
   . obtain ⟨_, hy⟩ := h.outs.mem hp
     exact h.map.ne hy hx.symm
   . exact (EK p hx).2.2.2.1 hp
 . rw [h2]
   intro j x hx
   rcases Lk.oQ hx with ⟨rfl, rfl, _⟩ | ⟨hj, hx⟩
   . exact hoth
   . have hne : (x.id : Int) ≠ (o.id : Int) := fun e => hj (EJ h.wf ho hx (by omega))
     have hox : ji w ins' x := by
      have := h.yZ j x hx
      unfold ji at this ⊢
      rw [hins _ hne]
      exact this
     refine hox.only hO (fun p hp hy => ?_)
     have hp' := hsub _ p hp
     rcases hy with hy | hy | hy | hy
     . exact (hs p (.inl hy)).2.2.2.2.2 _ hp'
     . exact (hs p (.inr hy)).2.2.2.2.2 _ hp'
     . obtain ⟨_, _, _, _, _, _, hI, _⟩ := h.KX hp'
       exact h.map.ne hI hy.symm
     . exact hne (h.inj _ _ p hp' hy)
 . intro k hk
   rw [h2] at hk
   have hko : (o.id : Int) ≠ k := by
    have := hk i o' (by rw [List.getElem?_set_self hil])
    omega
   show ins' k = Option.none
   rw [hins k (fun e => hko e.symm)]
   refine h.none k (fun j x hx => ?_)
   by_cases e : j = i
   . subst e
     rw [ho] at hx
     cases hx
     exact hko
   . exact hk j x (by rw [List.getElem?_set_ne (fun h => e h.symm)]; exact hx)
 . intro x hx
   rcases hf x hx with h' | h'
   . exact h.pos x h'
   . have := h.pos b (.inl rfl)
     have := h.rw.lt
     omega
 . rcases hx with hx | hx | hx | hx
   . exact .inl hx
   . exact .inr (.inr (.inr (.inr (.inr (.inl hx)))))
   . exact .inr (.inr (.inr (.inr (.inr (.inr (.inl hx))))))
   . exact .inr (.inr (.inr (.inr (.inr (.inr (.inr ⟨_, hx⟩))))))
end Go.Proofs.YtbkpdapagfjmmaaGreatDoor
