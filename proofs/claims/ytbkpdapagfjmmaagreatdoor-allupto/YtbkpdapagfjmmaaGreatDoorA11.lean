import Derived.Test.YtbkpdapagfjmmaaGreatDoorA9
import Derived.Test.YtbkpdapagfjmmaaGreatDoorA10
import Derived.Deep.CutBlock
set_option linter.unusedVariables false
set_option maxRecDepth 100000
set_option maxHeartbeats 16000000
namespace Go.Proofs.YtbkpdapagfjmmaaGreatDoor
open Go.RowKit
structure EC where
 txt : ByteArray
 fault : Int
 w1 : Value
 LJ : Int
 ov : Value
 win : Int
 next : Int
 sent : Int
 ocr : Int
 sv : Value
 w2 : Value
 TN : Int
 iv : Value
 kN : Int
 su : Int
 icr : Int
 mp : Value
 rs : List Nat
 bs : Bool
 bc : Bool
def EC.cells (c : EC) : List Value := [.string c.txt, .int .i64 0, .int .i64 c.fault, c.w1, .int .i64 c.LJ, c.ov, .int .i64 c.win, .int .i64 c.next, .int .i64 c.sent, .int .i64 c.ocr, c.sv, c.w2, .int .i64 c.TN, c.iv, .int .i64 c.kN, .int .i64 c.su, .int .i64 c.icr, c.mp, dW c.rs, fO c.rs, .bool c.bs, .bool c.bc]
structure Rw (w : World) (b : Nat) (c : EC) (fs : List Lk.Fr) : Prop where
 blk : Is w b 101 c.cells
 row : Chain w (dW c.rs) (fO c.rs) fs c.rs
theorem Rw.lt {w : World} {b : Nat} {c : EC} {fs : List Lk.Fr} (h : Rw w b c fs) : b < w.heap.size := h.blk.lt
theorem Rw.only {S : Nat -> Prop} {w w' : World} {b : Nat} {c : EC} {fs : List Lk.Fr} (h : Rw w b c fs) (k : Only S w w') (hb : ¬ S b) (hr : ∀ r ∈ c.rs, ¬ S r) : Rw w' b c fs := ⟨h.blk.only k hb, h.row.only k hr⟩
theorem Rw.I4 {w : World} {b : Nat} {c : EC} {fs : List Lk.Fr} (h : Rw w b c fs) : b ∉ c.rs := fun hm => by
 obtain ⟨_, _, hx⟩ := h.row.links.is b hm
 exact h.blk.ne hx (nbq rfl) rfl
theorem Rw.cell {w w' : World} {b : Nat} {c c' : EC} {fs : List Lk.Fr} (h : Rw w b c fs) (hI : Is w' b 101 c'.cells) (k : Only (· = b) w w') (hr : c'.rs = c.rs) : Rw w' b c' fs :=
 ⟨hI, by rw [hr]; exact h.row.only k (fun r hm e => h.I4 (e ▸ hm))⟩
def oN (b : Nat) : Value := .func (.func 45) #[.pointer (some ⟨b, 18, none⟩)] #[]
theorem fC (b : Nat) (c : EC) (fs : List Lk.Fr) (f : Lk.Fr) (w : World) (h : Rw w b c fs) :
 Calls Tryz.prog 45 #[.pointer (some ⟨b, 18, none⟩), frA f] w fun e w' => e = .returned (.tuple #[]) ∧ ∃ n, w.heap.size <= n ∧ Rw w' b { c with rs := c.rs ++ [n] } (fs ++ [f]) ∧ Only (fun i => i = b ∨ i ∈ c.rs) w w' := by
 refine (FQ b 18 101 c.cells f fs c.rs w h.blk (nbq rfl) rfl rfl h.row).mono ?_
 rintro e w' ⟨rfl, n, hn, hI, hC, hO⟩
 exact ⟨rfl, n, hn, ⟨hI, hC⟩, hO⟩
structure PD where
 ov : Value
 iv : Value
 sv : Value
 ps : List Nat
 rs : List Nat
 mb : Nat
 mn : Nat
 ins : Int -> Option Nat
 fs : List Lk.Fr
def gJ (e : Lk.En) : List Lk.Ow := e.own.filter fun o => !o.done
def ah (e : Lk.En) : Nat := 2 * e.oth.length + 2 - e.side
def fH (e : Lk.En) (d : PD) : EC := ⟨bs e.rest, (e.down : Int), aU, (100 : Int) - Lk.weights e.out, d.ov, e.win, e.nextId, e.turn, e.all, d.sv, aU, (100 : Int) - Lk.weights e.inn, d.iv, e.win, ah e, e.room, .map (some d.mb), d.rs, e.iH, e.oK⟩
def foot (b : Nat) (d : PD) (i : Nat) : Prop := i = b ∨ d.ov.ownBlock = some i ∨ d.iv.ownBlock = some i ∨ d.sv.ownBlock = some i ∨ i ∈ d.ps ∨ i ∈ d.rs ∨ i = d.mb ∨ ∃ k, d.ins k = some i
def inV (cr held : Int) (cut ended : Bool) : List Value := [.int .i64 cr, .int .i64 held, .bool cut, .bool ended]
def ji (w : World) (ins : Int -> Option Nat) (o : Lk.Ot) : Prop := match ins o.id with
 | some p => (o.opn || o.drp || decide (0 < o.held)) = true ∧ ∃ (cr : Int) (cut : Bool), Is w p 227 (inV cr o.held cut (!(o.opn || o.drp))) ∧ ((o.opn || o.drp) = true -> cr = o.cr ∧ cut = o.drp)
 | none => (o.opn || o.drp || decide (0 < o.held)) = false
structure Live (w : World) (b : Nat) (e : Lk.En) (d : PD) : Prop where
 rw : Rw w b (fH e d) d.fs
 o9 : e.row = d.fs.map Lk.Fr.pack
 good : ∀ f ∈ d.fs, Lk.Good f.k f.st f.d
 out : w.ownsRow 0 112 2 d.ov e.out.length (aQ e.out)
 inn : w.ownsRow 0 112 2 d.iv e.inn.length (aQ e.inn)
 sl : w.ownsRow 0 169 1 d.sv d.ps.length (d.ps.map ptr)
 outs : mF w (gJ e) d.ps
 psn : d.ps.Nodup
 ps4 : d.ps.length <= 4
 map : bW Tryz.prog 3 w d.mb d.mn d.ins
 mn : d.mn <= e.oth.length
 yZ : ∀ (i : Nat) (o : Lk.Ot), e.oth[i]? = some o -> ji w d.ins o
 none : ∀ k : Int, (∀ (i : Nat) (o : Lk.Ot), e.oth[i]? = some o -> (o.id : Int) ≠ k) -> d.ins k = none
 inj : ∀ (k k' : Int) (p : Nat), d.ins k = some p -> d.ins k' = some p -> k = k'
 wf : Lk.Wf e
 pos : ∀ i, foot b d i -> 0 < i
theorem Live.c2 {w : World} {b : Nat} {e : Lk.En} {d : PD} (h : Live w b e d) (hdn : e.down = 0) : w.cell? ⟨b, 2, .none⟩ = some (.int .i64 0) := by
 have : w.cell? ⟨b, 2, .none⟩ = some (.int .i64 (e.down : Int)) := h.rw.blk.cell 2
 rw [hdn] at this
 exact this
theorem ji.some {w : World} {ins : Int -> Option Nat} {o : Lk.Ot} (h : ji w ins o) {p : Nat} (hp : ins o.id = some p) : (o.opn || o.drp || decide (0 < o.held)) = true ∧ ∃ (cr : Int) (cut : Bool), Is w p 227 (inV cr o.held cut (!(o.opn || o.drp))) ∧ ((o.opn || o.drp) = true -> cr = o.cr ∧ cut = o.drp) := by
 unfold ji at h
 rw [hp] at h
 exact h
theorem ji.none {w : World} {ins : Int -> Option Nat} {o : Lk.Ot} (h : ji w ins o) (hp : ins o.id = .none) : (o.opn || o.drp || decide (0 < o.held)) = false := by
 unfold ji at h
 rw [hp] at h
 exact h
theorem Live.KX {w : World} {b : Nat} {e : Lk.En} {d : PD} (h : Live w b e d) {k : Int} {p : Nat} (hp : d.ins k = some p) : ∃ (i : Nat) (o : Lk.Ot) (cr : Int) (cut : Bool), e.oth[i]? = some o ∧ (o.id : Int) = k ∧ Is w p 227 (inV cr o.held cut (!(o.opn || o.drp))) ∧ ((o.opn || o.drp) = true -> cr = o.cr ∧ cut = o.drp) ∧ (o.opn || o.drp || decide (0 < o.held)) = true := by
 by_cases hx : ∃ (i : Nat) (o : Lk.Ot), e.oth[i]? = some o ∧ (o.id : Int) = k
 . obtain ⟨i, o, ho, hk⟩ := hx
   obtain ⟨h1, cr, cut, h2, h3⟩ := (h.yZ i o ho).some (by rw [hk]; exact hp)
   exact ⟨i, o, cr, cut, ho, hk, h2, h3, h1⟩
 . have := h.none k (fun i o ho hk => hx ⟨i, o, ho, hk⟩)
   rw [this] at hp
   cases hp
theorem ji.only {S : Nat -> Prop} {w w' : World} {ins : Int -> Option Nat} {o : Lk.Ot} (h : ji w ins o) (k : Only S w w') (hn : ∀ p, ins o.id = Option.some p -> ¬ S p) : ji w' ins o := by
 unfold ji at h ⊢
 cases hp : ins o.id with
 | none => rw [hp] at h; exact h
 | some p =>
   rw [hp] at h
   obtain ⟨h1, cr, cut, h2, h3⟩ := h
   exact ⟨h1, cr, cut, h2.only k (hn p hp), h3⟩
theorem Live.lt {w : World} {b : Nat} {e : Lk.En} {d : PD} (h : Live w b e d) : ∀ i, foot b d i -> i < w.heap.size := by
 intro i hi
 rcases hi with rfl | hi | hi | hi | hi | hi | rfl | ⟨k, hi⟩
 . exact h.rw.lt
 . exact (h.out.lt i hi).2
 . exact (h.inn.lt i hi).2
 . exact (h.sl.lt i hi).2
 . obtain ⟨o, hI⟩ := h.outs.mem hi; exact hI.lt
 . exact h.rw.row.lt i hi
 . exact h.map.lt
 . obtain ⟨_, _, _, _, _, _, hI, _⟩ := h.KX hi; exact hI.lt
theorem Live.only {S : Nat -> Prop} {w w' : World} {b : Nat} {e : Lk.En} {d : PD} (h : Live w b e d) (k : Only S w w') (hn : ∀ i, foot b d i -> ¬ S i) : Live w' b e d :=
 ⟨h.rw.only k (hn b (.inl rfl)) (fun r hr => hn r (.inr (.inr (.inr (.inr (.inr (.inl hr))))))), h.o9, h.good,
  ag h.out k (fun i hi => hn i (.inr (.inl hi))), ag h.inn k (fun i hi => hn i (.inr (.inr (.inl hi)))), ag h.sl k (fun i hi => hn i (.inr (.inr (.inr (.inl hi))))),
  h.outs.only k (fun p hp => hn p (.inr (.inr (.inr (.inr (.inl hp)))))), h.psn, h.ps4, h.map.only k (hn d.mb (.inr (.inr (.inr (.inr (.inr (.inr (.inl rfl)))))))), h.mn,
  fun i o ho => (h.yZ i o ho).only k (fun p hp => hn p (.inr (.inr (.inr (.inr (.inr (.inr (.inr ⟨_, hp⟩)))))))), h.none, h.inj, h.wf, h.pos⟩
theorem Live.fQ {w : World} {b : Nat} {e : Lk.En} {d : PD} (h : Live w b e d) (x : Nat) (hx : x = b ∨ x ∈ d.rs) : d.ov.ownBlock ≠ some x ∧ d.iv.ownBlock ≠ some x ∧ d.sv.ownBlock ≠ some x ∧ x ∉ d.ps ∧ x ≠ d.mb ∧ ∀ k, d.ins k ≠ some x := by
 have hI : (∃ c, Is w x 101 c) ∨ (∃ c, Is w x 167 c) := by
  rcases hx with rfl | hx
  . exact .inl ⟨_, h.rw.blk⟩
  . obtain ⟨_, _, hy⟩ := h.rw.row.links.is x hx; exact .inr ⟨_, hy⟩
 refine ⟨fun e => ?_, fun e => ?_, fun e => ?_, fun hm => ?_, fun e => ?_, fun k hk => ?_⟩
 . rcases hI with ⟨c, hI⟩ | ⟨c, hI⟩ <;> exact own_ne h.out hI (nbq rfl) e.symm
 . rcases hI with ⟨c, hI⟩ | ⟨c, hI⟩ <;> exact own_ne h.inn hI (nbq rfl) e.symm
 . rcases hI with ⟨c, hI⟩ | ⟨c, hI⟩ <;> exact own_ne h.sl hI (nbq rfl) e.symm
 . obtain ⟨o, hy⟩ := h.outs.mem hm
   rcases hI with ⟨c, hI⟩ | ⟨c, hI⟩ <;> exact hI.ne hy (nbq rfl) rfl
 . rcases hI with ⟨c, hI⟩ | ⟨c, hI⟩ <;> exact h.map.ne hI e.symm
 . obtain ⟨_, _, _, _, _, _, hy, _⟩ := h.KX hk
   rcases hI with ⟨c, hI⟩ | ⟨c, hI⟩ <;> exact hI.ne hy (nbq rfl) rfl
theorem Live.I5 {w w' : World} {b : Nat} {e e' : Lk.En} {d : PD} {c' : EC} {fs' : List Lk.Fr} {rs' : List Nat} (h : Live w b e d) (hR : Rw w' b c' fs') (hO : Only (fun i => i = b ∨ i ∈ d.rs) w w')
 (hc : c' = fH e' { d with rs := rs', fs := fs' }) (h1 : e'.own = e.own) (h2 : e'.oth = e.oth) (h3 : e'.out = e.out) (h4 : e'.inn = e.inn) (hrow : e'.row = fs'.map Lk.Fr.pack) (hg : ∀ f ∈ fs', Lk.Good f.k f.st f.d) (hw : Lk.Wf e') (hp : ∀ x ∈ rs', x ∈ d.rs ∨ w.heap.size <= x) :
 Live w' b e' { d with rs := rs', fs := fs' } ∧ (∀ i, foot b { d with rs := rs', fs := fs' } i -> foot b d i ∨ w.heap.size <= i) ∧ Only (foot b d) w w' := by
 have hs := h.fQ
 have hf : ∀ i, foot b { d with rs := rs', fs := fs' } i -> foot b d i ∨ w.heap.size <= i := by
  intro i hi
  rcases hi with hi | hi | hi | hi | hi | hi | hi | hi
  . exact .inl (.inl hi)
  . exact .inl (.inr (.inl hi))
  . exact .inl (.inr (.inr (.inl hi)))
  . exact .inl (.inr (.inr (.inr (.inl hi))))
  . exact .inl (.inr (.inr (.inr (.inr (.inl hi)))))
  . exact (hp i hi).imp (fun h => .inr (.inr (.inr (.inr (.inr (.inl h)))))) id
  . exact .inl (.inr (.inr (.inr (.inr (.inr (.inr (.inl hi)))))))
  . exact .inl (.inr (.inr (.inr (.inr (.inr (.inr (.inr hi)))))))
 refine ⟨⟨by rw [<- hc]; exact hR, hrow, hg, ?_, ?_, ?_, ?_, h.psn, h.ps4, ?_, by rw [h2]; exact h.mn, ?_, by rw [h2]; exact h.none, h.inj, hw, ?_⟩, hf, hO.mono (fun i hi => hi.imp id (fun h => .inr (.inr (.inr (.inr (.inl h))))))⟩
 . rw [h3]; exact ag h.out hO (fun i hi hx => (hs i hx).1 hi)
 . rw [h4]; exact ag h.inn hO (fun i hi hx => (hs i hx).2.1 hi)
 . exact ag h.sl hO (fun i hi hx => (hs i hx).2.2.1 hi)
 . have : gJ e' = gJ e := by unfold gJ; rw [h1]
   rw [this]
   exact h.outs.only hO (fun p hp hx => (hs p hx).2.2.2.1 hp)
 . exact h.map.only hO (fun hx => (hs _ hx).2.2.2.2.1 rfl)
 . rw [h2]
   exact fun i o ho => (h.yZ i o ho).only hO (fun p hp hx => (hs p hx).2.2.2.2.2 _ hp)
 . intro i hi
   rcases hf i hi with h' | h'
   . exact h.pos i h'
   . have := h.pos b (.inl rfl)
     have := h.rw.lt
     omega
theorem CQ (w : World) (B : Nat) (v : Value) (n : Nat) (h : w.ownsRow B 5 1 v (Lk.wire n).length (bytesV (Lk.wire n))) : (convert 78 9 v).run Tryz.prog w = .ok (.string (bs (Lk.wire n))) w := jE h (Lk.dw n)
theorem dS (k st : Int) (n : Nat) (z : Int) (hz : z = n) (h : n <= 268435455) (w : World) : Calls Tryz.prog 115 #[.int .i64 k, .int .i64 st, .int .i64 z] w fun e w' => e = .returned (.agg #[.int .i64 k, .int .i64 st, .string (bs (Lk.wire n))]) ∧ Below w.heap.size w w' := by
 subst hz
 have HX := hide (Is.new w 79 [.int .i64 0, .int .i64 0, .string ⟨#[]⟩])
 have HB := hide ((Below.refl w.heap.size w).alloc (Nat.le_refl _) (.cells #[.int .i64 0, .int .i64 0, .string ⟨#[]⟩] 79))
 go_enter Tryz.func115, Tryz.ntmps115
 go_wp2_with fail
 refine (fP (w.heap.size + 1) (.slice none 0 0) [] n h _ (by simp) (World.ownsRow_nil _ _ _ _) (by simp)).mono ?_
 rintro e w1 ⟨v1, rfl, ho1, hb1, hk1⟩
 rw [List.nil_append] at ho1
 have hcv := CQ w1 _ v1 n ho1
 have hX1 := (uh HX).below hb1 (by omega)
 have hbel := (uh HB).trans (hb1.mono (by omega))
 have n0 := hX1.cell 0
 have n1 := hX1.cell 1
 have n2 := hX1.cell 2
 have g0 := hX1.free 0
 have g1 := hX1.free 1
 have g2 := hX1.free 2
 have hl := hX1.lt
 simp only [List.getElem?_cons_zero, List.getElem?_cons_succ] at n0 n1 n2
 clear hb1 hX1 ho1 hk1
 go_wp2_with fail
 exact bodyPost_ret (v := .agg #[.int .i64 k, .int .i64 st, .string (bs (Lk.wire n))]) (by simp [results, Tryz.results115, go_sem, n0, n1, n2]) rfl ⟨rfl, ((hbel.setCell (by simp) _).setCell (by simp) _).setCell (by simp) _⟩
theorem Gt (d : Lk.Bs) : (Lk.rd 0 0 d).val = (Lk.numOf d : Int) := by
 unfold Lk.numOf
 cases Lk.rd 0 0 d <;> rfl
theorem jq (f : Lk.Fr) (w : World) (hd : f.d.length <= 1000) : Calls Tryz.prog 143 #[frA f] w fun e w' => e = .returned (.int .i64 (Lk.numOf f.d : Int)) ∧ Below w.heap.size w w' := by
 have hs : (bs f.d).size <= maxLen := by rw [ax]; unfold maxLen; omega
 have hb0 := (Below.refl w.heap.size w).alloc (Nat.le_refl _) (.cells #[.int .i64 (f.k : Int), .int .i64 (f.st : Int), .string (bs f.d)] 79)
 have hb1 := hb0.alloc (by simp) (.cells #[.string (bs f.d), .int .i64 0] 83)
 have HB := hide hb1
 clear hb0 hb1
 have hI := Is.new (w.alloc (.cells #[.int .i64 (f.k : Int), .int .i64 (f.st : Int), .string (bs f.d)] 79)) 83 [.string (bs f.d), .int .i64 0]
 rw [World.size_alloc] at hI
 have HC := hide (iZ (w.heap.size + 1) 83 (bs f.d) 0 [] _ hs (Nat.zero_le _) hI)
 clear hI
 go_enter Tryz.func143, Tryz.ntmps143
 go_wp2_with fail
 refine (uh HC).mono ?_
 rintro e w1 ⟨rfl, hI1, hT1⟩
 have hl : ((bs f.d).data.toList.drop 0) = f.d := by simp [bs]
 rw [hl, Gt]
 have hbel : Below w.heap.size w w1 := Turns.toBelow (uh HB) hT1 (by omega) (by simp; omega)
 clear hI1 hT1 hl
 go_wp2_with fail
 go_ret
 exact ⟨rfl, hbel⟩
theorem Gu (b : Nat) (n : Int) (w : World) (_hb : b < w.heap.size) (c : w.cell? ⟨b, 15, none⟩ = some (.int .i64 n)) (hn : 0 <= n) (hn2 : n <= 2 ^ 40) : Calls Tryz.prog 121 #[.pointer (some ⟨b, 11, none⟩)] w fun e w' => e = .returned (.int .i64 (max (n - 2) 0)) ∧ w' = w := by
 have hmax := Lu Tryz.prog w #[3, 3] 3 (n - 2) 0
 go_enter Tryz.func121, Tryz.ntmps121
 go_wp2_with fail
 go_ret
 exact ⟨rfl, rfl⟩
theorem bJ (b : Nat) (n : Int) (w : World) (_hb : b < w.heap.size) (c : w.cell? ⟨b, 2, none⟩ = some (.int .i64 n)) : Calls Tryz.prog 42 #[.pointer (some ⟨b, 0, none⟩)] w fun e w' => e = .returned (.bool (n != 0)) ∧ w' = w := by
 go_enter Tryz.func42, Tryz.ntmps42
 go_wp2_with fail
 go_ret
 exact ⟨rfl, rfl⟩
theorem Rw.drew {w : World} {b : Nat} {c : EC} {fs : List Lk.Fr} (h : Rw w b c fs) : Rw w.drew b c fs := h.only ((Only.refl (fun _ => False) w).drew) (fun h => h) (fun _ _ h => h)
theorem Rw.below {w w' : World} {b : Nat} {c : EC} {fs : List Lk.Fr} (h : Rw w b c fs) (hb : Below w.heap.size w w') : Rw w' b c fs := h.only (Only.of_below hb (fun _ => False)) (fun h => h) (fun _ _ h => h)
theorem Rw.EH {w w' : World} {b : Nat} {c : EC} {fs : List Lk.Fr} (h : Rw w b c fs) (hb : Below w.drew.heap.size w.drew w') : Rw w' b c fs := h.below ⟨hb.os, hb.tape, hb.output, hb.size, hb.block⟩
def bf (w : World) (b : Nat) (d : PD) (e' : Lk.En) (w' : World) : Prop := ∃ d', Live w' b e' d' ∧ (∀ i, foot b d' i -> foot b d i ∨ w.heap.size <= i) ∧ Only (foot b d) w w'
theorem bf.same {w : World} {b : Nat} {e : Lk.En} {d : PD} (h : Live w b e d) : bf w b d e w := ⟨d, h, fun _ hi => .inl hi, Only.refl _ _⟩
theorem iV {w : World} {rs : List Nat} {n : Nat} (hn : w.heap.size <= n) : ∀ x ∈ rs ++ [n], x ∈ rs ∨ w.heap.size <= x := by
 intro x hx
 rcases List.mem_append.1 hx with h | h
 . exact .inl h
 . simp at h; subst h; exact .inr hn
theorem Live.put {w w' : World} {b n : Nat} {e : Lk.En} {d : PD} {k st : Nat} {dt : Lk.Bs} (h : Live w b e d) (hR : Rw w' b { fH e d with rs := d.rs ++ [n] } (d.fs ++ [⟨k, st, dt⟩])) (hn : w.heap.size <= n) (hO : Only (fun i => i = b ∨ i ∈ d.rs) w w') (hg : Lk.Good k st dt) (hk : k ≠ 1 ∧ k ≠ 2 := by omega) :
 bf w b d (e.send k st dt) w' := by
 refine ⟨_, h.I5 hR hO (rs' := d.rs ++ [n]) rfl rfl rfl rfl rfl ?_ ?_ (h.wf.send hg hk) (iV hn)⟩
 . show e.row ++ [Lk.packed k st dt] = _
   rw [h.o9]
   simp [Lk.Fr.pack]
 . intro f hf
   rcases List.mem_append.1 hf with hf | hf
   . exact h.good f hf
   . simp at hf
     subst hf
     exact hg
theorem MQ (b : Nat) (e : Lk.En) (d : PD) (t : Lk.Bs) (w : World) (hL : Live w b e d) (hdn : e.down = 0) (ht : t.length = 8) :
 Calls Tryz.prog 33 #[.pointer (some ⟨b, 0, none⟩), .string (bs t)] w fun r w' => r = .returned (.int .i64 0) ∧ bf w b d (e.send 5 0 t) w' := by
 have hR := hL.rw
 have hbl := hR.lt
 have c2 : w.cell? ⟨b, 2, none⟩ = some (.int .i64 0) := hL.c2 hdn
 clear hdn
 have hts : ((bs t).size : Int) = 8 := by rw [ax, ht]; rfl
 have HL := hide hL
 clear hL
 go_enter Tryz.func33, Tryz.ntmps33
 go_wp2_with fail
 refine (bJ b 0 w hbl c2).mono ?_
 rintro r w1 ⟨rfl, rfl⟩
 go_wp2_with fail
 go_cut [] (fun wc => bf w1 b d (e.send 5 0 t) wc)
 case first =>
  go_region_with (first
   | (go_at_call 70; refine (clone_any (bs t) _ (by omega)).mono ?_; rintro r w2 ⟨rfl, hb2⟩)
   | (go_at_call 45; refine (fC b (fH e d) d.fs ⟨5, 0, t⟩ _ (hR.EH hb2)).mono ?_; rintro r w3 ⟨rfl, n, hn, hR3, hO3⟩))
  all_goals
   go_wp2_with fail
   go_meet
   have hb2' : Below w1.heap.size w1 w2 := ⟨hb2.os, hb2.tape, hb2.output, hb2.size, hb2.block⟩
   have hsz := hb2'.size
   exact (uh HL).put hR3 (by omega) ((Only.of_below hb2' _).trans hO3 (fun i hi _ => hi)) (Lk.iY 5 t (by omega) ht)
 case rest =>
  go_wp2_with fail
  go_ret
  exact ⟨rfl, hcut⟩
theorem MR (b : Nat) (e : Lk.En) (d : PD) (t : ByteArray) (w : World) (hL : Live w b e d) (hdn : e.down = 0) (ht : t.size ≠ 8) :
 Calls Tryz.prog 33 #[.pointer (some ⟨b, 0, none⟩), .string t] w fun r w' => r = .returned (.int .i64 6) ∧ w' = w := by
 have hbl := hL.rw.lt
 have c2 : w.cell? ⟨b, 2, none⟩ = some (.int .i64 0) := hL.c2 hdn
 clear hdn
 have hts : ((t.size : Int) != 8) = true := by rw [bne_iff_ne]; omega
 clear hL ht
 go_enter Tryz.func33, Tryz.ntmps33
 go_wp2_with fail
 refine (bJ b 0 w hbl c2).mono ?_
 rintro r w1 ⟨rfl, rfl⟩
 go_wp2_with fail
 go_ret
 exact ⟨rfl, rfl⟩
theorem MS (b : Nat) (e : Lk.En) (d : PD) (t : ByteArray) (w : World) (hL : Live w b e d) (hdn : e.down = 0) :
 Calls Tryz.prog 33 #[.pointer (some ⟨b, 0, none⟩), .string t] w fun r w' => r = .returned (.int .i64 ((e.iy t.data.toList).1 : Int)) ∧ bf w b d (e.iy t.data.toList).2 w' := by
 have hl := af t
 unfold Lk.En.iy
 rw [if_neg (by rw [hdn]; simp)]
 by_cases ht : t.size = 8
 . rw [if_neg (by omega)]
   have e1 : t = bs t.data.toList := by simp [bs]
   have := MQ b e d t.data.toList w hL hdn (by omega)
   rw [<- e1] at this
   exact this
 . rw [if_pos (by omega)]
   refine (MR b e d t w hL hdn ht).mono ?_
   rintro r w' ⟨rfl, rfl⟩
   exact ⟨rfl, bf.same hL⟩
theorem sZ (b n : Nat) (c : EC) (fs : List Lk.Fr) (w : World) (hR : Rw w b c fs) (hn : c.su = (n : Int)) (hn2 : n <= 268435457) :
 Calls Tryz.prog 71 #[.pointer (some ⟨b, 0, none⟩)] w fun r w' => r = .returned (.tuple #[]) ∧ ∃ m, w.heap.size <= m ∧ Rw w' b { c with bs := true, rs := c.rs ++ [m] } (fs ++ [⟨7, 0, Lk.wire (n - 2)⟩]) ∧ Only (fun i => i = b ∨ i ∈ c.rs) w w' := by
 have hbl := hR.lt
 have c20 : w.cell? ⟨b, 20, none⟩ = some (.bool c.bs) := hR.blk.cell 20
 have f20 := hR.blk.free 20
 have hI1 : Is (w.setCell ⟨b, 20, none⟩ (.bool true)) b 101 ({ c with bs := true } : EC).cells := hR.blk.set 20 (.bool true)
 have hO1 : Only (· = b) w (w.setCell ⟨b, 20, none⟩ (.bool true)) := (Only.refl _ w).set b 20 _ (fun _ => rfl)
 have hR1 : Rw (w.setCell ⟨b, 20, none⟩ (.bool true)) b { c with bs := true } fs := hR.cell hI1 hO1 rfl
 have c15 : (w.setCell ⟨b, 20, none⟩ (.bool true)).cell? ⟨b, 15, none⟩ = some (.int .i64 c.su) := hR1.blk.cell 15
 rw [hn] at c15
 have hmx : (max ((n : Int) - 2) 0) = ((n - 2 : Nat) : Int) := by omega
 have HMX := hide hmx
 have HR1 := hide hR1
 have HO1 := hide hO1
 clear hR hI1 hO1 hmx
 go_enter Tryz.func71, Tryz.ntmps71
 go_wp2_with fail
 go_region_with (first
  | (go_at_call 121; refine (Gu b n (w.setCell ⟨b, 20, none⟩ (.bool true)).drew (by simpa using hbl) c15 (by omega) (by omega)).mono ?_; rw [uh HMX]; rintro r w2 ⟨rfl, rfl⟩)
  | (go_at_call 115; refine (dS 7 0 (n - 2) _ rfl (by omega) _).mono ?_; rintro r w3 ⟨rfl, hb3⟩)
  | (go_at_call 45; refine (fC b { c with bs := true } fs ⟨7, 0, Lk.wire (n - 2)⟩ _ ((uh HR1).EH hb3)).mono ?_; rintro r w4 ⟨rfl, m, hm, hR4, hO4⟩))
 all_goals
  go_wp2_with fail
  go_end0
  have hsz : w.heap.size <= w3.heap.size := by simpa using hb3.size
  refine ⟨rfl, m, by omega, hR4, ?_⟩
  have h1 : Only (fun i => i = b ∨ i ∈ c.rs) w (w.setCell ⟨b, 20, none⟩ (.bool true)) := (uh HO1).mono (fun i hi => .inl hi)
  exact (h1.below (bQ hb3)).trans hO4 (fun i hi _ => hi)
theorem wH {e : Lk.En} (h : Lk.Wf e) : e.bT = ah e - 2 := by
 unfold Lk.En.bT ah
 have hs := h.side
 cases hl : e.oth.getLast? with
 | none =>
   have : e.oth = [] := List.getLast?_eq_none_iff.1 hl
   simp [this] <;> omega
 | some o =>
   rw [List.getLast?_eq_getElem?] at hl
   have := (h.oth _ o hl).id
   have hlt := (List.getElem?_eq_some_iff.1 hl).1
   simp only
   omega
theorem lY {e : Lk.En} (h : Lk.Wf e) : ah e <= 268435457 := by
 unfold ah
 have hs := h.side
 rcases Nat.eq_zero_or_pos e.oth.length with h0 | h0
 . omega
 . have hl : e.oth[e.oth.length - 1]? = some (e.oth[e.oth.length - 1]'(by omega)) := List.getElem?_eq_getElem (by omega)
   have h1 := (h.oth _ _ hl).id
   have h2 := (h.oth _ _ hl).oL
   omega
theorem Rk (b : Nat) (e : Lk.En) (d : PD) (w : World) (hL : Live w b e d) (hdn : e.down = 0) (hb : e.iH = true) :
 Calls Tryz.prog 34 #[.pointer (some ⟨b, 0, none⟩)] w fun r w' => r = .returned (.int .i64 12) ∧ w' = w := by
 have hbl := hL.rw.lt
 have c2 : w.cell? ⟨b, 2, none⟩ = some (.int .i64 0) := hL.c2 hdn
 clear hdn
 have c20 : w.cell? ⟨b, 20, none⟩ = some (.bool e.iH) := hL.rw.blk.cell 20
 rw [hb] at c20
 clear hL hb
 go_enter Tryz.func34, Tryz.ntmps34
 go_wp2_with fail
 refine (bJ b 0 w hbl c2).mono ?_
 rintro r w1 ⟨rfl, rfl⟩
 go_wp2_with fail
 go_ret
 exact ⟨rfl, rfl⟩
theorem PH (b : Nat) (e : Lk.En) (d : PD) (w : World) (hL : Live w b e d) (hdn : e.down = 0) (hb : e.iH = false) :
 Calls Tryz.prog 34 #[.pointer (some ⟨b, 0, none⟩)] w fun r w' => r = .returned (.int .i64 0) ∧ bf w b d e.bye w' := by
 have hbl := hL.rw.lt
 have c2 : w.cell? ⟨b, 2, none⟩ = some (.int .i64 0) := hL.c2 hdn
 clear hdn
 have c20 : w.cell? ⟨b, 20, none⟩ = some (.bool e.iH) := hL.rw.blk.cell 20
 rw [hb] at c20
 have HC := hide (sZ b (ah e) (fH e d) d.fs w hL.rw rfl (lY hL.wf))
 have HL := hide hL
 clear hL hb
 go_enter Tryz.func34, Tryz.ntmps34
 go_wp2_with fail
 refine (bJ b 0 w hbl c2).mono ?_
 rintro r w1 ⟨rfl, rfl⟩
 go_wp2_with fail
 refine (uh HC).mono ?_
 rintro r w2 ⟨rfl, m, hm, hR, hO⟩
 go_wp2_with fail
 go_ret
 refine ⟨rfl, ?_⟩
 have hL := uh HL
 have hg := Lk.qU (ah e - 2) (by have := lY hL.wf; omega)
 refine ⟨_, hL.I5 hR hO (e' := e.bye) (rs' := d.rs ++ [m]) rfl rfl rfl rfl rfl ?_ ?_ hL.wf.bye (iV hm)⟩
 . show e.row ++ [Lk.packed 7 0 (Lk.wire e.bT)] = _
   rw [hL.o9, wH hL.wf]
   simp [Lk.Fr.pack]
 . intro f hf
   rcases List.mem_append.1 hf with hf | hf
   . exact hL.good f hf
   . simp at hf
     subst hf
     exact hg
theorem PI (b : Nat) (e : Lk.En) (d : PD) (w : World) (hL : Live w b e d) (hdn : e.down = 0) :
 Calls Tryz.prog 34 #[.pointer (some ⟨b, 0, none⟩)] w fun r w' => r = .returned (.int .i64 (e.iC.1 : Int)) ∧ bf w b d e.iC.2 w' := by
 unfold Lk.En.iC
 rw [if_neg (by rw [hdn]; simp)]
 cases hb : e.iH with
 | true =>
   rw [if_pos rfl]
   refine (Rk b e d w hL hdn hb).mono ?_
   rintro r w' ⟨rfl, rfl⟩
   exact ⟨rfl, bf.same hL⟩
 | false =>
   rw [if_neg (by simp)]
   exact PH b e d w hL hdn hb
end Go.Proofs.YtbkpdapagfjmmaaGreatDoor
