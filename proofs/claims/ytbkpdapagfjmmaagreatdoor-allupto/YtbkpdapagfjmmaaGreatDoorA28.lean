import Derived.Test.YtbkpdapagfjmmaaGreatDoorA22
import Derived.Test.YtbkpdapagfjmmaaGreatDoorA27
set_option linter.unusedVariables false
set_option maxRecDepth 100000
set_option maxHeartbeats 16000000
namespace Go.Proofs.YtbkpdapagfjmmaaGreatDoor
open Go.RowKit
variable {κ : Prop}
theorem EZ : (Tryz.prog.info? 261).map (fun i => (i.zero, i.size, i.bytes)) = some (some (.agg #[.int .i64 0, .int .i64 0, .int .i64 0, .slice none 0 0, .string ⟨#[]⟩]), 5, 64) := by kernel_rfl
structure RSaid (w : World) (B : Nat) (v : Value) (evs : List EvH) : Prop where
 row : w.ownsRow B 261 5 v evs.length (nH evs)
 hds : ∀ p ∈ evs, w.ownsRow B 206 2 p.2 p.1.hs.length (aQ p.1.hs)
def jT (v : Value) (evs : List EvH) (i : Nat) : Prop := v.ownBlock = some i ∨ ∃ p ∈ evs, p.2.ownBlock = some i
theorem RSaid.nil (w : World) (B : Nat) : RSaid w B gQ [] := ⟨World.ownsRow_nil _ _ _ _, by simp⟩
theorem RSaid.only {S : Nat -> Prop} {w w' : World} {B : Nat} {v : Value} {evs : List EvH} (h : RSaid w B v evs) (k : Only S w w') (hn : ∀ i, jT v evs i -> ¬ S i) : RSaid w' B v evs :=
 ⟨ag h.row k (fun i hi => hn i (.inl hi)), fun p hp => ag (h.hds p hp) k (fun i hi => hn i (.inr ⟨p, hp, hi⟩))⟩
theorem RSaid.lt {w : World} {B : Nat} {v : Value} {evs : List EvH} (h : RSaid w B v evs) {i : Nat} (hi : jT v evs i) : B <= i ∧ i < w.heap.size := by
 rcases hi with hi | ⟨p, hp, hi⟩
 . exact h.row.lt i hi
 . exact (h.hds p hp).lt i hi
def fA (κ : Prop) (w : World) (b : Nat) (p : RP) (R : Nat) (E : Lk.En) (evl : List Lk.Ev) (r : Ending) (w' : World) : Prop :=
 ∃ v evs p', r = .returned (.tuple #[v, .int .i64 (R : Int)]) ∧ evs.map Prod.fst = evl ∧ RSaid w' w.heap.size v evs ∧ (∀ i, jT v evs i -> ¬ aI b p' i) ∧ aT κ w' b E p' ∧ (∀ i, aI b p' i -> aI b p i ∨ w.heap.size <= i) ∧ Only (aI b p) w w'
theorem fA.none {w w' : World} {b : Nat} {p : RP} {R : Nat} {E : Lk.En} (h : aj κ w b p E w') : fA κ w b p R E [] (.returned (.tuple #[.slice Option.none 0 0, .int .i64 (R : Int)])) w' := by
 obtain ⟨p', h1, h2, h3⟩ := h
 refine ⟨_, [], p', rfl, rfl, RSaid.nil _ _, fun i hi => ?_, h1, h2, h3⟩
 rcases hi with hi | ⟨p, hp, _⟩
 . cases hi
 . cases hp
theorem fA.plain {w w1 w' : World} {b : Nat} {p : RP} {R : Nat} {E : Lk.En} {v : Value} {evs : List EvH} (hB : w.heap.size <= w1.heap.size) (h : aj κ w b p E w') (ho : w'.ownsRow w1.heap.size 261 5 v evs.length (nH evs)) (hn : ∀ q ∈ evs, q.2 = .slice Option.none 0 0 ∧ q.1.hs = []) : fA κ w b p R E (evs.map Prod.fst) (.returned (.tuple #[v, .int .i64 (R : Int)])) w' := by
 obtain ⟨p', h1, h2, h3⟩ := h
 have ho' : w'.ownsRow w.heap.size 261 5 v evs.length (nH evs) := by
  refine ⟨ho.1, ?_⟩
  rcases ho.2 with k | ⟨g, cap, cur, k0, k1, k2⟩
  . exact .inl k
  . exact .inr ⟨g, cap, cur, k0, by omega, k2⟩
 refine ⟨v, evs, p', rfl, rfl, ⟨ho', fun q hq => ?_⟩, fun i hi => ?_, h1, h2, h3⟩
 . obtain ⟨k1, k2⟩ := hn q hq
   rw [k1, k2]
   exact World.ownsRow_nil _ _ _ _
 . rcases hi with hi | ⟨q, hq, hi⟩
   . obtain ⟨cs, hI⟩ := iM ho hi
     obtain ⟨a1, a2, a3, a4, a5, a6, a7⟩ := h1.apt hI
     have a1 := a1 (nbq rfl)
     have a2 := a2 (nbq rfl)
     have a3 := a3 (nbq rfl)
     have a4 := a4 (nbq rfl)
     have a5 := a5 (nbq rfl)
     have a6 := a6 (nbq rfl)
     have a7 := a7 (nbq rfl)
     rintro (k | k | k | k | k | k | k | k | k)
     . exact a1 k.symm
     . exact a2.1 k.symm
     . exact a2.2 k.symm
     . exact a3 k.symm
     . exact a4.1 i k rfl
     . exact a4.2 i k rfl
     . exact a5 i k rfl
     . exact a6 i k rfl
     . exact a7 i k rfl
   . rw [(hn q hq).1] at hi
     cases hi
theorem fA.ev {w W1 W2 w' : World} {b : Nat} {E : Lk.En} {p : RP} {R : Nat} {v : Value} {evs : List EvH} (hbw : Below w.heap.size w W2) (hs : w.heap.size <= W1.heap.size) (hlt : ∀ i, aI b p i -> i < W1.heap.size) (ho : W2.ownsRow W1.heap.size 261 5 v evs.length (nH evs)) (hn : ∀ q ∈ evs, q.2 = .slice Option.none 0 0 ∧ q.1.hs = []) (h : aj κ W2 b p E w') : fA κ w b p R E (evs.map Prod.fst) (.returned (.tuple #[v, .int .i64 (R : Int)])) w' := by
 refine fA.plain hs (aj.before hbw h) ?_ hn
 obtain ⟨p', _, _, hO⟩ := h
 exact ag ho hO (fun i hi hx => by
  have := (ho.lt i hi).1
  have := hlt i hx
  omega)
theorem E5 (w : World) (T : TypeId) (q : EvH) : (w.alloc (.cells #[.int .i64 (q.1.k : Int), .int .i64 (q.1.st : Int), .int .i64 (q.1.n : Int), q.2, .string (bs q.1.t)] T)).ownsRow w.heap.size T 5 (.slice (some ⟨w.heap.size, 0, none⟩) 1 1) [q].length (nH [q]) :=
 ⟨rfl, .inr ⟨w.heap.size, 1, _, rfl, Nat.le_refl _, heap_alloc_new w _, Nat.le_refl _, by unfold maxLen; omega, rfl, by simp [nH, evV]⟩⟩
theorem Dh (b : Nat) (e : Lk.En) (p : RP) (f : Lk.Fr) (w : World) (h : aT κ w b e p) (hw : Lk.Wf e) (hd : f.d.length <= 64) (hl : e.row.length <= 2 ^ 41) :
 Calls Tryz.prog 182 #[.pointer (some ⟨b, 0, none⟩), frV f] w (fA κ w b p (e.dh f).2.1 (e.dh f).2.2 (e.dh f).1) := by
 have hfld := pq
 have Gl := hw.wF
 have PE := hw.wE
 have hroom := hw.room
 have hwin := hw.kN
 have hbW := (Below.refl w.heap.size w).alloc (Nat.le_refl _) (.cells #[.int .i64 (f.k : Int), .int .i64 (f.st : Int), .string (bs f.d)] 66)
 have hBx := Is.new w 66 [.int .i64 (f.k : Int), .int .i64 (f.st : Int), .string (bs f.d)]
 have hW := h.below hbW
 have hwW : w.heap.size < (w.alloc (.cells #[.int .i64 (f.k : Int), .int .i64 (f.st : Int), .string (bs f.d)] 66)).heap.size := by simp
 generalize hWW : w.alloc (.cells #[.int .i64 (f.k : Int), .int .i64 (f.st : Int), .string (bs f.d)] 66) = W at *
 have o1 : W.cell? ⟨w.heap.size, 1, none⟩ = some (.int .i64 (f.st : Int)) := hBx.cell 1
 have o2 : W.cell? ⟨w.heap.size, 2, none⟩ = some (.string (bs f.d)) := hBx.cell 2
 have HOW := hide (qY b e p (f.st : Int) W hW (by omega))
 have HOT := hide (lX b e p (f.st : Int) W hW (by omega))
 have kQ := hide (xX f.d W hd)
 have HBX := hide (fun W1 (hb : Below W.heap.size W W1) => (⟨(hBx.below hb hwW).cell 1, Nat.lt_of_lt_of_le hwW hb.size⟩ : _ ∧ _))
 have HEV : Hid (∀ W1, Below W.heap.size W W1 -> aT κ (W1.alloc (.cells #[.int .i64 4, .int .i64 (f.st : Int), .int .i64 (Lk.numOf f.d : Int), .slice none 0 0, .string ⟨#[]⟩] 261)) b e p ∧ Below w.heap.size w (W1.alloc (.cells #[.int .i64 4, .int .i64 (f.st : Int), .int .i64 (Lk.numOf f.d : Int), .slice none 0 0, .string ⟨#[]⟩] 261)) ∧ (w.heap.size <= W1.heap.size ∧ ∀ i, aI b p i -> i < W1.heap.size) ∧ (W1.alloc (.cells #[.int .i64 4, .int .i64 (f.st : Int), .int .i64 (Lk.numOf f.d : Int), .slice none 0 0, .string ⟨#[]⟩] 261)).ownsRow W1.heap.size 261 5 (.slice (some ⟨W1.heap.size, 0, none⟩) 1 1) [((⟨4, f.st, Lk.numOf f.d, [], []⟩ : Lk.Ev), (.slice none 0 0 : Value))].length (nH [((⟨4, f.st, Lk.numOf f.d, [], []⟩ : Lk.Ev), (.slice none 0 0 : Value))])) := by
  intro W1 hb
  have hb2 := hb.alloc hb.size (.cells #[.int .i64 4, .int .i64 (f.st : Int), .int .i64 (Lk.numOf f.d : Int), .slice none 0 0, .string ⟨#[]⟩] 261)
  refine ⟨hW.below hb2, hbW.trans (hb2.mono (by omega)), ⟨by have := hb.size; omega, fun i hi => by have := hW.lt hi; have := hb.size; omega⟩, E5 W1 261 ((⟨4, f.st, Lk.numOf f.d, [], []⟩ : Lk.Ev), (.slice none 0 0 : Value))⟩
 have Aq : Hid True := trivial
 have hev : ∀ q ∈ [((⟨4, f.st, Lk.numOf f.d, [], []⟩ : Lk.Ev), (.slice none 0 0 : Value))], q.2 = .slice none 0 0 ∧ q.1.hs = [] := fun q hq => by simp at hq; subst hq; exact ⟨rfl, rfl⟩
 have Vk := hide hev
 unfold Lk.En.dh
 clear h hW hbW hBx hev
 cases hx : Lk.bK e.own (f.st : Int) with
 | some i =>
   obtain ⟨o, ho, hid⟩ := Lk.dR hx
   have hi : i < e.own.length := (List.getElem?_eq_some_iff.1 ho).1
   have hi' : (i : Int) < e.own.length := by omega
   have hi0 : (0 : Int) <= i := by omega
   have hi1 : ¬ (i : Int) < 0 := by omega
   rw [hx] at HOW
   simp only [ixO] at HOW
   simp only [Option.bind_some, ho, Option.map_some]
   have HAT := hide (fun W1 (hR : aT κ W1 b e p) => (⟨hR.ML ho, fun g cap hg => hR.kL (g := g) (cap := cap) ho hg 3 (.bool true) { o with done := true } (by omega) rfl⟩ : _ ∧ _))
   have HDD := hide (rfl : o.done = o.done)
   generalize hz2 : ixO (Lk.bM e.oth (f.st : Int)) = z2 at *
   clear hz2
   by_cases hdn : o.done = true
   . rw [if_pos hdn]
     have HDN := hide hdn
     clear hdn hx ho
     clear Aq
     go_enter Tryz.func182, Tryz.ntmps182
     go_wp2_with fail
     refine (uh HOW).mono ?_
     rintro r w1 ⟨rfl, rfl⟩
     go_wp2_with fail
     refine (uh HOT).mono ?_
     rintro r w1 ⟨rfl, rfl⟩
     go_wp2_with fail
     refine (uh kQ).mono ?_
     rintro r w3 ⟨x, y, z, rfl, hb3⟩
     obtain ⟨b1, b2⟩ := uh HBX w3 hb3
     obtain ⟨h4, hb4, hlt4, ho4⟩ := uh HEV w3 hb3
     obtain ⟨⟨g, cap, c6, hv, hgl, hcap, hbl, x0, x1, x2, x3, hfz, hgb⟩, _⟩ := uh HAT _ h4
     rw [uh HDN] at x3
     have HF := hide (fA.none (R := 0) (aj.before hb4 (aj.same h4)))
     clear h4 hb4 hlt4 ho4 hb3 hv hfz
     go_wp2_with fail
     go_ret2
     exact uh HF
   . rw [if_neg hdn]
     have HDN := hide (by simpa using hdn : o.done = false)
     clear hdn hx ho
     clear Aq
     go_enter Tryz.func182, Tryz.ntmps182
     go_wp2_with fail
     refine (uh HOW).mono ?_
     rintro r w1 ⟨rfl, rfl⟩
     go_wp2_with fail
     refine (uh HOT).mono ?_
     rintro r w1 ⟨rfl, rfl⟩
     go_wp2_with fail
     refine (uh kQ).mono ?_
     rintro r w3 ⟨x, y, z, rfl, hb3⟩
     obtain ⟨b1, b2⟩ := uh HBX w3 hb3
     obtain ⟨h4, hb4, hlt4, ho4⟩ := uh HEV w3 hb3
     obtain ⟨⟨g, cap, c6, hv, hgl, hcap, hbl, x0, x1, x2, x3, hfz, hgb⟩, hset⟩ := uh HAT _ h4
     obtain ⟨s1, t1⟩ := hset g cap hv
     rw [uh HDN] at x3
     have f3 := hfz (i * 4 + 3)
     have HF := hide (fA.ev (R := 0) hb4 hlt4.1 hlt4.2 ho4 (uh Vk) ⟨p, s1, fun _ x => .inl x, t1⟩)
     clear h4 hb4 hlt4 ho4 hb3 hv hfz hset s1 t1
     go_wp2_with fail
     go_ret2
     exact uh HF
 | none =>
   rw [hx] at HOW
   simp only [ixO] at HOW
   simp only [Option.bind_none]
   cases hy : Lk.bM e.oth (f.st : Int) with
   | none =>
     rw [hy] at HOT
     simp only [ixO] at HOT
     simp only [Option.bind_none]
     clear hx hy
     clear Aq
     go_enter Tryz.func182, Tryz.ntmps182
     go_wp2_with fail
     refine (uh HOW).mono ?_
     rintro r w1 ⟨rfl, rfl⟩
     go_wp2_with fail
     refine (uh HOT).mono ?_
     rintro r w1 ⟨rfl, rfl⟩
     go_wp2_with fail
     refine (uh kQ).mono ?_
     rintro r w3 ⟨x, y, z, rfl, hb3⟩
     obtain ⟨b1, b2⟩ := uh HBX w3 hb3
     obtain ⟨h4, hb4, hlt4, ho4⟩ := uh HEV w3 hb3
     have HF := hide (fA.none (R := 4) (aj.before hb4 (aj.same h4)))
     clear h4 hb4 hlt4 ho4 hb3
     go_wp2_with fail
     go_ret2
     exact uh HF
   | some i =>
     obtain ⟨o, ho, hid⟩ := Lk.bg hy
     have hok := hw.oth i o ho
     have hcr := hok.cr
     have hi : i < e.oth.length := (List.getElem?_eq_some_iff.1 ho).1
     have hi' : (i : Int) < e.oth.length := by omega
     have hi1 : ¬ (i : Int) < 0 := by omega
     rw [hy] at HOT
     simp only [ixO] at HOT
     simp only [Option.bind_some, ho, Option.map_some]
     have HAT := hide (fun W1 (hR : aT κ W1 b e p) => (⟨hR.Ox ho, fun g cap hg => (⟨hR.fF (g := g) (cap := cap) ho hg 3 (.bool false) { o with opn := false } (by omega) rfl, hR.fF (g := g) (cap := cap) ho hg 4 (.bool false) { o with drp := false } (by omega) rfl⟩ : _ ∧ _)⟩ : _ ∧ _))
     by_cases hop : o.opn = true
     . rw [if_pos hop]
       have HOP := hide hop
       have HBK := hide (fun W (hR : aT κ W b { e with oth := e.oth.set i { o with opn := false } } p) => sV b { e with oth := e.oth.set i { o with opn := false } } p o.held W hR (by omega) (by show e.room <= _; omega) (by show e.row.length <= _; omega))
       have HBF : Hid (∀ w5 p5, aT κ w5 b (({ e with oth := e.oth.set i { o with opn := false } } : Lk.En).back o.held) p5 -> ∃ g5 cap5, w5.cell? ⟨b, 7, none⟩ = some (.slice (some ⟨g5, 0, none⟩) e.oth.length cap5) ∧ g5 < w5.heap.size ∧ e.oth.length <= cap5 ∧ b < w5.heap.size ∧ w5.cell? ⟨g5, i * 5 + 2, none⟩ = some (.int .i64 (o.held : Int)) ∧ w5.frozen? ⟨g5, i * 5 + 2, none⟩ = false ∧ aj κ w5 b p5 (({ e with oth := e.oth.set i { o with opn := false, held := 0 } } : Lk.En).back o.held) (w5.setCell ⟨g5, i * 5 + 2, none⟩ (.int .i64 0))) := by
        intro w5 p5 h5
        have hoth : (({ e with oth := e.oth.set i { o with opn := false } } : Lk.En).back o.held).oth = e.oth.set i { o with opn := false } := by rw [Lk.ED]
        have ho5 : (({ e with oth := e.oth.set i { o with opn := false } } : Lk.En).back o.held).oth[i]? = some { o with opn := false } := by rw [hoth]; exact List.getElem?_set_self hi
        obtain ⟨g5, cap5, y0, y1, y2, y3, y4, y5, y6, y7, y8, y9, y10⟩ := h5.Ox ho5
        obtain ⟨t1, t2⟩ := h5.fF ho5 y1 2 (.int .i64 0) { o with opn := false, held := 0 } (by omega) rfl
        have hle : (({ e with oth := e.oth.set i { o with opn := false } } : Lk.En).back o.held).oth.length = e.oth.length := by rw [hoth, List.length_set]
        rw [hle] at y0 y3
        refine ⟨g5, cap5, y0, y2, y3, y4, y6, y9 _, p5, ?_, fun _ x => .inl x, t2⟩
        have hE : ({ (({ e with oth := e.oth.set i { o with opn := false } } : Lk.En).back o.held) with oth := (({ e with oth := e.oth.set i { o with opn := false } } : Lk.En).back o.held).oth.set i { o with opn := false, held := 0 } } : Lk.En) = ({ e with oth := e.oth.set i { o with opn := false, held := 0 } } : Lk.En).back o.held := by
         unfold Lk.En.back
         split <;> simp [Lk.En.send, List.set_set]
        rw [hE] at t1
        exact t1
       clear hop hx hy ho hok
       clear Aq
       go_enter Tryz.func182, Tryz.ntmps182
       go_wp2_with fail
       refine (uh HOW).mono ?_
       rintro r w1 ⟨rfl, rfl⟩
       go_wp2_with fail
       refine (uh HOT).mono ?_
       rintro r w1 ⟨rfl, rfl⟩
       go_wp2_with fail
       refine (uh kQ).mono ?_
       rintro r w3 ⟨x, y, z, rfl, hb3⟩
       obtain ⟨b1, b2⟩ := uh HBX w3 hb3
       obtain ⟨h4, hb4, hlt4, ho4⟩ := uh HEV w3 hb3
       obtain ⟨⟨g, cap, c7, hv, hgl, hcap, hbl, x1, x2, x3, x4, hfz, hgb⟩, hset⟩ := uh HAT _ h4
       obtain ⟨⟨s1, t1⟩, _⟩ := hset g cap hv
       rw [uh HOP] at x3
       have f3 := hfz (i * 5 + 3)
       have hgb' : b ≠ g := Ne.symm hgb
       have HB4 := hide (uh HBK _ s1)
       have HX4 := hide (⟨t1, hb4, hlt4, ho4⟩ : _ ∧ _ ∧ _ ∧ _)
       clear h4 hb4 hlt4 ho4 hb3 hv hfz hset s1 t1
       go_wp2_with fail
       refine (uh HB4).mono ?_
       rintro r w5 ⟨rfl, hP⟩
       obtain ⟨t1, hb4, hlt4, ho4⟩ := uh HX4
       obtain ⟨p5, h5, h5f, h5o⟩ := aj.on t1 hP
       obtain ⟨g5, cap5, y1, y2, y3, y4, y5, y6, y7⟩ := uh HBF w5 p5 h5
       have HF := hide (fA.ev (R := 0) hb4 hlt4.1 hlt4.2 ho4 (uh Vk) (aj.trans h5f h5o y7))
       clear hP h5 h5f h5o y7 t1 hb4 hlt4 ho4
       go_wp2_with fail
       go_ret2
       exact uh HF
     . rw [if_neg hop]
       have HOP := hide (by simpa using hop : o.opn = false)
       clear hop hx hy ho hok
       clear Aq
       go_enter Tryz.func182, Tryz.ntmps182
       go_wp2_with fail
       refine (uh HOW).mono ?_
       rintro r w1 ⟨rfl, rfl⟩
       go_wp2_with fail
       refine (uh HOT).mono ?_
       rintro r w1 ⟨rfl, rfl⟩
       go_wp2_with fail
       refine (uh kQ).mono ?_
       rintro r w3 ⟨x, y, z, rfl, hb3⟩
       obtain ⟨b1, b2⟩ := uh HBX w3 hb3
       obtain ⟨h4, hb4, hlt4, ho4⟩ := uh HEV w3 hb3
       obtain ⟨⟨g, cap, c7, hv, hgl, hcap, hbl, x1, x2, x3, x4, hfz, hgb⟩, hset⟩ := uh HAT _ h4
       obtain ⟨_, ⟨s1, t1⟩⟩ := hset g cap hv
       rw [uh HOP] at x3
       have f4 := hfz (i * 5 + 4)
       have HF := hide (fA.none (R := 0) (aj.before hb4 ⟨p, s1, fun _ x => .inl x, t1⟩))
       clear h4 hb4 hlt4 ho4 hb3 hv hfz hset s1 t1
       go_wp2_with fail
       go_ret2
       exact uh HF
end Go.Proofs.YtbkpdapagfjmmaaGreatDoor
