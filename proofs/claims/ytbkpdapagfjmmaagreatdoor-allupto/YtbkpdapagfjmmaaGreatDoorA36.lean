import Derived.Test.YtbkpdapagfjmmaaGreatDoorA27
set_option linter.unusedVariables false
set_option maxRecDepth 100000
set_option maxHeartbeats 16000000
namespace Go.Proofs.YtbkpdapagfjmmaaGreatDoor
open Go.RowKit
theorem Fx.only {S : Nat -> Prop} {w w' : World} (h : Fx w) (k : Only S w w') (hn : ¬ S 0) : Fx w' :=
 ⟨Nat.lt_of_lt_of_le h.1 k.size, fun i x hx => by
  have e : ∀ j, w'.cell? ⟨0, j, none⟩ = w.cell? ⟨0, j, none⟩ := fun j => by simp only [World.cell?]; rw [k.block 0 h.1 hn]
  rw [e, e]; exact h.2 i x hx⟩
structure FS (w : World) (b : Nat) (e : Lk.En) (d : PD) (g B : Nat) (v : Value) (evs : List EvH) : Prop where
 live : Live w b e d
 told : Told w g B v evs
 sep : ∀ i, aN g v evs i -> ¬ foot b d i
 fx : Fx w
 hB : B <= w.heap.size
 B0 : 0 < B
 gB : B <= g
theorem FS.JY {w : World} {b : Nat} {e : Lk.En} {d : PD} {g B : Nat} {v : Value} {evs : List EvH} (h : FS w b e d g B v evs) : ∀ i, aN g v evs i -> B <= i := by
 intro i hi
 rcases hi with rfl | hi | ⟨p, hp, hi⟩
 . exact h.gB
 . exact (h.told.row.lt i hi).1
 . exact ((h.told.hds p hp).lt i hi).1
theorem FS.only {S : Nat -> Prop} {w w' : World} {b : Nat} {e : Lk.En} {d : PD} {g B : Nat} {v : Value} {evs : List EvH} (h : FS w b e d g B v evs) (k : Only S w w') (h1 : ∀ i, foot b d i -> ¬ S i) (h2 : ∀ i, aN g v evs i -> ¬ S i) (h3 : ¬ S 0) : FS w' b e d g B v evs :=
 ⟨h.live.only k h1, h.told.only k h2, h.sep, h.fx.only k h3, Nat.le_trans h.hB k.size, h.B0, h.gB⟩
theorem FS.below {w w' : World} {b : Nat} {e : Lk.En} {d : PD} {g B : Nat} {v : Value} {evs : List EvH} (h : FS w b e d g B v evs) (hb : Below w.heap.size w w') : FS w' b e d g B v evs := h.only (Only.of_below hb (fun _ => False)) (fun _ _ h => h) (fun _ _ h => h) (fun h => h)
theorem FS.alloc {w : World} {b : Nat} {e : Lk.En} {d : PD} {g B : Nat} {v : Value} {evs : List EvH} (h : FS w b e d g B v evs) (o : Obj) : FS (w.alloc o) b e d g B v evs := h.below ((Below.refl _ _).alloc (Nat.le_refl _) o)
theorem FS.drewN {w : World} {b : Nat} {e : Lk.En} {d : PD} {g B : Nat} {v : Value} {evs : List EvH} (h : FS w b e d g B v evs) (n : Nat) : FS (w.drewN n) b e d g B v evs := h.only ((Only.refl (fun _ => False) w).drewN n) (fun _ _ h => h) (fun _ _ h => h) (fun h => h)
theorem FS.drew {w : World} {b : Nat} {e : Lk.En} {d : PD} {g B : Nat} {v : Value} {evs : List EvH} (h : FS w b e d g B v evs) : FS w.drew b e d g B v evs := h.drewN 1
def az (w : World) (b : Nat) (d : PD) (g B : Nat) (v : Value) (evs : List EvH) (e' : Lk.En) (evl : List Lk.Ev) (w' : World) : Prop :=
 ∃ d' v' news, news.map Prod.fst = evl ∧ FS w' b e' d' g B v' (evs ++ news) ∧ (∀ i, foot b d' i -> foot b d i ∨ w.heap.size <= i) ∧ (∀ i, aN g v' (evs ++ news) i -> aN g v evs i ∨ w.heap.size <= i) ∧ Only (fun i => foot b d i ∨ aN g v evs i) w w'
theorem az.trans {w w1 w2 : World} {b : Nat} {d d1 : PD} {g B : Nat} {v v1 : Value} {evs n1 : List EvH} {e1 e2 : Lk.En} {l1 l2 : List Lk.Ev} (hn : n1.map Prod.fst = l1) (_h1 : FS w1 b e1 d1 g B v1 (evs ++ n1)) (hf : ∀ i, foot b d1 i -> foot b d i ∨ w.heap.size <= i) (ht : ∀ i, aN g v1 (evs ++ n1) i -> aN g v evs i ∨ w.heap.size <= i) (hO : Only (fun i => foot b d i ∨ aN g v evs i) w w1) (h2 : az w1 b d1 g B v1 (evs ++ n1) e2 l2 w2) : az w b d g B v evs e2 (l1 ++ l2) w2 := by
 obtain ⟨d2, v2, n2, a1, a2, a3, a4, a5⟩ := h2
 rw [List.append_assoc] at a2 a4
 refine ⟨d2, v2, n1 ++ n2, by rw [List.map_append, hn, a1], a2, fun i hi => ?_, fun i hi => ?_, hO.trans a5 (fun i hi hlt => ?_)⟩
 . rcases a3 i hi with h | h
   . exact hf i h
   . exact .inr (Nat.le_trans hO.size h)
 . rcases a4 i hi with h | h
   . exact ht i h
   . exact .inr (Nat.le_trans hO.size h)
 . rcases hi with h | h
   . rcases hf i h with h | h
     . exact .inl h
     . omega
   . rcases ht i h with h | h
     . exact .inr h
     . omega
theorem FS.ofL {w w' : World} {b : Nat} {e e' : Lk.En} {d : PD} {g B : Nat} {v : Value} {evs : List EvH} (h : FS w b e d g B v evs) (hL : bf w b d e' w') : az w b d g B v evs e' [] w' := by
 obtain ⟨d', h1, h2, h3⟩ := hL
 refine ⟨d', v, [], rfl, ?_, h2, fun i hi => .inl (by rwa [List.append_nil] at hi), h3.mono (fun i hi => .inl hi)⟩
 rw [List.append_nil]
 refine ⟨h1, h.told.only h3 h.sep, fun i hi hf => ?_, h.fx.only h3 (fun h0 => by have := h.live.pos 0 h0; omega), Nat.le_trans h.hB h3.size, h.B0, h.gB⟩
 rcases h2 i hf with h' | h'
 . exact h.sep i hi h'
 . have := h.told.lt i hi; omega
theorem az.same {w : World} {b : Nat} {e : Lk.En} {d : PD} {g B : Nat} {v : Value} {evs : List EvH} (h : FS w b e d g B v evs) : az w b d g B v evs e [] w := h.ofL (bf.same h.live)
theorem az.before {w W w' : World} {b : Nat} {d : PD} {g B : Nat} {v : Value} {evs : List EvH} {e' : Lk.En} {l : List Lk.Ev} (hb : Below w.heap.size w W) (h : az W b d g B v evs e' l w') : az w b d g B v evs e' l w' := by
 obtain ⟨d', v', n, a1, a2, a3, a4, a5⟩ := h
 exact ⟨d', v', n, a1, a2, fun i hi => (a3 i hi).imp id (Nat.le_trans hb.size), fun i hi => (a4 i hi).imp id (Nat.le_trans hb.size), (Only.of_below hb _).trans a5 (fun i hi _ => hi)⟩
theorem az.dm {w W : World} {b : Nat} {e : Lk.En} {d : PD} {g B : Nat} {v : Value} {evs : List EvH} (h : FS w b e d g B v evs) (hb : Below w.heap.size w W) : az w b d g B v evs e [] W := az.before hb (az.same (h.below hb))
theorem Du (b g B : Nat) (e : Lk.En) (d : PD) (v : Value) (evs : List EvH) (ev : Lk.Ev) (hv : Value) (w : World) (h : FS w b e d g B v evs) (hl : evs.length <= 2 ^ 40) (hp : w.ownsRow B 112 2 hv ev.hs.length (aQ ev.hs)) (hd : ∀ i, hv.ownBlock = some i -> ¬ foot b d i ∧ ¬ aN g v evs i) (H : Nat) (hH : H <= w.heap.size) (hnew : ∀ i, hv.ownBlock = some i -> H <= i) :
 Calls Tryz.prog 47 #[evA (ev, hv), .pointer (some ⟨g, 0, none⟩)] w fun r w' => r = .returned (.tuple #[]) ∧ ∃ v', FS w' b e d g B v' (evs ++ [(ev, hv)]) ∧ (∀ i, aN g v' (evs ++ [(ev, hv)]) i -> aN g v evs i ∨ H <= i) ∧ Only (fun i => foot b d i ∨ aN g v evs i) w w' := by
 refine (Nk g B v evs (ev, hv) w h.told h.hB hl hp (fun q hq => ?_)).mono ?_
 . cases hx : q.2.ownBlock with
   | none => exact .inl rfl
   | some i => exact .inr (fun e => (hd i (by rw [<- e])).2 (.inr (.inr ⟨q, hq, hx⟩)))
 rintro r w' ⟨rfl, v', hT, hv', hO⟩
 have hO' : Only (fun i => foot b d i ∨ aN g v evs i) w w' := hO.mono (fun i hi => .inr (hi.imp id (fun h => .inl h)))
 have hsub : ∀ i, aN g v' (evs ++ [(ev, hv)]) i -> aN g v evs i ∨ hv.ownBlock = some i ∨ w.heap.size <= i := by
  intro i hi
  rcases hi with hi | hi | ⟨p, hp, hi⟩
  . exact .inl (.inl hi)
  . rcases hv' with h' | h'
    . exact .inl (.inr (.inl (h' ▸ hi)))
    . exact .inr (.inr (h' i hi))
  . rcases List.mem_append.1 hp with hp | hp
    . exact .inl (.inr (.inr ⟨p, hp, hi⟩))
    . simp at hp
      subst hp
      exact .inr (.inl hi)
 refine ⟨rfl, v', ⟨h.live.only hO (fun i hi hx => h.sep i (hx.imp id (fun h => .inl h)) hi), hT, fun i hi hf => ?_, h.fx.only hO (fun hx => ?_), Nat.le_trans h.hB hO.size, h.B0, h.gB⟩, fun i hi => ?_, hO'⟩
 . rcases hsub i hi with h' | h' | h'
   . exact h.sep i h' hf
   . exact (hd i h').1 hf
   . have := h.live.lt i hf; omega
 . have := h.JY 0 (hx.imp id (fun h => .inl h))
   have := h.B0
   omega
 . rcases hsub i hi with h' | h' | h'
   . exact .inl h'
   . exact .inr (hnew i h')
   . exact .inr (Nat.le_trans hH h')
theorem jU (b g B : Nat) (e : Lk.En) (d : PD) (v : Value) (evs : List EvH) (k st n : Nat) (t : Lk.Bs) (w : World) (h : FS w b e d g B v evs) (hl : evs.length <= 2 ^ 40) :
 Calls Tryz.prog 47 #[.agg #[.int .i64 (k : Int), .int .i64 (st : Int), .int .i64 (n : Int), .slice none 0 0, .string (bs t)], .pointer (some ⟨g, 0, none⟩)] w fun r w' => r = .returned (.tuple #[]) ∧ az w b d g B v evs e [⟨k, st, n, [], t⟩] w' := by
 refine (Du b g B e d v evs ⟨k, st, n, [], t⟩ (.slice none 0 0) w h hl (World.ownsRow_nil _ _ _ _) (fun i hi => by cases hi) w.heap.size (Nat.le_refl _) (fun i hi => by cases hi)).mono ?_
 rintro r w' ⟨rfl, v', h1, h2, h3⟩
 exact ⟨rfl, d, v', _, rfl, h1, fun i hi => .inl hi, h2, h3⟩
theorem Dv (b g B : Nat) (e : Lk.En) (d : PD) (v : Value) (evs : List EvH) (f : Lk.Fr) (w : World) (h : FS w b e d g B v evs) (hl : evs.length <= 2 ^ 40) :
 Calls Tryz.prog 96 #[.pointer (some ⟨b, 0, none⟩), frA f, dO g] w fun r w' => r = .returned (.int .i64 0) ∧ az w b d g B v evs e [⟨5, 0, 0, [], f.d⟩] w' := by
 have hb0 := (Below.refl w.heap.size w).alloc (Nat.le_refl _) (.cells #[.int .i64 (f.k : Int), .int .i64 (f.st : Int), .string (bs f.d)] 79)
 have HC := hide (jU b g B e d v evs 5 0 0 f.d _ (h.below hb0) hl)
 have HB := hide hb0
 clear h hb0
 unfold dO
 go_enter Tryz.func96, Tryz.ntmps96
 go_wp2_with fail
 refine (uh HC).mono ?_
 rintro r w1 ⟨rfl, hG⟩
 go_wp2_with fail
 go_ret
 exact ⟨rfl, az.before (uh HB) hG⟩
theorem Dw (b g B : Nat) (e : Lk.En) (d : PD) (v : Value) (evs : List EvH) (f : Lk.Fr) (w : World) (h : FS w b e d g B v evs) (hd : f.d.length = 8) :
 Calls Tryz.prog 95 #[.pointer (some ⟨b, 0, none⟩), frA f, dO g] w fun r w' => r = .returned (.int .i64 0) ∧ az w b d g B v evs (e.send 6 0 f.d) [] w' := by
 have hb0 := (Below.refl w.heap.size w).alloc (Nat.le_refl _) (.cells #[.int .i64 (f.k : Int), .int .i64 (f.st : Int), .string (bs f.d)] 79)
 have h0 := h.below hb0
 have hR := h0.live.rw
 have hbl := hR.lt
 have Ya := h.live.rw.lt
 have HH := hide h0
 have HB := hide hb0
 clear h hb0 h0
 unfold dO
 go_enter Tryz.func95, Tryz.ntmps95
 go_wp2_with fail
 go_cut [] (fun wc => az w b d g B v evs (e.send 6 0 f.d) [] wc)
 case first =>
  go_region_with (first | (go_at_call 45; refine (fC b (fH e d) d.fs ⟨6, 0, f.d⟩ _ hR.drew).mono ?_; rintro r w1 ⟨rfl, n, hn, hR1, hO1⟩))
  all_goals
   go_wp2_with fail
   go_meet
   exact az.before (uh HB) ((uh HH).ofL ((uh HH).live.put hR1 hn hO1.zt (Lk.iY 6 f.d (by omega) hd)))
 case rest =>
  go_wp2_with fail
  go_ret
  exact ⟨rfl, hcut⟩
theorem Hg (b g B : Nat) (e : Lk.En) (d : PD) (v : Value) (evs : List EvH) (f : Lk.Fr) (w : World) (h : FS w b e d g B v evs) (hl : evs.length <= 2 ^ 40) (hd : f.d.length <= 64) :
 Calls Tryz.prog 97 #[.pointer (some ⟨b, 0, none⟩), frA f, dO g] w fun r w' => r = .returned (.int .i64 0) ∧ az w b d g B v evs { e with oK := true } [⟨6, 0, Lk.numOf f.d, [], []⟩] w' := by
 have hb0 := (Below.refl w.heap.size w).alloc (Nat.le_refl _) (.cells #[.int .i64 (f.k : Int), .int .i64 (f.st : Int), .string (bs f.d)] 79)
 have h0 := h.below hb0
 have hR := h0.live.rw
 have hbl := h.live.rw.lt
 have c21 : (w.alloc (.cells #[.int .i64 (f.k : Int), .int .i64 (f.st : Int), .string (bs f.d)] 79)).cell? ⟨b, 21, none⟩ = some (.bool e.oK) := hR.blk.cell 21
 have Yb : w.cell? ⟨b, 21, none⟩ = some (.bool e.oK) := h.live.rw.blk.cell 21
 have f21 := h.live.rw.blk.free 21
 have hI1 : Is ((w.setCell ⟨b, 21, none⟩ (.bool true)).alloc (.cells #[.int .i64 (f.k : Int), .int .i64 (f.st : Int), .string (bs f.d)] 79)) b 101 ({ fH e d with bc := true } : EC).cells := (h.live.rw.blk.set 21 (.bool true)).alloc _
 have hO1 : Only (· = b) w ((w.setCell ⟨b, 21, none⟩ (.bool true)).alloc (.cells #[.int .i64 (f.k : Int), .int .i64 (f.st : Int), .string (bs f.d)] 79)) := ((Only.refl (· = b) w).set b 21 _ (fun _ => rfl)).alloc _
 have hR1 := h.live.rw.cell hI1 hO1 rfl
 have hw := h.live.wf
 have hLP : bf w b d { e with oK := true } ((w.setCell ⟨b, 21, none⟩ (.bool true)).alloc (.cells #[.int .i64 (f.k : Int), .int .i64 (f.st : Int), .string (bs f.d)] 79)) :=
  ⟨_, h.live.I5 (e' := { e with oK := true }) (rs' := d.rs) hR1 (hO1.mono (fun i hi => .inl hi)) rfl rfl rfl rfl rfl h.live.o9 h.live.good ⟨hw.side, hw.BJ, hw.kN, hw.out, hw.inn, fun i o ho => by obtain ⟨a, b, c, d⟩ := hw.own i o ho; exact ⟨a, b, c, d⟩, fun i o ho => by obtain ⟨a, b, c, d, f⟩ := hw.oth i o ho; exact ⟨a, b, c, d, f⟩, hw.all, hw.room, hw.row, hw.rest⟩ (fun x hx => .inl hx)⟩
 obtain ⟨d1, v1, n1, a1, a2, a3, a4, a5⟩ := h.ofL hLP
 have hn1 : n1 = [] := List.map_eq_nil_iff.1 a1
 subst hn1
 rw [List.append_nil] at a2 a4
 have HN := hide (jq f ((w.setCell ⟨b, 21, none⟩ (.bool true)).alloc (.cells #[.int .i64 (f.k : Int), .int .i64 (f.st : Int), .string (bs f.d)] 79)) (by omega))
 have HX := hide (⟨a2, a3, a4, a5⟩ : _ ∧ _ ∧ _ ∧ _)
 clear h h0 hR hI1 hO1 hR1 hw hLP a1 a2 a3 a4 a5 hb0
 unfold dO
 unfold frA at HN
 go_enter Tryz.func97, Tryz.ntmps97
 go_wp2_with fail
 refine (uh HN).mono ?_
 rintro r w2 ⟨rfl, hb2⟩
 obtain ⟨a2, a3, a4, a5⟩ := uh HX
 have h2 := a2.below hb2
 have HT := hide (jU b g B _ d1 v1 evs 6 0 (Lk.numOf f.d) [] w2 h2 hl)
 have e0 : bs [] = ⟨#[]⟩ := rfl
 rw [e0] at HT
 have HX2 := hide (⟨h2, a5.below hb2⟩ : _ ∧ _)
 clear a2 a5 h2 hb2
 go_wp2_with fail
 refine (uh HT).mono ?_
 rintro r w3 ⟨rfl, hG⟩
 go_wp2_with fail
 go_ret
 obtain ⟨h2, hO2⟩ := uh HX2
 refine ⟨rfl, ?_⟩
 have := az.trans (n1 := []) (l1 := []) rfl (by rw [List.append_nil]; exact h2) a3 (by rw [List.append_nil]; exact a4) hO2 (by rw [List.append_nil]; exact hG)
 exact this
theorem Fa (x i c n : Nat) (w : World) (_hx : x < w.heap.size) (hc : w.cell? ⟨x, i, none⟩ = some (.int .i64 (c : Int))) (hn : n = 0 ∨ 100000 < c + n) (hc2 : c <= 1000000) (hn2 : n <= 268435455) :
 Calls Tryz.prog 146 #[.pointer (some ⟨x, i, none⟩), .int .i64 (n : Int)] w fun r w' => r = .returned (.int .i64 10) ∧ w' = w := by
 by_cases h0 : n = 0
 . subst h0
   clear hn
   go_enter Tryz.func146, Tryz.ntmps146
   go_wp2_with fail
   go_ret
   exact ⟨rfl, rfl⟩
 . have h1 : ((n : Int) == 0) = false := by rw [beq_eq_false_iff_ne]; omega
   have h2 : 100000 < (c : Int) + (n : Int) := by omega
   clear hn h0
   go_enter Tryz.func146, Tryz.ntmps146
   go_wp2_with fail
   go_ret
   exact ⟨rfl, rfl⟩
theorem AP (x i c n : Nat) (w : World) (_hx : x < w.heap.size) (hc : w.cell? ⟨x, i, none⟩ = some (.int .i64 (c : Int))) (hf : w.frozen? ⟨x, i, none⟩ = false) (hn : ¬ (n = 0 ∨ 100000 < c + n)) :
 Calls Tryz.prog 146 #[.pointer (some ⟨x, i, none⟩), .int .i64 (n : Int)] w fun r w' => r = .returned (.int .i64 0) ∧ w' = w.setCell ⟨x, i, none⟩ (.int .i64 ((c + n : Nat) : Int)) := by
 have h1 : ((n : Int) == 0) = false := by rw [beq_eq_false_iff_ne]; omega
 have h2 : ¬ 100000 < (c : Int) + (n : Int) := by omega
 have e1 : (c : Int) + (n : Int) = ((c + n : Nat) : Int) := by omega
 have HE := hide e1
 clear hn e1
 go_enter Tryz.func146, Tryz.ntmps146
 go_wp2_with fail
 go_ret
 exact ⟨rfl, by rw [uh HE]⟩
theorem qF (a n : Nat) (w : World) : Calls Tryz.prog 174 #[.int .i64 (a : Int), .int .i64 (n : Int)] w fun r w' => r = .returned (.bool (decide (a % 2 = n % 2 ∧ a < n))) ∧ w' = w := by
 have r1 : Int.tmod (a : Int) 2 = ((a % 2 : Nat) : Int) := by simp [Int.tmod]
 have r2 : Int.tmod (n : Int) 2 = ((n % 2 : Nat) : Int) := by simp [Int.tmod]
 generalize hP : decide (a % 2 = n % 2 ∧ a < n) = P
 have HP := hide hP
 clear hP
 by_cases h : a % 2 = n % 2
 . have h' : (((a % 2 : Nat) : Int) == ((n % 2 : Nat) : Int)) = true := by rw [beq_iff_eq]; omega
   generalize a % 2 = x at *
   generalize n % 2 = y at *
   go_enter Tryz.func174, Tryz.ntmps174
   go_wp2_with fail
   go_ret
   refine ⟨aH ?_, rfl⟩
   rw [<- uh HP, Bool.eq_iff_iff]
   simp [h]
 . have h' : (((a % 2 : Nat) : Int) == ((n % 2 : Nat) : Int)) = false := by rw [beq_eq_false_iff_ne]; omega
   generalize a % 2 = x at *
   generalize n % 2 = y at *
   go_enter Tryz.func174, Tryz.ntmps174
   go_wp2_with fail
   go_ret
   refine ⟨aH ?_, rfl⟩
   rw [<- uh HP]
   simp [h]
theorem qG (b a n : Nat) (w : World) (_hb : b < w.heap.size) (c : w.cell? ⟨b, 7, none⟩ = some (.int .i64 (n : Int))) : Calls Tryz.prog 144 #[.pointer (some ⟨b, 3, none⟩), .int .i64 (a : Int)] w fun r w' => r = .returned (.bool (decide (a % 2 = n % 2 ∧ a < n))) ∧ w' = w := by
 go_enter Tryz.func144, Tryz.ntmps144
 go_wp2_with fail
 refine (qF a n _).mono ?_
 rintro r w1 ⟨rfl, rfl⟩
 go_wp2_with fail
 go_ret
 exact ⟨aH (by simp), rfl⟩
theorem Dx (b a n : Nat) (w : World) (_hb : b < w.heap.size) (c : w.cell? ⟨b, 15, none⟩ = some (.int .i64 (n : Int))) : Calls Tryz.prog 145 #[.pointer (some ⟨b, 11, none⟩), .int .i64 (a : Int)] w fun r w' => r = .returned (.bool (decide (a % 2 = n % 2 ∧ a < n))) ∧ w' = w := by
 go_enter Tryz.func145, Tryz.ntmps145
 go_wp2_with fail
 refine (qF a n _).mono ?_
 rintro r w1 ⟨rfl, rfl⟩
 go_wp2_with fail
 go_ret
 exact ⟨aH (by simp), rfl⟩
theorem uk {e : Lk.En} (hw : Lk.Wf e) {a : Nat} (h0 : 0 < a) : (Lk.bK e.own (a : Int)).isSome = decide (a % 2 = e.nextId % 2 ∧ a < e.nextId) := by
 have hs := hw.side
 rw [Bool.eq_iff_iff]
 simp only [decide_eq_true_eq]
 unfold Lk.En.nextId
 constructor
 . intro h
   obtain ⟨i, hi⟩ := Option.isSome_iff_exists.1 h
   obtain ⟨o, ho, hid⟩ := Lk.dR hi
   have h1 := (hw.own i o ho).id
   have h2 := (List.getElem?_eq_some_iff.1 ho).1
   omega
 . intro ⟨h1, h2⟩
   have hi : (a - 1 - e.side) / 2 < e.own.length := by omega
   have ho := List.getElem?_eq_getElem hi
   have hid := (hw.own _ _ ho).id
   cases hx : Lk.bK e.own (a : Int) with
   | some i => rfl
   | none =>
     unfold Lk.bK at hx
     rw [List.findIdx?_eq_none_iff] at hx
     have := hx _ (List.getElem_mem hi)
     simp at this
     omega
theorem Dy {e : Lk.En} (hw : Lk.Wf e) {a : Nat} (h0 : 0 < a) : (Lk.bM e.oth (a : Int)).isSome = decide (a % 2 = ah e % 2 ∧ a < ah e) := by
 have hs := hw.side
 rw [Bool.eq_iff_iff]
 simp only [decide_eq_true_eq]
 unfold ah
 constructor
 . intro h
   obtain ⟨i, hi⟩ := Option.isSome_iff_exists.1 h
   obtain ⟨o, ho, hid⟩ := Lk.bg hi
   have h1 := (hw.oth i o ho).id
   have h2 := (List.getElem?_eq_some_iff.1 ho).1
   omega
 . intro ⟨h1, h2⟩
   have hi : (a - 2 + e.side) / 2 < e.oth.length := by omega
   have ho := List.getElem?_eq_getElem hi
   have hid := (hw.oth _ _ ho).id
   cases hx : Lk.bM e.oth (a : Int) with
   | some i => rfl
   | none =>
     unfold Lk.bM at hx
     rw [List.findIdx?_eq_none_iff] at hx
     have := hx _ (List.getElem_mem hi)
     simp at this
     omega
theorem AQ (b : Nat) (e : Lk.En) (d : PD) (k : Int) (w : World) (hL : Live w b e d) :
 Calls Tryz.prog 147 #[.pointer (some ⟨b, 3, none⟩), .int .i64 k] w fun r w' => r = .returned (.tuple #[bu ((e.lG k).bind fun p => d.ps[mi e.own p.1]?), .bool (e.lG k).isSome]) ∧ w' = w := by
 have hup := OB hL.wf k
 have h4 := hL.ps4
 have := Ls b 0 101 (fH e d).cells d.sv (gJ e) d.ps k _ w hL.rw.blk rfl hL.outs hL.sl (by omega) hup
 rw [Option.isSome_map] at this
 refine this.mono ?_
 rintro r w' ⟨rfl, rfl⟩
 refine ⟨?_, rfl⟩
 show _ = Ending.returned (.tuple #[bu ((e.lG k).bind fun p => d.ps[mi e.own p.1]?), .bool (e.lG k).isSome])
 have : (((Lk.bK e.own k).bind fun i => (e.own[i]?).bind fun o => if o.done then none else some (i, o)).map fun p => mi e.own p.1).bind (fun i => d.ps[i]?) = (e.lG k).bind fun p => d.ps[mi e.own p.1]? := by
  show ((e.lG k).map fun p => mi e.own p.1).bind (fun i => d.ps[i]?) = _
  cases e.lG k <;> rfl
 rw [this]
 rfl
theorem Qa {w : World} {b : Nat} {e : Lk.En} {d : PD} {k : Int} {i : Nat} {o : Lk.Ow} (hL : Live w b e d) (h : e.lG k = some (i, o)) : ∃ p, d.ps[mi e.own i]? = some p ∧ Is w p 173 (owV o) := by
 obtain ⟨ho, hd, _⟩ := Lk.En.jS h
 have hpos := EL e.own i o ho hd
 obtain ⟨o', p, h1, h2, h3⟩ := hL.outs.get (List.getElem?_eq_some_iff.1 hpos).1
 have : some o' = some o := h1.symm.trans hpos
 cases this
 exact ⟨p, h2, h3⟩
theorem yH {w : World} {b : Nat} {e : Lk.En} {d : PD} (hL : Live w b e d) (n : Nat) (hW : Lk.Wf { e with all := e.all + n }) : bf w b d { e with all := e.all + n } (w.setCell ⟨b, 9, none⟩ (.int .i64 ((e.all + n : Nat) : Int))) := by
 have hO : Only (· = b) w (w.setCell ⟨b, 9, none⟩ (.int .i64 ((e.all + n : Nat) : Int))) := (Only.refl (· = b) w).set b 9 _ (fun _ => rfl)
 have hI : Is (w.setCell ⟨b, 9, none⟩ (.int .i64 ((e.all + n : Nat) : Int))) b 101 ({ fH e d with ocr := ((e.all + n : Nat) : Int) } : EC).cells := hL.rw.blk.set 9 _
 exact ⟨_, hL.I5 (e' := { e with all := e.all + n }) (rs' := d.rs) (hL.rw.cell hI hO rfl) (hO.mono (fun i hi => .inl hi)) rfl rfl rfl rfl rfl hL.o9 hL.good hW (fun x hx => .inl hx)⟩
theorem yI {w : World} {b i p : Nat} {e : Lk.En} {d : PD} {o : Lk.Ow} {k : Int} (hL : Live w b e d) (n : Nat) (hup : e.lG k = some (i, o)) (hp : d.ps[mi e.own i]? = some p) (hW : Lk.Wf { e with own := e.own.set i { o with cr := o.cr + n } }) : bf w b d { e with own := e.own.set i { o with cr := o.cr + n } } (w.setCell ⟨p, 1, none⟩ (.int .i64 ((o.cr + n : Nat) : Int))) := by
 obtain ⟨ho, hd, _⟩ := Lk.En.jS hup
 have hpos := EL e.own i o ho hd
 have hIp := hL.outs.is _ o p hpos hp
 have hmem : p ∈ d.ps := List.mem_of_getElem? hp
 have hO : Only (· = p) w (w.setCell ⟨p, 1, none⟩ (.int .i64 ((o.cr + n : Nat) : Int))) := (Only.refl (· = p) w).set p 1 _ (fun _ => rfl)
 have hnp : ∀ x, (x = b ∨ x ∈ d.rs) -> ¬ x = p := fun x hx e => (hL.fQ x hx).2.2.2.1 (e ▸ hmem)
 have WY : Is (w.setCell ⟨p, 1, none⟩ (.int .i64 ((o.cr + n : Nat) : Int))) p 173 (owV { o with cr := o.cr + n }) := hIp.set 1 _
 have hu : gJ { e with own := e.own.set i { o with cr := o.cr + n } } = (gJ e).set (mi e.own i) { o with cr := o.cr + n } := tu e.own i o { o with cr := o.cr + n } ho hd hd
 refine hL.Na (e' := { e with own := e.own.set i { o with cr := o.cr + n } }) (ps' := d.ps) (sv' := d.sv) (ov' := d.ov) (rs' := d.rs) (hL.rw.only hO (hnp b (.inl rfl)) (fun r hr => hnp r (.inr hr))) (hO.mono (fun x hx => .inr (.inr (.inr (hx ▸ hmem))))) ?_ rfl rfl hL.o9 hL.good hW (fun x hx => .inl hx) ?_ (fun x hx => .inl hx) ?_ (fun x hx => .inl hx) ?_ hL.psn (fun x hx => .inl hx) hL.ps4
 . simp [fH, Lk.En.nextId, ah]
 . exact ag hL.sl hO (fun x hx e => by subst e; exact own_ne hL.sl hIp (nbq rfl) hx.symm)
 . exact ag hL.out hO (fun x hx e => by subst e; exact own_ne hL.out hIp (nbq rfl) hx.symm)
 . rw [hu]
   exact hL.outs.set hp hL.psn WY (fun q _ hne cs hc => hc.only hO hne)
theorem qO (b g B : Nat) (e : Lk.En) (d : PD) (v : Value) (evs : List EvH) (f : Lk.Fr) (w : World) (h : FS w b e d g B v evs) (hd : f.d.length <= 64) (hst : f.st = 0) (hn : Lk.numOf f.d = 0 ∨ 100000 < e.all + Lk.numOf f.d) :
 Calls Tryz.prog 94 #[.pointer (some ⟨b, 0, none⟩), frA f, dO g] w fun r w' => r = .returned (.int .i64 10) ∧ az w b d g B v evs e [] w' := by
 have hb0 := (Below.refl w.heap.size w).alloc (Nat.le_refl _) (.cells #[.int .i64 (f.k : Int), .int .i64 (f.st : Int), .string (bs f.d)] 79)
 have h0 := h.below hb0
 have hbl := h.live.rw.lt
 have hnl := Lk.nP f.d
 have hall := h.live.wf.all
 have hst' : ((f.st : Int) == 0) = true := by rw [beq_iff_eq]; omega
 have HH := hide h0
 have HB := hide hb0
 have kQ := hide (fun W => jq f W (by omega))
 have HHN := hide hn
 unfold frA at kQ
 generalize Lk.numOf f.d = N at *
 clear h h0 hb0 hn hst
 unfold dO
 go_enter Tryz.func94, Tryz.ntmps94
 go_wp2_with fail
 go_region_with (first
  | (go_at_call 143; refine (uh kQ _).mono ?_; rintro r w1 ⟨rfl, hb1⟩)
  | (go_at_call 146; have hF1 := (uh HH).below (bQ hb1); refine (Fa b 9 e.all N w1 hF1.live.rw.lt (hF1.live.rw.blk.cell 9) (uh HHN) (by omega) hnl).mono ?_; rintro r w2 ⟨rfl, rfl⟩))
 all_goals
  go_wp2_with fail
  go_ret
  refine ⟨rfl, ?_⟩
  have hx := az.dm (uh HH) (bQ hb1)
  exact az.before (uh HB) hx
theorem pO (b g B : Nat) (e : Lk.En) (d : PD) (v : Value) (evs : List EvH) (f : Lk.Fr) (w : World) (h : FS w b e d g B v evs) (hd : f.d.length <= 64) (hst : f.st = 0) (hn : ¬ (Lk.numOf f.d = 0 ∨ 100000 < e.all + Lk.numOf f.d)) (hW : Lk.Wf { e with all := e.all + Lk.numOf f.d }) :
 Calls Tryz.prog 94 #[.pointer (some ⟨b, 0, none⟩), frA f, dO g] w fun r w' => r = .returned (.int .i64 0) ∧ az w b d g B v evs { e with all := e.all + Lk.numOf f.d } [] w' := by
 have hb0 := (Below.refl w.heap.size w).alloc (Nat.le_refl _) (.cells #[.int .i64 (f.k : Int), .int .i64 (f.st : Int), .string (bs f.d)] 79)
 have h0 := h.below hb0
 have hbl := h.live.rw.lt
 have hst' : ((f.st : Int) == 0) = true := by rw [beq_iff_eq]; omega
 have HH := hide h0
 have HB := hide hb0
 have kQ := hide (fun W => jq f W (by omega))
 have HHN := hide hn
 have HW := hide hW
 unfold frA at kQ
 generalize Lk.numOf f.d = N at *
 clear h h0 hb0 hn hst hW
 unfold dO
 go_enter Tryz.func94, Tryz.ntmps94
 go_wp2_with fail
 go_region_with (first
  | (go_at_call 143; refine (uh kQ _).mono ?_; rintro r w1 ⟨rfl, hb1⟩)
  | (go_at_call 146; have hF1 := (uh HH).below (bQ hb1); refine (AP b 9 e.all N w1 hF1.live.rw.lt (hF1.live.rw.blk.cell 9) (hF1.live.rw.blk.free 9) (uh HHN)).mono ?_; rintro r w2 ⟨rfl, rfl⟩))
 all_goals
  go_wp2_with fail
  go_ret
  refine ⟨rfl, ?_⟩
  have hx := hF1.ofL (yH hF1.live N (uh HW))
  exact az.before (uh HB) (az.before (bQ hb1) hx)
theorem lM (b g B : Nat) (e : Lk.En) (d : PD) (v : Value) (evs : List EvH) (f : Lk.Fr) (w : World) (x : Bool) (h : FS w b e d g B v evs) (hst : f.st ≠ 0) (_hst2 : f.st <= 268435455) (hup : e.lG (f.st : Int) = none) (hx : decide (f.st % 2 = e.nextId % 2 ∧ f.st < e.nextId) = x) :
 Calls Tryz.prog 94 #[.pointer (some ⟨b, 0, none⟩), frA f, dO g] w fun r w' => r = .returned (.int .i64 (if x then 0 else 4)) ∧ az w b d g B v evs e [] w' := by
 have hb0 := (Below.refl w.heap.size w).alloc (Nat.le_refl _) (.cells #[.int .i64 (f.k : Int), .int .i64 (f.st : Int), .string (bs f.d)] 79)
 have h0 := h.below hb0
 have hbl := h.live.rw.lt
 have hst' : ((f.st : Int) == 0) = false := by rw [beq_eq_false_iff_ne]; omega
 have hF := fun n => AQ b e d (f.st : Int) ((w.alloc (.cells #[.int .i64 (f.k : Int), .int .i64 (f.st : Int), .string (bs f.d)] 79)).drewN n) (h0.drewN n).live
 rw [hup] at hF
 simp only [Option.bind_none, bu, Option.isSome] at hF
 have hG := fun n => qG b f.st e.nextId ((w.alloc (.cells #[.int .i64 (f.k : Int), .int .i64 (f.st : Int), .string (bs f.d)] 79)).drewN n) (h0.live.rw.lt) (h0.live.rw.blk.cell 7)
 rw [hx] at hG
 have HF := hide hF
 have HG := hide hG
 have HH := hide h0
 have HB := hide hb0
 clear h h0 hb0 hst hup hx hF hG
 unfold dO
 cases x with
 | true =>
   go_enter Tryz.func94, Tryz.ntmps94
   go_wp2_with fail
   go_quiet ((go_at_call 147; exact Calls.quiet_of_same (uh HF _)))
   go_wp2_with fail
   go_quiet ((go_at_call 144; exact (uh HG _).mono fun _ _ h => ⟨h.1, _, h.2⟩))
   go_wp2_with fail
   go_ret
   refine ⟨rfl, az.before (uh HB) ?_⟩
   first
    | exact az.dm (uh HH) (Below.drewN (Below.refl _ _) _)
    | exact az.dm (uh HH) (Below.drewN (Below.drewN (Below.refl _ _) _) _)
 | false =>
   go_enter Tryz.func94, Tryz.ntmps94
   go_wp2_with fail
   go_quiet ((go_at_call 147; exact Calls.quiet_of_same (uh HF _)))
   go_wp2_with fail
   go_quiet ((go_at_call 144; exact (uh HG _).mono fun _ _ h => ⟨h.1, _, h.2⟩))
   go_wp2_with fail
   go_ret
   refine ⟨rfl, az.before (uh HB) ?_⟩
   first
    | exact az.dm (uh HH) (Below.drewN (Below.refl _ _) _)
    | exact az.dm (uh HH) (Below.drewN (Below.drewN (Below.refl _ _) _) _)
theorem oD (b g B i : Nat) (e : Lk.En) (d : PD) (o : Lk.Ow) (v : Value) (evs : List EvH) (f : Lk.Fr) (w : World) (h : FS w b e d g B v evs) (hd : f.d.length <= 64) (hst : f.st ≠ 0) (_hst2 : f.st <= 268435455) (hup : e.lG (f.st : Int) = some (i, o)) (x : Bool) (hx : decide (Lk.numOf f.d = 0 ∨ 100000 < o.cr + Lk.numOf f.d) = x) (hW : x = false -> Lk.Wf { e with own := e.own.set i { o with cr := o.cr + Lk.numOf f.d } }) :
 Calls Tryz.prog 94 #[.pointer (some ⟨b, 0, none⟩), frA f, dO g] w fun r w' => r = .returned (.int .i64 (if x then 10 else 0)) ∧ az w b d g B v evs (if x then e else { e with own := e.own.set i { o with cr := o.cr + Lk.numOf f.d } }) [] w' := by
 have hb0 := (Below.refl w.heap.size w).alloc (Nat.le_refl _) (.cells #[.int .i64 (f.k : Int), .int .i64 (f.st : Int), .string (bs f.d)] 79)
 have h0 := h.below hb0
 have hbl := h.live.rw.lt
 have hst' : ((f.st : Int) == 0) = false := by rw [beq_eq_false_iff_ne]; omega
 have hF := fun n => AQ b e d (f.st : Int) ((w.alloc (.cells #[.int .i64 (f.k : Int), .int .i64 (f.st : Int), .string (bs f.d)] 79)).drewN n) (h0.drewN n).live
 obtain ⟨p, hp, hIp⟩ := Qa h0.live hup
 rw [hup] at hF
 simp only [Option.bind_some, hp, bu, ptr, Option.isSome] at hF
 have hpl := hIp.lt
 have ho := (Lk.En.jS hup).1
 have hcr := (h.live.wf.own i o ho).cr
 have hnl := Lk.nP f.d
 have HF := hide hF
 have HH := hide h0
 have HB := hide hb0
 have kQ := hide (fun W => jq f W (by omega))
 have HUP := hide (⟨hup, hp, hIp⟩ : _ ∧ _ ∧ _)
 have HX := hide hx
 have HW := hide hW
 unfold frA at kQ
 generalize Lk.numOf f.d = N at *
 clear h h0 hb0 hst hup hF hp hIp ho hx hW
 unfold dO
 cases x with
 | true =>
   have hn : N = 0 ∨ 100000 < o.cr + N := by simpa using uh HX
   have HN := hide hn
   clear hn
   go_enter Tryz.func94, Tryz.ntmps94
   go_wp2_with fail
   go_quiet ((go_at_call 147; exact Calls.quiet_of_same (uh HF _)))
   go_wp2_with fail
   go_region_with (first
    | (go_at_call 143; refine (uh kQ _).mono ?_; rintro r w1 ⟨rfl, hb1⟩)
    | (go_at_call 146; have hF1 := ((uh HH).drewN (nq + 1)).below hb1; have FU := ((uh HUP).2.2.drewN (nq + 1)).below hb1 hpl; refine (Fa p 1 o.cr N w1 FU.lt (FU.cell 1) (uh HN) (by omega) hnl).mono ?_; rintro r w2 ⟨rfl, rfl⟩))
   all_goals
    go_wp2_with fail
    go_ret
    refine ⟨rfl, az.before (uh HB) ?_⟩
    have hx := az.dm ((uh HH).drewN (nq + 1)) hb1
    exact az.before (Below.drewN (Below.refl _ _) (nq + 1)) hx
 | false =>
   have hn : ¬ (N = 0 ∨ 100000 < o.cr + N) := by simpa using uh HX
   have HN := hide hn
   clear hn
   go_enter Tryz.func94, Tryz.ntmps94
   go_wp2_with fail
   go_quiet ((go_at_call 147; exact Calls.quiet_of_same (uh HF _)))
   go_wp2_with fail
   go_region_with (first
    | (go_at_call 143; refine (uh kQ _).mono ?_; rintro r w1 ⟨rfl, hb1⟩)
    | (go_at_call 146; have hF1 := ((uh HH).drewN (nq + 1)).below hb1; have FU := ((uh HUP).2.2.drewN (nq + 1)).below hb1 hpl; refine (AP p 1 o.cr N w1 FU.lt (FU.cell 1) (FU.free 1) (uh HN)).mono ?_; rintro r w2 ⟨rfl, rfl⟩))
   all_goals
    go_wp2_with fail
    go_ret
    refine ⟨rfl, az.before (uh HB) ?_⟩
    have hx := hF1.ofL (yI hF1.live N (uh HUP).1 (uh HUP).2.1 (uh HW (by first | rfl | trivial)))
    simp only [Int.natCast_add] at hx
    exact az.before (Below.drewN (Below.refl _ _) (nq + 1)) (az.before hb1 hx)
theorem uV {e : Lk.En} {k : Int} (h : e.lG k = none) {i : Nat} (hi : Lk.bK e.own k = some i) : ∃ o, e.own[i]? = some o ∧ o.done = true := by
 obtain ⟨o, ho, _⟩ := Lk.dR hi
 unfold Lk.En.lG at h
 rw [hi] at h
 simp only [Option.bind_some, ho] at h
 cases hd : o.done with
 | true => exact ⟨o, ho, hd⟩
 | false => rw [hd] at h; simp at h
theorem yJ (b g B : Nat) (e : Lk.En) (d : PD) (v : Value) (evs : List EvH) (f : Lk.Fr) (w : World) (h : FS w b e d g B v evs) (hd : f.d.length <= 64) (hst2 : f.st <= 268435455) :
 Calls Tryz.prog 94 #[.pointer (some ⟨b, 0, none⟩), frA f, dO g] w fun r w' => r = .returned (.int .i64 ((e.bU f).1 : Int)) ∧ az w b d g B v evs (e.bU f).2 [] w' := by
 have hW := h.live.wf.bU (f := f)
 unfold Lk.En.bU at hW ⊢
 by_cases hst : f.st = 0
 . rw [if_pos hst] at hW ⊢
   by_cases hn : Lk.numOf f.d = 0 ∨ 100000 < e.all + Lk.numOf f.d
   . rw [if_pos hn]
     exact qO b g B e d v evs f w h hd hst hn
   . rw [if_neg hn] at hW ⊢
     exact pO b g B e d v evs f w h hd hst hn hW
 . rw [if_neg hst] at hW ⊢
   have hbg := uk h.live.wf (a := f.st) (by omega)
   cases hix : Lk.bK e.own (f.st : Int) with
   | none =>
     rw [hix] at hbg
     have hup : e.lG (f.st : Int) = none := by unfold Lk.En.lG; rw [hix]; rfl
     exact lM b g B e d v evs f w false h hst hst2 hup hbg.symm
   | some i =>
     rw [hix] at hW hbg
     obtain ⟨o, ho, hid⟩ := Lk.dR hix
     simp only [Option.bind_some, ho, Option.map_some] at hW ⊢
     by_cases hdn : o.done = true
     . rw [if_pos hdn]
       have hup : e.lG (f.st : Int) = none := by unfold Lk.En.lG; rw [hix]; simp [ho, hdn]
       exact lM b g B e d v evs f w true h hst hst2 hup hbg.symm
     . rw [if_neg hdn] at hW ⊢
       have hup : e.lG (f.st : Int) = some (i, o) := by unfold Lk.En.lG; rw [hix]; simp [ho, hdn]
       by_cases hn : Lk.numOf f.d = 0 ∨ 100000 < o.cr + Lk.numOf f.d
       . rw [if_pos hn]
         exact oD b g B i e d o v evs f w h hd hst hst2 hup true (by simpa using hn) (fun h => by cases h)
       . rw [if_neg hn] at hW ⊢
         have := oD b g B i e d o v evs f w h hd hst hst2 hup false (by simpa using hn) (fun _ => hW)
         exact this
def Lk.En.bz (e : Lk.En) (st : Int) : Option (Nat × Lk.Ot) := (Lk.bM e.oth st).bind fun i => (e.oth[i]?).bind fun o => if o.opn || o.drp then some (i, o) else none
theorem cZ {e : Lk.En} {st : Int} {i : Nat} {o : Lk.Ot} (h : e.bz st = some (i, o)) : e.oth[i]? = some o ∧ (o.opn || o.drp) = true ∧ (o.id : Int) = st := by
 unfold Lk.En.bz at h
 cases hx : Lk.bM e.oth st with
 | none => rw [hx] at h; cases h
 | some j =>
   rw [hx] at h
   obtain ⟨x, hxo, hid⟩ := Lk.bg hx
   simp only [Option.bind_some, hxo] at h
   by_cases hd : (x.opn || x.drp) = true
   . rw [if_pos hd] at h
     simp at h
     obtain ⟨rfl, rfl⟩ := h
     exact ⟨hxo, hd, hid⟩
   . rw [if_neg hd] at h
     cases h
theorem lN {e : Lk.En} (hw : Lk.Wf e) {i : Nat} {o : Lk.Ot} (ho : e.oth[i]? = some o) (hd : (o.opn || o.drp) = true) : e.bz (o.id : Int) = some (i, o) := by
 unfold Lk.En.bz
 cases hx : Lk.bM e.oth (o.id : Int) with
 | none => exact absurd rfl (pF hx i o ho)
 | some j =>
   obtain ⟨x, hxo, hid⟩ := Lk.bg hx
   have := EJ hw ho hxo (by omega)
   subst this
   rw [ho] at hxo
   cases hxo
   simp only [Option.bind_some, ho]
   rw [if_pos hd]
theorem jA {w : World} {b : Nat} {e : Lk.En} {d : PD} (hL : Live w b e d) {st : Int} {i : Nat} {o : Lk.Ot} (h : e.bz st = some (i, o)) : ∃ p, d.ins o.id = some p ∧ Is w p 227 (inV o.cr o.held o.drp false) := by
 obtain ⟨ho, hd, hid⟩ := cZ h
 cases hp : d.ins o.id with
 | none =>
   have := (hL.yZ i o ho).none hp
   rw [hd] at this
   simp at this
 | some p =>
   obtain ⟨_, cr, cut, hI, hcc⟩ := (hL.yZ i o ho).some hp
   obtain ⟨rfl, rfl⟩ := hcc hd
   rw [hd] at hI
   exact ⟨p, rfl, hI⟩
theorem um (b : Nat) (e : Lk.En) (d : PD) (st : Int) (w : World) (hL : Live w b e d) (hk : I64 st) :
 Calls Tryz.prog 117 #[.pointer (some ⟨b, 11, none⟩), .int .i64 st] w fun r w' => (∃ q, r = .returned (.tuple #[q, .bool (e.bz st).isSome]) ∧ ∀ i o p, e.bz st = some (i, o) -> d.ins o.id = some p -> q = .pointer (some ⟨p, 0, none⟩)) ∧ ∃ n, w' = w.drewN n := by
 have c17 : w.cell? ⟨b, 17, none⟩ = some (.map (some d.mb)) := hL.rw.blk.cell 17
 cases hg : e.bz st with
 | some x =>
   obtain ⟨i, o⟩ := x
   obtain ⟨ho, hd, hid⟩ := cZ hg
   obtain ⟨p, hp, hI⟩ := jA hL hg
   refine (jr b d.mb d.mn p d.ins st o.cr o.held o.drp false w hL.rw.lt c17 hL.map hk (by rw [<- hid]; exact hp) hI).mono ?_
   rintro r w' ⟨rfl, n, rfl⟩
   refine ⟨⟨_, rfl, fun i' o' p' h h' => ?_⟩, n, rfl⟩
   cases h
   rw [hp] at h'
   cases h'
   rfl
 | none =>
   cases hp : d.ins st with
   | none =>
     refine (nC b d.mb d.mn d.ins st w hL.rw.lt c17 hL.map hk hp).mono ?_
     rintro r w' ⟨rfl, n, rfl⟩
     exact ⟨⟨_, rfl, fun i' o' p' h => by cases h⟩, n, rfl⟩
   | some p =>
     obtain ⟨i, o, cr, cut, ho, hid, hI, _, _⟩ := hL.KX hp
     have hd : (o.opn || o.drp) = false := by
      cases hx : (o.opn || o.drp) with
      | false => rfl
      | true =>
        have := lN hL.wf ho hx
        rw [hid, hg] at this
        cases this
     rw [hd] at hI
     refine (jr b d.mb d.mn p d.ins st cr o.held cut true w hL.rw.lt c17 hL.map hk hp hI).mono ?_
     rintro r w' ⟨rfl, n, rfl⟩
     exact ⟨⟨_, rfl, fun i' o' p' h => by cases h⟩, n, rfl⟩
theorem JZ {w w' : World} {b i p n : Nat} {e : Lk.En} {d : PD} {o : Lk.Ot} (hL : Live w b e d) (ho : e.oth[i]? = some o) (hop : o.opn = true) (hp : d.ins o.id = some p) (hI : Is w' p 227 (inV ((o.cr - n : Nat) : Int) ((o.held + n : Nat) : Int) false false)) (hR : Rw w' b { fH e d with icr := ((e.room - n : Nat) : Int) } d.fs) (hO : Only (fun i => i = b ∨ i = p) w w') (hW : Lk.Wf { e with oth := e.oth.set i { o with cr := o.cr - n, held := o.held + n }, room := e.room - n }) :
 bf w b d { e with oth := e.oth.set i { o with cr := o.cr - n, held := o.held + n }, room := e.room - n } w' := by
 have hOk := hL.wf.oth i o ho
 have lD := hOk.two hop
 obtain ⟨_, _, _, hI0, _⟩ := (hL.yZ i o ho).some hp
 refine hL.QI (o' := { o with cr := o.cr - n, held := o.held + n }) ho rfl hR (hO.mono (fun x hx => ?_)) (rs' := d.rs) (mn' := d.mn) (ins' := d.ins) ?_ rfl rfl rfl rfl hL.o9 hL.good hW (fun x hx => .inl hx) ?_ hL.mn ?_ (fun k _ => rfl) (fun q hq => hq)
 . rcases hx with hx | hx
   . exact .inl hx
   . exact .inr (.inr (.inr (hx ▸ hp)))
 . simp [fH, ah, Lk.En.nextId]
 . refine hL.map.only hO (fun hx => ?_)
   rcases hx with hx | hx
   . exact (hL.fQ _ (.inl hx)).2.2.2.2.1 rfl
   . exact hL.map.ne hI0 hx
 . unfold ji
   show match d.ins (o.id : Int) with | some p => _ | none => _
   rw [hp]
   refine ⟨by simp [hop], ((o.cr - n : Nat) : Int), false, ?_, fun _ => ⟨rfl, lD.symm⟩⟩
   simpa [hop, lD] using hI
theorem uX {w w' : World} {b i p n : Nat} {e : Lk.En} {d : PD} {o : Lk.Ot} {rs' : List Nat} (hL : Live w b e d) (ho : e.oth[i]? = some o) (hop : o.opn = false) (hdr : o.drp = true) (Yc : n <= 268435455) (hp : d.ins o.id = some p) (hI : Is w' p 227 (inV ((o.cr - n : Nat) : Int) 0 true false)) (hR : Rw w' b { fH e d with icr := ((e.room - n + n : Nat) : Int), rs := rs' } (d.fs ++ uS n)) (hO : Only (fun i => i = b ∨ i = p ∨ i ∈ d.rs) w w') (hrs : ∀ x ∈ rs', x ∈ d.rs ∨ w.heap.size <= x)
 (hW : Lk.Wf (({ e with oth := e.oth.set i { o with cr := o.cr - n }, room := e.room - n } : Lk.En).back n)) :
 bf w b d (({ e with oth := e.oth.set i { o with cr := o.cr - n }, room := e.room - n } : Lk.En).back n) w' := by
 have hOk := hL.wf.oth i o ho
 have hh0 := hOk.drp hdr
 obtain ⟨_, _, _, hI0, _⟩ := (hL.yZ i o ho).some hp
 refine hL.QI (o' := { o with cr := o.cr - n }) ho rfl hR (hO.mono (fun x hx => ?_)) (rs' := rs') (mn' := d.mn) (ins' := d.ins) ?_ (bD _ _).1 (bD _ _).2.1 (bD _ _).2.2.1 (bD _ _).2.2.2.1 ?_ ?_ hW hrs ?_ hL.mn ?_ (fun k _ => rfl) (fun q hq => hq)
 . rcases hx with hx | hx | hx
   . exact .inl hx
   . exact .inr (.inr (.inr (hx ▸ hp)))
   . exact .inr (.inl hx)
 . rw [tC]
   simp [fH, ah, Lk.En.nextId]
 . rw [yh]
   simp [hL.o9]
 . refine jv hL.good (fun f hf => ?_)
   unfold uS at hf
   split at hf
   . simp at hf
     subst hf
     exact Lk.cO 0 n (by omega) (by omega)
   . simp at hf
 . refine hL.map.only hO (fun hx => ?_)
   rcases hx with hx | hx | hx
   . exact (hL.fQ _ (.inl hx)).2.2.2.2.1 rfl
   . exact hL.map.ne hI0 hx
   . exact (hL.fQ _ (.inr hx)).2.2.2.2.1 rfl
 . unfold ji
   show match d.ins (o.id : Int) with | some p => _ | none => _
   rw [hp]
   refine ⟨by simp [hdr], ((o.cr - n : Nat) : Int), true, ?_, fun _ => ⟨rfl, hdr.symm⟩⟩
   simpa [hop, hdr, hh0] using hI
def Lk.En.dX (e : Lk.En) (st : Nat) (dt : Lk.Bs) : List Lk.Ev × Nat × Lk.En := match e.bz st with
 | none => ([], 4, e)
 | some (i, o) => if o.cr < dt.length ∨ e.room < dt.length then ([], 10, e)
   else if o.opn then (if 0 < dt.length then [⟨2, st, 0, [], dt⟩] else [], 0, { e with oth := e.oth.set i { o with cr := o.cr - dt.length, held := o.held + dt.length }, room := e.room - dt.length })
   else ([], 0, ({ e with oth := e.oth.set i { o with cr := o.cr - dt.length }, room := e.room - dt.length } : Lk.En).back dt.length)
theorem eY (w : World) (f : Lk.Fr) : Below w.heap.size w (w.alloc (.cells #[.int .i64 (f.k : Int), .int .i64 (f.st : Int), .string (bs f.d)] 79)) := (Below.refl w.heap.size w).alloc (Nat.le_refl _) _
theorem yK (b g B : Nat) (e : Lk.En) (d : PD) (v : Value) (evs : List EvH) (f : Lk.Fr) (w : World) (h : FS w b e d g B v evs) (hst : f.st <= 268435455) (hg : e.bz (f.st : Int) = none) :
 Calls Tryz.prog 91 #[.pointer (some ⟨b, 0, none⟩), frA f, dO g] w fun r w' => r = .returned (.int .i64 4) ∧ az w b d g B v evs e [] w' := by
 have hb0 := eY w f
 have h0 := h.below hb0
 have hbl := h.live.rw.lt
 have HF := hide (fun n => um b e d (f.st : Int) ((w.alloc (.cells #[.int .i64 (f.k : Int), .int .i64 (f.st : Int), .string (bs f.d)] 79)).drewN n) (h0.drewN n).live ⟨by omega, by omega⟩)
 rw [hg] at HF
 have HH := hide h0
 have HB := hide hb0
 clear h h0 hb0 hg
 unfold dO
 go_enter Tryz.func91, Tryz.ntmps91
 go_wp2_with fail
 go_region_with (first | (go_at_call 117; refine (uh HF 1).mono ?_; rintro r w1 ⟨⟨q, rfl, _⟩, n, rfl⟩))
 all_goals
  go_wp2_with fail
  go_ret
  refine ⟨rfl, az.before (uh HB) ?_⟩
  first
   | exact az.dm (uh HH) (Below.drewN (Below.refl _ _) _)
   | exact az.dm (uh HH) (Below.drewN (Below.drewN (Below.refl _ _) _) _)
theorem jV (b : Nat) (e : Lk.En) (d : PD) (st : Int) (i p : Nat) (o : Lk.Ot) (w : World) (hL : Live w b e d) (hk : I64 st) (hg : e.bz st = some (i, o)) (hp : d.ins o.id = some p) :
 Calls Tryz.prog 117 #[.pointer (some ⟨b, 11, none⟩), .int .i64 st] w fun r w' => r = .returned (.tuple #[.pointer (some ⟨p, 0, none⟩), .bool true]) ∧ ∃ n, w' = w.drewN n := by
 refine (um b e d st w hL hk).mono ?_
 rintro r w' ⟨⟨q, rfl, hq⟩, n, rfl⟩
 rw [hq i o p hg hp, hg]
 exact ⟨rfl, n, rfl⟩
theorem yL (b g B i : Nat) (e : Lk.En) (d : PD) (o : Lk.Ot) (v : Value) (evs : List EvH) (f : Lk.Fr) (w : World) (h : FS w b e d g B v evs) (hst : f.st <= 268435455) (hg : e.bz (f.st : Int) = some (i, o)) (hfl : o.cr < f.d.length ∨ e.room < f.d.length) :
 Calls Tryz.prog 91 #[.pointer (some ⟨b, 0, none⟩), frA f, dO g] w fun r w' => r = .returned (.int .i64 10) ∧ az w b d g B v evs e [] w' := by
 have hb0 := eY w f
 have h0 := h.below hb0
 have hbl := h.live.rw.lt
 obtain ⟨p, hp, hI⟩ := jA h0.live hg
 have hpl := hI.lt
 have hls := ax f.d
 have HF := hide (fun n => jV b e d (f.st : Int) i p o ((w.alloc (.cells #[.int .i64 (f.k : Int), .int .i64 (f.st : Int), .string (bs f.d)] 79)).drewN n) (h0.drewN n).live ⟨by omega, by omega⟩ hg hp)
 have HU := hide (fun n => MV b p e.room o.cr o.held f.d.length o.drp false (fH e d) d.fs ((w.alloc (.cells #[.int .i64 (f.k : Int), .int .i64 (f.st : Int), .string (bs f.d)] 79)).drewN n) (h0.drewN n).live.rw rfl (hI.drewN n) hfl)
 have HH := hide h0
 have HB := hide hb0
 clear h h0 hb0 hg hp hI hfl
 unfold dO
 go_enter Tryz.func91, Tryz.ntmps91
 go_wp2_with fail
 go_quiet ((go_at_call 117; exact Calls.quiet_of (uh HF _)))
 go_wp2_with fail
 go_quiet ((go_at_call 140; exact (uh HU _).mono fun _ _ h => ⟨h.1, _, h.2⟩))
 go_wp2_with fail
 go_ret
 refine ⟨rfl, az.before (uh HB) ?_⟩
 first
  | exact az.dm (uh HH) (Below.drewN (Below.refl _ _) _)
  | exact az.dm (uh HH) (Below.drewN (Below.drewN (Below.refl _ _) _) _)
end Go.Proofs.YtbkpdapagfjmmaaGreatDoor
