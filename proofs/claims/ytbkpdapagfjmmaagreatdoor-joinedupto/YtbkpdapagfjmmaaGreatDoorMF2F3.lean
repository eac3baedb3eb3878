import Derived.Test.YtbkpdapagfjmmaaGreatDoorMPXPY
/-
  Walks: what is told.
-/
namespace Go.Proofs.YtbkpdapagfjmmaaGreatDoor
open Go.RowKit

theorem info_ev : (Tryz.prog.info? 116).map (fun i => (i.zero, i.size, i.bytes)) = some (some (.agg #[.int .i64 0, .int .i64 0, .int .i64 0, .slice none 0 0, .string ⟨#[]⟩]), 5, 64) := by kernel_rfl
/-- An event, and the slice of its headers. -/
abbrev EvH := Lk.Ev × Value
def evV (p : EvH) : List Value := [.int .i64 (p.1.k : Int), .int .i64 (p.1.st : Int), .int .i64 (p.1.n : Int), p.2, .string (bs p.1.t)]
def evsV (l : List EvH) : List Value := l.flatMap evV
abbrev evA (p : EvH) : Value := .agg #[.int .i64 (p.1.k : Int), .int .i64 (p.1.st : Int), .int .i64 (p.1.n : Int), p.2, .string (bs p.1.t)]
theorem evsV_len (l : List EvH) : (evsV l).length = l.length * 5 := by
  induction l with
  | nil => rfl
  | cons x l ih => simp only [evsV, List.flatMap_cons, List.length_append, evV, List.length_cons, List.length_nil] at ih ⊢; omega
theorem evsV_append (a b : List EvH) : evsV (a ++ b) = evsV a ++ evsV b := by simp [evsV]
def tellV (g : Nat) : Value := .func (.func 47) #[] #[.pointer (some ⟨g, 0, none⟩)]

/-- What was told, in a variable of block g. -/
structure Told (w : World) (g B : Nat) (v : Value) (evs : List EvH) : Prop where
  box : Is w g 62 [v]
  row : w.ownsRow B 116 5 v evs.length (evsV evs)
  hds : ∀ p ∈ evs, w.ownsRow B 112 2 p.2 p.1.hs.length (hdsV p.1.hs)
  apart : evs.Pairwise fun p q => p.2.ownBlock = none ∨ p.2.ownBlock ≠ q.2.ownBlock
def toldFoot (g : Nat) (v : Value) (evs : List EvH) (i : Nat) : Prop := i = g ∨ v.ownBlock = some i ∨ ∃ p ∈ evs, p.2.ownBlock = some i
theorem Told.only {S : Nat → Prop} {w w' : World} {g B : Nat} {v : Value} {evs : List EvH} (h : Told w g B v evs) (k : Only S w w') (hn : ∀ i, toldFoot g v evs i → ¬ S i) : Told w' g B v evs :=
  ⟨h.box.only k (hn g (.inl rfl)), own_only h.row k (fun i hi => hn i (.inr (.inl hi))), fun p hp => own_only (h.hds p hp) k (fun i hi => hn i (.inr (.inr ⟨p, hp, hi⟩))), h.apart⟩
theorem Told.lt {w : World} {g B : Nat} {v : Value} {evs : List EvH} (h : Told w g B v evs) : ∀ i, toldFoot g v evs i → i < w.heap.size := by
  intro i hi
  rcases hi with rfl | hi | ⟨p, hp, hi⟩
  · exact h.box.lt
  · exact (h.row.lt i hi).2
  · exact ((h.hds p hp).lt i hi).2

set_option maxHeartbeats 1000000 in
set_option maxRecDepth 100000 in
theorem tell_any (g B : Nat) (v : Value) (evs : List EvH) (p : EvH) (w : World) (hT : Told w g B v evs) (hB : B ≤ w.heap.size) (hl : evs.length ≤ 2 ^ 40) (hp : w.ownsRow B 112 2 p.2 p.1.hs.length (hdsV p.1.hs)) (hap : ∀ q ∈ evs, q.2.ownBlock = none ∨ q.2.ownBlock ≠ p.2.ownBlock) :
    Calls Tryz.prog 47 #[evA p, .pointer (some ⟨g, 0, none⟩)] w fun e w' => e = .returned (.tuple #[]) ∧ ∃ v', Told w' g B v' (evs ++ [p]) ∧ (v'.ownBlock = v.ownBlock ∨ ∀ k, v'.ownBlock = some k → w.heap.size ≤ k) ∧ Only (fun i => i = g ∨ v.ownBlock = some i) w w' := by
  obtain ⟨i, hi, hz0, hz1, hz2⟩ := info_parts info_ev
  have c0 := hT.box.cell 0
  simp only [List.getElem?_cons_zero] at c0
  have hgl := hT.box.lt
  obtain ⟨va, vn, vcap, hv, hvn⟩ := own_slice hT.row
  clear hvn
  subst hv
  obtain ⟨pa, pn, pcap, hpv, hpn⟩ := own_slice hp
  clear hpn
  have hO0 : Only (fun _ => False) w ((w.alloc (.cells (evV p).toArray 116)).alloc (.cells (evV p).toArray 116)) := ((Only.refl _ w).alloc _).alloc _
  have hT0 := hT.only hO0 (fun _ _ h => h)
  have HF := hide (⟨hT, hT0, hp, hO0, hap⟩ : _ ∧ _ ∧ _ ∧ _ ∧ _)
  clear hT hT0 hp hap hO0
  unfold evV at HF
  obtain ⟨⟨ek, est, en, ehs, et⟩, ph⟩ := p
  simp only at hpv
  subst hpv
  go_enter Tryz.func47, Tryz.ntmps47
  go_wp2_with (at_builtin; refine wpList_append_lies _ rfl _ _ 62 rfl B 116 i _ 5 64 Tryz.underlying62 hi hz0 hz1 hz2 rfl (by decide) _ evs.length (evsV evs) rfl (unhide HF).2.1.row ⟨w.heap.size + 1, 0, none⟩ 1 1 [.int .i64 (ek : Int), .int .i64 (est : Int), .int .i64 (en : Int), .slice pa pn pcap, .string (bs et)] rfl rfl ?hnews ?h1 (by decide) ?h63 ?hby ?hba _ rfl ?_)
  case h1 => simp [Value.oneCell']
  case h63 => unfold maxLen; omega
  case hby => omega
  case hba => first | omega | (simp; omega)
  intro g1 cap1 w3 ho3 hg3 hor3 hlt3
  obtain ⟨hT, hT0, hp, hO0, hap⟩ := unhide HF
  have hO3 : Only (fun i => (Value.slice va vn vcap).ownBlock = some i) w w3 := (hO0.mono (fun _ h => h.elim)).grown hg3 (fun i hi _ => hi)
  have hbox3 := hT.box.only hO3 (fun e => own_ne hT.row hT.box (Nat.ne_of_beq_eq_false rfl) e.symm)
  have hhd : ∀ (q : Value) (n : Nat) (xs : List Value), w.ownsRow B 112 2 q n xs → w3.ownsRow B 112 2 q n xs := fun q n xs ho => own_only ho hO3 (fun x hx hy => by
    rcases own_own_ne ho hT.row (Nat.ne_of_beq_eq_false rfl) with h | h
    · rw [h] at hx; cases hx
    · exact h (hx.trans hy.symm))
  have hgg : g1 ≠ g := fun e => by
    subst e
    have hI : Is w3 g1 62 _ := hbox3
    exact own_ne ho3 hI (Nat.ne_of_beq_eq_false rfl) rfl
  have hO4 : Only (· = g) w3 (w3.setCell ⟨g, 0, none⟩ (.slice (some ⟨g1, 0, none⟩) (evs.length + 1) cap1)) := (Only.refl (· = g) w3).set g 0 _ (fun _ => rfl)
  have hfin : Told (w3.setCell ⟨g, 0, none⟩ (.slice (some ⟨g1, 0, none⟩) (evs.length + 1) cap1)) g B (.slice (some ⟨g1, 0, none⟩) (evs.length + 1) cap1) (evs ++ [(⟨ek, est, en, ehs, et⟩, .slice pa pn pcap)]) := by
    have hhd4 : ∀ (q : Value) (n : Nat) (xs : List Value), w.ownsRow B 112 2 q n xs → (w3.setCell ⟨g, 0, none⟩ (.slice (some ⟨g1, 0, none⟩) (evs.length + 1) cap1)).ownsRow B 112 2 q n xs := fun q n xs ho => own_only (hhd q n xs ho) hO4 (fun x hx e => by subst e; exact own_ne ho hT.box (Nat.ne_of_beq_eq_false rfl) hx.symm)
    refine ⟨hbox3.set 0 _, ?_, fun q hq => ?_, ?_⟩
    · have := own_only ho3 hO4 (fun x hx e => hgg (by simpa [Value.ownBlock] using hx.trans (congrArg some e)))
      rw [evsV_append]
      simpa [evsV, evV] using this
    · rcases List.mem_append.1 hq with hq | hq
      · exact hhd4 _ _ _ (hT.hds q hq)
      · simp at hq
        subst hq
        exact hhd4 _ _ _ hp
    · refine List.pairwise_append.2 ⟨hT.apart, by simp, fun a ha q hq => ?_⟩
      simp at hq
      subst hq
      exact hap a ha
  have hO5 : Only (fun i => i = g ∨ (Value.slice va vn vcap).ownBlock = some i) w (w3.setCell ⟨g, 0, none⟩ (.slice (some ⟨g1, 0, none⟩) (evs.length + 1) cap1)) := (hO3.mono (fun i hi => .inr hi)).trans hO4 (fun i hi _ => .inl hi)
  have hw : (Value.slice (some ⟨g1, 0, none⟩) (evs.length + 1) cap1).ownBlock = (Value.slice va vn vcap).ownBlock ∨ ∀ k, (Value.slice (some ⟨g1, 0, none⟩) (evs.length + 1) cap1).ownBlock = some k → w.heap.size ≤ k := by
    rcases hor3 with h | h
    · exact .inl (by rw [h]; rfl)
    · refine .inr (fun k hk => ?_)
      have : g1 = k := by simpa [Value.ownBlock] using hk
      omega
  have c0 := hbox3.cell 0
  have f0 := hbox3.free 0
  have hgl3 := hbox3.lt
  simp only [List.getElem?_cons_zero] at c0
  have HX := hide (⟨hfin, hw, hO5⟩ : _ ∧ _ ∧ _)
  clear hT hT0 hp hO0 hap hO3 hbox3 hhd hO4 hfin hO5 hw ho3 hg3 hor3
  go_wp2_with fail
  go_end0
  obtain ⟨hfin, hw, hO5⟩ := unhide HX
  exact ⟨rfl, _, hfin, hw, hO5⟩
end Go.Proofs.YtbkpdapagfjmmaaGreatDoor

/-
  Walks: what an end does with a frame: pings, pongs, byes.
-/
namespace Go.Proofs.YtbkpdapagfjmmaaGreatDoor
open Go.RowKit

theorem Fx.only {S : Nat → Prop} {w w' : World} (h : Fx w) (k : Only S w w') (hn : ¬ S 0) : Fx w' :=
  ⟨Nat.lt_of_lt_of_le h.1 k.size, fun i x hx => by
    have e : ∀ j, w'.cell? ⟨0, j, none⟩ = w.cell? ⟨0, j, none⟩ := fun j => by simp only [World.cell?]; rw [k.block 0 h.1 hn]
    rw [e, e]; exact h.2 i x hx⟩
/-- An end that is fed, and what it has told. -/
structure FS (w : World) (b : Nat) (e : Lk.En) (d : PD) (g B : Nat) (v : Value) (evs : List EvH) : Prop where
  live : Live w b e d
  told : Told w g B v evs
  sep : ∀ i, toldFoot g v evs i → ¬ foot b d i
  fx : Fx w
  hB : B ≤ w.heap.size
  B0 : 0 < B
  gB : B ≤ g
theorem FS.toldPos {w : World} {b : Nat} {e : Lk.En} {d : PD} {g B : Nat} {v : Value} {evs : List EvH} (h : FS w b e d g B v evs) : ∀ i, toldFoot g v evs i → B ≤ i := by
  intro i hi
  rcases hi with rfl | hi | ⟨p, hp, hi⟩
  · exact h.gB
  · exact (h.told.row.lt i hi).1
  · exact ((h.told.hds p hp).lt i hi).1
theorem FS.only {S : Nat → Prop} {w w' : World} {b : Nat} {e : Lk.En} {d : PD} {g B : Nat} {v : Value} {evs : List EvH} (h : FS w b e d g B v evs) (k : Only S w w') (h1 : ∀ i, foot b d i → ¬ S i) (h2 : ∀ i, toldFoot g v evs i → ¬ S i) (h3 : ¬ S 0) : FS w' b e d g B v evs :=
  ⟨h.live.only k h1, h.told.only k h2, h.sep, h.fx.only k h3, Nat.le_trans h.hB k.size, h.B0, h.gB⟩
theorem FS.below {w w' : World} {b : Nat} {e : Lk.En} {d : PD} {g B : Nat} {v : Value} {evs : List EvH} (h : FS w b e d g B v evs) (hb : Below w.heap.size w w') : FS w' b e d g B v evs := h.only (Only.of_below hb (fun _ => False)) (fun _ _ h => h) (fun _ _ h => h) (fun h => h)
theorem FS.alloc {w : World} {b : Nat} {e : Lk.En} {d : PD} {g B : Nat} {v : Value} {evs : List EvH} (h : FS w b e d g B v evs) (o : Obj) : FS (w.alloc o) b e d g B v evs := h.below ((Below.refl _ _).alloc (Nat.le_refl _) o)
theorem FS.drewN {w : World} {b : Nat} {e : Lk.En} {d : PD} {g B : Nat} {v : Value} {evs : List EvH} (h : FS w b e d g B v evs) (n : Nat) : FS (w.drewN n) b e d g B v evs := h.only ((Only.refl (fun _ => False) w).drewN n) (fun _ _ h => h) (fun _ _ h => h) (fun h => h)
theorem FS.drew {w : World} {b : Nat} {e : Lk.En} {d : PD} {g B : Nat} {v : Value} {evs : List EvH} (h : FS w b e d g B v evs) : FS w.drew b e d g B v evs := h.drewN 1

/-- What is left behind a frame. -/
def GPost (w : World) (b : Nat) (d : PD) (g B : Nat) (v : Value) (evs : List EvH) (e' : Lk.En) (evl : List Lk.Ev) (w' : World) : Prop :=
  ∃ d' v' news, news.map Prod.fst = evl ∧ FS w' b e' d' g B v' (evs ++ news) ∧ (∀ i, foot b d' i → foot b d i ∨ w.heap.size ≤ i) ∧ (∀ i, toldFoot g v' (evs ++ news) i → toldFoot g v evs i ∨ w.heap.size ≤ i) ∧ Only (fun i => foot b d i ∨ toldFoot g v evs i) w w'
theorem GPost.trans {w w1 w2 : World} {b : Nat} {d d1 : PD} {g B : Nat} {v v1 : Value} {evs n1 : List EvH} {e1 e2 : Lk.En} {l1 l2 : List Lk.Ev} (hn : n1.map Prod.fst = l1) (_h1 : FS w1 b e1 d1 g B v1 (evs ++ n1)) (hf : ∀ i, foot b d1 i → foot b d i ∨ w.heap.size ≤ i) (ht : ∀ i, toldFoot g v1 (evs ++ n1) i → toldFoot g v evs i ∨ w.heap.size ≤ i) (hO : Only (fun i => foot b d i ∨ toldFoot g v evs i) w w1) (h2 : GPost w1 b d1 g B v1 (evs ++ n1) e2 l2 w2) : GPost w b d g B v evs e2 (l1 ++ l2) w2 := by
  obtain ⟨d2, v2, n2, a1, a2, a3, a4, a5⟩ := h2
  rw [List.append_assoc] at a2 a4
  refine ⟨d2, v2, n1 ++ n2, by rw [List.map_append, hn, a1], a2, fun i hi => ?_, fun i hi => ?_, hO.trans a5 (fun i hi hlt => ?_)⟩
  · rcases a3 i hi with h | h
    · exact hf i h
    · exact .inr (Nat.le_trans hO.size h)
  · rcases a4 i hi with h | h
    · exact ht i h
    · exact .inr (Nat.le_trans hO.size h)
  · rcases hi with h | h
    · rcases hf i h with h | h
      · exact .inl h
      · omega
    · rcases ht i h with h | h
      · exact .inr h
      · omega
/-- The end alone has turned. -/
theorem FS.ofL {w w' : World} {b : Nat} {e e' : Lk.En} {d : PD} {g B : Nat} {v : Value} {evs : List EvH} (h : FS w b e d g B v evs) (hL : LPost w b d e' w') : GPost w b d g B v evs e' [] w' := by
  obtain ⟨d', h1, h2, h3⟩ := hL
  refine ⟨d', v, [], rfl, ?_, h2, fun i hi => .inl (by rwa [List.append_nil] at hi), h3.mono (fun i hi => .inl hi)⟩
  rw [List.append_nil]
  refine ⟨h1, h.told.only h3 h.sep, fun i hi hf => ?_, h.fx.only h3 (fun h0 => by have := h.live.pos 0 h0; omega), Nat.le_trans h.hB h3.size, h.B0, h.gB⟩
  rcases h2 i hf with h' | h'
  · exact h.sep i hi h'
  · have := h.told.lt i hi; omega
theorem GPost.same {w : World} {b : Nat} {e : Lk.En} {d : PD} {g B : Nat} {v : Value} {evs : List EvH} (h : FS w b e d g B v evs) : GPost w b d g B v evs e [] w := h.ofL (LPost.same h.live)
theorem GPost.before {w W w' : World} {b : Nat} {d : PD} {g B : Nat} {v : Value} {evs : List EvH} {e' : Lk.En} {l : List Lk.Ev} (hb : Below w.heap.size w W) (h : GPost W b d g B v evs e' l w') : GPost w b d g B v evs e' l w' := by
  obtain ⟨d', v', n, a1, a2, a3, a4, a5⟩ := h
  exact ⟨d', v', n, a1, a2, fun i hi => (a3 i hi).imp id (Nat.le_trans hb.size), fun i hi => (a4 i hi).imp id (Nat.le_trans hb.size), (Only.of_below hb _).trans a5 (fun i hi _ => hi)⟩
theorem GPost.same_below {w W : World} {b : Nat} {e : Lk.En} {d : PD} {g B : Nat} {v : Value} {evs : List EvH} (h : FS w b e d g B v evs) (hb : Below w.heap.size w W) : GPost w b d g B v evs e [] W := GPost.before hb (GPost.same (h.below hb))

/-- An event is told. -/
theorem tell_fs (b g B : Nat) (e : Lk.En) (d : PD) (v : Value) (evs : List EvH) (ev : Lk.Ev) (hv : Value) (w : World) (h : FS w b e d g B v evs) (hl : evs.length ≤ 2 ^ 40) (hp : w.ownsRow B 112 2 hv ev.hs.length (hdsV ev.hs)) (hd : ∀ i, hv.ownBlock = some i → ¬ foot b d i ∧ ¬ toldFoot g v evs i) (H : Nat) (hH : H ≤ w.heap.size) (hnew : ∀ i, hv.ownBlock = some i → H ≤ i) :
    Calls Tryz.prog 47 #[evA (ev, hv), .pointer (some ⟨g, 0, none⟩)] w fun r w' => r = .returned (.tuple #[]) ∧ ∃ v', FS w' b e d g B v' (evs ++ [(ev, hv)]) ∧ (∀ i, toldFoot g v' (evs ++ [(ev, hv)]) i → toldFoot g v evs i ∨ H ≤ i) ∧ Only (fun i => foot b d i ∨ toldFoot g v evs i) w w' := by
  refine (tell_any g B v evs (ev, hv) w h.told h.hB hl hp (fun q hq => ?_)).mono ?_
  · cases hx : q.2.ownBlock with
    | none => exact .inl rfl
    | some i => exact .inr (fun e => (hd i (by rw [← e])).2 (.inr (.inr ⟨q, hq, hx⟩)))
  rintro r w' ⟨rfl, v', hT, hv', hO⟩
  have hO' : Only (fun i => foot b d i ∨ toldFoot g v evs i) w w' := hO.mono (fun i hi => .inr (hi.imp id (fun h => .inl h)))
  have hsub : ∀ i, toldFoot g v' (evs ++ [(ev, hv)]) i → toldFoot g v evs i ∨ hv.ownBlock = some i ∨ w.heap.size ≤ i := by
    intro i hi
    rcases hi with hi | hi | ⟨p, hp, hi⟩
    · exact .inl (.inl hi)
    · rcases hv' with h' | h'
      · exact .inl (.inr (.inl (h' ▸ hi)))
      · exact .inr (.inr (h' i hi))
    · rcases List.mem_append.1 hp with hp | hp
      · exact .inl (.inr (.inr ⟨p, hp, hi⟩))
      · simp at hp
        subst hp
        exact .inr (.inl hi)
  refine ⟨rfl, v', ⟨h.live.only hO (fun i hi hx => h.sep i (hx.imp id (fun h => .inl h)) hi), hT, fun i hi hf => ?_, h.fx.only hO (fun hx => ?_), Nat.le_trans h.hB hO.size, h.B0, h.gB⟩, fun i hi => ?_, hO'⟩
  · rcases hsub i hi with h' | h' | h'
    · exact h.sep i h' hf
    · exact (hd i h').1 hf
    · have := h.live.lt i hf; omega
  · have := h.toldPos 0 (hx.imp id (fun h => .inl h))
    have := h.B0
    omega
  · rcases hsub i hi with h' | h' | h'
    · exact .inl h'
    · exact .inr (hnew i h')
    · exact .inr (Nat.le_trans hH h')
/-- An event without headers. -/
theorem tell_plain (b g B : Nat) (e : Lk.En) (d : PD) (v : Value) (evs : List EvH) (k st n : Nat) (t : Lk.Bs) (w : World) (h : FS w b e d g B v evs) (hl : evs.length ≤ 2 ^ 40) :
    Calls Tryz.prog 47 #[.agg #[.int .i64 (k : Int), .int .i64 (st : Int), .int .i64 (n : Int), .slice none 0 0, .string (bs t)], .pointer (some ⟨g, 0, none⟩)] w fun r w' => r = .returned (.tuple #[]) ∧ GPost w b d g B v evs e [⟨k, st, n, [], t⟩] w' := by
  refine (tell_fs b g B e d v evs ⟨k, st, n, [], t⟩ (.slice none 0 0) w h hl (World.ownsRow_nil _ _ _ _) (fun i hi => by cases hi) w.heap.size (Nat.le_refl _) (fun i hi => by cases hi)).mono ?_
  rintro r w' ⟨rfl, v', h1, h2, h3⟩
  exact ⟨rfl, d, v', _, rfl, h1, fun i hi => .inl hi, h2, h3⟩

theorem gotPong_any (b g B : Nat) (e : Lk.En) (d : PD) (v : Value) (evs : List EvH) (f : Lk.Fr) (w : World) (h : FS w b e d g B v evs) (hl : evs.length ≤ 2 ^ 40) :
    Calls Tryz.prog 96 #[.pointer (some ⟨b, 0, none⟩), frA f, tellV g] w fun r w' => r = .returned (.int .i64 0) ∧ GPost w b d g B v evs e [⟨5, 0, 0, [], f.d⟩] w' := by
  have hb0 := (Below.refl w.heap.size w).alloc (Nat.le_refl _) (.cells #[.int .i64 (f.k : Int), .int .i64 (f.st : Int), .string (bs f.d)] 79)
  have HC := hide (tell_plain b g B e d v evs 5 0 0 f.d _ (h.below hb0) hl)
  have HB := hide hb0
  clear h hb0
  unfold tellV
  go_enter Tryz.func96, Tryz.ntmps96
  go_wp2_with fail
  refine (unhide HC).mono ?_
  rintro r w1 ⟨rfl, hG⟩
  go_wp2_with fail
  go_ret
  exact ⟨rfl, GPost.before (unhide HB) hG⟩

set_option maxHeartbeats 1000000 in
set_option maxRecDepth 100000 in
theorem gotPing_any (b g B : Nat) (e : Lk.En) (d : PD) (v : Value) (evs : List EvH) (f : Lk.Fr) (w : World) (h : FS w b e d g B v evs) (hd : f.d.length = 8) :
    Calls Tryz.prog 95 #[.pointer (some ⟨b, 0, none⟩), frA f, tellV g] w fun r w' => r = .returned (.int .i64 0) ∧ GPost w b d g B v evs (e.send 6 0 f.d) [] w' := by
  have hb0 := (Below.refl w.heap.size w).alloc (Nat.le_refl _) (.cells #[.int .i64 (f.k : Int), .int .i64 (f.st : Int), .string (bs f.d)] 79)
  have h0 := h.below hb0
  have hR := h0.live.rw
  have hbl := hR.lt
  have hbl0 := h.live.rw.lt
  have HH := hide h0
  have HB := hide hb0
  clear h hb0 h0
  unfold tellV
  go_enter Tryz.func95, Tryz.ntmps95
  go_wp2_with fail
  go_cut [] (fun wc => GPost w b d g B v evs (e.send 6 0 f.d) [] wc)
  case first =>
    go_region_with (first | (go_at_call 45; refine (putEnd_any b (ecOf e d) d.fs ⟨6, 0, f.d⟩ _ hR.drew).mono ?_; rintro r w1 ⟨rfl, n, hn, hR1, hO1⟩))
    all_goals
      go_wp2_with fail
      go_meet
      exact GPost.before (unhide HB) ((unhide HH).ofL ((unhide HH).live.put hR1 hn hO1.undrew (Lk.good_eight 6 f.d (by omega) hd)))
  case rest =>
    go_wp2_with fail
    go_ret
    exact ⟨rfl, hcut⟩

theorem gotBye_any (b g B : Nat) (e : Lk.En) (d : PD) (v : Value) (evs : List EvH) (f : Lk.Fr) (w : World) (h : FS w b e d g B v evs) (hl : evs.length ≤ 2 ^ 40) (hd : f.d.length ≤ 64) :
    Calls Tryz.prog 97 #[.pointer (some ⟨b, 0, none⟩), frA f, tellV g] w fun r w' => r = .returned (.int .i64 0) ∧ GPost w b d g B v evs { e with byeC := true } [⟨6, 0, Lk.numOf f.d, [], []⟩] w' := by
  have hb0 := (Below.refl w.heap.size w).alloc (Nat.le_refl _) (.cells #[.int .i64 (f.k : Int), .int .i64 (f.st : Int), .string (bs f.d)] 79)
  have h0 := h.below hb0
  have hR := h0.live.rw
  have hbl := h.live.rw.lt
  have c21 : (w.alloc (.cells #[.int .i64 (f.k : Int), .int .i64 (f.st : Int), .string (bs f.d)] 79)).cell? ⟨b, 21, none⟩ = some (.bool e.byeC) := hR.blk.cell 21
  have c21w : w.cell? ⟨b, 21, none⟩ = some (.bool e.byeC) := h.live.rw.blk.cell 21
  have f21 := h.live.rw.blk.free 21
  have hI1 : Is ((w.setCell ⟨b, 21, none⟩ (.bool true)).alloc (.cells #[.int .i64 (f.k : Int), .int .i64 (f.st : Int), .string (bs f.d)] 79)) b 101 ({ ecOf e d with bc := true } : EC).cells := (h.live.rw.blk.set 21 (.bool true)).alloc _
  have hO1 : Only (· = b) w ((w.setCell ⟨b, 21, none⟩ (.bool true)).alloc (.cells #[.int .i64 (f.k : Int), .int .i64 (f.st : Int), .string (bs f.d)] 79)) := ((Only.refl (· = b) w).set b 21 _ (fun _ => rfl)).alloc _
  have hR1 := h.live.rw.cell hI1 hO1 rfl
  have hw := h.live.wf
  have hLP : LPost w b d { e with byeC := true } ((w.setCell ⟨b, 21, none⟩ (.bool true)).alloc (.cells #[.int .i64 (f.k : Int), .int .i64 (f.st : Int), .string (bs f.d)] 79)) :=
    ⟨_, h.live.rowOp (e' := { e with byeC := true }) (rs' := d.rs) hR1 (hO1.mono (fun i hi => .inl hi)) rfl rfl rfl rfl rfl h.live.rowe h.live.good ⟨hw.side, hw.win1, hw.win2, hw.out, hw.inn, fun i o ho => by obtain ⟨a, b, c, d⟩ := hw.own i o ho; exact ⟨a, b, c, d⟩, fun i o ho => by obtain ⟨a, b, c, d, f⟩ := hw.oth i o ho; exact ⟨a, b, c, d, f⟩, hw.all, hw.room, hw.row, hw.rest⟩ (fun x hx => .inl hx)⟩
  obtain ⟨d1, v1, n1, a1, a2, a3, a4, a5⟩ := h.ofL hLP
  have hn1 : n1 = [] := List.map_eq_nil_iff.1 a1
  subst hn1
  rw [List.append_nil] at a2 a4
  have HN := hide (fnumber_any f ((w.setCell ⟨b, 21, none⟩ (.bool true)).alloc (.cells #[.int .i64 (f.k : Int), .int .i64 (f.st : Int), .string (bs f.d)] 79)) (by omega))
  have HX := hide (⟨a2, a3, a4, a5⟩ : _ ∧ _ ∧ _ ∧ _)
  clear h h0 hR hI1 hO1 hR1 hw hLP a1 a2 a3 a4 a5 hb0
  unfold tellV
  unfold frA at HN
  go_enter Tryz.func97, Tryz.ntmps97
  go_wp2_with fail
  refine (unhide HN).mono ?_
  rintro r w2 ⟨rfl, hb2⟩
  obtain ⟨a2, a3, a4, a5⟩ := unhide HX
  have h2 := a2.below hb2
  have HT := hide (tell_plain b g B _ d1 v1 evs 6 0 (Lk.numOf f.d) [] w2 h2 hl)
  have e0 : bs [] = ⟨#[]⟩ := rfl
  rw [e0] at HT
  have HX2 := hide (⟨h2, a5.below hb2⟩ : _ ∧ _)
  clear a2 a5 h2 hb2
  go_wp2_with fail
  refine (unhide HT).mono ?_
  rintro r w3 ⟨rfl, hG⟩
  go_wp2_with fail
  go_ret
  obtain ⟨h2, hO2⟩ := unhide HX2
  refine ⟨rfl, ?_⟩
  have := GPost.trans (n1 := []) (l1 := []) rfl (by rw [List.append_nil]; exact h2) a3 (by rw [List.append_nil]; exact a4) hO2 (by rw [List.append_nil]; exact hG)
  exact this
end Go.Proofs.YtbkpdapagfjmmaaGreatDoor
