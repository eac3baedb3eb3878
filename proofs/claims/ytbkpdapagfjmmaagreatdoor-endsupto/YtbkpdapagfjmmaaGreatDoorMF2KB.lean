import Derived.Test.YtbkpdapagfjmmaaGreatDoorMPWPY
import Derived.Test.YtbkpdapagfjmmaaGreatDoorMKAPK
set_option linter.unusedVariables false
set_option maxRecDepth 100000
set_option maxHeartbeats 16000000
namespace Go.Proofs.YtbkpdapagfjmmaaGreatDoor
open Go.RowKit
theorem info_ev : (Tryz.prog.info? 116).map (fun i => (i.zero, i.size, i.bytes)) = some (some (.agg #[.int .i64 0, .int .i64 0, .int .i64 0, .slice none 0 0, .string ⟨#[]⟩]), 5, 64) := by kernel_rfl
abbrev EvH := Lk.Ev × Value
def evV (p : EvH) : List Value := [.int .i64 (p.1.k : Int), .int .i64 (p.1.st : Int), .int .i64 (p.1.n : Int), p.2, .string (bs p.1.t)]
def evsV (l : List EvH) : List Value := l.flatMap evV
abbrev evA (p : EvH) : Value := .agg #[.int .i64 (p.1.k : Int), .int .i64 (p.1.st : Int), .int .i64 (p.1.n : Int), p.2, .string (bs p.1.t)]
theorem evsV_append (a b : List EvH) : evsV (a ++ b) = evsV a ++ evsV b := by simp [evsV]
def tellV (g : Nat) : Value := .func (.func 47) #[] #[.pointer (some ⟨g, 0, none⟩)]
structure Told (w : World) (g B : Nat) (v : Value) (evs : List EvH) : Prop where
  box : Is w g 62 [v]
  row : w.ownsRow B 116 5 v evs.length (evsV evs)
  hds : ∀ p ∈ evs, w.ownsRow B 112 2 p.2 p.1.hs.length (hdsV p.1.hs)
  apart : evs.Pairwise fun p q => p.2.ownBlock = none ∨ p.2.ownBlock ≠ q.2.ownBlock
def toldFoot (g : Nat) (v : Value) (evs : List EvH) (i : Nat) : Prop := i = g ∨ v.ownBlock = some i ∨ ∃ p ∈ evs, p.2.ownBlock = some i
theorem Told.only {S : Nat → Prop} {w w' : World} {g B : Nat} {v : Value} {evs : List EvH} (h : Told w g B v evs) (k : Only S w w') (hn : ∀ i, toldFoot g v evs i → ¬ S i) : Told w' g B v evs :=
  ⟨h.box.only k (hn g (.inl rfl)), own_only h.row k (fun i hi => hn i (.inr (.inl hi))), fun p hp => own_only (h.hds p hp) k (fun i hi => hn i (.inr (.inr ⟨p, hp, hi⟩))), h.apart⟩
theorem Told.lt {w : World} {g B : Nat} {v : Value} {evs : List EvH} (h : Told w g B v evs) : ∀ i, toldFoot g v evs i → i < w.heap.size := by
  intro i hi
  rcases hi with rfl | hi | ⟨p, hp, hi⟩
  · exact h.box.lt
  · exact (h.row.lt i hi).2
  · exact ((h.hds p hp).lt i hi).2
theorem tell_any (g B : Nat) (v : Value) (evs : List EvH) (p : EvH) (w : World) (hT : Told w g B v evs) (hB : B ≤ w.heap.size) (hl : evs.length ≤ 2 ^ 40) (hp : w.ownsRow B 112 2 p.2 p.1.hs.length (hdsV p.1.hs)) (hap : ∀ q ∈ evs, q.2.ownBlock = none ∨ q.2.ownBlock ≠ p.2.ownBlock) :
    Calls Tryz.prog 47 #[evA p, .pointer (some ⟨g, 0, none⟩)] w fun e w' => e = .returned (.tuple #[]) ∧ ∃ v', Told w' g B v' (evs ++ [p]) ∧ (v'.ownBlock = v.ownBlock ∨ ∀ k, v'.ownBlock = some k → w.heap.size ≤ k) ∧ Only (fun i => i = g ∨ v.ownBlock = some i) w w' := by
  obtain ⟨i, hi, hz0, hz1, hz2⟩ := info_parts info_ev
  have c0 := hT.box.cell 0
  simp only [List.getElem?_cons_zero] at c0
  have hgl := hT.box.lt
  obtain ⟨va, vn, vcap, hv, hvn⟩ := own_slice hT.row
  clear hvn
  subst hv
  obtain ⟨pa, pn, pcap, hpv, hpn⟩ := own_slice hp
  clear hpn
  have hO0 : Only (fun _ => False) w ((w.alloc (.cells (evV p).toArray 116)).alloc (.cells (evV p).toArray 116)) := ((Only.refl _ w).alloc _).alloc _
  have hT0 := hT.only hO0 (fun _ _ h => h)
  have HF := hide (⟨hT, hT0, hp, hO0, hap⟩ : _ ∧ _ ∧ _ ∧ _ ∧ _)
  clear hT hT0 hp hap hO0
  unfold evV at HF
  obtain ⟨⟨ek, est, en, ehs, et⟩, ph⟩ := p
  simp only at hpv
  subst hpv
  go_enter Tryz.func47, Tryz.ntmps47
  go_wp2_with (at_builtin; refine wpList_append_lies _ rfl _ _ 62 rfl B 116 i _ 5 64 Tryz.underlying62 hi hz0 hz1 hz2 rfl (by decide) _ evs.length (evsV evs) rfl (uh HF).2.1.row ⟨w.heap.size + 1, 0, none⟩ 1 1 [.int .i64 (ek : Int), .int .i64 (est : Int), .int .i64 (en : Int), .slice pa pn pcap, .string (bs et)] rfl rfl ?hnews ?h1 (by decide) ?h63 ?hby ?hba _ rfl ?_)
  case h1 => simp [Value.oneCell']
  case h63 => unfold maxLen; omega
  case hby => omega
  case hba => first | omega | (simp; omega)
  intro g1 cap1 w3 ho3 hg3 hor3 hlt3
  obtain ⟨hT, hT0, hp, hO0, hap⟩ := uh HF
  have hO3 : Only (fun i => (Value.slice va vn vcap).ownBlock = some i) w w3 := (hO0.mono (fun _ h => h.elim)).grown hg3 (fun i hi _ => hi)
  have hbox3 := hT.box.only hO3 (fun e => own_ne hT.row hT.box (nbq rfl) e.symm)
  have hhd : ∀ (q : Value) (n : Nat) (xs : List Value), w.ownsRow B 112 2 q n xs → w3.ownsRow B 112 2 q n xs := fun q n xs ho => own_only ho hO3 (fun x hx hy => by
    rcases own_own_ne ho hT.row (nbq rfl) with h | h
    · rw [h] at hx; cases hx
    · exact h (hx.trans hy.symm))
  have hgg : g1 ≠ g := fun e => by
    subst e
    have hI : Is w3 g1 62 _ := hbox3
    exact own_ne ho3 hI (nbq rfl) rfl
  have hO4 : Only (· = g) w3 (w3.setCell ⟨g, 0, none⟩ (.slice (some ⟨g1, 0, none⟩) (evs.length + 1) cap1)) := (Only.refl (· = g) w3).set g 0 _ (fun _ => rfl)
  have hfin : Told (w3.setCell ⟨g, 0, none⟩ (.slice (some ⟨g1, 0, none⟩) (evs.length + 1) cap1)) g B (.slice (some ⟨g1, 0, none⟩) (evs.length + 1) cap1) (evs ++ [(⟨ek, est, en, ehs, et⟩, .slice pa pn pcap)]) := by
    have hhd4 : ∀ (q : Value) (n : Nat) (xs : List Value), w.ownsRow B 112 2 q n xs → (w3.setCell ⟨g, 0, none⟩ (.slice (some ⟨g1, 0, none⟩) (evs.length + 1) cap1)).ownsRow B 112 2 q n xs := fun q n xs ho => own_only (hhd q n xs ho) hO4 (fun x hx e => by subst e; exact own_ne ho hT.box (nbq rfl) hx.symm)
    refine ⟨hbox3.set 0 _, ?_, fun q hq => ?_, ?_⟩
    · have := own_only ho3 hO4 (fun x hx e => hgg (by simpa [Value.ownBlock] using hx.trans (congrArg some e)))
      rw [evsV_append]
      simpa [evsV, evV] using this
    · rcases List.mem_append.1 hq with hq | hq
      · exact hhd4 _ _ _ (hT.hds q hq)
      · simp at hq
        subst hq
        exact hhd4 _ _ _ hp
    · refine List.pairwise_append.2 ⟨hT.apart, by simp, fun a ha q hq => ?_⟩
      simp at hq
      subst hq
      exact hap a ha
  have hO5 : Only (fun i => i = g ∨ (Value.slice va vn vcap).ownBlock = some i) w (w3.setCell ⟨g, 0, none⟩ (.slice (some ⟨g1, 0, none⟩) (evs.length + 1) cap1)) := (hO3.mono (fun i hi => .inr hi)).trans hO4 (fun i hi _ => .inl hi)
  have hw : (Value.slice (some ⟨g1, 0, none⟩) (evs.length + 1) cap1).ownBlock = (Value.slice va vn vcap).ownBlock ∨ ∀ k, (Value.slice (some ⟨g1, 0, none⟩) (evs.length + 1) cap1).ownBlock = some k → w.heap.size ≤ k := by
    rcases hor3 with h | h
    · exact .inl (by rw [h]; rfl)
    · refine .inr (fun k hk => ?_)
      have : g1 = k := by simpa [Value.ownBlock] using hk
      omega
  have c0 := hbox3.cell 0
  have f0 := hbox3.free 0
  have hgl3 := hbox3.lt
  simp only [List.getElem?_cons_zero] at c0
  have HX := hide (⟨hfin, hw, hO5⟩ : _ ∧ _ ∧ _)
  clear hT hT0 hp hO0 hap hO3 hbox3 hhd hO4 hfin hO5 hw ho3 hg3 hor3
  go_wp2_with fail
  go_end0
  obtain ⟨hfin, hw, hO5⟩ := uh HX
  exact ⟨rfl, _, hfin, hw, hO5⟩
end Go.Proofs.YtbkpdapagfjmmaaGreatDoor

namespace Go.Proofs.YtbkpdapagfjmmaaGreatDoor
open Go.RowKit
variable {κ : Prop}
theorem info_rev : (Tryz.prog.info? 261).map (fun i => (i.zero, i.size, i.bytes)) = some (some (.agg #[.int .i64 0, .int .i64 0, .int .i64 0, .slice none 0 0, .string ⟨#[]⟩]), 5, 64) := by kernel_rfl
structure RSaid (w : World) (B : Nat) (v : Value) (evs : List EvH) : Prop where
  row : w.ownsRow B 261 5 v evs.length (evsV evs)
  hds : ∀ p ∈ evs, w.ownsRow B 206 2 p.2 p.1.hs.length (hdsV p.1.hs)
def rsaidFoot (v : Value) (evs : List EvH) (i : Nat) : Prop := v.ownBlock = some i ∨ ∃ p ∈ evs, p.2.ownBlock = some i
theorem RSaid.nil (w : World) (B : Nat) : RSaid w B nilS [] := ⟨World.ownsRow_nil _ _ _ _, by simp⟩
theorem RSaid.only {S : Nat → Prop} {w w' : World} {B : Nat} {v : Value} {evs : List EvH} (h : RSaid w B v evs) (k : Only S w w') (hn : ∀ i, rsaidFoot v evs i → ¬ S i) : RSaid w' B v evs :=
  ⟨own_only h.row k (fun i hi => hn i (.inl hi)), fun p hp => own_only (h.hds p hp) k (fun i hi => hn i (.inr ⟨p, hp, hi⟩))⟩
theorem RSaid.lt {w : World} {B : Nat} {v : Value} {evs : List EvH} (h : RSaid w B v evs) {i : Nat} (hi : rsaidFoot v evs i) : B ≤ i ∧ i < w.heap.size := by
  rcases hi with hi | ⟨p, hp, hi⟩
  · exact h.row.lt i hi
  · exact (h.hds p hp).lt i hi
def RGot (κ : Prop) (w : World) (b : Nat) (p : RP) (R : Nat) (E : Lk.En) (evl : List Lk.Ev) (r : Ending) (w' : World) : Prop :=
  ∃ v evs p', r = .returned (.tuple #[v, .int .i64 (R : Int)]) ∧ evs.map Prod.fst = evl ∧ RSaid w' w.heap.size v evs ∧ (∀ i, rsaidFoot v evs i → ¬ rfoot b p' i) ∧ REnd κ w' b E p' ∧ (∀ i, rfoot b p' i → rfoot b p i ∨ w.heap.size ≤ i) ∧ Only (rfoot b p) w w'
theorem RGot.none {w w' : World} {b : Nat} {p : RP} {R : Nat} {E : Lk.En} (h : RPost κ w b p E w') : RGot κ w b p R E [] (.returned (.tuple #[.slice Option.none 0 0, .int .i64 (R : Int)])) w' := by
  obtain ⟨p', h1, h2, h3⟩ := h
  refine ⟨_, [], p', rfl, rfl, RSaid.nil _ _, fun i hi => ?_, h1, h2, h3⟩
  rcases hi with hi | ⟨p, hp, _⟩
  · cases hi
  · cases hp
theorem RGot.plain {w w1 w' : World} {b : Nat} {p : RP} {R : Nat} {E : Lk.En} {v : Value} {evs : List EvH} (hB : w.heap.size ≤ w1.heap.size) (h : RPost κ w b p E w') (ho : w'.ownsRow w1.heap.size 261 5 v evs.length (evsV evs)) (hn : ∀ q ∈ evs, q.2 = .slice Option.none 0 0 ∧ q.1.hs = []) : RGot κ w b p R E (evs.map Prod.fst) (.returned (.tuple #[v, .int .i64 (R : Int)])) w' := by
  obtain ⟨p', h1, h2, h3⟩ := h
  have ho' : w'.ownsRow w.heap.size 261 5 v evs.length (evsV evs) := by
    refine ⟨ho.1, ?_⟩
    rcases ho.2 with k | ⟨g, cap, cur, k0, k1, k2⟩
    · exact .inl k
    · exact .inr ⟨g, cap, cur, k0, by omega, k2⟩
  refine ⟨v, evs, p', rfl, rfl, ⟨ho', fun q hq => ?_⟩, fun i hi => ?_, h1, h2, h3⟩
  · obtain ⟨k1, k2⟩ := hn q hq
    rw [k1, k2]
    exact World.ownsRow_nil _ _ _ _
  · rcases hi with hi | ⟨q, hq, hi⟩
    · obtain ⟨cs, hI⟩ := own_is ho hi
      obtain ⟨a1, a2, a3, a4, a5, a6, a7⟩ := h1.apt hI
      have a1 := a1 (nbq rfl)
      have a2 := a2 (nbq rfl)
      have a3 := a3 (nbq rfl)
      have a4 := a4 (nbq rfl)
      have a5 := a5 (nbq rfl)
      have a6 := a6 (nbq rfl)
      have a7 := a7 (nbq rfl)
      rintro (k | k | k | k | k | k | k | k | k)
      · exact a1 k.symm
      · exact a2.1 k.symm
      · exact a2.2 k.symm
      · exact a3 k.symm
      · exact a4.1 i k rfl
      · exact a4.2 i k rfl
      · exact a5 i k rfl
      · exact a6 i k rfl
      · exact a7 i k rfl
    · rw [(hn q hq).1] at hi
      cases hi
theorem RGot.ev {w W1 W2 w' : World} {b : Nat} {E : Lk.En} {p : RP} {R : Nat} {v : Value} {evs : List EvH} (hbw : Below w.heap.size w W2) (hs : w.heap.size ≤ W1.heap.size) (hlt : ∀ i, rfoot b p i → i < W1.heap.size) (ho : W2.ownsRow W1.heap.size 261 5 v evs.length (evsV evs)) (hn : ∀ q ∈ evs, q.2 = .slice Option.none 0 0 ∧ q.1.hs = []) (h : RPost κ W2 b p E w') : RGot κ w b p R E (evs.map Prod.fst) (.returned (.tuple #[v, .int .i64 (R : Int)])) w' := by
  refine RGot.plain hs (RPost.before hbw h) ?_ hn
  obtain ⟨p', _, _, hO⟩ := h
  exact own_only ho hO (fun i hi hx => by
    have := (ho.lt i hi).1
    have := hlt i hx
    omega)
theorem ev_row (w : World) (T : TypeId) (q : EvH) : (w.alloc (.cells #[.int .i64 (q.1.k : Int), .int .i64 (q.1.st : Int), .int .i64 (q.1.n : Int), q.2, .string (bs q.1.t)] T)).ownsRow w.heap.size T 5 (.slice (some ⟨w.heap.size, 0, none⟩) 1 1) [q].length (evsV [q]) :=
  ⟨rfl, .inr ⟨w.heap.size, 1, _, rfl, Nat.le_refl _, heap_alloc_new w _, Nat.le_refl _, by unfold maxLen; omega, rfl, by simp [evsV, evV]⟩⟩
theorem rresetF_any (b : Nat) (e : Lk.En) (p : RP) (f : Lk.Fr) (w : World) (h : REnd κ w b e p) (hw : Lk.Wf e) (hd : f.d.length ≤ 64) (hl : e.row.length ≤ 2 ^ 41) :
    Calls Tryz.prog 182 #[.pointer (some ⟨b, 0, none⟩), frV f] w (RGot κ w b p (e.resetF f).2.1 (e.resetF f).2.2 (e.resetF f).1) := by
  have hfld := rnum_field
  have holen := hw.ownLen
  have htlen := hw.othLen
  have hroom := hw.room
  have hwin := hw.win2
  have hbW := (Below.refl w.heap.size w).alloc (Nat.le_refl _) (.cells #[.int .i64 (f.k : Int), .int .i64 (f.st : Int), .string (bs f.d)] 66)
  have hBx := Is.new w 66 [.int .i64 (f.k : Int), .int .i64 (f.st : Int), .string (bs f.d)]
  have hW := h.below hbW
  have hwW : w.heap.size < (w.alloc (.cells #[.int .i64 (f.k : Int), .int .i64 (f.st : Int), .string (bs f.d)] 66)).heap.size := by simp
  generalize hWW : w.alloc (.cells #[.int .i64 (f.k : Int), .int .i64 (f.st : Int), .string (bs f.d)] 66) = W at *
  have o1 : W.cell? ⟨w.heap.size, 1, none⟩ = some (.int .i64 (f.st : Int)) := hBx.cell 1
  have o2 : W.cell? ⟨w.heap.size, 2, none⟩ = some (.string (bs f.d)) := hBx.cell 2
  have HOW := hide (rown_any b e p (f.st : Int) W hW (by omega))
  have HOT := hide (rother_any b e p (f.st : Int) W hW (by omega))
  have HNUM := hide (rnum_any f.d W hd)
  have HBX := hide (fun W1 (hb : Below W.heap.size W W1) => (⟨(hBx.below hb hwW).cell 1, Nat.lt_of_lt_of_le hwW hb.size⟩ : _ ∧ _))
  have HEV : Hid (∀ W1, Below W.heap.size W W1 → REnd κ (W1.alloc (.cells #[.int .i64 4, .int .i64 (f.st : Int), .int .i64 (Lk.numOf f.d : Int), .slice none 0 0, .string ⟨#[]⟩] 261)) b e p ∧ Below w.heap.size w (W1.alloc (.cells #[.int .i64 4, .int .i64 (f.st : Int), .int .i64 (Lk.numOf f.d : Int), .slice none 0 0, .string ⟨#[]⟩] 261)) ∧ (w.heap.size ≤ W1.heap.size ∧ ∀ i, rfoot b p i → i < W1.heap.size) ∧ (W1.alloc (.cells #[.int .i64 4, .int .i64 (f.st : Int), .int .i64 (Lk.numOf f.d : Int), .slice none 0 0, .string ⟨#[]⟩] 261)).ownsRow W1.heap.size 261 5 (.slice (some ⟨W1.heap.size, 0, none⟩) 1 1) [((⟨4, f.st, Lk.numOf f.d, [], []⟩ : Lk.Ev), (.slice none 0 0 : Value))].length (evsV [((⟨4, f.st, Lk.numOf f.d, [], []⟩ : Lk.Ev), (.slice none 0 0 : Value))])) := by
    intro W1 hb
    have hb2 := hb.alloc hb.size (.cells #[.int .i64 4, .int .i64 (f.st : Int), .int .i64 (Lk.numOf f.d : Int), .slice none 0 0, .string ⟨#[]⟩] 261)
    refine ⟨hW.below hb2, hbW.trans (hb2.mono (by omega)), ⟨by have := hb.size; omega, fun i hi => by have := hW.lt hi; have := hb.size; omega⟩, ev_row W1 261 ((⟨4, f.st, Lk.numOf f.d, [], []⟩ : Lk.Ev), (.slice none 0 0 : Value))⟩
  have HSMALL : Hid True := trivial
  have hev : ∀ q ∈ [((⟨4, f.st, Lk.numOf f.d, [], []⟩ : Lk.Ev), (.slice none 0 0 : Value))], q.2 = .slice none 0 0 ∧ q.1.hs = [] := fun q hq => by simp at hq; subst hq; exact ⟨rfl, rfl⟩
  have HEVN := hide hev
  unfold Lk.En.resetF
  clear h hW hbW hBx hev
  cases hx : Lk.ownIx e.own (f.st : Int) with
  | some i =>
    obtain ⟨o, ho, hid⟩ := Lk.ownIx_some hx
    have hi : i < e.own.length := (List.getElem?_eq_some_iff.1 ho).1
    have hi' : (i : Int) < e.own.length := by omega
    have hi0 : (0 : Int) ≤ i := by omega
    have hi1 : ¬ (i : Int) < 0 := by omega
    rw [hx] at HOW
    simp only [ixO] at HOW
    simp only [Option.bind_some, ho, Option.map_some]
    have HAT := hide (fun W1 (hR : REnd κ W1 b e p) => (⟨hR.own6 ho, fun g cap hg => hR.setOwn (g := g) (cap := cap) ho hg 3 (.bool true) { o with done := true } (by omega) rfl⟩ : _ ∧ _))
    have HDD := hide (rfl : o.done = o.done)
    generalize hz2 : ixO (Lk.othIx e.oth (f.st : Int)) = z2 at *
    clear hz2
    by_cases hdn : o.done = true
    · rw [if_pos hdn]
      have HDN := hide hdn
      clear hdn hx ho
      clear HSMALL
      go_enter Tryz.func182, Tryz.ntmps182
      go_wp2_with fail
      refine (uh HOW).mono ?_
      rintro r w1 ⟨rfl, rfl⟩
      go_wp2_with fail
      refine (uh HOT).mono ?_
      rintro r w1 ⟨rfl, rfl⟩
      go_wp2_with fail
      refine (uh HNUM).mono ?_
      rintro r w3 ⟨x, y, z, rfl, hb3⟩
      obtain ⟨b1, b2⟩ := uh HBX w3 hb3
      obtain ⟨h4, hb4, hlt4, ho4⟩ := uh HEV w3 hb3
      obtain ⟨⟨g, cap, c6, hv, hgl, hcap, hbl, x0, x1, x2, x3, hfz, hgb⟩, _⟩ := uh HAT _ h4
      rw [uh HDN] at x3
      have HF := hide (RGot.none (R := 0) (RPost.before hb4 (RPost.same h4)))
      clear h4 hb4 hlt4 ho4 hb3 hv hfz
      go_wp2_with fail
      go_ret2
      exact uh HF
    · rw [if_neg hdn]
      have HDN := hide (by simpa using hdn : o.done = false)
      clear hdn hx ho
      clear HSMALL
      go_enter Tryz.func182, Tryz.ntmps182
      go_wp2_with fail
      refine (uh HOW).mono ?_
      rintro r w1 ⟨rfl, rfl⟩
      go_wp2_with fail
      refine (uh HOT).mono ?_
      rintro r w1 ⟨rfl, rfl⟩
      go_wp2_with fail
      refine (uh HNUM).mono ?_
      rintro r w3 ⟨x, y, z, rfl, hb3⟩
      obtain ⟨b1, b2⟩ := uh HBX w3 hb3
      obtain ⟨h4, hb4, hlt4, ho4⟩ := uh HEV w3 hb3
      obtain ⟨⟨g, cap, c6, hv, hgl, hcap, hbl, x0, x1, x2, x3, hfz, hgb⟩, hset⟩ := uh HAT _ h4
      obtain ⟨s1, t1⟩ := hset g cap hv
      rw [uh HDN] at x3
      have f3 := hfz (i * 4 + 3)
      have HF := hide (RGot.ev (R := 0) hb4 hlt4.1 hlt4.2 ho4 (uh HEVN) ⟨p, s1, fun _ x => .inl x, t1⟩)
      clear h4 hb4 hlt4 ho4 hb3 hv hfz hset s1 t1
      go_wp2_with fail
      go_ret2
      exact uh HF
  | none =>
    rw [hx] at HOW
    simp only [ixO] at HOW
    simp only [Option.bind_none]
    cases hy : Lk.othIx e.oth (f.st : Int) with
    | none =>
      rw [hy] at HOT
      simp only [ixO] at HOT
      simp only [Option.bind_none]
      clear hx hy
      clear HSMALL
      go_enter Tryz.func182, Tryz.ntmps182
      go_wp2_with fail
      refine (uh HOW).mono ?_
      rintro r w1 ⟨rfl, rfl⟩
      go_wp2_with fail
      refine (uh HOT).mono ?_
      rintro r w1 ⟨rfl, rfl⟩
      go_wp2_with fail
      refine (uh HNUM).mono ?_
      rintro r w3 ⟨x, y, z, rfl, hb3⟩
      obtain ⟨b1, b2⟩ := uh HBX w3 hb3
      obtain ⟨h4, hb4, hlt4, ho4⟩ := uh HEV w3 hb3
      have HF := hide (RGot.none (R := 4) (RPost.before hb4 (RPost.same h4)))
      clear h4 hb4 hlt4 ho4 hb3
      go_wp2_with fail
      go_ret2
      exact uh HF
    | some i =>
      obtain ⟨o, ho, hid⟩ := Lk.othIx_some hy
      have hok := hw.oth i o ho
      have hcr := hok.cr
      have hi : i < e.oth.length := (List.getElem?_eq_some_iff.1 ho).1
      have hi' : (i : Int) < e.oth.length := by omega
      have hi1 : ¬ (i : Int) < 0 := by omega
      rw [hy] at HOT
      simp only [ixO] at HOT
      simp only [Option.bind_some, ho, Option.map_some]
      have HAT := hide (fun W1 (hR : REnd κ W1 b e p) => (⟨hR.oth7 ho, fun g cap hg => (⟨hR.setOth (g := g) (cap := cap) ho hg 3 (.bool false) { o with opn := false } (by omega) rfl, hR.setOth (g := g) (cap := cap) ho hg 4 (.bool false) { o with drp := false } (by omega) rfl⟩ : _ ∧ _)⟩ : _ ∧ _))
      by_cases hop : o.opn = true
      · rw [if_pos hop]
        have HOP := hide hop
        have HBK := hide (fun W (hR : REnd κ W b { e with oth := e.oth.set i { o with opn := false } } p) => rback_any b { e with oth := e.oth.set i { o with opn := false } } p o.held W hR (by omega) (by show e.room ≤ _; omega) (by show e.row.length ≤ _; omega))
        have HBF : Hid (∀ w5 p5, REnd κ w5 b (({ e with oth := e.oth.set i { o with opn := false } } : Lk.En).back o.held) p5 → ∃ g5 cap5, w5.cell? ⟨b, 7, none⟩ = some (.slice (some ⟨g5, 0, none⟩) e.oth.length cap5) ∧ g5 < w5.heap.size ∧ e.oth.length ≤ cap5 ∧ b < w5.heap.size ∧ w5.cell? ⟨g5, i * 5 + 2, none⟩ = some (.int .i64 (o.held : Int)) ∧ w5.frozen? ⟨g5, i * 5 + 2, none⟩ = false ∧ RPost κ w5 b p5 (({ e with oth := e.oth.set i { o with opn := false, held := 0 } } : Lk.En).back o.held) (w5.setCell ⟨g5, i * 5 + 2, none⟩ (.int .i64 0))) := by
          intro w5 p5 h5
          have hoth : (({ e with oth := e.oth.set i { o with opn := false } } : Lk.En).back o.held).oth = e.oth.set i { o with opn := false } := by rw [Lk.back_oth]
          have ho5 : (({ e with oth := e.oth.set i { o with opn := false } } : Lk.En).back o.held).oth[i]? = some { o with opn := false } := by rw [hoth]; exact List.getElem?_set_self hi
          obtain ⟨g5, cap5, y0, y1, y2, y3, y4, y5, y6, y7, y8, y9, y10⟩ := h5.oth7 ho5
          obtain ⟨t1, t2⟩ := h5.setOth ho5 y1 2 (.int .i64 0) { o with opn := false, held := 0 } (by omega) rfl
          have hle : (({ e with oth := e.oth.set i { o with opn := false } } : Lk.En).back o.held).oth.length = e.oth.length := by rw [hoth, List.length_set]
          rw [hle] at y0 y3
          refine ⟨g5, cap5, y0, y2, y3, y4, y6, y9 _, p5, ?_, fun _ x => .inl x, t2⟩
          have hE : ({ (({ e with oth := e.oth.set i { o with opn := false } } : Lk.En).back o.held) with oth := (({ e with oth := e.oth.set i { o with opn := false } } : Lk.En).back o.held).oth.set i { o with opn := false, held := 0 } } : Lk.En) = ({ e with oth := e.oth.set i { o with opn := false, held := 0 } } : Lk.En).back o.held := by
            unfold Lk.En.back
            split <;> simp [Lk.En.send, List.set_set]
          rw [hE] at t1
          exact t1
        clear hop hx hy ho hok
        clear HSMALL
        go_enter Tryz.func182, Tryz.ntmps182
        go_wp2_with fail
        refine (uh HOW).mono ?_
        rintro r w1 ⟨rfl, rfl⟩
        go_wp2_with fail
        refine (uh HOT).mono ?_
        rintro r w1 ⟨rfl, rfl⟩
        go_wp2_with fail
        refine (uh HNUM).mono ?_
        rintro r w3 ⟨x, y, z, rfl, hb3⟩
        obtain ⟨b1, b2⟩ := uh HBX w3 hb3
        obtain ⟨h4, hb4, hlt4, ho4⟩ := uh HEV w3 hb3
        obtain ⟨⟨g, cap, c7, hv, hgl, hcap, hbl, x1, x2, x3, x4, hfz, hgb⟩, hset⟩ := uh HAT _ h4
        obtain ⟨⟨s1, t1⟩, _⟩ := hset g cap hv
        rw [uh HOP] at x3
        have f3 := hfz (i * 5 + 3)
        have hgb' : b ≠ g := Ne.symm hgb
        have HB4 := hide (uh HBK _ s1)
        have HX4 := hide (⟨t1, hb4, hlt4, ho4⟩ : _ ∧ _ ∧ _ ∧ _)
        clear h4 hb4 hlt4 ho4 hb3 hv hfz hset s1 t1
        go_wp2_with fail
        refine (uh HB4).mono ?_
        rintro r w5 ⟨rfl, hP⟩
        obtain ⟨t1, hb4, hlt4, ho4⟩ := uh HX4
        obtain ⟨p5, h5, h5f, h5o⟩ := RPost.on t1 hP
        obtain ⟨g5, cap5, y1, y2, y3, y4, y5, y6, y7⟩ := uh HBF w5 p5 h5
        have HF := hide (RGot.ev (R := 0) hb4 hlt4.1 hlt4.2 ho4 (uh HEVN) (RPost.trans h5f h5o y7))
        clear hP h5 h5f h5o y7 t1 hb4 hlt4 ho4
        go_wp2_with fail
        go_ret2
        exact uh HF
      · rw [if_neg hop]
        have HOP := hide (by simpa using hop : o.opn = false)
        clear hop hx hy ho hok
        clear HSMALL
        go_enter Tryz.func182, Tryz.ntmps182
        go_wp2_with fail
        refine (uh HOW).mono ?_
        rintro r w1 ⟨rfl, rfl⟩
        go_wp2_with fail
        refine (uh HOT).mono ?_
        rintro r w1 ⟨rfl, rfl⟩
        go_wp2_with fail
        refine (uh HNUM).mono ?_
        rintro r w3 ⟨x, y, z, rfl, hb3⟩
        obtain ⟨b1, b2⟩ := uh HBX w3 hb3
        obtain ⟨h4, hb4, hlt4, ho4⟩ := uh HEV w3 hb3
        obtain ⟨⟨g, cap, c7, hv, hgl, hcap, hbl, x1, x2, x3, x4, hfz, hgb⟩, hset⟩ := uh HAT _ h4
        obtain ⟨_, ⟨s1, t1⟩⟩ := hset g cap hv
        rw [uh HOP] at x3
        have f4 := hfz (i * 5 + 4)
        have HF := hide (RGot.none (R := 0) (RPost.before hb4 ⟨p, s1, fun _ x => .inl x, t1⟩))
        clear h4 hb4 hlt4 ho4 hb3 hv hfz hset s1 t1
        go_wp2_with fail
        go_ret2
        exact uh HF
end Go.Proofs.YtbkpdapagfjmmaaGreatDoor
