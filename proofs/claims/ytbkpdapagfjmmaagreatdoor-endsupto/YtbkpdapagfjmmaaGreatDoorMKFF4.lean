import Derived.Test.YtbkpdapagfjmmaaGreatDoorMKDKE
import Derived.Test.YtbkpdapagfjmmaaGreatDoorMF2KB
set_option linter.unusedVariables false
set_option maxRecDepth 100000
set_option maxHeartbeats 16000000
namespace Go.Proofs.YtbkpdapagfjmmaaGreatDoor
open Go.RowKit
variable {κ : Prop}
theorem RGot.before {w w1 w2 : World} {b : Nat} {p : RP} {R : Nat} {E : Lk.En} {evl : List Lk.Ev} {r : Ending} (hb : Below w.heap.size w w1) (h : RGot κ w1 b p R E evl r w2) : RGot κ w b p R E evl r w2 := by
  obtain ⟨v, evs, p', h1, h2, h3, h4, h5, h6, h7⟩ := h
  refine ⟨v, evs, p', h1, h2, ⟨own_wk h3.row hb.size, fun q hq => own_wk (h3.hds q hq) hb.size⟩, h4, h5, fun i hi => (h6 i hi).imp id (fun x => Nat.le_trans hb.size x), (Only.of_below hb _).trans h7 (fun _ x _ => x)⟩
theorem RGot.after {w w1 w2 : World} {b : Nat} {p : RP} {R : Nat} {E : Lk.En} {evl : List Lk.Ev} {r : Ending} (h : RGot κ w b p R E evl r w1) (hb : Below w1.heap.size w1 w2) : RGot κ w b p R E evl r w2 := by
  obtain ⟨v, evs, p', h1, h2, h3, h4, h5, h6, h7⟩ := h
  exact ⟨v, evs, p', h1, h2, ⟨own_below h3.row hb, fun q hq => own_below (h3.hds q hq) hb⟩, h4, h5.below hb, h6, h7.below hb⟩
theorem rframe_any (b : Nat) (e : Lk.En) (p : RP) (f : Lk.Fr) (w : World) (h : REnd κ w b e p) (hw : Lk.Wf e) (hg : Lk.Good f.k f.st f.d) (hl : e.row.length ≤ 2 ^ 41) :
    Calls Tryz.prog 160 #[.pointer (some ⟨b, 0, none⟩), frV f] w (RGot κ w b p (e.frame f).2.1 (e.frame f).2.2 (e.frame f).1) := by
  have hbW := (Below.refl w.heap.size w).alloc (Nat.le_refl _) (.cells #[.int .i64 (f.k : Int), .int .i64 (f.st : Int), .string (bs f.d)] 66)
  have hBx := Is.new w 66 [.int .i64 (f.k : Int), .int .i64 (f.st : Int), .string (bs f.d)]
  have hW := h.below hbW
  have hwW : w.heap.size < (w.alloc (.cells #[.int .i64 (f.k : Int), .int .i64 (f.st : Int), .string (bs f.d)] 66)).heap.size := by simp
  generalize hWW : w.alloc (.cells #[.int .i64 (f.k : Int), .int .i64 (f.st : Int), .string (bs f.d)] 66) = W at *
  have o0 : W.cell? ⟨w.heap.size, 0, none⟩ = some (.int .i64 (f.k : Int)) := hBx.cell 0
  have o1 : W.cell? ⟨w.heap.size, 1, none⟩ = some (.int .i64 (f.st : Int)) := hBx.cell 1
  have o2 : W.cell? ⟨w.heap.size, 2, none⟩ = some (.string (bs f.d)) := hBx.cell 2
  have hbl := hW.blk.lt
  have hne : b ≠ w.heap.size := Nat.ne_of_lt h.blk.lt
  have HW := hide (⟨hbW, hW⟩ : _ ∧ _)
  have hk := hg.k7
  unfold Lk.En.frame
  clear h hW hbW hBx
  by_cases h0 : f.k = 0
  · rw [if_pos h0]
    have hh := rhead_any b e p f W (uh HW).2 hw hg.len hg.st28 hl
    have HC := hide (fun r w2 (hx : RGot κ W b p (e.headF f).2.1 (e.headF f).2.2 (e.headF f).1 r w2) => RGot.before (uh HW).1 hx)
    generalize e.headF f = X at *
    have hkz : (f.k : Int) = 0 := by omega
    unfold frV at hh
    rw [hkz] at hh o0 hWW
    have HH := hide hh
    clear hh hkz
    go_enter Tryz.func160, Tryz.ntmps160
    go_wp2_with fail
    refine (uh HH).mono ?_
    rintro r w2 ⟨v, evs, p', rfl, hrest⟩
    have HF := hide (uh HC _ _ ⟨v, evs, p', rfl, hrest⟩)
    clear hrest
    go_wp2_with fail
    go_ret2
    exact uh HF
  rw [if_neg h0]
  by_cases h1 : f.k = 1 ∨ f.k = 2
  · rw [if_pos h1]
    rcases h1 with h1 | h1
    · have hh := rpiece_any b e p f W (uh HW).2 hw hg.len hl
      have HC := hide (fun r w2 (hx : RGot κ W b p (e.pieceF f).2.1 (e.pieceF f).2.2 (e.pieceF f).1 r w2) => RGot.before (uh HW).1 hx)
      generalize e.pieceF f = X at *
      have hkz : (f.k : Int) = 1 := by omega
      unfold frV at hh
      rw [hkz] at hh o0 hWW
      have HH := hide hh
      clear hh hkz
      go_enter Tryz.func160, Tryz.ntmps160
      go_wp2_with fail
      refine (uh HH).mono ?_
      rintro r w2 ⟨v, evs, p', rfl, hrest⟩
      have HF := hide (uh HC _ _ ⟨v, evs, p', rfl, hrest⟩)
      clear hrest
      go_wp2_with fail
      go_ret2
      exact uh HF
    · have hh := rpiece_any b e p f W (uh HW).2 hw hg.len hl
      have HC := hide (fun r w2 (hx : RGot κ W b p (e.pieceF f).2.1 (e.pieceF f).2.2 (e.pieceF f).1 r w2) => RGot.before (uh HW).1 hx)
      generalize e.pieceF f = X at *
      have hkz : (f.k : Int) = 2 := by omega
      unfold frV at hh
      rw [hkz] at hh o0 hWW
      have HH := hide hh
      clear hh hkz
      go_enter Tryz.func160, Tryz.ntmps160
      go_wp2_with fail
      refine (uh HH).mono ?_
      rintro r w2 ⟨v, evs, p', rfl, hrest⟩
      have HF := hide (uh HC _ _ ⟨v, evs, p', rfl, hrest⟩)
      clear hrest
      go_wp2_with fail
      go_ret2
      exact uh HF
  rw [if_neg h1]
  by_cases h3 : f.k = 3
  · rw [if_pos h3]
    have hh := rresetF_any b e p f W (uh HW).2 hw hg.len hl
    have HC := hide (fun r w2 (hx : RGot κ W b p (e.resetF f).2.1 (e.resetF f).2.2 (e.resetF f).1 r w2) => RGot.before (uh HW).1 hx)
    generalize e.resetF f = X at *
    have hkz : (f.k : Int) = 3 := by omega
    unfold frV at hh
    rw [hkz] at hh o0 hWW
    have HH := hide hh
    clear hh hkz
    go_enter Tryz.func160, Tryz.ntmps160
    go_wp2_with fail
    refine (uh HH).mono ?_
    rintro r w2 ⟨v, evs, p', rfl, hrest⟩
    have HF := hide (uh HC _ _ ⟨v, evs, p', rfl, hrest⟩)
    clear hrest
    go_wp2_with fail
    go_ret2
    exact uh HF
  rw [if_neg h3]
  by_cases h4 : f.k = 4
  · rw [if_pos h4]
    have hh := rcredit_any b e p f W (uh HW).2 hw hg.len
    have HC := hide (fun w2 (hx : RPost κ W b p (e.creditF f).2 w2) => RGot.none (R := (e.creditF f).1) (RPost.before (uh HW).1 hx))
    simp only
    generalize e.creditF f = X at *
    have hkz : (f.k : Int) = 4 := by omega
    unfold frV at hh
    rw [hkz] at hh o0 hWW
    have HH := hide hh
    clear hh hkz
    go_enter Tryz.func160, Tryz.ntmps160
    go_wp2_with fail
    refine (uh HH).mono ?_
    rintro r w2 ⟨rfl, hP⟩
    have HF := hide (uh HC _ hP)
    clear hP
    go_wp2_with fail
    go_ret2
    exact uh HF
  rw [if_neg h4]
  by_cases h5 : f.k = 5
  · rw [if_pos h5]
    have h8 : f.d.length = 8 := by
      have := hg.length
      rw [h5] at this
      simp [Lk.lengthFits] at this
      omega
    have HH := hide (rsend_any b e p 6 0 f.d W (uh HW).2 (Lk.good_eight 6 f.d (by omega) h8) (by omega))
    have HC := hide (fun w2 (hx : RPost κ W b p (e.send 6 0 f.d) w2) => RGot.none (R := 0) (RPost.before (uh HW).1 hx))
    simp only
    generalize e.send 6 0 f.d = X at *
    have hkz : (f.k : Int) = 5 := by omega
    rw [hkz] at o0 hWW
    clear hkz
    clear h8
    go_enter Tryz.func160, Tryz.ntmps160
    go_wp2_with fail
    refine (uh HH).mono ?_
    rintro r w2 ⟨rfl, hP⟩
    have HF := hide (uh HC _ hP)
    clear hP
    go_wp2_with fail
    go_ret2
    exact uh HF
  rw [if_neg h5]
  by_cases h6 : f.k = 6
  · rw [if_pos h6]
    have HF : Hid (RGot κ w b p 0 e [⟨5, 0, 0, [], f.d⟩] (.returned (.tuple #[.slice (some ⟨W.heap.size, 0, none⟩) 1 1, .int .i64 0])) (W.alloc (.cells #[.int .i64 5, .int .i64 0, .int .i64 0, .slice none 0 0, .string (bs f.d)] 261))) := by
      obtain ⟨hbW, hW⟩ := uh HW
      have hb2 := (Below.refl W.heap.size W).alloc (Nat.le_refl _) (.cells #[.int .i64 5, .int .i64 0, .int .i64 0, .slice none 0 0, .string (bs f.d)] 261)
      exact RGot.ev (evs := [((⟨5, 0, 0, [], f.d⟩ : Lk.Ev), (.slice none 0 0 : Value))]) (R := 0) (hbW.trans (hb2.mono hbW.size)) hbW.size (fun i hi => hW.lt hi) (ev_row W 261 ((⟨5, 0, 0, [], f.d⟩ : Lk.Ev), (.slice none 0 0 : Value))) (fun q hq => by simp at hq; subst hq; exact ⟨rfl, rfl⟩) (RPost.same (hW.below hb2))
    have hkz : (f.k : Int) = 6 := by omega
    rw [hkz] at o0 hWW
    clear hkz
    clear HW
    go_enter Tryz.func160, Tryz.ntmps160
    go_wp2_with fail
    go_ret2
    exact uh HF
  rw [if_neg h6]
  have h7 : f.k = 7 := by omega
  have c12 : W.cell? ⟨b, 12, none⟩ = some (.bool e.byeC) := (uh HW).2.blk.cell 12
  have f12 := (uh HW).2.blk.free 12
  have hfld := rnum_field
  have HS : Hid (∀ W1 : World, Below (W.setCell ⟨b, 12, none⟩ (.bool true)).heap.size (W.setCell ⟨b, 12, none⟩ (.bool true)) W1 → RGot κ w b p 0 { e with byeC := true } [⟨6, 0, Lk.numOf f.d, [], []⟩] (.returned (.tuple #[.slice (some ⟨W1.heap.size, 0, none⟩) 1 1, .int .i64 0])) (W1.alloc (.cells #[.int .i64 6, .int .i64 0, .int .i64 (Lk.numOf f.d : Int), .slice none 0 0, .string ⟨#[]⟩] 261))) := by
    intro W1 hb1
    obtain ⟨hbW, hW⟩ := uh HW
    have hs := hW.set (e' := { e with byeC := true }) 12 (.bool true) rfl rfl rfl rfl rfl rfl (fun x => ⟨x, rfl⟩)
    have hO : Only (rfoot b p) W (W.setCell ⟨b, 12, none⟩ (.bool true)) := (Only.refl _ W).set b 12 _ (fun _ => .inl rfl)
    have h1 := hs.below hb1
    have hP1 : RPost κ w b p { e with byeC := true } W1 := RPost.before hbW (RPost.on hO ((RPost.same hs).after hb1))
    have hb2 := (Below.refl W1.heap.size W1).alloc (Nat.le_refl _) (.cells #[.int .i64 6, .int .i64 0, .int .i64 (Lk.numOf f.d : Int), .slice none 0 0, .string ⟨#[]⟩] 261)
    have hsz : w.heap.size ≤ W1.heap.size := by have := hbW.size; have := hb1.size; simp at this; omega
    exact RGot.evs (evs := [((⟨6, 0, Lk.numOf f.d, [], []⟩ : Lk.Ev), (.slice none 0 0 : Value))]) (R := 0) hP1 hb2 hsz (ev_row W1 261 ((⟨6, 0, Lk.numOf f.d, [], []⟩ : Lk.Ev), (.slice none 0 0 : Value))) (fun q hq => by simp at hq; subst hq; exact ⟨rfl, rfl⟩)
  have HNUM := hide (fun W => rnum_any f.d W hg.len)
  have hkz : (f.k : Int) = 7 := by omega
  rw [hkz] at o0 hWW
  clear hkz
  clear HW
  go_enter Tryz.func160, Tryz.ntmps160
  go_wp2_with fail
  refine (uh HNUM _).mono ?_
  rintro r w3 ⟨x, y, z, rfl, hb3⟩
  have HF := hide (uh HS _ hb3)
  clear hb3
  go_wp2_with fail
  go_ret2
  exact uh HF
end Go.Proofs.YtbkpdapagfjmmaaGreatDoor

namespace Go.Proofs.YtbkpdapagfjmmaaGreatDoor
open Go.RowKit
theorem Fx.only {S : Nat → Prop} {w w' : World} (h : Fx w) (k : Only S w w') (hn : ¬ S 0) : Fx w' :=
  ⟨Nat.lt_of_lt_of_le h.1 k.size, fun i x hx => by
    have e : ∀ j, w'.cell? ⟨0, j, none⟩ = w.cell? ⟨0, j, none⟩ := fun j => by simp only [World.cell?]; rw [k.block 0 h.1 hn]
    rw [e, e]; exact h.2 i x hx⟩
structure FS (w : World) (b : Nat) (e : Lk.En) (d : PD) (g B : Nat) (v : Value) (evs : List EvH) : Prop where
  live : Live w b e d
  told : Told w g B v evs
  sep : ∀ i, toldFoot g v evs i → ¬ foot b d i
  fx : Fx w
  hB : B ≤ w.heap.size
  B0 : 0 < B
  gB : B ≤ g
theorem FS.toldPos {w : World} {b : Nat} {e : Lk.En} {d : PD} {g B : Nat} {v : Value} {evs : List EvH} (h : FS w b e d g B v evs) : ∀ i, toldFoot g v evs i → B ≤ i := by
  intro i hi
  rcases hi with rfl | hi | ⟨p, hp, hi⟩
  · exact h.gB
  · exact (h.told.row.lt i hi).1
  · exact ((h.told.hds p hp).lt i hi).1
theorem FS.only {S : Nat → Prop} {w w' : World} {b : Nat} {e : Lk.En} {d : PD} {g B : Nat} {v : Value} {evs : List EvH} (h : FS w b e d g B v evs) (k : Only S w w') (h1 : ∀ i, foot b d i → ¬ S i) (h2 : ∀ i, toldFoot g v evs i → ¬ S i) (h3 : ¬ S 0) : FS w' b e d g B v evs :=
  ⟨h.live.only k h1, h.told.only k h2, h.sep, h.fx.only k h3, Nat.le_trans h.hB k.size, h.B0, h.gB⟩
theorem FS.below {w w' : World} {b : Nat} {e : Lk.En} {d : PD} {g B : Nat} {v : Value} {evs : List EvH} (h : FS w b e d g B v evs) (hb : Below w.heap.size w w') : FS w' b e d g B v evs := h.only (Only.of_below hb (fun _ => False)) (fun _ _ h => h) (fun _ _ h => h) (fun h => h)
theorem FS.alloc {w : World} {b : Nat} {e : Lk.En} {d : PD} {g B : Nat} {v : Value} {evs : List EvH} (h : FS w b e d g B v evs) (o : Obj) : FS (w.alloc o) b e d g B v evs := h.below ((Below.refl _ _).alloc (Nat.le_refl _) o)
theorem FS.drewN {w : World} {b : Nat} {e : Lk.En} {d : PD} {g B : Nat} {v : Value} {evs : List EvH} (h : FS w b e d g B v evs) (n : Nat) : FS (w.drewN n) b e d g B v evs := h.only ((Only.refl (fun _ => False) w).drewN n) (fun _ _ h => h) (fun _ _ h => h) (fun h => h)
theorem FS.drew {w : World} {b : Nat} {e : Lk.En} {d : PD} {g B : Nat} {v : Value} {evs : List EvH} (h : FS w b e d g B v evs) : FS w.drew b e d g B v evs := h.drewN 1
def GPost (w : World) (b : Nat) (d : PD) (g B : Nat) (v : Value) (evs : List EvH) (e' : Lk.En) (evl : List Lk.Ev) (w' : World) : Prop :=
  ∃ d' v' news, news.map Prod.fst = evl ∧ FS w' b e' d' g B v' (evs ++ news) ∧ (∀ i, foot b d' i → foot b d i ∨ w.heap.size ≤ i) ∧ (∀ i, toldFoot g v' (evs ++ news) i → toldFoot g v evs i ∨ w.heap.size ≤ i) ∧ Only (fun i => foot b d i ∨ toldFoot g v evs i) w w'
theorem GPost.trans {w w1 w2 : World} {b : Nat} {d d1 : PD} {g B : Nat} {v v1 : Value} {evs n1 : List EvH} {e1 e2 : Lk.En} {l1 l2 : List Lk.Ev} (hn : n1.map Prod.fst = l1) (_h1 : FS w1 b e1 d1 g B v1 (evs ++ n1)) (hf : ∀ i, foot b d1 i → foot b d i ∨ w.heap.size ≤ i) (ht : ∀ i, toldFoot g v1 (evs ++ n1) i → toldFoot g v evs i ∨ w.heap.size ≤ i) (hO : Only (fun i => foot b d i ∨ toldFoot g v evs i) w w1) (h2 : GPost w1 b d1 g B v1 (evs ++ n1) e2 l2 w2) : GPost w b d g B v evs e2 (l1 ++ l2) w2 := by
  obtain ⟨d2, v2, n2, a1, a2, a3, a4, a5⟩ := h2
  rw [List.append_assoc] at a2 a4
  refine ⟨d2, v2, n1 ++ n2, by rw [List.map_append, hn, a1], a2, fun i hi => ?_, fun i hi => ?_, hO.trans a5 (fun i hi hlt => ?_)⟩
  · rcases a3 i hi with h | h
    · exact hf i h
    · exact .inr (Nat.le_trans hO.size h)
  · rcases a4 i hi with h | h
    · exact ht i h
    · exact .inr (Nat.le_trans hO.size h)
  · rcases hi with h | h
    · rcases hf i h with h | h
      · exact .inl h
      · omega
    · rcases ht i h with h | h
      · exact .inr h
      · omega
theorem FS.ofL {w w' : World} {b : Nat} {e e' : Lk.En} {d : PD} {g B : Nat} {v : Value} {evs : List EvH} (h : FS w b e d g B v evs) (hL : LPost w b d e' w') : GPost w b d g B v evs e' [] w' := by
  obtain ⟨d', h1, h2, h3⟩ := hL
  refine ⟨d', v, [], rfl, ?_, h2, fun i hi => .inl (by rwa [List.append_nil] at hi), h3.mono (fun i hi => .inl hi)⟩
  rw [List.append_nil]
  refine ⟨h1, h.told.only h3 h.sep, fun i hi hf => ?_, h.fx.only h3 (fun h0 => by have := h.live.pos 0 h0; omega), Nat.le_trans h.hB h3.size, h.B0, h.gB⟩
  rcases h2 i hf with h' | h'
  · exact h.sep i hi h'
  · have := h.told.lt i hi; omega
theorem GPost.same {w : World} {b : Nat} {e : Lk.En} {d : PD} {g B : Nat} {v : Value} {evs : List EvH} (h : FS w b e d g B v evs) : GPost w b d g B v evs e [] w := h.ofL (LPost.same h.live)
theorem GPost.before {w W w' : World} {b : Nat} {d : PD} {g B : Nat} {v : Value} {evs : List EvH} {e' : Lk.En} {l : List Lk.Ev} (hb : Below w.heap.size w W) (h : GPost W b d g B v evs e' l w') : GPost w b d g B v evs e' l w' := by
  obtain ⟨d', v', n, a1, a2, a3, a4, a5⟩ := h
  exact ⟨d', v', n, a1, a2, fun i hi => (a3 i hi).imp id (Nat.le_trans hb.size), fun i hi => (a4 i hi).imp id (Nat.le_trans hb.size), (Only.of_below hb _).trans a5 (fun i hi _ => hi)⟩
theorem GPost.same_below {w W : World} {b : Nat} {e : Lk.En} {d : PD} {g B : Nat} {v : Value} {evs : List EvH} (h : FS w b e d g B v evs) (hb : Below w.heap.size w W) : GPost w b d g B v evs e [] W := GPost.before hb (GPost.same (h.below hb))
theorem tell_fs (b g B : Nat) (e : Lk.En) (d : PD) (v : Value) (evs : List EvH) (ev : Lk.Ev) (hv : Value) (w : World) (h : FS w b e d g B v evs) (hl : evs.length ≤ 2 ^ 40) (hp : w.ownsRow B 112 2 hv ev.hs.length (hdsV ev.hs)) (hd : ∀ i, hv.ownBlock = some i → ¬ foot b d i ∧ ¬ toldFoot g v evs i) (H : Nat) (hH : H ≤ w.heap.size) (hnew : ∀ i, hv.ownBlock = some i → H ≤ i) :
    Calls Tryz.prog 47 #[evA (ev, hv), .pointer (some ⟨g, 0, none⟩)] w fun r w' => r = .returned (.tuple #[]) ∧ ∃ v', FS w' b e d g B v' (evs ++ [(ev, hv)]) ∧ (∀ i, toldFoot g v' (evs ++ [(ev, hv)]) i → toldFoot g v evs i ∨ H ≤ i) ∧ Only (fun i => foot b d i ∨ toldFoot g v evs i) w w' := by
  refine (tell_any g B v evs (ev, hv) w h.told h.hB hl hp (fun q hq => ?_)).mono ?_
  · cases hx : q.2.ownBlock with
    | none => exact .inl rfl
    | some i => exact .inr (fun e => (hd i (by rw [← e])).2 (.inr (.inr ⟨q, hq, hx⟩)))
  rintro r w' ⟨rfl, v', hT, hv', hO⟩
  have hO' : Only (fun i => foot b d i ∨ toldFoot g v evs i) w w' := hO.mono (fun i hi => .inr (hi.imp id (fun h => .inl h)))
  have hsub : ∀ i, toldFoot g v' (evs ++ [(ev, hv)]) i → toldFoot g v evs i ∨ hv.ownBlock = some i ∨ w.heap.size ≤ i := by
    intro i hi
    rcases hi with hi | hi | ⟨p, hp, hi⟩
    · exact .inl (.inl hi)
    · rcases hv' with h' | h'
      · exact .inl (.inr (.inl (h' ▸ hi)))
      · exact .inr (.inr (h' i hi))
    · rcases List.mem_append.1 hp with hp | hp
      · exact .inl (.inr (.inr ⟨p, hp, hi⟩))
      · simp at hp
        subst hp
        exact .inr (.inl hi)
  refine ⟨rfl, v', ⟨h.live.only hO (fun i hi hx => h.sep i (hx.imp id (fun h => .inl h)) hi), hT, fun i hi hf => ?_, h.fx.only hO (fun hx => ?_), Nat.le_trans h.hB hO.size, h.B0, h.gB⟩, fun i hi => ?_, hO'⟩
  · rcases hsub i hi with h' | h' | h'
    · exact h.sep i h' hf
    · exact (hd i h').1 hf
    · have := h.live.lt i hf; omega
  · have := h.toldPos 0 (hx.imp id (fun h => .inl h))
    have := h.B0
    omega
  · rcases hsub i hi with h' | h' | h'
    · exact .inl h'
    · exact .inr (hnew i h')
    · exact .inr (Nat.le_trans hH h')
theorem tell_plain (b g B : Nat) (e : Lk.En) (d : PD) (v : Value) (evs : List EvH) (k st n : Nat) (t : Lk.Bs) (w : World) (h : FS w b e d g B v evs) (hl : evs.length ≤ 2 ^ 40) :
    Calls Tryz.prog 47 #[.agg #[.int .i64 (k : Int), .int .i64 (st : Int), .int .i64 (n : Int), .slice none 0 0, .string (bs t)], .pointer (some ⟨g, 0, none⟩)] w fun r w' => r = .returned (.tuple #[]) ∧ GPost w b d g B v evs e [⟨k, st, n, [], t⟩] w' := by
  refine (tell_fs b g B e d v evs ⟨k, st, n, [], t⟩ (.slice none 0 0) w h hl (World.ownsRow_nil _ _ _ _) (fun i hi => by cases hi) w.heap.size (Nat.le_refl _) (fun i hi => by cases hi)).mono ?_
  rintro r w' ⟨rfl, v', h1, h2, h3⟩
  exact ⟨rfl, d, v', _, rfl, h1, fun i hi => .inl hi, h2, h3⟩
theorem gotPong_any (b g B : Nat) (e : Lk.En) (d : PD) (v : Value) (evs : List EvH) (f : Lk.Fr) (w : World) (h : FS w b e d g B v evs) (hl : evs.length ≤ 2 ^ 40) :
    Calls Tryz.prog 96 #[.pointer (some ⟨b, 0, none⟩), frA f, tellV g] w fun r w' => r = .returned (.int .i64 0) ∧ GPost w b d g B v evs e [⟨5, 0, 0, [], f.d⟩] w' := by
  have hb0 := (Below.refl w.heap.size w).alloc (Nat.le_refl _) (.cells #[.int .i64 (f.k : Int), .int .i64 (f.st : Int), .string (bs f.d)] 79)
  have HC := hide (tell_plain b g B e d v evs 5 0 0 f.d _ (h.below hb0) hl)
  have HB := hide hb0
  clear h hb0
  unfold tellV
  go_enter Tryz.func96, Tryz.ntmps96
  go_wp2_with fail
  refine (uh HC).mono ?_
  rintro r w1 ⟨rfl, hG⟩
  go_wp2_with fail
  go_ret
  exact ⟨rfl, GPost.before (uh HB) hG⟩
theorem gotPing_any (b g B : Nat) (e : Lk.En) (d : PD) (v : Value) (evs : List EvH) (f : Lk.Fr) (w : World) (h : FS w b e d g B v evs) (hd : f.d.length = 8) :
    Calls Tryz.prog 95 #[.pointer (some ⟨b, 0, none⟩), frA f, tellV g] w fun r w' => r = .returned (.int .i64 0) ∧ GPost w b d g B v evs (e.send 6 0 f.d) [] w' := by
  have hb0 := (Below.refl w.heap.size w).alloc (Nat.le_refl _) (.cells #[.int .i64 (f.k : Int), .int .i64 (f.st : Int), .string (bs f.d)] 79)
  have h0 := h.below hb0
  have hR := h0.live.rw
  have hbl := hR.lt
  have hbl0 := h.live.rw.lt
  have HH := hide h0
  have HB := hide hb0
  clear h hb0 h0
  unfold tellV
  go_enter Tryz.func95, Tryz.ntmps95
  go_wp2_with fail
  go_cut [] (fun wc => GPost w b d g B v evs (e.send 6 0 f.d) [] wc)
  case first =>
    go_region_with (first | (go_at_call 45; refine (putEnd_any b (ecOf e d) d.fs ⟨6, 0, f.d⟩ _ hR.drew).mono ?_; rintro r w1 ⟨rfl, n, hn, hR1, hO1⟩))
    all_goals
      go_wp2_with fail
      go_meet
      exact GPost.before (uh HB) ((uh HH).ofL ((uh HH).live.put hR1 hn hO1.undrew (Lk.good_eight 6 f.d (by omega) hd)))
  case rest =>
    go_wp2_with fail
    go_ret
    exact ⟨rfl, hcut⟩
theorem gotBye_any (b g B : Nat) (e : Lk.En) (d : PD) (v : Value) (evs : List EvH) (f : Lk.Fr) (w : World) (h : FS w b e d g B v evs) (hl : evs.length ≤ 2 ^ 40) (hd : f.d.length ≤ 64) :
    Calls Tryz.prog 97 #[.pointer (some ⟨b, 0, none⟩), frA f, tellV g] w fun r w' => r = .returned (.int .i64 0) ∧ GPost w b d g B v evs { e with byeC := true } [⟨6, 0, Lk.numOf f.d, [], []⟩] w' := by
  have hb0 := (Below.refl w.heap.size w).alloc (Nat.le_refl _) (.cells #[.int .i64 (f.k : Int), .int .i64 (f.st : Int), .string (bs f.d)] 79)
  have h0 := h.below hb0
  have hR := h0.live.rw
  have hbl := h.live.rw.lt
  have c21 : (w.alloc (.cells #[.int .i64 (f.k : Int), .int .i64 (f.st : Int), .string (bs f.d)] 79)).cell? ⟨b, 21, none⟩ = some (.bool e.byeC) := hR.blk.cell 21
  have c21w : w.cell? ⟨b, 21, none⟩ = some (.bool e.byeC) := h.live.rw.blk.cell 21
  have f21 := h.live.rw.blk.free 21
  have hI1 : Is ((w.setCell ⟨b, 21, none⟩ (.bool true)).alloc (.cells #[.int .i64 (f.k : Int), .int .i64 (f.st : Int), .string (bs f.d)] 79)) b 101 ({ ecOf e d with bc := true } : EC).cells := (h.live.rw.blk.set 21 (.bool true)).alloc _
  have hO1 : Only (· = b) w ((w.setCell ⟨b, 21, none⟩ (.bool true)).alloc (.cells #[.int .i64 (f.k : Int), .int .i64 (f.st : Int), .string (bs f.d)] 79)) := ((Only.refl (· = b) w).set b 21 _ (fun _ => rfl)).alloc _
  have hR1 := h.live.rw.cell hI1 hO1 rfl
  have hw := h.live.wf
  have hLP : LPost w b d { e with byeC := true } ((w.setCell ⟨b, 21, none⟩ (.bool true)).alloc (.cells #[.int .i64 (f.k : Int), .int .i64 (f.st : Int), .string (bs f.d)] 79)) :=
    ⟨_, h.live.rowOp (e' := { e with byeC := true }) (rs' := d.rs) hR1 (hO1.mono (fun i hi => .inl hi)) rfl rfl rfl rfl rfl h.live.rowe h.live.good ⟨hw.side, hw.win1, hw.win2, hw.out, hw.inn, fun i o ho => by obtain ⟨a, b, c, d⟩ := hw.own i o ho; exact ⟨a, b, c, d⟩, fun i o ho => by obtain ⟨a, b, c, d, f⟩ := hw.oth i o ho; exact ⟨a, b, c, d, f⟩, hw.all, hw.room, hw.row, hw.rest⟩ (fun x hx => .inl hx)⟩
  obtain ⟨d1, v1, n1, a1, a2, a3, a4, a5⟩ := h.ofL hLP
  have hn1 : n1 = [] := List.map_eq_nil_iff.1 a1
  subst hn1
  rw [List.append_nil] at a2 a4
  have HN := hide (fnumber_any f ((w.setCell ⟨b, 21, none⟩ (.bool true)).alloc (.cells #[.int .i64 (f.k : Int), .int .i64 (f.st : Int), .string (bs f.d)] 79)) (by omega))
  have HX := hide (⟨a2, a3, a4, a5⟩ : _ ∧ _ ∧ _ ∧ _)
  clear h h0 hR hI1 hO1 hR1 hw hLP a1 a2 a3 a4 a5 hb0
  unfold tellV
  unfold frA at HN
  go_enter Tryz.func97, Tryz.ntmps97
  go_wp2_with fail
  refine (uh HN).mono ?_
  rintro r w2 ⟨rfl, hb2⟩
  obtain ⟨a2, a3, a4, a5⟩ := uh HX
  have h2 := a2.below hb2
  have HT := hide (tell_plain b g B _ d1 v1 evs 6 0 (Lk.numOf f.d) [] w2 h2 hl)
  have e0 : bs [] = ⟨#[]⟩ := rfl
  rw [e0] at HT
  have HX2 := hide (⟨h2, a5.below hb2⟩ : _ ∧ _)
  clear a2 a5 h2 hb2
  go_wp2_with fail
  refine (uh HT).mono ?_
  rintro r w3 ⟨rfl, hG⟩
  go_wp2_with fail
  go_ret
  obtain ⟨h2, hO2⟩ := uh HX2
  refine ⟨rfl, ?_⟩
  have := GPost.trans (n1 := []) (l1 := []) rfl (by rw [List.append_nil]; exact h2) a3 (by rw [List.append_nil]; exact a4) hO2 (by rw [List.append_nil]; exact hG)
  exact this
end Go.Proofs.YtbkpdapagfjmmaaGreatDoor

namespace Go.Proofs.YtbkpdapagfjmmaaGreatDoor
open Go.RowKit
theorem raise_no (x i c n : Nat) (w : World) (_hx : x < w.heap.size) (hc : w.cell? ⟨x, i, none⟩ = some (.int .i64 (c : Int))) (hn : n = 0 ∨ 100000 < c + n) (hc2 : c ≤ 1000000) (hn2 : n ≤ 268435455) :
    Calls Tryz.prog 146 #[.pointer (some ⟨x, i, none⟩), .int .i64 (n : Int)] w fun r w' => r = .returned (.int .i64 10) ∧ w' = w := by
  by_cases h0 : n = 0
  · subst h0
    clear hn
    go_enter Tryz.func146, Tryz.ntmps146
    go_wp2_with fail
    go_ret
    exact ⟨rfl, rfl⟩
  · have h1 : ((n : Int) == 0) = false := by rw [beq_eq_false_iff_ne]; omega
    have h2 : 100000 < (c : Int) + (n : Int) := by omega
    clear hn h0
    go_enter Tryz.func146, Tryz.ntmps146
    go_wp2_with fail
    go_ret
    exact ⟨rfl, rfl⟩
theorem raise_yes (x i c n : Nat) (w : World) (_hx : x < w.heap.size) (hc : w.cell? ⟨x, i, none⟩ = some (.int .i64 (c : Int))) (hf : w.frozen? ⟨x, i, none⟩ = false) (hn : ¬ (n = 0 ∨ 100000 < c + n)) :
    Calls Tryz.prog 146 #[.pointer (some ⟨x, i, none⟩), .int .i64 (n : Int)] w fun r w' => r = .returned (.int .i64 0) ∧ w' = w.setCell ⟨x, i, none⟩ (.int .i64 ((c + n : Nat) : Int)) := by
  have h1 : ((n : Int) == 0) = false := by rw [beq_eq_false_iff_ne]; omega
  have h2 : ¬ 100000 < (c : Int) + (n : Int) := by omega
  have e1 : (c : Int) + (n : Int) = ((c + n : Nat) : Int) := by omega
  have HE := hide e1
  clear hn e1
  go_enter Tryz.func146, Tryz.ntmps146
  go_wp2_with fail
  go_ret
  exact ⟨rfl, by rw [uh HE]⟩
theorem hasBegun_any (a n : Nat) (w : World) : Calls Tryz.prog 174 #[.int .i64 (a : Int), .int .i64 (n : Int)] w fun r w' => r = .returned (.bool (decide (a % 2 = n % 2 ∧ a < n))) ∧ w' = w := by
  have r1 : Int.tmod (a : Int) 2 = ((a % 2 : Nat) : Int) := by simp [Int.tmod]
  have r2 : Int.tmod (n : Int) 2 = ((n % 2 : Nat) : Int) := by simp [Int.tmod]
  generalize hP : decide (a % 2 = n % 2 ∧ a < n) = P
  have HP := hide hP
  clear hP
  by_cases h : a % 2 = n % 2
  · have h' : (((a % 2 : Nat) : Int) == ((n % 2 : Nat) : Int)) = true := by rw [beq_iff_eq]; omega
    generalize a % 2 = x at *
    generalize n % 2 = y at *
    go_enter Tryz.func174, Tryz.ntmps174
    go_wp2_with fail
    go_ret
    refine ⟨ret_bool ?_, rfl⟩
    rw [← uh HP, Bool.eq_iff_iff]
    simp [h]
  · have h' : (((a % 2 : Nat) : Int) == ((n % 2 : Nat) : Int)) = false := by rw [beq_eq_false_iff_ne]; omega
    generalize a % 2 = x at *
    generalize n % 2 = y at *
    go_enter Tryz.func174, Tryz.ntmps174
    go_wp2_with fail
    go_ret
    refine ⟨ret_bool ?_, rfl⟩
    rw [← uh HP]
    simp [h]
theorem begunOut_any (b a n : Nat) (w : World) (_hb : b < w.heap.size) (c : w.cell? ⟨b, 7, none⟩ = some (.int .i64 (n : Int))) : Calls Tryz.prog 144 #[.pointer (some ⟨b, 3, none⟩), .int .i64 (a : Int)] w fun r w' => r = .returned (.bool (decide (a % 2 = n % 2 ∧ a < n))) ∧ w' = w := by
  go_enter Tryz.func144, Tryz.ntmps144
  go_wp2_with fail
  refine (hasBegun_any a n _).mono ?_
  rintro r w1 ⟨rfl, rfl⟩
  go_wp2_with fail
  go_ret
  exact ⟨ret_bool (by simp), rfl⟩
theorem begunIn_any (b a n : Nat) (w : World) (_hb : b < w.heap.size) (c : w.cell? ⟨b, 15, none⟩ = some (.int .i64 (n : Int))) : Calls Tryz.prog 145 #[.pointer (some ⟨b, 11, none⟩), .int .i64 (a : Int)] w fun r w' => r = .returned (.bool (decide (a % 2 = n % 2 ∧ a < n))) ∧ w' = w := by
  go_enter Tryz.func145, Tryz.ntmps145
  go_wp2_with fail
  refine (hasBegun_any a n _).mono ?_
  rintro r w1 ⟨rfl, rfl⟩
  go_wp2_with fail
  go_ret
  exact ⟨ret_bool (by simp), rfl⟩
theorem ownIx_begun {e : Lk.En} (hw : Lk.Wf e) {a : Nat} (h0 : 0 < a) : (Lk.ownIx e.own (a : Int)).isSome = decide (a % 2 = e.nextId % 2 ∧ a < e.nextId) := by
  have hs := hw.side
  rw [Bool.eq_iff_iff]
  simp only [decide_eq_true_eq]
  unfold Lk.En.nextId
  constructor
  · intro h
    obtain ⟨i, hi⟩ := Option.isSome_iff_exists.1 h
    obtain ⟨o, ho, hid⟩ := Lk.ownIx_some hi
    have h1 := (hw.own i o ho).id
    have h2 := (List.getElem?_eq_some_iff.1 ho).1
    omega
  · intro ⟨h1, h2⟩
    have hi : (a - 1 - e.side) / 2 < e.own.length := by omega
    have ho := List.getElem?_eq_getElem hi
    have hid := (hw.own _ _ ho).id
    cases hx : Lk.ownIx e.own (a : Int) with
    | some i => rfl
    | none =>
      unfold Lk.ownIx at hx
      rw [List.findIdx?_eq_none_iff] at hx
      have := hx _ (List.getElem_mem hi)
      simp at this
      omega
theorem othIx_begun {e : Lk.En} (hw : Lk.Wf e) {a : Nat} (h0 : 0 < a) : (Lk.othIx e.oth (a : Int)).isSome = decide (a % 2 = nextOth e % 2 ∧ a < nextOth e) := by
  have hs := hw.side
  rw [Bool.eq_iff_iff]
  simp only [decide_eq_true_eq]
  unfold nextOth
  constructor
  · intro h
    obtain ⟨i, hi⟩ := Option.isSome_iff_exists.1 h
    obtain ⟨o, ho, hid⟩ := Lk.othIx_some hi
    have h1 := (hw.oth i o ho).id
    have h2 := (List.getElem?_eq_some_iff.1 ho).1
    omega
  · intro ⟨h1, h2⟩
    have hi : (a - 2 + e.side) / 2 < e.oth.length := by omega
    have ho := List.getElem?_eq_getElem hi
    have hid := (hw.oth _ _ ho).id
    cases hx : Lk.othIx e.oth (a : Int) with
    | some i => rfl
    | none =>
      unfold Lk.othIx at hx
      rw [List.findIdx?_eq_none_iff] at hx
      have := hx _ (List.getElem_mem hi)
      simp at this
      omega
end Go.Proofs.YtbkpdapagfjmmaaGreatDoor
