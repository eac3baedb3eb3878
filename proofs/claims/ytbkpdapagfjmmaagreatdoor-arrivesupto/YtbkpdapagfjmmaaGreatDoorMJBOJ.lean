import Derived.Test.YtbkpdapagfjmmaaGreatDoorMJ2J4
import Derived.Test.YtbkpdapagfjmmaaGreatDoorMJ9FR
import Derived.Test.YtbkpdapagfjmmaaGreatDoorRows
import Derived.Test.YtbkpdapagfjmmaaGreatDoorMJ6S3
import Derived.Test.YtbkpdapagfjmmaaGreatDoorMSpec5Z1
import Derived.SliceStrings
import Derived.OpenShut
/-
  Walks: two ends that belong together are made.
-/
namespace Go.Proofs.YtbkpdapagfjmmaaGreatDoor
open Go.RowKit

theorem cells_newB (w : World) (xs : List Value) (T : TypeId) : ∀ j u, xs[j]? = some u → (w.alloc (.cells xs.toArray T)).cell? ((⟨w.heap.size, 0, none⟩ : Addr).add j) = some u := by
  intro j u hu
  have hplain : (⟨w.heap.size, 0, none⟩ : Addr).add j = ⟨w.heap.size, j, none⟩ := by unfold Addr.add; split <;> simp_all
  rw [hplain]
  have := (Is.new w T xs).cell j
  rw [← hu]
  exact this
/-- So many of the two have been made. -/
structure PM (w0 : World) (P win kk : Nat) (sv : Value) (sd eb : Nat → Nat) (d : Nat → PD) (W : World) : Prop where
  pr : Is W P 41 [sv]
  row : W.ownsRow w0.heap.size 38 1 sv kk ((List.range kk).map fun i => ptr (sd i))
  side : ∀ i, i < kk → Is W (sd i) 37 [ptr (eb i), nilS, nilS, .string ⟨#[]⟩, .int .i64 0]
  pe : ∀ i, i < kk → PEnd W (eb i) (Lk.En.new i win) (d i)
  nes : ∀ i j, i < kk → j < kk → i ≠ j → sd i ≠ sd j
  sepE : ∀ i j, i < kk → j < kk → i ≠ j → ∀ x, foot (eb i) (d i) x → ¬ foot (eb j) (d j) x
  sepJ : ∀ i, i < kk → ∀ x, foot (eb i) (d i) x → x ≠ P ∧ sv.ownBlock ≠ some x ∧ ∀ j, j < kk → x ≠ sd j
  loE : ∀ i, i < kk → ∀ x, foot (eb i) (d i) x → w0.heap.size ≤ x
  loS : ∀ i, i < kk → w0.heap.size ≤ sd i
  loP : w0.heap.size ≤ P
  fx : Fx W
  h0 : 0 < w0.heap.size
  bel : Below w0.heap.size w0 W

section
variable {w0 W W1 : World} {P win kk : Nat} {sv : Value} {sd eb : Nat → Nat} {d : Nat → PD}
theorem PM.below (h : PM w0 P win kk sv sd eb d W) (k : Below W.heap.size W W1) : PM w0 P win kk sv sd eb d W1 :=
  ⟨h.pr.below k h.pr.lt, own_below h.row k, fun i hi => (h.side i hi).below k (h.side i hi).lt, fun i hi => (h.pe i hi).only (Only.of_below k (fun _ => False)) (fun _ _ h => h), h.nes, h.sepE, h.sepJ, h.loE, h.loS, h.loP, h.fx.below k h.fx.1, h.h0, h.bel.trans (k.mono h.bel.size)⟩
/-- One end more. -/
theorem PM.step (h : PM w0 P win kk sv sd eb d W) {b : Nat} {d' : PD} (hb : Below W.heap.size W W1) (hpe : PEnd W1 b (Lk.En.new kk win) d') (hft : ∀ x, foot b d' x → W.heap.size ≤ x) {W3 W4 : World} {v' : Value}
    (h3 : Below W1.heap.size W1 W3) (hs : Is W3 W1.heap.size 37 [ptr b, nilS, nilS, .string ⟨#[]⟩, .int .i64 0])
    (hown : W4.ownsRow w0.heap.size 38 1 v' (kk + 1) ((List.range kk).map (fun i => ptr (sd i)) ++ [ptr W1.heap.size])) (hg : Only (fun x => sv.ownBlock = some x) W3 W4) (hor : ∀ x, v'.ownBlock = some x → sv.ownBlock = some x ∨ W3.heap.size ≤ x) :
    PM w0 P win (kk + 1) v' (upd sd kk W1.heap.size) (upd eb kk b) (upd d kk d') (W4.setCell ⟨P, 0, none⟩ v') := by
  have h1 := h.below hb
  have hm := h1.below h3
  have hs1 := hb.size
  have hs3 := h3.size
  have hs4 := hg.size
  have hW1 : W1.heap.size < W3.heap.size := hs.lt
  have hS : Only (· = P) W4 (W4.setCell ⟨P, 0, none⟩ v') := (Only.refl (· = P) W4).set P 0 _ (fun _ => rfl)
  have hpr4 := hm.pr.only hg (fun e => own_ne hm.row hm.pr (Nat.ne_of_beq_eq_false rfl) e.symm)
  have hall : Only (fun x => sv.ownBlock = some x ∨ x = P) W3 (W4.setCell ⟨P, 0, none⟩ v') := (hg.mono (fun _ h => .inl h)).trans hS (fun i hi _ => .inr hi)
  have hpe3 := hpe.only (Only.of_below h3 (fun _ => False)) (fun _ _ h => h)
  have hnew : ∀ x, foot b d' x → x ≠ P ∧ sv.ownBlock ≠ some x ∧ (∀ j, j < kk → x ≠ sd j) ∧ x < W1.heap.size := fun x hx => by
    have h5 := hft x hx
    refine ⟨fun e => ?_, fun e => ?_, fun j hj e => ?_, hpe.lt x hx⟩
    · have := h.pr.lt; omega
    · have := (h.row.lt x e).2; omega
    · have := (h.side j hj).lt; omega
  have hlt : ∀ i, i < kk → ∀ x, foot (eb i) (d i) x → x < W.heap.size := fun i hi => (h.pe i hi).lt
  have hv' : ∀ x, v'.ownBlock = some x → x < W1.heap.size → sv.ownBlock = some x := fun x hx hlt' => by
    rcases hor x hx with h5 | h5
    · exact h5
    · omega
  refine ⟨hpr4.set 0 _, ?_, fun i hi => ?_, fun i hi => ?_, fun i j hi hj hij => ?_, fun i j hi hj hij x hx hy => ?_, fun i hi x hx => ?_, fun i hi x hx => ?_, fun i hi => ?_, h.loP, hm.fx.only hall ?_, h.h0, ?_⟩
  · have e1 : ((List.range (kk + 1)).map fun i => ptr (upd sd kk W1.heap.size i)) = (List.range kk).map (fun i => ptr (sd i)) ++ [ptr W1.heap.size] := by
      rw [List.range_succ, List.map_append]
      congr 1
      · apply List.map_congr_left
        intro i hi
        rw [upd_other _ _ (by have := List.mem_range.1 hi; omega)]
      · simp [upd_same]
    rw [e1]
    exact own_only hown hS (fun x hx e => by subst e; exact own_ne hown hpr4 (Nat.ne_of_beq_eq_false rfl) hx.symm)
  · by_cases hik : i = kk
    · subst hik
      rw [upd_same, upd_same]
      exact hs.only hall (fun hx => by
        rcases hx with hx | hx
        · exact own_ne hm.row hs (Nat.ne_of_beq_eq_false rfl) hx.symm
        · exact hs.ne hm.pr (Nat.ne_of_beq_eq_false rfl) hx)
    · rw [upd_other _ _ hik, upd_other _ _ hik]
      have hsi := hm.side i (by omega)
      exact hsi.only hall (fun hx => by
        rcases hx with hx | hx
        · exact own_ne hm.row hsi (Nat.ne_of_beq_eq_false rfl) hx.symm
        · exact hsi.ne hm.pr (Nat.ne_of_beq_eq_false rfl) hx)
  · by_cases hik : i = kk
    · subst hik
      rw [upd_same, upd_same]
      exact hpe3.only hall (fun x hx hy => by
        have h5 := hnew x hx
        rcases hy with hy | hy
        · exact h5.2.1 hy
        · exact h5.1 hy)
    · rw [upd_other _ _ hik, upd_other _ _ hik]
      exact (hm.pe i (by omega)).only hall (fun x hx hy => by
        have h5 := h.sepJ i (by omega) x hx
        rcases hy with hy | hy
        · exact h5.2.1 hy
        · exact h5.1 hy)
  · by_cases hik : i = kk
    · subst hik
      rw [upd_same, upd_other _ _ (by omega)]
      have := (h.side j (by omega)).lt
      omega
    · rw [upd_other _ _ hik]
      by_cases hjk : j = kk
      · subst hjk
        rw [upd_same]
        have := (h.side i (by omega)).lt
        omega
      · rw [upd_other _ _ hjk]
        exact h.nes i j (by omega) (by omega) hij
  · by_cases hik : i = kk
    · subst hik
      rw [upd_same, upd_same] at hx
      rw [upd_other _ _ (by omega), upd_other _ _ (by omega)] at hy
      have h5 := hft x hx
      have h6 := hlt j (by omega) x hy
      omega
    · rw [upd_other _ _ hik, upd_other _ _ hik] at hx
      by_cases hjk : j = kk
      · subst hjk
        rw [upd_same, upd_same] at hy
        have h5 := hft x hy
        have h6 := hlt i (by omega) x hx
        omega
      · rw [upd_other _ _ hjk, upd_other _ _ hjk] at hy
        exact h.sepE i j (by omega) (by omega) hij x hx hy
  · by_cases hik : i = kk
    · subst hik
      rw [upd_same, upd_same] at hx
      have h5 := hnew x hx
      refine ⟨h5.1, fun e => h5.2.1 (hv' x e h5.2.2.2), fun j hj => ?_⟩
      by_cases hjk : j = i
      · subst hjk
        rw [upd_same]
        omega
      · rw [upd_other _ _ hjk]
        exact h5.2.2.1 j (by omega)
    · rw [upd_other _ _ hik, upd_other _ _ hik] at hx
      have h5 := h.sepJ i (by omega) x hx
      have h6 := hlt i (by omega) x hx
      refine ⟨h5.1, fun e => h5.2.1 (hv' x e (by omega)), fun j hj => ?_⟩
      by_cases hjk : j = kk
      · subst hjk
        rw [upd_same]
        omega
      · rw [upd_other _ _ hjk]
        exact h5.2.2 j (by omega)
  · by_cases hik : i = kk
    · subst hik
      rw [upd_same, upd_same] at hx
      have h5 := hft x hx
      have h6 := h.bel.size
      omega
    · rw [upd_other _ _ hik, upd_other _ _ hik] at hx
      exact h.loE i (by omega) x hx
  · by_cases hik : i = kk
    · subst hik
      rw [upd_same]
      have h6 := h.bel.size
      omega
    · rw [upd_other _ _ hik]
      exact h.loS i (by omega)
  · intro hx
    have h5 := h.h0
    rcases hx with hx | hx
    · have := (hm.row.lt 0 hx).1; omega
    · have := h.loP; omega
  · refine hm.bel.trans (hall.toBelow (fun x hx _ => ?_) hm.bel.size)
    rcases hx with hx | rfl
    · exact (hm.row.lt x hx).1
    · exact h.loP
/-- Both have been made. -/
theorem PM.all (h : PM w0 P win 2 sv sd eb d W) : ∃ g cap, sv = .slice (some ⟨g, 0, none⟩) 2 cap ∧ JP w0 P g cap sd eb (fun k => Lk.En.new k win) d (fun _ => nilS) (fun _ => []) (fun _ => []) W := by
  have hrow := h.row
  have e1 : ((List.range 2).map fun i => ptr (sd i)) = [ptr (sd 0), ptr (sd 1)] := rfl
  rw [e1] at hrow
  rcases hrow.2 with ⟨_, h0⟩ | ⟨g, cap, cur, rfl, hB, hg, hn, hc, hs, ht⟩
  · simp at h0
  · have hI : Is W g 38 cur.toList := by unfold Is; simpa using hg
    have hI2 : ∃ t, Is W g 38 (ptr (sd 0) :: ptr (sd 1) :: t) := by
      have e := List.take_append_drop 2 cur.toList
      have e2 : cur.toList.take 2 = [ptr (sd 0), ptr (sd 1)] := by simpa using ht
      rw [e2] at e
      rw [← e] at hI
      exact ⟨_, by simpa using hI⟩
    refine ⟨g, cap, rfl, h.pr, hI2, fun k hk => ?_, fun q _ => World.ownsRow_nil _ _ _ _, (fun q _ m hm => by cases hm), h.nes 0 1 (by omega) (by omega) (by omega), fun q r _ _ _ => .inl rfl, h.pe, h.sepE, fun k hk x hx hj => ?_, h.loE, ⟨h.loP, hB, fun k hk => h.loS k hk⟩, h.fx, h.h0, hn, h.bel⟩
    · have := h.side k hk
      exact this
    · have h5 := h.sepJ k hk x hx
      rcases hj with hj | hj | ⟨j, hj2, hj⟩ | ⟨q, _, hj⟩ | ⟨q, _, m, hm, _⟩
      · exact h5.1 hj
      · exact h5.2.1 (by rw [hj]; rfl)
      · exact h5.2.2 j hj2 hj
      · cases hj
      · cases hm
end

theorem info_sd : (Tryz.prog.info? 38).map (fun i => (i.zero, i.size, i.bytes)) = some (some (.pointer none), 1, 8) := by kernel_rfl
set_option maxHeartbeats 4000000 in
set_option maxRecDepth 100000 in
theorem pair_any (window : Int) (w : World) (hfx : Fx w) (hI1 : -9223372036854775808 ≤ window) (hI2 : window ≤ 9223372036854775807) :
    Calls Tryz.prog 12 #[.int .i64 window] w fun r w' => ∃ P, r = .returned (.tuple #[.pointer (some ⟨P, 0, none⟩), .bool true]) ∧ ∃ g cap sd eb d, JP w P g cap sd eb (fun k => Lk.En.new k (1 + bndN window)) d (fun _ => nilS) (fun _ => []) (fun _ => []) w' := by
  obtain ⟨inf, hi, hz0, hz1, hz2⟩ := info_parts info_sd
  have hw199 := bndN_le window
  have hcast : ((1 + bndN window : Nat) : Int) = 1 + (bndN window : Int) := by omega
  have hnew := fun (k : Nat) (hk : k ≤ 1) W hW => new_ok k (1 + bndN window) hk (by omega) (by omega) W hW
  simp only [hcast] at hnew
  have HNEW := hide hnew
  have HBND := hide (fun W => bounded199 window W hI1 hI2)
  generalize bndN window = win at *
  have hb0 := (Below.refl w.heap.size w).alloc (Nat.le_refl _) (.cells #[.slice none 0 0] 41)
  have HPM : Hid (PM w w.heap.size (1 + win) 0 (.slice none 0 0) (fun _ => 0) (fun _ => 0) (fun _ => newD 0) (w.alloc (.cells #[.slice none 0 0] 41))) :=
    ⟨Is.new w 41 [.slice none 0 0], World.ownsRow_nil _ _ _ _, fun i hi => by omega, fun i hi => by omega, fun i j hi => by omega, fun i j hi => by omega, fun i hi => by omega, fun i hi => by omega, fun i hi => by omega, Nat.le_refl _, hfx.below hb0 hfx.1, hfx.1, hb0⟩
  have hw0 := hfx.1
  clear hnew hb0 hfx hcast
  go_enter Tryz.func12, Tryz.ntmps12
  go_wp2_with fail
  go_loopw [5] (fun u wr => ∃ (k : Nat) (sv : Value) (sd eb : Nat → Nat) (d : Nat → PD), u = .int .i64 k ∧ k ≤ 2 ∧ Hid (PM w w.heap.size (1 + win) k sv sd eb d wr)) (fun u _ => 2 - (intOf u).toNat)
  case atStart => exact ⟨0, _, _, _, _, rfl, by omega, HPM⟩
  case round =>
    clear HPM
    obtain ⟨k, sv, sd, eb, d, rfl, hk, HM⟩ := hrel
    by_cases hk2 : k < 2
    · have hk2' : (k : Int) < 2 := by omega
      have hws : 0 < wr.heap.size := by have := (unhide HM).bel.size; omega
      go_wp2_with fail
      refine (unhide HBND _).mono ?_
      rintro r w2 ⟨rfl, rfl⟩
      go_wp2_with fail
      refine (unhide HNEW k (by omega) _ hws).mono ?_
      rintro r w3 ⟨b, d', rfl, hpe, hft, hb3⟩
      have hM3 := (unhide HM).below hb3
      obtain ⟨sa, sc, hsv⟩ := own_any hM3.row
      subst hsv
      have c0 : w3.cell? ⟨w.heap.size, 0, none⟩ = some (.slice sa k sc) := hM3.pr.cell 0
      have pl := hM3.pr.lt
      have hbel := hM3.bel.size
      have hr2 := (hM3.row.alloc (.cells #[.pointer (some ⟨b, 0, none⟩), .slice none 0 0, .slice none 0 0, .string ⟨#[]⟩, .int .i64 0] 37)).alloc (.cells #[.pointer (some ⟨w3.heap.size, 0, none⟩)] 38)
      have HX := hide (⟨hpe, hft, hb3, hM3, hr2⟩ : _ ∧ _ ∧ _ ∧ _ ∧ _)
      clear hpe hft hb3 hM3 hr2
      go_wp2_with fail
      refine (num_any _ _).mono ?_
      rintro r w4 ⟨rfl, rfl⟩
      go_wp2_with (at_builtin; refine wpList_append_lies _ rfl _ _ 39 rfl w.heap.size 38 inf _ 1 8 Tryz.underlying39 hi hz0 hz1 hz2 rfl (by decide) _ k ((List.range k).map fun i => ptr (sd i)) rfl (unhide HX).2.2.2.2 ⟨w4.heap.size + 1, 0, none⟩ 1 1 [.pointer (some ⟨w4.heap.size, 0, none⟩)] rfl rfl ?hnews ?h1 (by decide) ?h63 ?hby ?hba _ rfl ?_)
      case hnews =>
        have := cells_newB (w4.alloc (.cells #[.pointer (some ⟨b, 0, none⟩), .slice none 0 0, .slice none 0 0, .string ⟨#[]⟩, .int .i64 0] 37)) [.pointer (some ⟨w4.heap.size, 0, none⟩)] 38
        simpa using this
      case h1 => simp [Value.oneCell']
      case h63 => unfold maxLen; omega
      case hby => omega
      case hba => first | omega | (simp; omega)
      intro g1 cap1 w5 ho5 hg5 hor5 hlt5
      obtain ⟨hpe, hft, hb3, hM3, hr2⟩ := unhide HX
      have h3b : Below w4.heap.size w4 ((w4.alloc (.cells #[.pointer (some ⟨b, 0, none⟩), .slice none 0 0, .slice none 0 0, .string ⟨#[]⟩, .int .i64 0] 37)).alloc (.cells #[.pointer (some ⟨w4.heap.size, 0, none⟩)] 38)) := ((Below.refl w4.heap.size w4).alloc (Nat.le_refl _) _).alloc (by simp) _
      have hsd : Is ((w4.alloc (.cells #[.pointer (some ⟨b, 0, none⟩), .slice none 0 0, .slice none 0 0, .string ⟨#[]⟩, .int .i64 0] 37)).alloc (.cells #[.pointer (some ⟨w4.heap.size, 0, none⟩)] 38)) w4.heap.size 37 [ptr b, nilS, nilS, .string ⟨#[]⟩, .int .i64 0] := (Is.new w4 37 [ptr b, nilS, nilS, .string ⟨#[]⟩, .int .i64 0]).alloc _
      have hO5 : Only (fun x => (Value.slice sa k sc).ownBlock = some x) _ w5 := (Only.refl _ _).grown hg5 (fun x hx _ => hx)
      have hfin := (unhide HM).step hb3 hpe hft h3b hsd ho5 hO5 (fun x hx => by
        have hx' : g1 = x := by simpa [Value.ownBlock] using hx
        subst hx'
        rcases hor5 with h | h
        · exact .inl h
        · exact .inr (by simp; omega))
      have hpr5 := ((hM3.pr.alloc (.cells #[.pointer (some ⟨b, 0, none⟩), .slice none 0 0, .slice none 0 0, .string ⟨#[]⟩, .int .i64 0] 37)).alloc (.cells #[.pointer (some ⟨w4.heap.size, 0, none⟩)] 38)).only hO5 (fun e => own_ne hM3.row hM3.pr (Nat.ne_of_beq_eq_false rfl) e.symm)
      have y0 : w5.cell? ⟨w.heap.size, 0, none⟩ = some (.slice sa k sc) := hpr5.cell 0
      have yf := hpr5.free 0
      have yl := hpr5.lt
      have HFIN := hide hfin
      clear hpe hft hb3 hM3 hr2 h3b hsd hO5 hfin hpr5 ho5 hg5 hor5 HX
      go_wp2_with fail
      go_roundw
      case rel => exact ⟨k + 1, _, _, _, _, by go_num, by omega, unhide HFIN⟩
      case measure => simp [intOf]; omega
    · have hk2' : ¬ (k : Int) < 2 := by omega
      have hke : k = 2 := by omega
      subst hke
      go_wp2_with fail
      go_ret2
      obtain ⟨g, cap, rfl, hJ⟩ := (unhide HM).all
      exact ⟨_, rfl, g, cap, sd, eb, d, hJ⟩
end Go.Proofs.YtbkpdapagfjmmaaGreatDoor

/-
  A script: the steps as they lie in memory.
-/
namespace Go.Proofs.YtbkpdapagfjmmaaGreatDoor.Sc
open Go.ChangeShapes Go.WideShapes Go.ChangeAt Go.RowKit Go.Deep
set_option linter.unusedVariables false

/-- A step of a script, as it lies in memory. -/
structure OpJ where
  kd : Int
  a : Int
  b : Int
  s : ByteArray
  t : ByteArray
  n : Int
  ha : Option Addr
  hl : Nat
  hc : Nat
  h : List ByteArray

def OpJ.vals (o : OpJ) : List Value := [.int .i64 o.kd, .int .i64 o.a, .int .i64 o.b, .string o.s, .string o.t, .int .i64 o.n, .slice o.ha o.hl o.hc]

/-- The steps of a script lie in a row; their numbers are numbers. -/
structure OpJ.Ok (w : World) (o : OpJ) : Prop where
  s : o.s.size ≤ 1048576
  h : o.h.length ≤ 1048576
  strs : Strs w (.slice o.ha o.hl o.hc) o.h
  kd : -9223372036854775808 ≤ o.kd ∧ o.kd ≤ 9223372036854775807
  a : -9223372036854775808 ≤ o.a ∧ o.a ≤ 9223372036854775807
  n : -9223372036854775808 ≤ o.n ∧ o.n ≤ 9223372036854775807
def ScriptJ (w : World) (blk off len : Nat) (ops : Nat → OpJ) : Prop := blk < w.heap.size ∧ ∀ i, i < len → (ops i).Ok w ∧ ∀ j, j < 7 → w.cell? ⟨blk, off + i * 7 + j, none⟩ = (ops i).vals[j]?
theorem cellsOp : Tryz.prog.cellsOf 33 = 7 := by kernel_rfl
theorem cells3 : Tryz.prog.cellsOf 3 = 1 := by kernel_rfl
theorem cellsSl : Tryz.prog.cellsOf 31 = 1 := by kernel_rfl

theorem part_le {H : Type} {d : DataW H} {l : List (DataW H)} (h : d ∈ l) : Rows.uptoBulk d ≤ Rows.uptoBulkAll l := by
  induction l with
  | nil => cases h
  | cons x r ih =>
    simp only [Rows.uptoBulkAll]
    rcases List.mem_cons.1 h with e | e
    · subst e; omega
    · have := ih e; omega
theorem length_le {H : Type} (l : List (DataW H)) (hp : ∀ d ∈ l, 1 ≤ Rows.uptoBulk d) : l.length ≤ Rows.uptoBulkAll l := by
  induction l with
  | nil => simp
  | cons x r ih =>
    have h1 := hp x (by simp)
    have h2 := ih (fun d hd => hp d (by simp [hd]))
    simp only [Rows.uptoBulkAll, List.length_cons]
    omega
theorem one_le {H : Type} (d : DataW H) : 1 ≤ Rows.uptoBulk d := by
  cases d with
  | lit l => cases l <;> simp [Rows.uptoBulk]
  | nil => simp [Rows.uptoBulk]
  | ptr d => simp [Rows.uptoBulk]
  | slice elems spare => simp [Rows.uptoBulk]
  | agg parts => simp [Rows.uptoBulk]
  | iface t d => simp [Rows.uptoBulk]
  | map entries => simp [Rows.uptoBulk]
  | held h => simp [Rows.uptoBulk]
theorem add_plain (b off i : Nat) : (⟨b, off, none⟩ : Addr).add i = ⟨b, off + i, none⟩ := by unfold Addr.add; split <;> simp_all
theorem strs_length {H : Type} (l : List ByteArray) : (strs (H := H) l).length = l.length := by simp [strs]

/-- A list of strings that was read as data. -/
theorem strs_of {H : Type} {enc : TypeId × Value → H} {w : World} {spare : Nat → Bool} {held : Bool} {fuel : Nat} {cs : List Value} {x : DataW H × List MemPlace}
    (h : DataW.trod enc Tryz.prog w 0 spare held fuel 31 cs = some x) : ∃ sv ls, cs = [sv] ∧ Strs w sv ls ∧ ls.length ≤ Rows.uptoBulk x.1 := by
  rcases open_strings Tryz.underlying31 Tryz.underlying9 cellsStr h with ⟨rfl, rfl⟩ | ⟨a, len, cap, ss, rfl, _, hlc, _, hsl, rfl, hc, _⟩
  · exact ⟨_, [], rfl, .inl ⟨rfl, _, _, rfl⟩, by simp⟩
  · have hlen : len ≤ ss.length := by rw [hsl]; split <;> omega
    refine ⟨_, ss.take len, rfl, ?_, ?_⟩
    · by_cases h0 : len = 0
      · subst h0
        exact .inl ⟨by simp, _, _, rfl⟩
      · obtain ⟨blk, off, spot⟩ := a
        have e0 := hc 0 (by omega)
        have hsp : spot = none := World.cell?_spot (by simpa [Addr.add] using e0)
        subst hsp
        refine .inr ⟨blk, off, cap, by rw [List.length_take, Nat.min_eq_left hlen], World.block_lt_of_cell? _ _ e0, fun i y hy => ?_⟩
        have hi : i < len := by
          have := (List.getElem?_eq_some_iff.1 hy).1
          rw [List.length_take] at this
          omega
        rw [List.getElem?_take_of_lt hi] at hy
        have := hc i (by omega)
        rw [add_plain] at this
        rw [this]
        simp [List.getD, hy]
    · simp only [Rows.uptoBulk]
      have := length_le (strs (H := H) (ss.take len)) (fun d _ => one_le d)
      rw [strs_length] at this
      omega

set_option maxRecDepth 100000 in
theorem open_op {H : Type} {enc : TypeId × Value → H} {w : World} {spare : Nat → Bool} {held : Bool} {fuel : Nat} {cs : List Value} {x : DataW H × List MemPlace}
    (h : DataW.trod enc Tryz.prog w 0 spare held fuel 33 cs = some x) : ∃ o : OpJ, cs = o.vals ∧ o.s.size + 8 ≤ Rows.uptoBulk x.1 ∧ o.h.length ≤ Rows.uptoBulk x.1 ∧ Strs w (.slice o.ha o.hl o.hc) o.h ∧ (-9223372036854775808 ≤ o.kd ∧ o.kd ≤ 9223372036854775807) ∧ (-9223372036854775808 ≤ o.a ∧ o.a ≤ 9223372036854775807) ∧ (-9223372036854775808 ≤ o.n ∧ o.n ≤ 9223372036854775807) := by
  obtain ⟨xs, n, _, rfl, hl, hlen, hf⟩ := DataW.trod_struct Tryz.underlying33 h
  rw [cellsOp] at hl
  match cs, hl with
  | [c0, c1, c2, c3, c4, c5, c6], _ =>
  match xs, hlen with
  | [y0, y1, y2, y3, y4, y5, y6], _ =>
  have f0 : DataW.trod enc Tryz.prog w 0 spare held n 3 (([c0, c1, c2, c3, c4, c5, c6].drop 0).take (Tryz.prog.cellsOf 3)) = some y0 := hf 0 _ rfl
  rw [cells3] at f0
  have f1 : DataW.trod enc Tryz.prog w 0 spare held n 3 (([c0, c1, c2, c3, c4, c5, c6].drop 1).take (Tryz.prog.cellsOf 3)) = some y1 := hf 1 _ rfl
  rw [cells3] at f1
  have f2 : DataW.trod enc Tryz.prog w 0 spare held n 3 (([c0, c1, c2, c3, c4, c5, c6].drop 2).take (Tryz.prog.cellsOf 3)) = some y2 := hf 2 _ rfl
  rw [cells3] at f2
  have f3 : DataW.trod enc Tryz.prog w 0 spare held n 9 (([c0, c1, c2, c3, c4, c5, c6].drop 3).take (Tryz.prog.cellsOf 9)) = some y3 := hf 3 _ rfl
  rw [cellsStr] at f3
  have f4 : DataW.trod enc Tryz.prog w 0 spare held n 9 (([c0, c1, c2, c3, c4, c5, c6].drop 4).take (Tryz.prog.cellsOf 9)) = some y4 := hf 4 _ rfl
  rw [cellsStr] at f4
  have f5 : DataW.trod enc Tryz.prog w 0 spare held n 3 (([c0, c1, c2, c3, c4, c5, c6].drop 5).take (Tryz.prog.cellsOf 3)) = some y5 := hf 5 _ rfl
  rw [cells3] at f5
  have f6 : DataW.trod enc Tryz.prog w 0 spare held n 31 (([c0, c1, c2, c3, c4, c5, c6].drop 6).take (Tryz.prog.cellsOf 31)) = some y6 := hf 6 _ rfl
  rw [cellsSl] at f6
  simp only [List.drop_zero, List.drop_succ_cons, List.take_succ_cons, List.take_zero] at f0 f1 f2 f3 f4 f5 f6
  obtain ⟨kd, e0, rfl, wf0⟩ := DataW.trod_int Tryz.underlying3 f0
  obtain ⟨a, e1, rfl, wf1⟩ := DataW.trod_int Tryz.underlying3 f1
  obtain ⟨b, e2, rfl, _⟩ := DataW.trod_int Tryz.underlying3 f2
  obtain ⟨s, e3, rfl, _⟩ := DataW.trod_string Tryz.underlying9 f3
  obtain ⟨t, e4, rfl, _⟩ := DataW.trod_string Tryz.underlying9 f4
  obtain ⟨m, e5, rfl, wf5⟩ := DataW.trod_int Tryz.underlying3 f5
  obtain ⟨sv, ls, e6, hst6, hl6⟩ := strs_of f6
  have hsl : ∃ ha hl hc, sv = Value.slice ha hl hc := by
    rcases hst6 with ⟨_, a, c, rfl⟩ | ⟨g, o, cap, rfl, _⟩
    · exact ⟨_, _, _, rfl⟩
    · exact ⟨_, _, _, rfl⟩
  obtain ⟨ha, hl, hc, rfl⟩ := hsl
  simp only [List.cons.injEq, and_true] at e0 e1 e2 e3 e4 e5 e6
  subst e0 e1 e2 e3 e4 e5 e6
  refine ⟨⟨kd, a, b, s, t, m, ha, hl, hc, ls⟩, rfl, ?_, ?_, hst6, bounds_i64 wf0, bounds_i64 wf1, bounds_i64 wf5⟩
  · have h6 := one_le y6.1
    simp only [List.map_cons, List.map_nil, Rows.uptoBulk, Rows.uptoBulkAll]
    rw [size_list]
    omega
  · simp only [List.map_cons, List.map_nil, Rows.uptoBulk, Rows.uptoBulkAll]
    omega

/-- The bytes of the first n steps' texts, and eight for each step. -/
def sumS (ops : Nat → OpJ) : Nat → Nat
  | 0 => 0
  | n + 1 => sumS ops n + ((ops n).s.size + 8)
theorem sumS_eight (ops : Nat → OpJ) : ∀ (n : Nat), 8 * n ≤ sumS ops n
  | 0 => Nat.zero_le _
  | n + 1 => by
    have := sumS_eight ops n
    rw [sumS]
    omega
theorem sumS_mono (ops : Nat → OpJ) {n m : Nat} (h : n ≤ m) : sumS ops n ≤ sumS ops m := by
  induction h with
  | refl => exact Nat.le_refl _
  | step _ ih => exact Nat.le_trans ih (Nat.le_add_right _ _)
theorem bulkAll_append {H : Type} (a b : List (DataW H)) : Rows.uptoBulkAll (a ++ b) = Rows.uptoBulkAll a + Rows.uptoBulkAll b := by
  induction a with
  | nil => simp [Rows.uptoBulkAll]
  | cons x a ih =>
    simp only [List.cons_append, Rows.uptoBulkAll, ih]
    omega
theorem sumS_le {H : Type} (ops : Nat → OpJ) (D : Nat → DataW H) : ∀ (n : Nat), (∀ i, i < n → (ops i).s.size + 8 ≤ Rows.uptoBulk (D i)) → sumS ops n ≤ Rows.uptoBulkAll ((List.range n).map D)
  | 0, _ => Nat.zero_le _
  | n + 1, h => by
    have h1 := sumS_le ops D n (fun i hi => h i (by omega))
    have h2 := h n (by omega)
    rw [List.range_succ, List.map_append, bulkAll_append]
    simp only [sumS, List.map_cons, List.map_nil, Rows.uptoBulkAll]
    omega

/-- A script that was read as data, and is small: what the walk wants of it. -/
theorem script_of2 {H : Type} {enc : TypeId × Value → H} {w : World} {spare : Nat → Bool} {held : Bool} {fuel : Nat} {ad : Option Addr} {len cap : Nat} {x : DataW H × List MemPlace}
    (h : DataW.trod enc Tryz.prog w 0 spare held fuel 22 [.slice ad len cap] = some x) (hk : Rows.uptoBulk x.1 ≤ 1048576) :
    len = 0 ∨ ∃ blk off ops, ad = some ⟨blk, off, none⟩ ∧ len ≤ 1048576 ∧ ScriptJ w blk off len ops ∧ sumS ops len ≤ 1048576 := by
  rcases open_slice Tryz.underlying22 h with ⟨hcs, _⟩ | ⟨a, len', cap', m, n, D, Pl, hcs, _, hlc, _, hmm, rfl, hx⟩
  · simp at hcs
    exact .inl hcs.2.1
  · simp at hcs
    obtain ⟨rfl, rfl, rfl⟩ := hcs
    by_cases h0 : len = 0
    · exact .inl h0
    right
    have hlm : len ≤ m := by rw [hmm]; split <;> omega
    simp only [Rows.uptoBulk] at hk
    have hlen : len ≤ Rows.uptoBulkAll ((List.range len).map D) := by
      have := length_le ((List.range len).map D) (fun d _ => one_le d)
      simpa using this
    rw [cellsOp] at hx
    obtain ⟨blk, off, spot⟩ := a
    have hsp : spot = none := by
      obtain ⟨cs', h1, _⟩ := hx 0 (by omega)
      obtain ⟨_, hl', hc⟩ := World.cells?_some h1
      have e := hc 0 (by omega)
      have hz : ((⟨blk, off, spot⟩ : Addr).add (0 * 7)).add 0 = ⟨blk, off, spot⟩ := by simp [Addr.add]
      rw [hz, List.getElem?_eq_getElem (by omega)] at e
      exact World.cell?_spot e
    subst hsp
    have hops : ∀ i, i < len → ∃ o : OpJ, (o.Ok w ∧ (∀ j, j < 7 → w.cell? ⟨blk, off + i * 7 + j, none⟩ = o.vals[j]?) ∧ o.s.size + 8 ≤ Rows.uptoBulk (D i)) := by
      intro i hi
      obtain ⟨cs', h1, h2⟩ := hx i (by omega)
      obtain ⟨o, rfl, ho, ho2, hstr, r0, r1, r5⟩ := open_op h2
      refine ⟨o, ⟨?_, ?_, hstr, r0, r1, r5⟩, ?_, ho⟩
      · have hmem : D i ∈ (List.range len).map D := List.mem_map.2 ⟨i, List.mem_range.2 hi, rfl⟩
        have := part_le hmem
        simp only at ho
        omega
      · have hmem : D i ∈ (List.range len).map D := List.mem_map.2 ⟨i, List.mem_range.2 hi, rfl⟩
        have := part_le hmem
        simp only at ho2
        omega
      · intro j hj
        obtain ⟨_, hl', hc⟩ := World.cells?_some h1
        have e := hc j hj
        rw [add_plain, add_plain] at e
        exact e
    haveI : Inhabited OpJ := ⟨⟨0, 0, 0, ⟨#[]⟩, ⟨#[]⟩, 0, none, 0, 0, []⟩⟩
    obtain ⟨ops, hops⟩ := choose_lt hops
    refine ⟨blk, off, ops, rfl, by omega, ⟨?_, fun i hi => ⟨(hops i hi).1, (hops i hi).2.1⟩⟩, ?_⟩
    · obtain ⟨cs', h1, _⟩ := hx 0 (by omega)
      have := World.cells?_block h1 (by omega)
      simpa [Addr.add] using this
    · have := sumS_le ops D len (fun i hi => (hops i hi).2.2)
      omega
theorem script_of {H : Type} {enc : TypeId × Value → H} {w : World} {spare : Nat → Bool} {held : Bool} {fuel : Nat} {ad : Option Addr} {len cap : Nat} {x : DataW H × List MemPlace}
    (h : DataW.trod enc Tryz.prog w 0 spare held fuel 22 [.slice ad len cap] = some x) (hk : Rows.uptoBulk x.1 ≤ 1048576) :
    len = 0 ∨ ∃ blk off ops, ad = some ⟨blk, off, none⟩ ∧ len ≤ 1048576 ∧ ScriptJ w blk off len ops := by
  rcases script_of2 h hk with h | ⟨blk, off, ops, h1, h2, h3, _⟩
  · exact .inl h
  · exact .inr ⟨blk, off, ops, h1, h2, h3⟩

end Go.Proofs.YtbkpdapagfjmmaaGreatDoor.Sc
