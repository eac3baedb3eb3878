import Derived.Test.YtbkpdapagfjmmaaDoorMT9U1
import Derived.Test.YtbkpdapagfjmmaaDoorMPUT6
/-
  Walks: Squeeze.
-/
namespace Go.Proofs.YtbkpdapagfjmmaaDoor
open Go.RowKit

namespace Lk
theorem good_len {h : Hd} (hg : good h = true) : h.n.length ≤ 16 ∧ h.v.length ≤ 32 := by
  simp only [good, fits, lenOk, Bool.and_eq_true, if_true, decide_eq_true_eq] at hg
  obtain ⟨⟨h1, _⟩, h2, _⟩ := hg
  simp at h2
  omega
theorem oneP_len (B : Nat) (L : List Hd) (h : Hd) (hL : (ents L).length ≤ 54) (hn : h.n.length ≤ 16) (hv : h.v.length ≤ 32) : (oneP B L h).1.length ≤ 60 := by
  have h1 := low_le (sameHd h) (ents L)
  have h2 := low_le (sameName h) (ents L)
  have w1 := wire_len_le4 (2 * low (sameHd h) (ents L)) (by omega)
  have w2 := wire_len_le4 (2 * (low (sameName h) (ents L) + 1) + 1) (by omega)
  have w3 := wire_len_le4 1 (by omega)
  have w4 := wire_len_le4 h.n.length (by omega)
  have w5 := wire_len_le4 h.v.length (by omega)
  unfold oneP text
  split
  · simp only; omega
  · split <;> simp only [List.length_append] <;> omega
theorem squeeze_len (B : Nat) (hB : B ≤ 200) : ∀ (hs L : List Hd), weights L ≤ B → (∀ h ∈ hs, good h = true) → (squeeze B L hs).1.length ≤ 60 * hs.length
  | [], L, _, _ => by simp [squeeze]
  | x :: hs, L, hL, hg => by
    have hlen := weights_len L
    have hb := good_len (hg x (by simp))
    have h1 := oneP_len B L x (by rw [ents_len]; omega) hb.1 hb.2
    have h2 := squeeze_len B hB hs (oneP B L x).2 (oneP_weights B L x hL) (fun y hy => hg y (by simp [hy]))
    simp only [squeeze, List.length_append, List.length_cons]
    omega
end Lk

theorem take_snoc {l : List Lk.Hd} {k : Nat} {x : Lk.Hd} (hx : l[k]? = some x) : l.take k ++ [x] = l.take (k + 1) := by
  rw [List.take_add_one, hx]; rfl
theorem conv_nil (w : World) : (convert 88 9 (.slice none 0 0)).run Tryd.prog w = .ok (.string ⟨#[]⟩) w := by
  rw [run_convert_bytes_nil w 88 5 Tryd.underlying88 Tryd.underlying5 0 0 9 Tryd.underlying9]; rfl
theorem own_turns {w w' : World} {t B n : Nat} {v : Value} {xs cs : List Value} {T : TypeId} (h : w.ownsRow B 44 2 v n xs) (hI : Is w t T cs) (hT : T ≠ 44) (hb : Turns t w w') : w'.ownsRow B 44 2 v n xs :=
  h.kept hb (.inr (fun e => own_ne h hI hT e.symm))

set_option maxHeartbeats 1000000 in
set_option maxRecDepth 100000 in
theorem squeeze_none (t cap : Nat) (ad : Option Addr) (w : World) :
    Calls Tryd.prog 23 #[.pointer (some ⟨t, 0, none⟩), .slice ad 0 cap] w fun e w' => e = .returned (.string ⟨#[]⟩) ∧ Below w.heap.size w w' := by
  have hcv := conv_nil w
  go_enter Tryd.func23, Tryd.ntmps23
  go_wp2_with fail
  refine wp_loop_rounds 1 ?_
  rw [rounds_succ]
  go_wp2_with fail
  go_ret
  exact ⟨rfl, Below.refl _ _⟩

set_option maxHeartbeats 2000000 in
set_option maxRecDepth 100000 in
theorem squeeze_some (t B g cap B1 : Nat) (L l : List Lk.Hd) (v : Value) (w : World) (hT : Tab w t B L v) (hfx : Fx w) (ht0 : t ≠ 0) (hl : l.length ≤ 6) (hl0 : 0 < l.length) (hgood : ∀ h ∈ l, Lk.good h = true)
    (own : w.ownsRow B1 44 2 (.slice (some ⟨g, 0, none⟩) l.length cap) l.length (hdsV l)) :
    Calls Tryd.prog 23 #[.pointer (some ⟨t, 0, none⟩), .slice (some ⟨g, 0, none⟩) l.length cap] w fun e w' =>
      e = .returned (.string (bs (Lk.squeeze B L l).1)) ∧ (∃ v', Tab w' t B (Lk.squeeze B L l).2 v' ∧ NewOr w.heap.size v v') ∧ Turns t w w' := by
  have h0 := hfx.1
  have HT := hide hT
  have HFX := hide hfx
  have HG := hide hgood
  have HO := hide own
  clear hT hfx hgood own
  generalize hS : bs (Lk.squeeze B L l).1 = S
  have HS := hide hS
  clear hS
  go_enter Tryd.func23, Tryd.ntmps23
  go_wp2_with fail
  go_loopw [5, 10] (fun u5 u wr => ∃ (k : Nat) (v' : Value), u = .int .i64 k ∧ k ≤ l.length ∧ (Tab wr t B (Lk.squeeze B L (l.take k)).2 v' ∧ NewOr w.heap.size v v') ∧ Hid (wr.ownsRow w.heap.size 5 1 u5 (Lk.squeeze B L (l.take k)).1.length (bytesV (Lk.squeeze B L (l.take k)).1)) ∧ TurnsU t w.heap.size w wr) (fun _ u _ => l.length - (intOf u).toNat)
  case atStart => exact ⟨0, v, rfl, by omega, ⟨unhide HT, .inl rfl⟩, World.ownsRow_nil _ _ _ _, TurnsU.refl _ _ _⟩
  case round =>
    obtain ⟨k, v', rfl, hk, ⟨hTk, hNk⟩, HOk, hU⟩ := hrel
    by_cases hlt : k < l.length
    · have hlt' : (k : Int) < l.length := by omega
      obtain ⟨x, hx⟩ : ∃ x, l[k]? = some x := ⟨_, List.getElem?_eq_getElem hlt⟩
      obtain ⟨hg2, x0, x1⟩ := row_at2 (own_turns (unhide HO) (unhide HT).blk (Nat.ne_of_beq_eq_false rfl) hU.toTurns) hx
      have hxg := Lk.good_len ((unhide HG) x (List.mem_of_getElem? hx))
      have hsz := hU.2.2.2.1
      have hsl := Lk.squeeze_len B hTk.hB (l.take k) L (unhide HT).le (fun y hy => (unhide HG) y (List.mem_of_mem_take hy))
      rw [List.length_take] at hsl
      have HX := hide hx
      have HTk := hide hTk
      have HU := hide hU
      clear hx hTk hU
      go_wp2_with fail
      refine (appendPart_any t B w.heap.size (Lk.squeeze B L (l.take k)).2 x v' u5 (Lk.squeeze B L (l.take k)).1 _ ((unhide HTk).alloc _) (((unhide HFX).turnsU (unhide HU) h0 (Ne.symm ht0)).below ((Below.refl _ _).alloc (Nat.le_refl _) _) (by omega)) (by simp; omega) ((unhide HOk).alloc _) (by omega) hxg.1 hxg.2).mono ?_
      rintro e w2 ⟨v2, bv2, rfl, ⟨hT2, hN2⟩, ho2, hU2⟩
      have hN3 := hNk.trans hN2 (by simp; omega)
      clear hN2
      have e := Lk.squeeze_snoc B (l.take k) L x
      rw [take_snoc (unhide HX)] at e
      have e1 := congrArg Prod.fst e
      have e2 := congrArg Prod.snd e
      simp only at e1 e2
      rw [← e2] at hT2
      rw [← e1] at ho2
      have hU3 := ((unhide HU).below ((Below.refl w.heap.size wr).alloc (by omega) _)).trans hU2
      have HO2 := hide ho2
      clear e e1 e2 ho2 hU2 x0 x1
      go_wp2_with fail
      go_roundw
      case rel => exact ⟨k + 1, v2, by simp, by omega, ⟨hT2, hN3⟩, HO2, hU3⟩
      case measure => simp [intOf]; omega
    · have hlt' : ¬ (k : Int) < l.length := by omega
      have hkl : k = l.length := by omega
      rw [hkl, List.take_length] at hTk HOk
      have hcv := owned_string (unhide HOk) (by
        rcases Nat.eq_zero_or_pos (Lk.squeeze B L l).1.length with h | h
        · have := (Lk.squeeze_nil B l L).1 (List.eq_nil_of_length_eq_zero h)
          rw [this] at hl0
          simp at hl0
        · exact h)
      rw [show (⟨(Lk.squeeze B L l).1.toArray⟩ : ByteArray) = S from unhide HS] at hcv
      have HTk := hide hTk
      have HU := hide hU
      clear hTk hU
      go_wp2_with fail
      go_ret
      exact ⟨rfl, ⟨v', unhide HTk, hNk⟩, (unhide HU).toTurns⟩
end Go.Proofs.YtbkpdapagfjmmaaDoor

/-
  Walks: Drain.
-/
namespace Go.Proofs.YtbkpdapagfjmmaaDoor
open Go.RowKit

theorem gath_string {w : World} {B : Nat} {v : Value} {l : Lk.Bs} (h : w.ownsRow B 5 1 v l.length (bytesV l)) : (convert 88 9 v).run Tryd.prog w = .ok (.string (bs l)) w := by
  rcases Nat.eq_zero_or_pos l.length with h0 | h0
  · have hl : l = [] := List.eq_nil_of_length_eq_zero h0
    subst hl
    rcases h.2 with ⟨rfl, _⟩ | ⟨g, cap, cur, rfl, _, hg, _, _, _, _⟩
    · exact conv_nil w
    · have hI : Is w g 5 cur.toList := by unfold Is; simpa using hg
      have := Is.string (xs := []) hI (by simp) cap
      simpa [bs, strOfNums] using this
  · exact owned_string h h0

theorem drain_step {N c : Nat} {e e1 e2 : Lk.En} {xs s : Lk.Bs} (h : Lk.En.drain N e = (xs ++ (Lk.En.drain (N - c) e1).1, (Lk.En.drain (N - c) e1).2)) (hc : c < N) (hd : e1.drain1 = some (s, e2)) : Lk.En.drain N e = ((xs ++ s) ++ (Lk.En.drain (N - (c + 1)) e2).1, (Lk.En.drain (N - (c + 1)) e2).2) := by
  have e0 : N - c = (N - (c + 1)) + 1 := by omega
  rw [h, e0]
  simp only [Lk.En.drain, hd]
  rw [List.append_assoc]
theorem drain_stop {N c : Nat} {e e1 : Lk.En} {xs : Lk.Bs} (h : Lk.En.drain N e = (xs ++ (Lk.En.drain (N - c) e1).1, (Lk.En.drain (N - c) e1).2)) (hd : e1.drain1 = none ∨ ¬ c < N) : Lk.En.drain N e = (xs, e1) := by
  rw [h]
  rcases hd with hd | hd
  · cases hx : N - c with
    | zero => simp [Lk.En.drain]
    | succ m => simp [Lk.En.drain, hd]
  · have : N - c = 0 := by omega
    rw [this]
    simp [Lk.En.drain]

set_option maxHeartbeats 2000000 in
set_option maxRecDepth 100000 in
theorem drain_any (b : Nat) (e : Lk.En) (d : PD) (most : Int) (w : World) (hL : PEnd w b e d) (hm64 : most ≤ 9223372036854775807) (hb44 : (Lk.En.drain most.toNat e).1.length ≤ 2 ^ 44) :
    Calls Tryd.prog 27 #[.pointer (some ⟨b, 0, none⟩), .int .i64 most] w fun r w' => r = .returned (.string (bs (Lk.En.drain most.toNat e).1)) ∧ PPost w b d (Lk.En.drain most.toNat e).2 w' := by
  have hlt := hL.lt
  have hI0 := Is.new w 88 [.slice none 0 0]
  have hO0 : Only (fun i => foot b d i ∨ w.heap.size ≤ i) w (w.alloc (.cells #[.slice none 0 0] 88)) := (Only.refl _ w).alloc _
  have hL0 := hL.only ((Only.refl (fun _ => False) w).alloc (.cells #[.slice none 0 0] 88)) (fun _ _ h => h)
  have hG0 : Gath (w.alloc (.cells #[.slice none 0 0] 88)) w.heap.size w.heap.size [] := ⟨_, hI0, World.ownsRow_nil _ _ _ _⟩
  have hbl : b < w.heap.size := hlt b (.inl rfl)
  generalize hNN : most.toNat = N at *
  have hmN : ∀ c : Nat, (c : Int) < most ↔ c < N := fun c => by omega
  generalize hRes : (Lk.En.drain N e) = Res
  have HRES := hide hRes
  have HF0 := hide (⟨hL0, hG0, hO0, hlt⟩ : _ ∧ _ ∧ _ ∧ _)
  have HMN := hide hmN
  have HB44 := hide hb44
  clear hL hI0 hO0 hL0 hG0 hlt hNN hRes hmN hb44
  go_enter Tryd.func27, Tryd.ntmps27
  go_wp2_with fail
  go_loopw [9] (fun u wr => ∃ (c : Nat) (e1 : Lk.En) (d1 : PD) (xs : Lk.Bs), u = .int .i64 c ∧ c ≤ N ∧ Hid (PEnd wr b e1 d1 ∧ (∀ i, foot b d1 i → foot b d i) ∧ Gath wr w.heap.size w.heap.size xs ∧ Only (fun i => foot b d i ∨ w.heap.size ≤ i) w wr ∧ Lk.En.drain N e = (xs ++ (Lk.En.drain (N - c) e1).1, (Lk.En.drain (N - c) e1).2))) (fun u _ => N - (intOf u).toNat)
  case atStart =>
    obtain ⟨h1, h2, h3, h4⟩ := unhide HF0
    exact ⟨0, e, d, [], rfl, Nat.zero_le _, h1, fun _ h => h, h2, h3, by simp⟩
  case round =>
    obtain ⟨c, e1, d1, xs, rfl, hcN, HR⟩ := hrel
    have hfin : ∀ (W : World), PEnd W b e1 d1 → Gath W w.heap.size w.heap.size xs → Only (fun i => foot b d i ∨ w.heap.size ≤ i) w W → (e1.drain1 = none ∨ ¬ c < N) → ∃ v, W.cell? ⟨w.heap.size, 0, none⟩ = some v ∧ (∃ a n cap, v = .slice a n cap) ∧ w.heap.size < W.heap.size ∧ (convert 88 9 v).run Tryd.prog W = .ok (.string (bs Res.1)) W ∧ PPost w b d Res.2 W := by
      intro W h1 h3 h4 hs
      obtain ⟨_, h2, _, _, h5⟩ := unhide HR
      have hst := drain_stop h5 hs
      have hrr := unhide HRES
      rw [hst] at hrr
      obtain ⟨v, hI, ho⟩ := h3
      obtain ⟨a, n, cap, hv, _⟩ := own_slice ho
      refine ⟨v, hI.cell 0, ⟨a, n, cap, hv⟩, hI.lt, ?_, d1, ?_, fun i hi => .inl (h2 i hi), ?_⟩
      · rw [← hrr]
        exact gath_string ho
      · rw [← hrr]
        exact h1
      · refine ⟨h4.os, h4.tape, h4.output, h4.size, fun i hi hn => h4.block i hi (fun hx => ?_)⟩
        rcases hx with hx | hx
        · exact hn hx
        · omega
    have HFIN := hide hfin
    clear hfin
    by_cases hlt : c < N
    · have hlt' : (c : Int) < most := (unhide HMN c).2 hlt
      have hc64 : (c : Int) + 1 ≤ 9223372036854775807 := by omega
      obtain ⟨h1, h2, h3, h4, h5⟩ := unhide HR
      have hxl : xs.length ≤ 2 ^ 44 := by
        have := unhide HB44
        rw [h5] at this
        simp at this
        omega
      have hB : ∀ i, foot b d1 i → i < w.heap.size := fun i hi => (unhide HF0).2.2.2 i (h2 i hi)
      have HT := hide (take_round b w.heap.size w.heap.size e1 d1 xs wr h1 h3 (Nat.le_refl _) hB hxl)
      have hblr : b < wr.heap.size := by have := h4.size; omega
      unfold gathV at HT
      cases hrow : e1.row with
      | cons s r =>
        rw [hrow] at HT
        simp only at HT
        have hd1 : e1.drain1 = some (s, { e1 with row := r }) := by unfold Lk.En.drain1; rw [hrow]
        have hst := drain_step h5 hlt hd1
        have HST := hide (⟨h2, h4, hst⟩ : _ ∧ _ ∧ _)
        clear h1 h2 h3 h4 h5 hd1 hst hxl hB
        go_wp2_with fail
        refine (unhide HT).mono ?_
        rintro q w1 ⟨rfl, d2, g1, g2, g3, g4⟩
        obtain ⟨h2, h4, hst⟩ := unhide HST
        have hrel2 : Hid (PEnd w1 b { e1 with row := r } d2 ∧ (∀ i, foot b d2 i → foot b d i) ∧ Gath w1 w.heap.size w.heap.size (xs ++ s) ∧ Only (fun i => foot b d i ∨ w.heap.size ≤ i) w w1 ∧ Lk.En.drain N e = ((xs ++ s) ++ (Lk.En.drain (N - (c + 1)) { e1 with row := r }).1, (Lk.En.drain (N - (c + 1)) { e1 with row := r }).2)) :=
          ⟨g1, fun i hi => h2 i (g2 i hi), g3, h4.trans g4 (fun i hi _ => hi.imp (h2 i) id), hst⟩
        clear g1 g2 g3 g4 h2 h4 hst
        go_wp2_with fail
        go_roundw
        case rel => exact ⟨c + 1, _, d2, xs ++ s, by simp, by omega, hrel2⟩
        case measure => simp [intOf]; omega
      | nil =>
        rw [hrow] at HT
        simp only at HT
        have HS := hide (send_round b w.heap.size w.heap.size e1 d1 xs wr h1 hrow h3 (Nat.le_refl _) hB hxl)
        unfold gathV at HS
        cases hd1 : e1.drain1 with
        | some p =>
          obtain ⟨s, e2⟩ := p
          rw [hd1] at HS
          simp only at HS
          have hst := drain_step h5 hlt hd1
          have HST := hide (⟨h2, h4, hst⟩ : _ ∧ _ ∧ _)
          clear h1 h2 h3 h4 h5 hd1 hst hxl hB
          go_wp2_with fail
          refine (unhide HT).mono ?_
          rintro q w1 ⟨rfl, rfl⟩
          go_wp2_with fail
          refine (unhide HS).mono ?_
          rintro q w2 ⟨rfl, d2, g1, g2, g3, g4⟩
          obtain ⟨h2, h4, hst⟩ := unhide HST
          have hrel2 : Hid (PEnd w2 b e2 d2 ∧ (∀ i, foot b d2 i → foot b d i) ∧ Gath w2 w.heap.size w.heap.size (xs ++ s) ∧ Only (fun i => foot b d i ∨ w.heap.size ≤ i) w w2 ∧ Lk.En.drain N e = ((xs ++ s) ++ (Lk.En.drain (N - (c + 1)) e2).1, (Lk.En.drain (N - (c + 1)) e2).2)) :=
            ⟨g1, fun i hi => h2 i (g2 i hi), g3, h4.trans g4 (fun i hi _ => hi.imp (h2 i) id), hst⟩
          clear g1 g2 g3 g4 h2 h4 hst
          go_wp2_with fail
          go_roundw
          case rel => exact ⟨c + 1, e2, d2, xs ++ s, by simp, by omega, hrel2⟩
          case measure => simp [intOf]; omega
        | none =>
          rw [hd1] at HS
          simp only at HS
          have HX := hide (fun n => unhide HFIN (wr.drewN n) (h1.only ((Only.refl (fun _ => False) wr).drewN n) (fun _ _ h => h)) (let ⟨v, a, b⟩ := h3; ⟨v, a.drewN n, b⟩) (h4.drewN n) (.inl hd1))
          clear h1 h2 h3 h4 h5 hd1 hxl hB
          go_wp2_with fail
          refine (unhide HT).mono ?_
          rintro q w1 ⟨rfl, rfl⟩
          go_wp2_with fail
          refine (unhide HS).mono ?_
          rintro q w2 ⟨rfl, n, rfl⟩
          obtain ⟨v, k1, ⟨va, vn, vc, rfl⟩, k2, k3, k4⟩ := unhide HX n
          have HK := hide k4
          clear k4
          go_wp2_with fail
          go_ret
          exact ⟨rfl, unhide HK⟩
    · have hlt' : ¬ (c : Int) < most := fun h => hlt ((unhide HMN c).1 h)
      obtain ⟨h1, h2, h3, h4, h5⟩ := unhide HR
      obtain ⟨v, k1, ⟨va, vn, vc, rfl⟩, k2, k3, k4⟩ := unhide HFIN wr h1 h3 h4 (.inr hlt)
      have HK := hide k4
      clear k4 h1 h2 h3 h4 h5
      go_wp2_with fail
      go_ret
      exact ⟨rfl, unhide HK⟩
end Go.Proofs.YtbkpdapagfjmmaaDoor
