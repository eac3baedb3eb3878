import Derived.Test.YtbkpdapagfjmmaaGreatDoorMT8U1
import Derived.Test.YtbkpdapagfjmmaaGreatDoorMPUT7
import Derived.Deep.AppendLies
/-
  Walks: Squeeze.
-/
namespace Go.Proofs.YtbkpdapagfjmmaaGreatDoor
open Go.RowKit

namespace Lk
theorem good_len {h : Hd} (hg : good h = true) : h.n.length ≤ 16 ∧ h.v.length ≤ 32 := by
  simp only [good, fits, lenOk, Bool.and_eq_true, if_true, decide_eq_true_eq] at hg
  obtain ⟨⟨h1, _⟩, h2, _⟩ := hg
  simp at h2
  omega
theorem oneP_len (B : Nat) (L : List Hd) (h : Hd) (hL : (ents L).length ≤ 54) (hn : h.n.length ≤ 16) (hv : h.v.length ≤ 32) : (oneP B L h).1.length ≤ 60 := by
  have h1 := low_le (sameHd h) (ents L)
  have h2 := low_le (sameName h) (ents L)
  have w1 := wire_len_le4 (2 * low (sameHd h) (ents L)) (by omega)
  have w2 := wire_len_le4 (2 * (low (sameName h) (ents L) + 1) + 1) (by omega)
  have w3 := wire_len_le4 1 (by omega)
  have w4 := wire_len_le4 h.n.length (by omega)
  have w5 := wire_len_le4 h.v.length (by omega)
  unfold oneP text
  split
  · simp only; omega
  · split <;> simp only [List.length_append] <;> omega
theorem squeeze_len (B : Nat) (hB : B ≤ 200) : ∀ (hs L : List Hd), weights L ≤ B → (∀ h ∈ hs, good h = true) → (squeeze B L hs).1.length ≤ 60 * hs.length
  | [], L, _, _ => by simp [squeeze]
  | x :: hs, L, hL, hg => by
    have hlen := weights_len L
    have hb := good_len (hg x (by simp))
    have h1 := oneP_len B L x (by rw [ents_len]; omega) hb.1 hb.2
    have h2 := squeeze_len B hB hs (oneP B L x).2 (oneP_weights B L x hL) (fun y hy => hg y (by simp [hy]))
    simp only [squeeze, List.length_append, List.length_cons]
    omega
end Lk

theorem take_snoc {l : List Lk.Hd} {k : Nat} {x : Lk.Hd} (hx : l[k]? = some x) : l.take k ++ [x] = l.take (k + 1) := by
  rw [List.take_add_one, hx]; rfl
theorem conv_nil (w : World) : (convert 78 9 (.slice none 0 0)).run Tryz.prog w = .ok (.string ⟨#[]⟩) w := by
  rw [run_convert_bytes_nil w 78 5 Tryz.underlying78 Tryz.underlying5 0 0 9 Tryz.underlying9]; rfl
theorem own_turns {w w' : World} {t B n : Nat} {v : Value} {xs cs : List Value} {T : TypeId} (h : w.ownsRow B 112 2 v n xs) (hI : Is w t T cs) (hT : T ≠ 112) (hb : Turns t w w') : w'.ownsRow B 112 2 v n xs :=
  h.kept hb (.inr (fun e => own_ne h hI hT e.symm))

set_option maxHeartbeats 1000000 in
set_option maxRecDepth 100000 in
theorem squeeze_none (t cap : Nat) (ad : Option Addr) (w : World) :
    Calls Tryz.prog 82 #[.pointer (some ⟨t, 0, none⟩), .slice ad 0 cap] w fun e w' => e = .returned (.string ⟨#[]⟩) ∧ Below w.heap.size w w' := by
  have hcv := conv_nil w
  go_enter Tryz.func82, Tryz.ntmps82
  go_wp2_with fail
  refine wp_loop_rounds 1 ?_
  rw [rounds_succ]
  go_wp2_with fail
  go_ret
  exact ⟨rfl, Below.refl _ _⟩

set_option maxHeartbeats 2000000 in
set_option maxRecDepth 100000 in
theorem squeeze_some (t B g cap B1 : Nat) (L l : List Lk.Hd) (v : Value) (w : World) (hT : Tab w t B L v) (hfx : Fx w) (ht0 : t ≠ 0) (hl : l.length ≤ 6) (hl0 : 0 < l.length) (hgood : ∀ h ∈ l, Lk.good h = true)
    (own : w.ownsRow B1 112 2 (.slice (some ⟨g, 0, none⟩) l.length cap) l.length (hdsV l)) :
    Calls Tryz.prog 82 #[.pointer (some ⟨t, 0, none⟩), .slice (some ⟨g, 0, none⟩) l.length cap] w fun e w' =>
      e = .returned (.string (bs (Lk.squeeze B L l).1)) ∧ (∃ v', Tab w' t B (Lk.squeeze B L l).2 v' ∧ NewOr w.heap.size v v') ∧ Turns t w w' := by
  have h0 := hfx.1
  have HT := hide hT
  have HFX := hide hfx
  have HG := hide hgood
  have HO := hide own
  clear hT hfx hgood own
  generalize hS : bs (Lk.squeeze B L l).1 = S
  have HS := hide hS
  clear hS
  go_enter Tryz.func82, Tryz.ntmps82
  go_wp2_with fail
  go_loopw [5, 10] (fun u5 u wr => ∃ (k : Nat) (v' : Value), u = .int .i64 k ∧ k ≤ l.length ∧ (Tab wr t B (Lk.squeeze B L (l.take k)).2 v' ∧ NewOr w.heap.size v v') ∧ Hid (wr.ownsRow w.heap.size 5 1 u5 (Lk.squeeze B L (l.take k)).1.length (bytesV (Lk.squeeze B L (l.take k)).1)) ∧ TurnsU t w.heap.size w wr) (fun _ u _ => l.length - (intOf u).toNat)
  case atStart => exact ⟨0, v, rfl, by omega, ⟨unhide HT, .inl rfl⟩, World.ownsRow_nil _ _ _ _, TurnsU.refl _ _ _⟩
  case round =>
    obtain ⟨k, v', rfl, hk, ⟨hTk, hNk⟩, HOk, hU⟩ := hrel
    by_cases hlt : k < l.length
    · have hlt' : (k : Int) < l.length := by omega
      obtain ⟨x, hx⟩ : ∃ x, l[k]? = some x := ⟨_, List.getElem?_eq_getElem hlt⟩
      obtain ⟨hg2, x0, x1⟩ := row_at2 (own_turns (unhide HO) (unhide HT).blk (Nat.ne_of_beq_eq_false rfl) hU.toTurns) hx
      have hxg := Lk.good_len ((unhide HG) x (List.mem_of_getElem? hx))
      have hsz := hU.2.2.2.1
      have hsl := Lk.squeeze_len B hTk.hB (l.take k) L (unhide HT).le (fun y hy => (unhide HG) y (List.mem_of_mem_take hy))
      rw [List.length_take] at hsl
      have HX := hide hx
      have HTk := hide hTk
      have HU := hide hU
      clear hx hTk hU
      go_wp2_with fail
      refine (appendPart_any t B w.heap.size (Lk.squeeze B L (l.take k)).2 x v' u5 (Lk.squeeze B L (l.take k)).1 _ ((unhide HTk).alloc _) (((unhide HFX).turnsU (unhide HU) h0 (Ne.symm ht0)).below ((Below.refl _ _).alloc (Nat.le_refl _) _) (by omega)) (by simp; omega) ((unhide HOk).alloc _) (by omega) hxg.1 hxg.2).mono ?_
      rintro e w2 ⟨v2, bv2, rfl, ⟨hT2, hN2⟩, ho2, hU2⟩
      have hN3 := hNk.trans hN2 (by simp; omega)
      clear hN2
      have e := Lk.squeeze_snoc B (l.take k) L x
      rw [take_snoc (unhide HX)] at e
      have e1 := congrArg Prod.fst e
      have e2 := congrArg Prod.snd e
      simp only at e1 e2
      rw [← e2] at hT2
      rw [← e1] at ho2
      have hU3 := ((unhide HU).below ((Below.refl w.heap.size wr).alloc (by omega) _)).trans hU2
      have HO2 := hide ho2
      clear e e1 e2 ho2 hU2 x0 x1
      go_wp2_with fail
      go_roundw
      case rel => exact ⟨k + 1, v2, by simp, by omega, ⟨hT2, hN3⟩, HO2, hU3⟩
      case measure => simp [intOf]; omega
    · have hlt' : ¬ (k : Int) < l.length := by omega
      have hkl : k = l.length := by omega
      rw [hkl, List.take_length] at hTk HOk
      have hcv := owned_string (unhide HOk) (by
        rcases Nat.eq_zero_or_pos (Lk.squeeze B L l).1.length with h | h
        · have := (Lk.squeeze_nil B l L).1 (List.eq_nil_of_length_eq_zero h)
          rw [this] at hl0
          simp at hl0
        · exact h)
      rw [show (⟨(Lk.squeeze B L l).1.toArray⟩ : ByteArray) = S from unhide HS] at hcv
      have HTk := hide hTk
      have HU := hide hU
      clear hTk hU
      go_wp2_with fail
      go_ret
      exact ⟨rfl, ⟨v', unhide HTk, hNk⟩, (unhide HU).toTurns⟩
end Go.Proofs.YtbkpdapagfjmmaaGreatDoor

/-
  Walks: Drain.
-/
namespace Go.Proofs.YtbkpdapagfjmmaaGreatDoor
open Go.RowKit

theorem gath_string {w : World} {B : Nat} {v : Value} {l : Lk.Bs} (h : w.ownsRow B 5 1 v l.length (bytesV l)) : (convert 78 9 v).run Tryz.prog w = .ok (.string (bs l)) w := by
  rcases Nat.eq_zero_or_pos l.length with h0 | h0
  · have hl : l = [] := List.eq_nil_of_length_eq_zero h0
    subst hl
    rcases h.2 with ⟨rfl, _⟩ | ⟨g, cap, cur, rfl, _, hg, _, _, _, _⟩
    · exact conv_nil w
    · have hI : Is w g 5 cur.toList := by unfold Is; simpa using hg
      have := Is.string (xs := []) hI (by simp) cap
      simpa [bs, strOfNums] using this
  · exact owned_string h h0

theorem drain_step {N c : Nat} {e e1 e2 : Lk.En} {xs s : Lk.Bs} (h : Lk.En.drain N e = (xs ++ (Lk.En.drain (N - c) e1).1, (Lk.En.drain (N - c) e1).2)) (hc : c < N) (hd : e1.drain1 = some (s, e2)) : Lk.En.drain N e = ((xs ++ s) ++ (Lk.En.drain (N - (c + 1)) e2).1, (Lk.En.drain (N - (c + 1)) e2).2) := by
  have e0 : N - c = (N - (c + 1)) + 1 := by omega
  rw [h, e0]
  simp only [Lk.En.drain, hd]
  rw [List.append_assoc]
theorem drain_stop {N c : Nat} {e e1 : Lk.En} {xs : Lk.Bs} (h : Lk.En.drain N e = (xs ++ (Lk.En.drain (N - c) e1).1, (Lk.En.drain (N - c) e1).2)) (hd : e1.drain1 = none ∨ ¬ c < N) : Lk.En.drain N e = (xs, e1) := by
  rw [h]
  rcases hd with hd | hd
  · cases hx : N - c with
    | zero => simp [Lk.En.drain]
    | succ m => simp [Lk.En.drain, hd]
  · have : N - c = 0 := by omega
    rw [this]
    simp [Lk.En.drain]

set_option maxHeartbeats 2000000 in
set_option maxRecDepth 100000 in
theorem drain_any (b : Nat) (e : Lk.En) (d : PD) (most : Int) (w : World) (hL : PEnd w b e d) (hm64 : most ≤ 9223372036854775807) (hb44 : (Lk.En.drain most.toNat e).1.length ≤ 2 ^ 44) :
    Calls Tryz.prog 14 #[.pointer (some ⟨b, 0, none⟩), .int .i64 most] w fun r w' => r = .returned (.string (bs (Lk.En.drain most.toNat e).1)) ∧ PPost w b d (Lk.En.drain most.toNat e).2 w' := by
  have hlt := hL.lt
  have hI0 := Is.new w 78 [.slice none 0 0]
  have hO0 : Only (fun i => foot b d i ∨ w.heap.size ≤ i) w (w.alloc (.cells #[.slice none 0 0] 78)) := (Only.refl _ w).alloc _
  have hL0 := hL.only ((Only.refl (fun _ => False) w).alloc (.cells #[.slice none 0 0] 78)) (fun _ _ h => h)
  have hG0 : Gath (w.alloc (.cells #[.slice none 0 0] 78)) w.heap.size w.heap.size [] := ⟨_, hI0, World.ownsRow_nil _ _ _ _⟩
  have hbl : b < w.heap.size := hlt b (.inl rfl)
  generalize hNN : most.toNat = N at *
  have hmN : ∀ c : Nat, (c : Int) < most ↔ c < N := fun c => by omega
  generalize hRes : (Lk.En.drain N e) = Res
  have HRES := hide hRes
  have HF0 := hide (⟨hL0, hG0, hO0, hlt⟩ : _ ∧ _ ∧ _ ∧ _)
  have HMN := hide hmN
  have HB44 := hide hb44
  clear hL hI0 hO0 hL0 hG0 hlt hNN hRes hmN hb44
  go_enter Tryz.func14, Tryz.ntmps14
  go_wp2_with fail
  go_loopw [9] (fun u wr => ∃ (c : Nat) (e1 : Lk.En) (d1 : PD) (xs : Lk.Bs), u = .int .i64 c ∧ c ≤ N ∧ Hid (PEnd wr b e1 d1 ∧ (∀ i, foot b d1 i → foot b d i) ∧ Gath wr w.heap.size w.heap.size xs ∧ Only (fun i => foot b d i ∨ w.heap.size ≤ i) w wr ∧ Lk.En.drain N e = (xs ++ (Lk.En.drain (N - c) e1).1, (Lk.En.drain (N - c) e1).2))) (fun u _ => N - (intOf u).toNat)
  case atStart =>
    obtain ⟨h1, h2, h3, h4⟩ := unhide HF0
    exact ⟨0, e, d, [], rfl, Nat.zero_le _, h1, fun _ h => h, h2, h3, by simp⟩
  case round =>
    obtain ⟨c, e1, d1, xs, rfl, hcN, HR⟩ := hrel
    have hfin : ∀ (W : World), PEnd W b e1 d1 → Gath W w.heap.size w.heap.size xs → Only (fun i => foot b d i ∨ w.heap.size ≤ i) w W → (e1.drain1 = none ∨ ¬ c < N) → ∃ v, W.cell? ⟨w.heap.size, 0, none⟩ = some v ∧ (∃ a n cap, v = .slice a n cap) ∧ w.heap.size < W.heap.size ∧ (convert 78 9 v).run Tryz.prog W = .ok (.string (bs Res.1)) W ∧ PPost w b d Res.2 W := by
      intro W h1 h3 h4 hs
      obtain ⟨_, h2, _, _, h5⟩ := unhide HR
      have hst := drain_stop h5 hs
      have hrr := unhide HRES
      rw [hst] at hrr
      obtain ⟨v, hI, ho⟩ := h3
      obtain ⟨a, n, cap, hv, _⟩ := own_slice ho
      refine ⟨v, hI.cell 0, ⟨a, n, cap, hv⟩, hI.lt, ?_, d1, ?_, fun i hi => .inl (h2 i hi), ?_⟩
      · rw [← hrr]
        exact gath_string ho
      · rw [← hrr]
        exact h1
      · refine ⟨h4.os, h4.tape, h4.output, h4.size, fun i hi hn => h4.block i hi (fun hx => ?_)⟩
        rcases hx with hx | hx
        · exact hn hx
        · omega
    have HFIN := hide hfin
    clear hfin
    by_cases hlt : c < N
    · have hlt' : (c : Int) < most := (unhide HMN c).2 hlt
      have hc64 : (c : Int) + 1 ≤ 9223372036854775807 := by omega
      obtain ⟨h1, h2, h3, h4, h5⟩ := unhide HR
      have hxl : xs.length ≤ 2 ^ 44 := by
        have := unhide HB44
        rw [h5] at this
        simp at this
        omega
      have hB : ∀ i, foot b d1 i → i < w.heap.size := fun i hi => (unhide HF0).2.2.2 i (h2 i hi)
      have HT := hide (take_round b w.heap.size w.heap.size e1 d1 xs wr h1 h3 (Nat.le_refl _) hB hxl)
      have hblr : b < wr.heap.size := by have := h4.size; omega
      unfold gathV at HT
      cases hrow : e1.row with
      | cons s r =>
        rw [hrow] at HT
        simp only at HT
        have hd1 : e1.drain1 = some (s, { e1 with row := r }) := by unfold Lk.En.drain1; rw [hrow]
        have hst := drain_step h5 hlt hd1
        have HST := hide (⟨h2, h4, hst⟩ : _ ∧ _ ∧ _)
        clear h1 h2 h3 h4 h5 hd1 hst hxl hB
        go_wp2_with fail
        refine (unhide HT).mono ?_
        rintro q w1 ⟨rfl, d2, g1, g2, g3, g4⟩
        obtain ⟨h2, h4, hst⟩ := unhide HST
        have hrel2 : Hid (PEnd w1 b { e1 with row := r } d2 ∧ (∀ i, foot b d2 i → foot b d i) ∧ Gath w1 w.heap.size w.heap.size (xs ++ s) ∧ Only (fun i => foot b d i ∨ w.heap.size ≤ i) w w1 ∧ Lk.En.drain N e = ((xs ++ s) ++ (Lk.En.drain (N - (c + 1)) { e1 with row := r }).1, (Lk.En.drain (N - (c + 1)) { e1 with row := r }).2)) :=
          ⟨g1, fun i hi => h2 i (g2 i hi), g3, h4.trans g4 (fun i hi _ => hi.imp (h2 i) id), hst⟩
        clear g1 g2 g3 g4 h2 h4 hst
        go_wp2_with fail
        go_roundw
        case rel => exact ⟨c + 1, _, d2, xs ++ s, by simp, by omega, hrel2⟩
        case measure => simp [intOf]; omega
      | nil =>
        rw [hrow] at HT
        simp only at HT
        have HS := hide (send_round b w.heap.size w.heap.size e1 d1 xs wr h1 hrow h3 (Nat.le_refl _) hB hxl)
        unfold gathV at HS
        cases hd1 : e1.drain1 with
        | some p =>
          obtain ⟨s, e2⟩ := p
          rw [hd1] at HS
          simp only at HS
          have hst := drain_step h5 hlt hd1
          have HST := hide (⟨h2, h4, hst⟩ : _ ∧ _ ∧ _)
          clear h1 h2 h3 h4 h5 hd1 hst hxl hB
          go_wp2_with fail
          refine (unhide HT).mono ?_
          rintro q w1 ⟨rfl, rfl⟩
          go_wp2_with fail
          refine (unhide HS).mono ?_
          rintro q w2 ⟨rfl, d2, g1, g2, g3, g4⟩
          obtain ⟨h2, h4, hst⟩ := unhide HST
          have hrel2 : Hid (PEnd w2 b e2 d2 ∧ (∀ i, foot b d2 i → foot b d i) ∧ Gath w2 w.heap.size w.heap.size (xs ++ s) ∧ Only (fun i => foot b d i ∨ w.heap.size ≤ i) w w2 ∧ Lk.En.drain N e = ((xs ++ s) ++ (Lk.En.drain (N - (c + 1)) e2).1, (Lk.En.drain (N - (c + 1)) e2).2)) :=
            ⟨g1, fun i hi => h2 i (g2 i hi), g3, h4.trans g4 (fun i hi _ => hi.imp (h2 i) id), hst⟩
          clear g1 g2 g3 g4 h2 h4 hst
          go_wp2_with fail
          go_roundw
          case rel => exact ⟨c + 1, e2, d2, xs ++ s, by simp, by omega, hrel2⟩
          case measure => simp [intOf]; omega
        | none =>
          rw [hd1] at HS
          simp only at HS
          have HX := hide (fun n => unhide HFIN (wr.drewN n) (h1.only ((Only.refl (fun _ => False) wr).drewN n) (fun _ _ h => h)) (let ⟨v, a, b⟩ := h3; ⟨v, a.drewN n, b⟩) (h4.drewN n) (.inl hd1))
          clear h1 h2 h3 h4 h5 hd1 hxl hB
          go_wp2_with fail
          refine (unhide HT).mono ?_
          rintro q w1 ⟨rfl, rfl⟩
          go_wp2_with fail
          refine (unhide HS).mono ?_
          rintro q w2 ⟨rfl, n, rfl⟩
          obtain ⟨v, k1, ⟨va, vn, vc, rfl⟩, k2, k3, k4⟩ := unhide HX n
          have HK := hide k4
          clear k4
          go_wp2_with fail
          go_ret
          exact ⟨rfl, unhide HK⟩
    · have hlt' : ¬ (c : Int) < most := fun h => hlt ((unhide HMN c).1 h)
      obtain ⟨h1, h2, h3, h4, h5⟩ := unhide HR
      obtain ⟨v, k1, ⟨va, vn, vc, rfl⟩, k2, k3, k4⟩ := unhide HFIN wr h1 h3 h4 (.inr hlt)
      have HK := hide k4
      clear k4 h1 h2 h3 h4 h5
      go_wp2_with fail
      go_ret
      exact ⟨rfl, unhide HK⟩
end Go.Proofs.YtbkpdapagfjmmaaGreatDoor

/-
  Walks: NewTable, Entries, Squeeze.
-/
namespace Go.Proofs.YtbkpdapagfjmmaaGreatDoor
open Go.RowKit

theorem newShelf_any (n : Int) (w : World) : Calls Tryz.prog 125 #[.int .i64 n, weighV] w fun e w' => e = .returned (.agg #[weighV, .int .i64 n, .slice none 0 0]) ∧ Below w.heap.size w w' := by
  go_enter Tryz.func125, Tryz.ntmps125
  go_wp2_with fail
  exact bodyPost_ret (v := .agg #[weighV, .int .i64 n, .slice none 0 0]) (by simp [results, Tryz.results125, go_sem]) rfl ⟨rfl, by ((repeat' (first | exact Below.refl _ _ | assumption | apply Below.drew | apply Below.alloc | apply Below.setCell)) <;> (simp <;> omega))⟩

theorem newTable_val (n : Int) (w : World) : Calls Tryz.prog 78 #[.int .i64 n] w fun e w' => e = .returned (.agg #[weighV, .int .i64 n, .slice none 0 0]) ∧ Below w.heap.size w w' := by
  have HX := hide (Is.new w 90 [.nilFunc, .int .i64 0, .slice none 0 0])
  have HB := hide ((Below.refl w.heap.size w).alloc (Nat.le_refl _) (.cells #[.nilFunc, .int .i64 0, .slice none 0 0] 90))
  go_enter Tryz.func78, Tryz.ntmps78
  go_wp2_with fail
  refine (newShelf_any _ _).mono ?_
  rintro e w1 ⟨rfl, hb⟩
  have hX1 := (unhide HX).below hb (by simp)
  have hbel := (unhide HB).trans (hb.mono (by simp))
  have n0 := hX1.cell 0
  have n1 := hX1.cell 1
  have n2 := hX1.cell 2
  have g0 := hX1.free 0
  have g1 := hX1.free 1
  have g2 := hX1.free 2
  have hl := hX1.lt
  simp only [List.getElem?_cons_zero, List.getElem?_cons_succ] at n0 n1 n2
  clear hb hX1
  go_wp2_with fail
  exact bodyPost_ret (v := .agg #[weighV, .int .i64 n, .slice none 0 0]) (by simp [results, Tryz.results78, go_sem, n0, n1, n2]) rfl ⟨rfl, ((hbel.setCell (by simp) _).setCell (by simp) _).setCell (by simp) _⟩

theorem newTable_ok (B : Nat) (hB : B ≤ 200) (w : World) :
    Calls Tryz.prog 52 #[.int .i64 B] w fun e w' => ∃ t, e = .returned (.tuple #[.pointer (some ⟨t, 0, none⟩), .int .i64 0]) ∧ w.heap.size ≤ t ∧ Tab w' t B [] (.slice none 0 0) ∧ Below w.heap.size w w' := by
  have h1 : ¬ (B : Int) < 0 := by omega
  have h2 : ¬ 200 < (B : Int) := by omega
  go_enter Tryz.func52, Tryz.ntmps52
  go_wp2_with fail
  refine (newTable_val _ _).mono ?_
  rintro e w1 ⟨rfl, hb⟩
  have hs := hb.size
  go_wp2_with fail
  go_ret2
  exact ⟨_, rfl, hs, ⟨by simpa [Lk.weights] using Is.new w1 90 [weighV, .int .i64 B, .slice none 0 0], World.ownsRow_nil _ _ _ _, by simp [Lk.weights], hB⟩, hb.alloc hs _⟩

theorem newTable_bad (n : Int) (hn : n < 0 ∨ 200 < n) (w : World) :
    Calls Tryz.prog 52 #[.int .i64 n] w fun e w' => e = .returned (.tuple #[.pointer none, .int .i64 1]) ∧ Below w.heap.size w w' := by
  by_cases h1 : n < 0
  · go_enter Tryz.func52, Tryz.ntmps52
    go_wp2_with fail
    go_ret2
    exact ⟨rfl, Below.refl _ _⟩
  · have h2 : 200 < n := by omega
    go_enter Tryz.func52, Tryz.ntmps52
    go_wp2_with fail
    go_ret2
    exact ⟨rfl, Below.refl _ _⟩

theorem entries_any (t B : Nat) (L : List Lk.Hd) (v : Value) (w : World) (hT : Tab w t B L v) :
    Calls Tryz.prog 100 #[.pointer (some ⟨t, 0, none⟩)] w fun e w' => ∃ v', e = .returned v' ∧ w'.ownsRow w.heap.size 112 2 v' L.length (hdsV L) ∧ Below w.heap.size w w' := by
  have hlen := Lk.weights_len L
  have h1 := hT.le
  have h2 := hT.hB
  have c2 := hT.blk.cell 2
  simp only [List.getElem?_cons_zero, List.getElem?_cons_succ] at c2
  have HO := hide hT.own
  clear hT
  go_enter Tryz.func100, Tryz.ntmps100
  go_wp2_with fail
  refine (clone_hds 0 v L _ (by omega) (unhide HO)).mono ?_
  rintro e w1 ⟨v', rfl, ho, hb⟩
  go_wp2_with fail
  go_ret
  exact ⟨_, rfl, ho, hb⟩

theorem squeezeCall_bad (t B1 : Nat) (l : List Lk.Hd) (lv : Value) (w : World) (hw : (Lk.wrong l).1 ≠ 0) (own : w.ownsRow B1 112 2 lv l.length (hdsV l)) :
    Calls Tryz.prog 59 #[.pointer (some ⟨t, 0, none⟩), lv] w fun e w' =>
      e = .returned (.tuple #[.string ⟨#[]⟩, .int .i64 (Lk.wrong l).1, .int .i64 (Lk.wrong l).2]) ∧ Below w.heap.size w w' := by
  have HO := hide own
  clear own
  generalize hE1 : (Lk.wrong l).1 = E at hw ⊢
  have hE : ((E : Int) != 0) = true := by rw [bne_iff_ne]; omega
  have HE := hide hE1
  clear hE1
  go_enter Tryz.func59, Tryz.ntmps59
  go_wp2_with fail
  refine (askHeaders_any B1 lv l _ (unhide HO)).mono ?_
  rintro e w1 ⟨he, hb⟩
  rw [unhide HE] at he
  subst he
  go_wp2_with fail
  go_ret3
  exact ⟨rfl, hb⟩

/-- A block of headers that are right, by whatever slice. -/
theorem squeeze_any (t B B1 : Nat) (L l : List Lk.Hd) (v lv : Value) (w : World) (hT : Tab w t B L v) (hfx : Fx w) (ht0 : t ≠ 0) (hw : (Lk.wrong l).1 = 0) (own : w.ownsRow B1 112 2 lv l.length (hdsV l)) :
    Calls Tryz.prog 82 #[.pointer (some ⟨t, 0, none⟩), lv] w fun e w' => e = .returned (.string (bs (Lk.squeeze B L l).1)) ∧ (∃ v', Tab w' t B (Lk.squeeze B L l).2 v' ∧ NewOr w.heap.size v v') ∧ Turns t w w' := by
  have hlg := Lk.wrong_ok hw
  rcases owned_hds own with ⟨rfl, rfl⟩ | ⟨g, cap, rfl, _, hg, hcap, _⟩
  · refine (squeeze_none t 0 none w).mono ?_
    rintro e w2 ⟨rfl, hb2⟩
    exact ⟨rfl, ⟨v, hT.below hb2, .inl rfl⟩, Below.turns hb2 t⟩
  · by_cases hl0 : 0 < l.length
    · exact squeeze_some t B g cap B1 L l v w hT hfx ht0 hlg.1 hl0 hlg.2 own
    · have : l = [] := List.eq_nil_of_length_eq_zero (by omega)
      subst this
      refine (squeeze_none t cap _ w).mono ?_
      rintro e w2 ⟨rfl, hb2⟩
      exact ⟨rfl, ⟨v, hT.below hb2, .inl rfl⟩, Below.turns hb2 t⟩

theorem squeezeCall_ok (t B B1 : Nat) (L l : List Lk.Hd) (v lv : Value) (w : World) (hT : Tab w t B L v) (hfx : Fx w) (ht0 : t ≠ 0) (hw : (Lk.wrong l).1 = 0) (own : w.ownsRow B1 112 2 lv l.length (hdsV l)) :
    Calls Tryz.prog 59 #[.pointer (some ⟨t, 0, none⟩), lv] w fun e w' =>
      e = .returned (.tuple #[.string (bs (Lk.squeeze B L l).1), .int .i64 0, .int .i64 0]) ∧ (∃ v', Tab w' t B (Lk.squeeze B L l).2 v') ∧ Turns t w w' := by
  have HO := hide own
  have HT := hide hT
  have HFX := hide hfx
  have h0 := hfx.1
  clear own hT hfx
  generalize hS : bs (Lk.squeeze B L l).1 = S
  have HS := hide hS
  clear hS
  go_enter Tryz.func59, Tryz.ntmps59
  go_wp2_with fail
  refine (askHeaders_any B1 lv l _ (unhide HO)).mono ?_
  rintro e w1 ⟨he, hb⟩
  rw [hw] at he
  subst he
  have hcall : Calls Tryz.prog 82 #[.pointer (some ⟨t, 0, none⟩), lv] w1 fun e w' => e = .returned (.string S) ∧ (∃ v', Tab w' t B (Lk.squeeze B L l).2 v') ∧ Turns t w1 w' := by
    refine (squeeze_any t B B1 L l v lv w1 ((unhide HT).below hb) ((unhide HFX).below hb h0) ht0 hw (own_below (unhide HO) hb)).mono ?_
    rintro e w2 ⟨rfl, ⟨v', h1, _⟩, h2⟩
    exact ⟨by rw [unhide HS], ⟨v', h1⟩, h2⟩
  have HC := hide hcall
  clear hcall
  go_wp2_with fail
  refine (unhide HC).mono ?_
  rintro e w2 ⟨rfl, hv2, hT2⟩
  go_wp2_with fail
  go_ret3
  exact ⟨rfl, hv2, (Below.turns hb t).trans hT2⟩
end Go.Proofs.YtbkpdapagfjmmaaGreatDoor

/-
  Walks: a message is taken.
-/
namespace Go.Proofs.YtbkpdapagfjmmaaGreatDoor
open Go.RowKit

theorem Outs.snoc {w : World} {os : List Lk.Ow} {ps : List Nat} (h : Outs w os ps) {o : Lk.Ow} {p : Nat} (hI : Is w p 173 (owV o)) : Outs w (os ++ [o]) (ps ++ [p]) := by
  have hl := h.len
  refine ⟨by simp [hl], fun i x q hx hq => ?_⟩
  by_cases hi : i < os.length
  · rw [List.getElem?_append_left hi] at hx
    rw [List.getElem?_append_left (by omega)] at hq
    exact h.is i x q hx hq
  · have hi2 : i = os.length := by
      have := (List.getElem?_eq_some_iff.1 hx).1
      simp at this
      omega
    subst hi2
    rw [List.getElem?_append_right (by omega)] at hx
    rw [List.getElem?_append_right (by omega), ← hl] at hq
    simp at hx hq
    subst hx hq
    exact hI
theorem nextId_le {e : Lk.En} (h : Lk.Wf e) : e.nextId ≤ 268435457 := by
  unfold Lk.En.nextId
  have hs := h.side
  rcases Nat.eq_zero_or_pos e.own.length with h0 | h0
  · omega
  · have hl : e.own[e.own.length - 1]? = some (e.own[e.own.length - 1]'(by omega)) := List.getElem?_eq_getElem (by omega)
    have h1 := (h.own _ _ hl).id
    have h2 := (h.own _ _ hl).id28
    omega

/-- The copy of the table that is tried. -/
theorem tried_tab {w : World} {b : Nat} {e : Lk.En} {d : PD} (hL : Live w b e d) : Tab (w.alloc (.cells #[weighV, .int .i64 ((100 : Int) - Lk.weights e.out), d.ov] 90)) w.heap.size 100 e.out d.ov :=
  ⟨Is.new w 90 [weighV, .int .i64 ((100 : Int) - Lk.weights e.out), d.ov], hL.out.alloc _, hL.wf.out, by omega⟩

set_option maxHeartbeats 1000000 in
set_option maxRecDepth 100000 in
theorem begin_large (b B1 : Nat) (e : Lk.En) (d : PD) (l : List Lk.Hd) (lv : Value) (body : ByteArray) (w : World) (hL : Live w b e d) (hfx : Fx w) (hw : (Lk.wrong l).1 = 0) (own : w.ownsRow B1 112 2 lv l.length (hdsV l)) (hlg : 64 < (Lk.squeeze 100 e.out l).1.length ∨ 300 < body.size) :
    Calls Tryz.prog 44 #[.pointer (some ⟨b, 3, none⟩), lv, .string body, putV b] w fun r w' => r = .returned (.tuple #[.int .i64 0, .int .i64 5]) ∧ Below w.heap.size w w' := by
  have c3 : w.cell? ⟨b, 3, none⟩ = some weighV := hL.rw.blk.cell 3
  have c4 : w.cell? ⟨b, 4, none⟩ = some (.int .i64 ((100 : Int) - Lk.weights e.out)) := hL.rw.blk.cell 4
  have c5 : w.cell? ⟨b, 5, none⟩ = some d.ov := hL.rw.blk.cell 5
  have hbl := hL.rw.lt
  have h0 := hfx.1
  have hb0 := (Below.refl w.heap.size w).alloc (Nat.le_refl _) (.cells #[weighV, .int .i64 ((100 : Int) - Lk.weights e.out), d.ov] 90)
  obtain ⟨oa, on, oc, hov, hon⟩ := own_slice hL.out
  clear hon
  have HC := hide (squeeze_any w.heap.size 100 B1 e.out l d.ov lv _ (tried_tab hL) (hfx.below hb0 h0) (by omega) hw (own.alloc _))
  have HB0 := hide hb0
  rw [hov] at c5
  rw [hov] at HC HB0
  generalize hS : (Lk.squeeze 100 e.out l).1 = S at *
  have hss := bs_size S
  clear hL hfx hw own hb0 hS
  unfold putV
  by_cases h1 : 64 < S.length
  · have h1' : 64 < ((bs S).size : Int) := by omega
    go_enter Tryz.func44, Tryz.ntmps44
    go_wp2_with fail
    refine (unhide HC).mono ?_
    rintro r w1 ⟨rfl, _, hT1⟩
    have hbel : Below w.heap.size w w1 := Turns.toBelow (unhide HB0) hT1 (Nat.le_refl _) (by simp)
    go_wp2_with fail
    go_ret2
    exact ⟨rfl, hbel⟩
  · have h1' : ¬ 64 < ((bs S).size : Int) := by omega
    have h2' : 300 < (body.size : Int) := by omega
    clear hlg
    go_enter Tryz.func44, Tryz.ntmps44
    go_wp2_with fail
    refine (unhide HC).mono ?_
    rintro r w1 ⟨rfl, _, hT1⟩
    have hbel : Below w.heap.size w w1 := Turns.toBelow (unhide HB0) hT1 (Nat.le_refl _) (by simp)
    go_wp2_with fail
    go_ret2
    exact ⟨rfl, hbel⟩

set_option maxHeartbeats 1000000 in
set_option maxRecDepth 100000 in
theorem begin_full (b B1 : Nat) (e : Lk.En) (d : PD) (l : List Lk.Hd) (lv : Value) (body : ByteArray) (w : World) (hL : Live w b e d) (hfx : Fx w) (hw : (Lk.wrong l).1 = 0) (own : w.ownsRow B1 112 2 lv l.length (hdsV l)) (hsm : ¬ (64 < (Lk.squeeze 100 e.out l).1.length ∨ 300 < body.size)) (hfu : d.ps.length = 4 ∨ 268435455 < e.nextId) :
    Calls Tryz.prog 44 #[.pointer (some ⟨b, 3, none⟩), lv, .string body, putV b] w fun r w' => r = .returned (.tuple #[.int .i64 0, .int .i64 11]) ∧ Below w.heap.size w w' := by
  have c3 : w.cell? ⟨b, 3, none⟩ = some weighV := hL.rw.blk.cell 3
  have c4 : w.cell? ⟨b, 4, none⟩ = some (.int .i64 ((100 : Int) - Lk.weights e.out)) := hL.rw.blk.cell 4
  have c5 : w.cell? ⟨b, 5, none⟩ = some d.ov := hL.rw.blk.cell 5
  have hbl := hL.rw.lt
  have h0 := hfx.1
  have hb0 := (Below.refl w.heap.size w).alloc (Nat.le_refl _) (.cells #[weighV, .int .i64 ((100 : Int) - Lk.weights e.out), d.ov] 90)
  obtain ⟨oa, on, oc, hov, hon⟩ := own_slice hL.out
  clear hon
  obtain ⟨sa, sn, sc, hsv, hsn⟩ := own_slice hL.sl
  have h4 := hL.ps4
  have HC := hide (squeeze_any w.heap.size 100 B1 e.out l d.ov lv _ (tried_tab hL) (hfx.below hb0 h0) (by omega) hw (own.alloc _))
  have HB0 := hide hb0
  have HBLK := hide hL.rw.blk
  rw [hov] at c5
  rw [hov] at HC HB0
  generalize hS : (Lk.squeeze 100 e.out l).1 = S at *
  have hss := bs_size S
  have h1' : ¬ 64 < ((bs S).size : Int) := by omega
  have h2' : ¬ 300 < (body.size : Int) := by omega
  have hni := nextId_le hL.wf
  have hcase : (sn = 4) ∨ (¬ sn = 4 ∧ 268435455 < e.nextId) := by omega
  clear hL hfx hw own hb0 hS hsm hfu hsn
  unfold putV
  rcases hcase with h5 | ⟨h5, h6⟩
  · have h5' : ((sn : Int) == 4) = true := by rw [beq_iff_eq]; omega
    clear h5
    go_enter Tryz.func44, Tryz.ntmps44
    go_wp2_with fail
    refine (unhide HC).mono ?_
    rintro r w1 ⟨rfl, _, hT1⟩
    have hbel : Below w.heap.size w w1 := Turns.toBelow (unhide HB0) hT1 (Nat.le_refl _) (by simp)
    have hI1 := (unhide HBLK).below hbel hbl
    have c10 : w1.cell? ⟨b, 10, none⟩ = some d.sv := hI1.cell 10
    rw [hsv] at c10
    have hbl1 := hI1.lt
    clear hI1 HBLK
    go_wp2_with fail
    go_ret2
    exact ⟨rfl, hbel⟩
  · have h5' : ((sn : Int) == 4) = false := by rw [beq_eq_false_iff_ne]; omega
    have hnum : (decide (0 ≤ (e.nextId : Int)) && decide ((e.nextId : Int) ≤ 268435455)) = false := by
      rw [decide_eq_false (by omega : ¬ (e.nextId : Int) ≤ 268435455), Bool.and_false]
    clear h5 h6
    go_enter Tryz.func44, Tryz.ntmps44
    go_wp2_with fail
    refine (unhide HC).mono ?_
    rintro r w1 ⟨rfl, _, hT1⟩
    have hbel : Below w.heap.size w w1 := Turns.toBelow (unhide HB0) hT1 (Nat.le_refl _) (by simp)
    have hI1 := (unhide HBLK).below hbel hbl
    have c10 : w1.cell? ⟨b, 10, none⟩ = some d.sv := hI1.cell 10
    rw [hsv] at c10
    have c7 : w1.cell? ⟨b, 7, none⟩ = some (.int .i64 (e.nextId : Int)) := hI1.cell 7
    have hbl1 := hI1.lt
    clear hI1 HBLK
    go_wp2_with fail
    refine (isNumber_any _ _).mono ?_
    rw [hnum]
    rintro r w2 ⟨rfl, rfl⟩
    go_wp2_with fail
    go_ret2
    exact ⟨rfl, hbel⟩

end Go.Proofs.YtbkpdapagfjmmaaGreatDoor
