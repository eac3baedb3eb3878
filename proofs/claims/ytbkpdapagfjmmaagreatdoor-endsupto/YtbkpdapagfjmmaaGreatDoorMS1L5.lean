import Derived.Test.YtbkpdapagfjmmaaGreatDoorMT7T9
import Derived.Test.YtbkpdapagfjmmaaGreatDoorMW11L3
import Derived.Test.YtbkpdapagfjmmaaGreatDoorMU1U3
import Derived.Test.YtbkpdapagfjmmaaGreatDoorMSpecW0
import Derived.Test.YtbkpdapagfjmmaaGreatDoorMT1N1
import Derived.Test.YtbkpdapagfjmmaaGreatDoorMW4W7
import Derived.Deep.RegionWith
set_option linter.unusedVariables false
set_option maxRecDepth 100000
set_option maxHeartbeats 16000000
namespace Go.Proofs.YtbkpdapagfjmmaaGreatDoor
open Go.RowKit
theorem refName_any (c : UInt8) (w : World) : Calls Tryz.prog 175 #[.int .u8 c.toNat] w fun e w' => e = .returned (.bool (Lk.nameByte c)) ∧ w' = w := by
  rw [nameByte_int]
  go_enter Tryz.func175, Tryz.ntmps175
  go_wp2
  all_goals go_ret
  all_goals refine ⟨ret_bool ?_, rfl⟩
  all_goals first | rfl | (rw [Bool.eq_iff_iff]; simp <;> omega)
theorem refValue_any (c : UInt8) (w : World) : Calls Tryz.prog 176 #[.int .u8 c.toNat] w fun e w' => e = .returned (.bool (Lk.valueByte c)) ∧ w' = w := by
  rw [valueByte_int]
  go_enter Tryz.func176, Tryz.ntmps176
  go_wp2
  all_goals go_ret
  all_goals refine ⟨ret_bool ?_, rfl⟩
  all_goals first | rfl | (rw [Bool.eq_iff_iff]; simp <;> omega)
theorem good_of (n v : ByteArray) : Lk.good ⟨n.data.toList, v.data.toList⟩ = ((decide (1 ≤ n.size ∧ n.size ≤ 16) && n.data.toList.all Lk.nameByte) && (decide (v.size ≤ 32) && v.data.toList.all Lk.valueByte)) := by
  rw [size_list n, size_list v]
  rfl
theorem refGood_bad (n v : ByteArray) (w : World) (hb : ¬ (1 ≤ n.size ∧ n.size ≤ 16) ∨ ¬ v.size ≤ 32) :
    Calls Tryz.prog 149 #[.agg #[.string n, .string v]] w fun e w' => e = .returned (.bool false) ∧ Below w.heap.size w w' := by
  by_cases h1 : (n.size : Int) < 1
  · go_enter Tryz.func149, Tryz.ntmps149
    go_wp2_with fail
    go_ret
    exact ⟨rfl, by ((repeat' (first | exact Below.refl _ _ | assumption | apply Below.drew | apply Below.alloc | apply Below.setCell)) <;> (simp <;> omega))⟩
  · by_cases h2 : 16 < (n.size : Int)
    · go_enter Tryz.func149, Tryz.ntmps149
      go_wp2_with fail
      go_ret
      exact ⟨rfl, by ((repeat' (first | exact Below.refl _ _ | assumption | apply Below.drew | apply Below.alloc | apply Below.setCell)) <;> (simp <;> omega))⟩
    · have h3 : 32 < (v.size : Int) := by omega
      have h1' : 1 ≤ (n.size : Int) := by omega
      go_enter Tryz.func149, Tryz.ntmps149
      go_wp2_with fail
      go_ret
      exact ⟨rfl, by ((repeat' (first | exact Below.refl _ _ | assumption | apply Below.drew | apply Below.alloc | apply Below.setCell)) <;> (simp <;> omega))⟩
theorem refGood_ok (n v : ByteArray) (w : World) (hn1 : 1 ≤ n.size) (hn2 : n.size ≤ 16) (hv : v.size ≤ 32) (A : Bool) (HA : Hid ((n.data.toList.all Lk.nameByte && v.data.toList.all Lk.valueByte) = A)) :
    Calls Tryz.prog 149 #[.agg #[.string n, .string v]] w fun e w' => e = .returned (.bool A) ∧ Below w.heap.size w w' := by
  have i1 : ¬ (n.size : Int) < 1 := by omega
  have i2 : ¬ 16 < (n.size : Int) := by omega
  have i3 : ¬ 32 < (v.size : Int) := by omega
  have hbel := (Below.refl w.heap.size w).alloc (Nat.le_refl _) (.cells #[.string n, .string v] 206)
  go_enter Tryz.func149, Tryz.ntmps149
  go_wp2_with fail
  go_loopw [3] (fun u wr => ∃ k : Nat, u = .int .i64 k ∧ k ≤ n.size ∧ Hid (∀ j (hj : j < n.size), j < k → Lk.nameByte n[j] = true) ∧ wr = w.alloc (.cells #[.string n, .string v] 206)) (fun u _ => n.size - (intOf u).toNat)
  case atStart => exact ⟨0, rfl, by omega, fun j hj h => by omega, rfl⟩
  case round =>
    obtain ⟨k, rfl, hk, HK, rfl⟩ := hrel
    by_cases hlt : k < n.size
    · have hlt' : (k : Int) < n.size := by omega
      generalize hq : Lk.nameByte n[k] = Q
      have HQ := hide hq
      have HC := hide (show ∀ w, Calls Tryz.prog 175 #[.int .u8 n[k].toNat] w fun e w' => e = .returned (.bool Q) ∧ w' = w from fun w => by rw [← hq]; exact refName_any n[k] w)
      clear hq
      go_wp2_with fail
      refine (uh HC _).mono ?_
      rintro e w' ⟨rfl, rfl⟩
      cases Q
      · go_wp2_with fail
        go_ret
        refine ⟨ret_bool ?_, hbel⟩
        rw [← uh HA, not_all n Lk.nameByte k hlt (uh HQ)]
        rfl
      · go_wp2_with fail
        go_roundw
        case rel => exact ⟨k + 1, by simp, by omega, fun j hj h => (Nat.lt_succ_iff_lt_or_eq.1 h).elim (fun h => uh HK j hj h) (fun h => by subst h; exact uh HQ), trivial⟩
        case measure => simp [intOf]; omega
    · have hlt' : ¬ (k : Int) < n.size := by omega
      have hall := all_of n Lk.nameByte (fun j hj => (uh HK) j hj (by omega))
      have HALL := hide hall
      clear hall
      go_wp2_with fail
      go_loopw [4] (fun u wr => ∃ k : Nat, u = .int .i64 k ∧ k ≤ v.size ∧ Hid (∀ j (hj : j < v.size), j < k → Lk.valueByte v[j] = true) ∧ wr = w.alloc (.cells #[.string n, .string v] 206)) (fun u _ => v.size - (intOf u).toNat)
      case atStart => exact ⟨0, rfl, by omega, fun j hj h => by omega, rfl⟩
      case round =>
        obtain ⟨i, rfl, hi, HI, rfl⟩ := hrel
        by_cases hlt : i < v.size
        · have hlt' : (i : Int) < v.size := by omega
          generalize hq : Lk.valueByte v[i] = Q
          have HQ := hide hq
          have HC := hide (show ∀ w, Calls Tryz.prog 176 #[.int .u8 v[i].toNat] w fun e w' => e = .returned (.bool Q) ∧ w' = w from fun w => by rw [← hq]; exact refValue_any v[i] w)
          clear hq
          go_wp2_with fail
          refine (uh HC _).mono ?_
          rintro e w' ⟨rfl, rfl⟩
          cases Q
          · go_wp2_with fail
            go_ret
            refine ⟨ret_bool ?_, hbel⟩
            rw [← uh HA, not_all v Lk.valueByte i hlt (uh HQ), Bool.and_false]
          · go_wp2_with fail
            go_roundw
            case rel => exact ⟨i + 1, by simp, by omega, fun j hj h => (Nat.lt_succ_iff_lt_or_eq.1 h).elim (fun h => uh HI j hj h) (fun h => by subst h; exact uh HQ), trivial⟩
            case measure => simp [intOf]; omega
        · have hlt' : ¬ (i : Int) < v.size := by omega
          go_wp2_with fail
          go_ret
          refine ⟨ret_bool ?_, hbel⟩
          rw [← uh HA, uh HALL, all_of v Lk.valueByte (fun j hj => (uh HI) j hj (by omega))]
          rfl
theorem refGood_any (h : Lk.Hd) (Q : Bool) (hq : Hid (Lk.good h = Q)) (w : World) :
    Calls Tryz.prog 149 #[hdA h] w fun e w' => e = .returned (.bool Q) ∧ Below w.heap.size w w' := by
  have e := good_of (bs h.n) (bs h.v)
  rw [bs_list, bs_list, bs_size, bs_size] at e
  have e2 : Lk.good h = Lk.good ⟨h.n, h.v⟩ := rfl
  rw [← e2, uh hq] at e
  by_cases hb : ¬ (1 ≤ (bs h.n).size ∧ (bs h.n).size ≤ 16) ∨ ¬ (bs h.v).size ≤ 32
  · have : Q = false := by
      rw [bs_size, bs_size] at hb
      rw [e]
      rcases hb with hb | hb
      · rw [decide_eq_false hb]; rfl
      · rw [decide_eq_false hb]; simp
    rw [this]
    exact refGood_bad (bs h.n) (bs h.v) w hb
  · simp only [not_or, Classical.not_not] at hb
    refine refGood_ok (bs h.n) (bs h.v) w hb.1.1 hb.1.2 hb.2 Q (hide ?_)
    rw [bs_size, bs_size] at hb
    rw [e, decide_eq_true hb.1, decide_eq_true hb.2, bs_list, bs_list]
    simp
theorem refWrong_some (B g cap : Nat) (l : List Lk.Hd) (w : World) (hl : l.length ≤ 6) (E P : Int) (HW : Hid ((Lk.wrongAt 0 l).1 = E ∧ (Lk.wrongAt 0 l).2 = P))
    (own : Hid (w.ownsRow B 206 2 (.slice (some ⟨g, 0, none⟩) l.length cap) l.length (hdsV l))) :
    Calls Tryz.prog 101 #[.slice (some ⟨g, 0, none⟩) l.length cap] w fun e w' =>
      e = .returned (.tuple #[.int .i64 E, .int .i64 P]) ∧ Below w.heap.size w w' := by
  have hl6 : ¬ 6 < (l.length : Int) := by omega
  go_enter Tryz.func101, Tryz.ntmps101
  go_wp2_with fail
  go_loopw [4] (fun u wr => ∃ k : Nat, u = .int .i64 k ∧ k ≤ l.length ∧ Hid (Lk.wrongAt 0 l = Lk.wrongAt k (l.drop k)) ∧ Below w.heap.size w wr) (fun u _ => l.length - (intOf u).toNat)
  case atStart => exact ⟨0, rfl, by omega, rfl, Below.refl _ _⟩
  case round =>
    obtain ⟨k, rfl, hk, HK, hbel⟩ := hrel
    by_cases hlt : k < l.length
    · have hlt' : (k : Int) < l.length := by omega
      obtain ⟨x, hx⟩ : ∃ x, l[k]? = some x := ⟨_, List.getElem?_eq_getElem hlt⟩
      obtain ⟨hg2, x0, x1⟩ := row_at2 (own_belowB (uh own) hbel (by omega)) hx
      have hdr : l.drop k = x :: l.drop (k + 1) := by
        rw [List.getElem?_eq_getElem hlt] at hx
        cases hx
        exact List.drop_eq_getElem_cons hlt
      have HD := hide hdr
      have hwr := hbel.size
      generalize hq : Lk.good x = Q
      have HQ := hide hq
      clear hx hdr hq
      go_wp2_with fail
      refine (refGood_any x Q HQ _).mono ?_
      rintro e w1 ⟨rfl, hb1⟩
      have hbel1 := hbel.trans (hb1.mono hwr)
      clear x0 x1 hb1 hbel
      cases Q
      · go_wp2_with fail
        go_ret2
        have e := uh HK
        rw [uh HD, Lk.wrongAt, uh HQ] at e
        have e2 := uh HW
        rw [e] at e2
        obtain ⟨rfl, rfl⟩ := e2
        exact ⟨rfl, hbel1⟩
      · go_wp2_with fail
        go_roundw
        case rel =>
          refine ⟨k + 1, by simp, by omega, ?_, hbel1⟩
          have e := uh HK
          rw [uh HD, Lk.wrongAt, uh HQ] at e
          exact e
        case measure => simp [intOf]; omega
    · have hlt' : ¬ (k : Int) < l.length := by omega
      go_wp2_with fail
      go_ret2
      have e := uh HK
      rw [List.drop_eq_nil_of_le (by omega), Lk.wrongAt] at e
      have e2 := uh HW
      rw [e] at e2
      obtain ⟨rfl, rfl⟩ := e2
      exact ⟨rfl, hbel⟩
theorem refWrong_many (l cap : Nat) (ad : Option Addr) (w : World) (hl : 6 < (l : Int)) :
    Calls Tryz.prog 101 #[.slice ad l cap] w fun e w' => e = .returned (.tuple #[.int .i64 8, .int .i64 0]) ∧ Below w.heap.size w w' := by
  go_enter Tryz.func101, Tryz.ntmps101
  go_wp2_with fail
  go_ret2
  exact ⟨rfl, Below.refl _ _⟩
theorem refWrong_none (w : World) :
    Calls Tryz.prog 101 #[.slice none 0 0] w fun e w' => e = .returned (.tuple #[.int .i64 0, .int .i64 0]) ∧ Below w.heap.size w w' := by
  go_enter Tryz.func101, Tryz.ntmps101
  go_wp2_with fail
  refine wp_loop_rounds 1 ?_
  rw [rounds_succ]
  go_wp2_with fail
  go_ret2
  exact ⟨rfl, Below.refl _ _⟩
theorem refWrong_any (B : Nat) (v : Value) (l : List Lk.Hd) (w : World) (own : w.ownsRow B 206 2 v l.length (hdsV l)) :
    Calls Tryz.prog 101 #[v] w fun e w' => e = .returned (.tuple #[.int .i64 (Lk.wrong l).1, .int .i64 (Lk.wrong l).2]) ∧ Below w.heap.size w w' := by
  rcases owned_hds own with ⟨rfl, rfl⟩ | ⟨g, cap, rfl, _⟩
  · exact refWrong_none w
  · unfold Lk.wrong
    split
    · exact refWrong_many l.length cap _ w (by omega)
    · exact refWrong_some B g cap l w (by omega) _ _ (hide ⟨rfl, rfl⟩) (hide own)
end Go.Proofs.YtbkpdapagfjmmaaGreatDoor

namespace Go.Proofs.YtbkpdapagfjmmaaGreatDoor
open Go.RowKit
namespace Lk
theorem wrongAt_place : ∀ (l : List Hd) (i : Nat), (wrongAt i l).1 = 0 → (wrongAt i l).2 = 0
  | [], i, _ => rfl
  | x :: l, i, h => by
    rw [wrongAt] at h ⊢
    split at h
    · rename_i hg
      rw [if_pos hg]
      exact wrongAt_place l (i + 1) h
    · cases h
theorem wrong_place {l : List Hd} (h : (wrong l).1 = 0) : (wrong l).2 = 0 := by
  unfold wrong at h ⊢
  split at h
  · cases h
  · rename_i hl
    rw [if_neg hl]
    exact wrongAt_place l 0 h
end Lk
theorem rnewTable_ok (B : Nat) (hB : B ≤ 200) (w : World) :
    Calls Tryz.prog 53 #[.int .i64 B] w fun e w' => ∃ t, e = .returned (.tuple #[.pointer (some ⟨t, 0, none⟩), .int .i64 0]) ∧ w.heap.size ≤ t ∧ RTab w' t B [] (.slice none 0 0) ∧ Below w.heap.size w w' := by
  have h1 : ¬ (B : Int) < 0 := by omega
  have h2 : ¬ 200 < (B : Int) := by omega
  go_enter Tryz.func53, Tryz.ntmps53
  go_wp2_with fail
  go_ret2
  exact ⟨_, rfl, Nat.le_refl _, ⟨Is.new w 196 [.int .i64 B, .slice none 0 0], World.ownsRow_nil _ _ _ _, by simp [Lk.weights], hB⟩, (Below.refl _ _).alloc (Nat.le_refl _) _⟩
theorem rown_turns {w w' : World} {t B n : Nat} {v : Value} {xs cs : List Value} {T : TypeId} (h : w.ownsRow B 206 2 v n xs) (hI : Is w t T cs) (hT : T ≠ 206) (hb : Turns t w w') : w'.ownsRow B 206 2 v n xs :=
  h.kept hb (.inr (fun e => own_ne h hI hT e.symm))
theorem rsqueeze_ok (t B B1 : Nat) (L l : List Lk.Hd) (v lv : Value) (w : World) (hT : RTab w t B L v) (hw : (Lk.wrong l).1 = 0) (own : w.ownsRow B1 206 2 lv l.length (hdsV l)) :
    Calls Tryz.prog 60 #[.pointer (some ⟨t, 0, none⟩), lv] w fun e w' =>
      e = .returned (.tuple #[.string (bs (Lk.squeeze B L l).1), .int .i64 0, .int .i64 0]) ∧ (∃ v', RTab w' t B (Lk.squeeze B L l).2 v' ∧ (v' = v ∨ ∀ k, v'.ownBlock = some k → w.heap.size ≤ k)) ∧ Turns t w w' := by
  have hok := Lk.wrong_ok hw
  have hl6 := hok.1
  obtain ⟨la, lcap, hlv⟩ := row_form own
  subst hlv
  have HO := hide own
  have HT := hide hT
  have HG := hide hok.2
  have hw2 : (Lk.wrong l).2 = 0 := Lk.wrong_place hw
  clear own hT hok
  generalize hS : bs (Lk.squeeze B L l).1 = S
  have HS := hide hS
  clear hS
  go_enter Tryz.func60, Tryz.ntmps60
  go_wp2_with fail
  refine (refWrong_any B1 _ l _ (uh HO)).mono ?_
  rintro e w1 ⟨he, hb⟩
  rw [hw, hw2] at he
  subst he
  have HT1 := hide ((uh HT).below hb)
  have HO1 := hide (own_below (uh HO) hb)
  have hTb := Below.turns hb t
  have hsz1 := hb.size
  clear hb
  go_wp2_with fail
  go_loopw [9, 10] (fun s u wr => ∃ (k : Nat) (v' : Value), u = .int .i64 k ∧ k ≤ l.length ∧ s = .string (bs (Lk.squeeze B L (l.take k)).1) ∧ RTab wr t B (Lk.squeeze B L (l.take k)).2 v' ∧ Turns t w1 wr ∧ Hid (v' = v ∨ ∀ k, v'.ownBlock = some k → w.heap.size ≤ k)) (fun _ u _ => l.length - (intOf u).toNat)
  case atStart => exact ⟨0, v, rfl, by omega, rfl, uh HT1, Turns.refl _ _, .inl rfl⟩
  case round =>
    obtain ⟨k, v', rfl, hk, rfl, hTk, hTu, HNV⟩ := hrel
    by_cases hlt : k < l.length
    · have hlt' : (k : Int) < l.length := by omega
      obtain ⟨x, hx⟩ : ∃ x, l[k]? = some x := ⟨_, List.getElem?_eq_getElem hlt⟩
      obtain ⟨g, gc, hform, _⟩ := (uh HO1).form (by omega)
      cases hform
      obtain ⟨hg2, x0, x1⟩ := row_at2 (rown_turns (uh HO1) (uh HT1).blk (nbq rfl) hTu) hx
      have hxg := Lk.good_len ((uh HG) x (List.mem_of_getElem? hx))
      have hsl := Lk.squeeze_len B hTk.hB (l.take k) L (uh HT).le (fun y hy => (uh HG) y (List.mem_of_mem_take hy))
      rw [List.length_take] at hsl
      have hol := Lk.oneP_len B (Lk.squeeze B L (l.take k)).2 x (by rw [Lk.ents_len]; have := hTk.len; omega) hxg.1 hxg.2
      have e := Lk.squeeze_snoc B (l.take k) L x
      rw [take_snoc hx] at e
      have e1 := congrArg Prod.fst e
      have e2 := congrArg Prod.snd e
      simp only at e1 e2
      have s1 := bs_size (Lk.squeeze B L (l.take k)).1
      have s2 := bs_size (Lk.oneP B (Lk.squeeze B L (l.take k)).2 x).1
      have hres := bs_append (Lk.squeeze B L (l.take k)).1 (Lk.oneP B (Lk.squeeze B L (l.take k)).2 x).1
      rw [← e1] at hres
      have HC := hide (rone_any t B _ x v' wr hTk hxg.1 hxg.2 (Lk.oneP B (Lk.squeeze B L (l.take k)).2 x).1 (Lk.oneP B (Lk.squeeze B L (l.take k)).2 x).2 (hide rfl))
      rw [← e2] at HC
      generalize bs (Lk.squeeze B L (l.take k)).1 = W1 at *
      generalize bs (Lk.oneP B (Lk.squeeze B L (l.take k)).2 x).1 = W2 at *
      have hadd : W1.size + W2.size ≤ 9223372036854775807 := by omega
      have HRES := hide hres
      clear hres s1 s2 e e1 e2 hol hsl hTk hx
      go_wp2_with fail
      refine (uh HC).mono ?_
      rintro e w2 ⟨rfl, ⟨v2, hT2, hn2⟩, hTu2⟩
      have HN2 : Hid (v2 = v ∨ ∀ k, v2.ownBlock = some k → w.heap.size ≤ k) := by
        rcases hn2 with rfl | hn2
        · exact uh HNV
        · exact .inr (fun k hk => by have := hn2 k hk; have := hTu.size; omega)
      clear hn2
      have HT2 := hide hT2
      clear hT2 x0 x1
      go_wp2_with fail
      go_roundw
      case rel => exact ⟨k + 1, v2, by simp, by omega, by rw [uh HRES], uh HT2, hTu.trans hTu2, HN2⟩
      case measure => simp [intOf]; omega
    · have hlt' : ¬ (k : Int) < l.length := by omega
      have hkl : k = l.length := by omega
      rw [hkl, List.take_length] at hTk
      have hSk : bs (Lk.squeeze B L (l.take k)).1 = S := by rw [hkl, List.take_length]; exact uh HS
      generalize bs (Lk.squeeze B L (l.take k)).1 = S' at *
      subst hSk
      have HTk := hide hTk
      clear hTk
      go_wp2_with fail
      go_ret3
      exact ⟨rfl, ⟨v', uh HTk, uh HNV⟩, hTb.trans hTu⟩
end Go.Proofs.YtbkpdapagfjmmaaGreatDoor

namespace Go.Proofs.YtbkpdapagfjmmaaGreatDoor
open Go.RowKit
def RB (w : World) (b : Nat) (s : ByteArray) (p : Nat) (bad : Int) : Prop := Is w b 213 [.string s, .int .i64 p, .int .i64 bad]
theorem rfail_any (b : Nat) (s : ByteArray) (p : Nat) (at' : Int) (w : World) (hI : RB w b s p (-1)) :
    Calls Tryz.prog 156 #[.pointer (some ⟨b, 0, none⟩), .int .i64 at'] w fun e w' => e = .returned (.tuple #[]) ∧ RB w' b s p at' ∧ Turns b w w' := by
  have c2 : w.cell? ⟨b, 2, none⟩ = some (.int .i64 (-1)) := hI.cell 2
  have f2 : w.frozen? ⟨b, 2, none⟩ = false := hI.free 2
  have HI := hide hI
  clear hI
  go_enter Tryz.func156, Tryz.ntmps156
  go_wp2_with fail
  go_end0
  exact ⟨rfl, (uh HI).set 2 _, (Turns.refl b w).set 2 _⟩
theorem rbnumber_bad (b : Nat) (s : ByteArray) (p q : Nat) (w : World) (hI : RB w b s p q) :
    Calls Tryz.prog 155 #[.pointer (some ⟨b, 0, none⟩)] w fun e w' => e = .returned (.int .i64 0) ∧ w' = w := by
  have c2 : w.cell? ⟨b, 2, none⟩ = some (.int .i64 q) := hI.cell 2
  have hq : (0 : Int) ≤ q := by omega
  clear hI
  go_enter Tryz.func155, Tryz.ntmps155
  go_wp2_with fail
  go_ret
  exact ⟨rfl, rfl⟩
theorem found_cases (s : Lk.Bs) (p : Nat) : (∃ n q, Lk.numR s p = .ok n q ∧ (Lk.rd 0 0 (s.drop p)).val = n ∧ (Lk.rd 0 0 (s.drop p)).next p = q ∧ (Lk.rd 0 0 (s.drop p)).badAt p = -1 ∧ (Lk.rd 0 0 (s.drop p)).isShort = false)
    ∨ (∃ q : Nat, Lk.numR s p = .bad q ∧ (Lk.rd 0 0 (s.drop p)).badAt p = q)
    ∨ (Lk.numR s p = .bad s.length ∧ (Lk.rd 0 0 (s.drop p)).badAt p = -1 ∧ (Lk.rd 0 0 (s.drop p)).isShort = true) := by
  unfold Lk.numR
  cases Lk.rd 0 0 (s.drop p) with
  | ok n k => exact .inl ⟨n, p + k, rfl, rfl, rfl, rfl, rfl⟩
  | bad k => exact .inr (.inl ⟨p + k, rfl, rfl⟩)
  | short => exact .inr (.inr ⟨rfl, rfl, rfl⟩)
theorem found_keep {w wx : World} {T : TypeId} (hbx : Below ((w.drew).alloc (.cells #[.int .i64 0, .int .i64 0, .int .i64 0, .bool false] T)).heap.size ((w.drew).alloc (.cells #[.int .i64 0, .int .i64 0, .int .i64 0, .bool false] T)) wx) :
    wx.cell? ⟨w.heap.size, 0, none⟩ = some (.int .i64 0) ∧ wx.cell? ⟨w.heap.size, 1, none⟩ = some (.int .i64 0) ∧ wx.cell? ⟨w.heap.size, 2, none⟩ = some (.int .i64 0) ∧ wx.cell? ⟨w.heap.size, 3, none⟩ = some (.bool false) ∧
    wx.frozen? ⟨w.heap.size, 0, none⟩ = false ∧ wx.frozen? ⟨w.heap.size, 1, none⟩ = false ∧ wx.frozen? ⟨w.heap.size, 2, none⟩ = false ∧ wx.frozen? ⟨w.heap.size, 3, none⟩ = false := by
  have hI : Is wx w.heap.size T [.int .i64 0, .int .i64 0, .int .i64 0, .bool false] := (Is.new w.drew T [.int .i64 0, .int .i64 0, .int .i64 0, .bool false]).below hbx (by simp)
  exact ⟨hI.cell 0, hI.cell 1, hI.cell 2, hI.cell 3, hI.free 0, hI.free 1, hI.free 2, hI.free 3⟩
theorem found_new {w wx : World} {a b c d : Value} {T : TypeId} (hbx : Below w.drew.heap.size w.drew wx) :
    ∃ F, Value.pointer (some ⟨wx.heap.size, 0, none⟩) = .pointer (some ⟨F, 0, none⟩) ∧ w.heap.size ≤ F ∧ Is (wx.alloc (.cells #[a, b, c, d] T)) F T [a, b, c, d] ∧ Below w.heap.size w (wx.alloc (.cells #[a, b, c, d] T)) := by
  have hb : Below w.heap.size w wx := undrewB hbx
  exact ⟨_, rfl, hb.size, Is.new wx T [a, b, c, d], hb.alloc hb.size _⟩
theorem found_set {w wx : World} {a b c d : Value} {T : TypeId} (hbx : Below ((w.drew).alloc (.cells #[.int .i64 0, .int .i64 0, .int .i64 0, .bool false] T)).heap.size ((w.drew).alloc (.cells #[.int .i64 0, .int .i64 0, .int .i64 0, .bool false] T)) wx) :
    ∃ F, Value.pointer (some ⟨w.heap.size, 0, none⟩) = .pointer (some ⟨F, 0, none⟩) ∧ w.heap.size ≤ F ∧ Is ((((wx.setCell ⟨w.heap.size, 0, none⟩ a).setCell ⟨w.heap.size, 1, none⟩ b).setCell ⟨w.heap.size, 2, none⟩ c).setCell ⟨w.heap.size, 3, none⟩ d) F T [a, b, c, d] ∧ Below w.heap.size w ((((wx.setCell ⟨w.heap.size, 0, none⟩ a).setCell ⟨w.heap.size, 1, none⟩ b).setCell ⟨w.heap.size, 2, none⟩ c).setCell ⟨w.heap.size, 3, none⟩ d) := by
  have hI : Is wx w.heap.size T [.int .i64 0, .int .i64 0, .int .i64 0, .bool false] := (Is.new w.drew T [.int .i64 0, .int .i64 0, .int .i64 0, .bool false]).below hbx (by simp)
  have hb : Below w.heap.size w wx := (((Below.refl w.heap.size w).drew).alloc (Nat.le_refl _) _).trans (hbx.mono (by simp))
  exact ⟨_, rfl, Nat.le_refl _, (((hI.set 0 a).set 1 b).set 2 c).set 3 d, (((hb.setCell (Nat.le_refl _) _).setCell (Nat.le_refl _) _).setCell (Nat.le_refl _) _).setCell (Nat.le_refl _) _⟩
theorem rbnumber_any (b : Nat) (s : ByteArray) (p : Nat) (w : World) (hs : s.size ≤ 2 ^ 48) (hp : p ≤ s.size) (hI : RB w b s p (-1)) :
    Calls Tryz.prog 155 #[.pointer (some ⟨b, 0, none⟩)] w fun e w' =>
      (match Lk.numR s.data.toList p with
        | .ok n q => e = .returned (.int .i64 n) ∧ RB w' b s q (-1)
        | .bad q => e = .returned (.int .i64 0) ∧ RB w' b s p q) ∧ Turns b w w' := by
  have c0 : w.cell? ⟨b, 0, none⟩ = some (.string s) := hI.cell 0
  have c1 : w.cell? ⟨b, 1, none⟩ = some (.int .i64 p) := hI.cell 1
  have c2 : w.cell? ⟨b, 2, none⟩ = some (.int .i64 (-1)) := hI.cell 2
  have hbl := hI.lt
  have HI := hide hI
  have HC := hide (fun w => refnumber_any s p w (by omega) hp)
  have HF := hide (found_cases s.data.toList p)
  clear hI
  generalize Lk.rd 0 0 (s.data.toList.drop p) = R at *
  generalize hnr : Lk.numR s.data.toList p = NR at *
  clear hnr
  go_enter Tryz.func155, Tryz.ntmps155
  go_wp2_with fail
  go_cut [3] (fun u wc => ∃ F, u = .pointer (some ⟨F, 0, none⟩) ∧ w.heap.size ≤ F ∧ Is wc F 187 [.int .i64 R.val, .int .i64 (R.next p), .int .i64 (R.badAt p), .bool R.isShort] ∧ Below w.heap.size w wc)
  case first =>
    first | (go_region_with (go_at_call 84; refine (uh HC _).mono ?_; rintro e wx ⟨rfl, hbx⟩; (first | (have kk := found_keep hbx; obtain ⟨k0, k1, k2, k3, j0, j1, j2, j3⟩ := kk) | skip))) | fail
    all_goals
      go_wp2_with fail
      go_meet
      first
        | exact found_set hbx
        | exact found_new hbx
  obtain ⟨F, rfl, hF, hIF, hb2⟩ := hcut
  have hI2 : RB wc b s p (-1) := Is.below (uh HI) hb2 hbl
  have hTb := Below.turns hb2 b
  have hFb : b ≠ F := by omega
  have d0 : wc.cell? ⟨b, 0, none⟩ = some (.string s) := hI2.cell 0
  have d1 : wc.cell? ⟨b, 1, none⟩ = some (.int .i64 p) := hI2.cell 1
  have f1 : wc.frozen? ⟨b, 1, none⟩ = false := hI2.free 1
  have e0 : wc.cell? ⟨F, 0, none⟩ = some (.int .i64 R.val) := hIF.cell 0
  have e1 : wc.cell? ⟨F, 1, none⟩ = some (.int .i64 (R.next p)) := hIF.cell 1
  have e2 : wc.cell? ⟨F, 2, none⟩ = some (.int .i64 (R.badAt p)) := hIF.cell 2
  have e3 : wc.cell? ⟨F, 3, none⟩ = some (.bool R.isShort) := hIF.cell 3
  have HI2 := hide hI2
  have HIF := hide hIF
  have HFB := hide hFb
  clear hI2 hIF c0 c1 c2
  rcases uh HF with ⟨n, q, rfl, h1, h2, h3, h4⟩ | ⟨q, rfl, h1⟩ | ⟨rfl, h1, h2⟩
  · rw [h1] at e0
    rw [h2] at e1
    rw [h3] at e2
    rw [h4] at e3
    have g0 : (wc.setCell ⟨b, 1, none⟩ (.int .i64 q)).cell? ⟨F, 0, none⟩ = some (.int .i64 n) := by
      have := (Is.other (uh HIF) ⟨b, 1, none⟩ (.int .i64 q) (Ne.symm (uh HFB))).cell 0
      rw [h1] at this
      exact this
    clear h1 h2 h3 h4
    go_wp2_with fail
    go_ret
    exact ⟨⟨rfl, (uh HI2).set 1 _⟩, hTb.set 1 _⟩
  · rw [h1] at e2
    have hq : (0 : Int) ≤ q := by omega
    clear h1
    go_wp2_with fail
    refine (rfail_any b s p q _ (uh HI2)).mono ?_
    rintro e w3 ⟨rfl, hI3, hT3⟩
    go_wp2_with fail
    go_ret
    exact ⟨⟨rfl, hI3⟩, hTb.trans hT3⟩
  · rw [h1] at e2
    rw [h2] at e3
    clear h1 h2
    go_wp2_with fail
    refine (rfail_any b s p s.size _ (uh HI2)).mono ?_
    rintro e w3 ⟨rfl, hI3, hT3⟩
    go_wp2_with fail
    go_ret
    exact ⟨⟨rfl, hI3⟩, hTb.trans hT3⟩
end Go.Proofs.YtbkpdapagfjmmaaGreatDoor
