import Derived.Test.YtbkpdapagfjmmaaGreatDoorMT6T7
import Derived.Test.YtbkpdapagfjmmaaGreatDoorMT4T5
/-
  Walks: the document's look at headers.
-/
namespace Go.Proofs.YtbkpdapagfjmmaaGreatDoor
open Go.RowKit

theorem refName_any (c : UInt8) (w : World) : Calls Tryz.prog 175 #[.int .u8 c.toNat] w fun e w' => e = .returned (.bool (Lk.nameByte c)) ∧ w' = w := by
  rw [nameByte_int]
  go_enter Tryz.func175, Tryz.ntmps175
  go_wp2
  all_goals go_ret
  all_goals refine ⟨ret_bool ?_, rfl⟩
  all_goals first | rfl | (rw [Bool.eq_iff_iff]; simp <;> omega)
theorem refValue_any (c : UInt8) (w : World) : Calls Tryz.prog 176 #[.int .u8 c.toNat] w fun e w' => e = .returned (.bool (Lk.valueByte c)) ∧ w' = w := by
  rw [valueByte_int]
  go_enter Tryz.func176, Tryz.ntmps176
  go_wp2
  all_goals go_ret
  all_goals refine ⟨ret_bool ?_, rfl⟩
  all_goals first | rfl | (rw [Bool.eq_iff_iff]; simp <;> omega)

theorem good_of (n v : ByteArray) : Lk.good ⟨n.data.toList, v.data.toList⟩ = ((decide (1 ≤ n.size ∧ n.size ≤ 16) && n.data.toList.all Lk.nameByte) && (decide (v.size ≤ 32) && v.data.toList.all Lk.valueByte)) := by
  rw [size_list n, size_list v]
  rfl

set_option maxHeartbeats 1000000 in
set_option maxRecDepth 100000 in
theorem refGood_bad (n v : ByteArray) (w : World) (hb : ¬ (1 ≤ n.size ∧ n.size ≤ 16) ∨ ¬ v.size ≤ 32) :
    Calls Tryz.prog 149 #[.agg #[.string n, .string v]] w fun e w' => e = .returned (.bool false) ∧ Below w.heap.size w w' := by
  by_cases h1 : (n.size : Int) < 1
  · go_enter Tryz.func149, Tryz.ntmps149
    go_wp2_with fail
    go_ret
    exact ⟨rfl, by ((repeat' (first | exact Below.refl _ _ | assumption | apply Below.drew | apply Below.alloc | apply Below.setCell)) <;> (simp <;> omega))⟩
  · by_cases h2 : 16 < (n.size : Int)
    · go_enter Tryz.func149, Tryz.ntmps149
      go_wp2_with fail
      go_ret
      exact ⟨rfl, by ((repeat' (first | exact Below.refl _ _ | assumption | apply Below.drew | apply Below.alloc | apply Below.setCell)) <;> (simp <;> omega))⟩
    · have h3 : 32 < (v.size : Int) := by omega
      have h1' : 1 ≤ (n.size : Int) := by omega
      go_enter Tryz.func149, Tryz.ntmps149
      go_wp2_with fail
      go_ret
      exact ⟨rfl, by ((repeat' (first | exact Below.refl _ _ | assumption | apply Below.drew | apply Below.alloc | apply Below.setCell)) <;> (simp <;> omega))⟩

set_option maxHeartbeats 2000000 in
set_option maxRecDepth 100000 in
theorem refGood_ok (n v : ByteArray) (w : World) (hn1 : 1 ≤ n.size) (hn2 : n.size ≤ 16) (hv : v.size ≤ 32) (A : Bool) (HA : Hid ((n.data.toList.all Lk.nameByte && v.data.toList.all Lk.valueByte) = A)) :
    Calls Tryz.prog 149 #[.agg #[.string n, .string v]] w fun e w' => e = .returned (.bool A) ∧ Below w.heap.size w w' := by
  have i1 : ¬ (n.size : Int) < 1 := by omega
  have i2 : ¬ 16 < (n.size : Int) := by omega
  have i3 : ¬ 32 < (v.size : Int) := by omega
  have hbel := (Below.refl w.heap.size w).alloc (Nat.le_refl _) (.cells #[.string n, .string v] 206)
  go_enter Tryz.func149, Tryz.ntmps149
  go_wp2_with fail
  go_loopw [3] (fun u wr => ∃ k : Nat, u = .int .i64 k ∧ k ≤ n.size ∧ Hid (∀ j (hj : j < n.size), j < k → Lk.nameByte n[j] = true) ∧ wr = w.alloc (.cells #[.string n, .string v] 206)) (fun u _ => n.size - (intOf u).toNat)
  case atStart => exact ⟨0, rfl, by omega, fun j hj h => by omega, rfl⟩
  case round =>
    obtain ⟨k, rfl, hk, HK, rfl⟩ := hrel
    by_cases hlt : k < n.size
    · have hlt' : (k : Int) < n.size := by omega
      generalize hq : Lk.nameByte n[k] = Q
      have HQ := hide hq
      have HC := hide (show ∀ w, Calls Tryz.prog 175 #[.int .u8 n[k].toNat] w fun e w' => e = .returned (.bool Q) ∧ w' = w from fun w => by rw [← hq]; exact refName_any n[k] w)
      clear hq
      go_wp2_with fail
      refine (unhide HC _).mono ?_
      rintro e w' ⟨rfl, rfl⟩
      cases Q
      · go_wp2_with fail
        go_ret
        refine ⟨ret_bool ?_, hbel⟩
        rw [← unhide HA, not_all n Lk.nameByte k hlt (unhide HQ)]
        rfl
      · go_wp2_with fail
        go_roundw
        case rel => exact ⟨k + 1, by simp, by omega, fun j hj h => (Nat.lt_succ_iff_lt_or_eq.1 h).elim (fun h => unhide HK j hj h) (fun h => by subst h; exact unhide HQ), trivial⟩
        case measure => simp [intOf]; omega
    · have hlt' : ¬ (k : Int) < n.size := by omega
      have hall := all_of n Lk.nameByte (fun j hj => (unhide HK) j hj (by omega))
      have HALL := hide hall
      clear hall
      go_wp2_with fail
      go_loopw [4] (fun u wr => ∃ k : Nat, u = .int .i64 k ∧ k ≤ v.size ∧ Hid (∀ j (hj : j < v.size), j < k → Lk.valueByte v[j] = true) ∧ wr = w.alloc (.cells #[.string n, .string v] 206)) (fun u _ => v.size - (intOf u).toNat)
      case atStart => exact ⟨0, rfl, by omega, fun j hj h => by omega, rfl⟩
      case round =>
        obtain ⟨i, rfl, hi, HI, rfl⟩ := hrel
        by_cases hlt : i < v.size
        · have hlt' : (i : Int) < v.size := by omega
          generalize hq : Lk.valueByte v[i] = Q
          have HQ := hide hq
          have HC := hide (show ∀ w, Calls Tryz.prog 176 #[.int .u8 v[i].toNat] w fun e w' => e = .returned (.bool Q) ∧ w' = w from fun w => by rw [← hq]; exact refValue_any v[i] w)
          clear hq
          go_wp2_with fail
          refine (unhide HC _).mono ?_
          rintro e w' ⟨rfl, rfl⟩
          cases Q
          · go_wp2_with fail
            go_ret
            refine ⟨ret_bool ?_, hbel⟩
            rw [← unhide HA, not_all v Lk.valueByte i hlt (unhide HQ), Bool.and_false]
          · go_wp2_with fail
            go_roundw
            case rel => exact ⟨i + 1, by simp, by omega, fun j hj h => (Nat.lt_succ_iff_lt_or_eq.1 h).elim (fun h => unhide HI j hj h) (fun h => by subst h; exact unhide HQ), trivial⟩
            case measure => simp [intOf]; omega
        · have hlt' : ¬ (i : Int) < v.size := by omega
          go_wp2_with fail
          go_ret
          refine ⟨ret_bool ?_, hbel⟩
          rw [← unhide HA, unhide HALL, all_of v Lk.valueByte (fun j hj => (unhide HI) j hj (by omega))]
          rfl

theorem refGood_any (h : Lk.Hd) (Q : Bool) (hq : Hid (Lk.good h = Q)) (w : World) :
    Calls Tryz.prog 149 #[hdA h] w fun e w' => e = .returned (.bool Q) ∧ Below w.heap.size w w' := by
  have e := good_of (bs h.n) (bs h.v)
  rw [bs_list, bs_list, bs_size, bs_size] at e
  have e2 : Lk.good h = Lk.good ⟨h.n, h.v⟩ := rfl
  rw [← e2, unhide hq] at e
  by_cases hb : ¬ (1 ≤ (bs h.n).size ∧ (bs h.n).size ≤ 16) ∨ ¬ (bs h.v).size ≤ 32
  · have : Q = false := by
      rw [bs_size, bs_size] at hb
      rw [e]
      rcases hb with hb | hb
      · rw [decide_eq_false hb]; rfl
      · rw [decide_eq_false hb]; simp
    rw [this]
    exact refGood_bad (bs h.n) (bs h.v) w hb
  · simp only [not_or, Classical.not_not] at hb
    refine refGood_ok (bs h.n) (bs h.v) w hb.1.1 hb.1.2 hb.2 Q (hide ?_)
    rw [bs_size, bs_size] at hb
    rw [e, decide_eq_true hb.1, decide_eq_true hb.2, bs_list, bs_list]
    simp

set_option maxHeartbeats 2000000 in
set_option maxRecDepth 100000 in
theorem refWrong_some (B g cap : Nat) (l : List Lk.Hd) (w : World) (hl : l.length ≤ 6) (E P : Int) (HW : Hid ((Lk.wrongAt 0 l).1 = E ∧ (Lk.wrongAt 0 l).2 = P))
    (own : Hid (w.ownsRow B 206 2 (.slice (some ⟨g, 0, none⟩) l.length cap) l.length (hdsV l))) :
    Calls Tryz.prog 101 #[.slice (some ⟨g, 0, none⟩) l.length cap] w fun e w' =>
      e = .returned (.tuple #[.int .i64 E, .int .i64 P]) ∧ Below w.heap.size w w' := by
  have hl6 : ¬ 6 < (l.length : Int) := by omega
  go_enter Tryz.func101, Tryz.ntmps101
  go_wp2_with fail
  go_loopw [4] (fun u wr => ∃ k : Nat, u = .int .i64 k ∧ k ≤ l.length ∧ Hid (Lk.wrongAt 0 l = Lk.wrongAt k (l.drop k)) ∧ Below w.heap.size w wr) (fun u _ => l.length - (intOf u).toNat)
  case atStart => exact ⟨0, rfl, by omega, rfl, Below.refl _ _⟩
  case round =>
    obtain ⟨k, rfl, hk, HK, hbel⟩ := hrel
    by_cases hlt : k < l.length
    · have hlt' : (k : Int) < l.length := by omega
      obtain ⟨x, hx⟩ : ∃ x, l[k]? = some x := ⟨_, List.getElem?_eq_getElem hlt⟩
      obtain ⟨hg2, x0, x1⟩ := row_at2 (own_belowB (unhide own) hbel (by omega)) hx
      have hdr : l.drop k = x :: l.drop (k + 1) := by
        rw [List.getElem?_eq_getElem hlt] at hx
        cases hx
        exact List.drop_eq_getElem_cons hlt
      have HD := hide hdr
      have hwr := hbel.size
      generalize hq : Lk.good x = Q
      have HQ := hide hq
      clear hx hdr hq
      go_wp2_with fail
      refine (refGood_any x Q HQ _).mono ?_
      rintro e w1 ⟨rfl, hb1⟩
      have hbel1 := hbel.trans (hb1.mono hwr)
      clear x0 x1 hb1 hbel
      cases Q
      · go_wp2_with fail
        go_ret2
        have e := unhide HK
        rw [unhide HD, Lk.wrongAt, unhide HQ] at e
        have e2 := unhide HW
        rw [e] at e2
        obtain ⟨rfl, rfl⟩ := e2
        exact ⟨rfl, hbel1⟩
      · go_wp2_with fail
        go_roundw
        case rel =>
          refine ⟨k + 1, by simp, by omega, ?_, hbel1⟩
          have e := unhide HK
          rw [unhide HD, Lk.wrongAt, unhide HQ] at e
          exact e
        case measure => simp [intOf]; omega
    · have hlt' : ¬ (k : Int) < l.length := by omega
      go_wp2_with fail
      go_ret2
      have e := unhide HK
      rw [List.drop_eq_nil_of_le (by omega), Lk.wrongAt] at e
      have e2 := unhide HW
      rw [e] at e2
      obtain ⟨rfl, rfl⟩ := e2
      exact ⟨rfl, hbel⟩

set_option maxRecDepth 100000 in
theorem refWrong_many (l cap : Nat) (ad : Option Addr) (w : World) (hl : 6 < (l : Int)) :
    Calls Tryz.prog 101 #[.slice ad l cap] w fun e w' => e = .returned (.tuple #[.int .i64 8, .int .i64 0]) ∧ Below w.heap.size w w' := by
  go_enter Tryz.func101, Tryz.ntmps101
  go_wp2_with fail
  go_ret2
  exact ⟨rfl, Below.refl _ _⟩

set_option maxHeartbeats 1000000 in
set_option maxRecDepth 100000 in
theorem refWrong_none (w : World) :
    Calls Tryz.prog 101 #[.slice none 0 0] w fun e w' => e = .returned (.tuple #[.int .i64 0, .int .i64 0]) ∧ Below w.heap.size w w' := by
  go_enter Tryz.func101, Tryz.ntmps101
  go_wp2_with fail
  refine wp_loop_rounds 1 ?_
  rw [rounds_succ]
  go_wp2_with fail
  go_ret2
  exact ⟨rfl, Below.refl _ _⟩

theorem refWrong_any (B : Nat) (v : Value) (l : List Lk.Hd) (w : World) (own : w.ownsRow B 206 2 v l.length (hdsV l)) :
    Calls Tryz.prog 101 #[v] w fun e w' => e = .returned (.tuple #[.int .i64 (Lk.wrong l).1, .int .i64 (Lk.wrong l).2]) ∧ Below w.heap.size w w' := by
  rcases owned_hds own with ⟨rfl, rfl⟩ | ⟨g, cap, rfl, _⟩
  · exact refWrong_none w
  · unfold Lk.wrong
    split
    · exact refWrong_many l.length cap _ w (by omega)
    · exact refWrong_some B g cap l w (by omega) _ _ (hide ⟨rfl, rfl⟩) (hide own)
end Go.Proofs.YtbkpdapagfjmmaaGreatDoor

/-
  Walks: lists of headers, of the statements.
-/
namespace Go.Proofs.YtbkpdapagfjmmaaGreatDoor
open Go.RowKit

set_option maxHeartbeats 1000000 in
set_option maxRecDepth 100000 in
theorem spoil_some (B g cap : Nat) (l : List Lk.Hd) (w : World) (hl : l.length ≤ 1000) (own : w.ownsRow B 112 2 (.slice (some ⟨g, 0, none⟩) l.length cap) l.length (hdsV l)) :
    Calls Tryz.prog 77 #[.slice (some ⟨g, 0, none⟩) l.length cap] w fun e w' => e = .returned (.tuple #[]) ∧ w.grownBy w' (some g) := by
  obtain ⟨cur, hBg, hg, hn, hcm, hcs, ht⟩ : ∃ cur : Array Value, B ≤ g ∧ w.heap[g]? = some (.cells cur 112 (0, 0)) ∧ l.length ≤ cap ∧ cap ≤ maxLen ∧ cur.size = cap * 2 ∧ cur.toList.take (l.length * 2) = hdsV l := by
    rcases own.2 with ⟨h, _⟩ | ⟨_, _, cur, h, h1, h2, h3, h4, h5, h6⟩
    · cases h
    · cases h; exact ⟨cur, h1, h2, h3, h4, h5, h6⟩
  have hI : Is w g 112 cur.toList := by unfold Is; simpa using hg
  have HI := hide hI
  clear own hg ht hI
  go_enter Tryz.func77, Tryz.ntmps77
  go_wp2_with fail
  go_loopw [2] (fun u wr => ∃ (k : Nat) (cs : List Value), u = .int .i64 k ∧ k ≤ l.length ∧ cs.length = cap * 2 ∧ Is wr g 112 cs ∧ w.grownBy wr (some g)) (fun u _ => l.length - (intOf u).toNat)
  case atStart => exact ⟨0, cur.toList, rfl, by omega, by simpa using hcs, unhide HI, World.grownBy.refl _ _⟩
  case round =>
    obtain ⟨k, cs, rfl, hk, hcl, hIr, hgr⟩ := hrel
    by_cases hlt : k < l.length
    · have hlt' : (k : Int) < l.length := by omega
      have c0 : wr.cell? ⟨g, k * 2, none⟩ = some (cs[k * 2]'(by omega)) := by rw [hIr.cell, List.getElem?_eq_getElem]
      have c1 : wr.cell? ⟨g, k * 2 + 1, none⟩ = some (cs[k * 2 + 1]'(by omega)) := by rw [hIr.cell, List.getElem?_eq_getElem]
      have f0 := hIr.free (k * 2)
      have f1 := hIr.free (k * 2 + 1)
      have HIr := hide hIr
      clear hIr
      go_wp2_with fail
      go_roundw
      case rel => exact ⟨k + 1, _, by simp, by omega, by simpa using hcl, ((unhide HIr).set (k * 2) _).set (k * 2 + 1) _, (Turns.set (Turns.set hgr _ _) _ _)⟩
      case measure => simp [intOf]; omega
    · have hlt' : ¬ (k : Int) < l.length := by omega
      go_wp2_with fail
      go_end0
      exact ⟨rfl, hgr⟩

set_option maxHeartbeats 1000000 in
set_option maxRecDepth 100000 in
theorem spoil_none (w : World) : Calls Tryz.prog 77 #[.slice none 0 0] w fun e w' => e = .returned (.tuple #[]) ∧ w' = w := by
  go_enter Tryz.func77, Tryz.ntmps77
  go_wp2_with fail
  refine wp_loop_rounds 1 ?_
  rw [rounds_succ]
  go_wp2_with fail
  go_end0
  exact ⟨rfl, rfl⟩

theorem spoil_any (B : Nat) (v : Value) (l : List Lk.Hd) (w : World) (hl : l.length ≤ 1000) (own : w.ownsRow B 112 2 v l.length (hdsV l)) :
    Calls Tryz.prog 77 #[v] w fun e w' => e = .returned (.tuple #[]) ∧ w.grownBy w' v.ownBlock := by
  rcases owned_hds own with ⟨rfl, rfl⟩ | ⟨g, cap, rfl, _⟩
  · refine (spoil_none w).mono ?_
    rintro e w' ⟨rfl, rfl⟩
    exact ⟨rfl, World.grownBy.refl _ _⟩
  · exact spoil_some B g cap l w hl own

set_option maxHeartbeats 2000000 in
set_option maxRecDepth 100000 in
theorem alike_some (Ba Bb ga gb ca cb : Nat) (l : List Lk.Hd) (w : World) (hl : l.length ≤ 1000) (owa : w.ownsRow Ba 112 2 (.slice (some ⟨ga, 0, none⟩) l.length ca) l.length (hdsV l)) (owb : w.ownsRow Bb 112 2 (.slice (some ⟨gb, 0, none⟩) l.length cb) l.length (hdsV l)) :
    Calls Tryz.prog 76 #[.slice (some ⟨ga, 0, none⟩) l.length ca, .slice (some ⟨gb, 0, none⟩) l.length cb] w fun e w' => e = .returned (.bool true) ∧ ∃ n, w' = w.drewN n := by
  have HA := hide owa
  have HB := hide owb
  clear owa owb
  go_enter Tryz.func76, Tryz.ntmps76
  go_wp2_with fail
  go_loopw [5] (fun u wr => ∃ k : Nat, u = .int .i64 k ∧ k ≤ l.length ∧ ∃ n, wr = w.drewN n) (fun u _ => l.length - (intOf u).toNat)
  case atStart => exact ⟨0, rfl, by omega, 0, rfl⟩
  case round =>
    obtain ⟨k, rfl, hk, nd, rfl⟩ := hrel
    by_cases hlt : k < l.length
    · have hlt' : (k : Int) < l.length := by omega
      obtain ⟨x, hx⟩ : ∃ x, l[k]? = some x := ⟨_, List.getElem?_eq_getElem hlt⟩
      obtain ⟨_, a0, a1⟩ := row_at2 (unhide HA) hx
      obtain ⟨_, b0, b1⟩ := row_at2 (unhide HB) hx
      clear hx
      go_wp2_with fail
      go_quiet (fail)
      go_wp2_with fail
      go_roundw
      case rel => exact ⟨k + 1, by simp, by omega, _, rfl⟩
      case measure => simp [intOf]; omega
    · have hlt' : ¬ (k : Int) < l.length := by omega
      go_wp2_with fail
      go_ret
      exact ⟨rfl, nd, rfl⟩

set_option maxHeartbeats 1000000 in
set_option maxRecDepth 100000 in
theorem alike_zero (a b : Option Addr) (ca cb : Nat) (w : World) : Calls Tryz.prog 76 #[.slice a 0 ca, .slice b 0 cb] w fun e w' => e = .returned (.bool true) ∧ ∃ n, w' = w.drewN n := by
  go_enter Tryz.func76, Tryz.ntmps76
  go_wp2_with fail
  refine wp_loop_rounds 1 ?_
  rw [rounds_succ]
  go_wp2_with fail
  go_ret
  exact ⟨rfl, 0, rfl⟩

theorem alike_any (Ba Bb : Nat) (va vb : Value) (l : List Lk.Hd) (w : World) (hl : l.length ≤ 1000) (owa : w.ownsRow Ba 112 2 va l.length (hdsV l)) (owb : w.ownsRow Bb 112 2 vb l.length (hdsV l)) :
    Calls Tryz.prog 76 #[va, vb] w fun e w' => e = .returned (.bool true) ∧ ∃ n, w' = w.drewN n := by
  rcases owned_hds owa with ⟨hl0, rfl⟩ | ⟨ga, ca, rfl, _⟩
  · rcases owned_hds owb with ⟨_, rfl⟩ | ⟨gb, cb, rfl, _⟩
    · exact alike_zero _ _ _ _ w
    · subst hl0
      exact alike_zero _ _ _ _ w
  · rcases owned_hds owb with ⟨hl0, rfl⟩ | ⟨gb, cb, rfl, _⟩
    · subst hl0
      exact alike_zero _ _ _ _ w
    · exact alike_some Ba Bb ga gb ca cb l w hl owa owb

end Go.Proofs.YtbkpdapagfjmmaaGreatDoor
