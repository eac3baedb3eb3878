/-
  Walks: lists of headers, of the statements.
-/
import Derived.Test.YtbkpdapagfjmmaaDoorS1
import Derived.Test.YtbkpdapagfjmmaaDoorT4
namespace Go.Proofs.YtbkpdapagfjmmaaDoor
open Go.RowKit

set_option maxHeartbeats 1000000 in
set_option maxRecDepth 100000 in
theorem spoil_some (B g cap : Nat) (l : List Lk.Hd) (w : World) (hl : l.length ≤ 1000) (own : w.ownsRow B 44 2 (.slice (some ⟨g, 0, none⟩) l.length cap) l.length (hdsV l)) :
    Calls Tryd.prog 17 #[.slice (some ⟨g, 0, none⟩) l.length cap] w fun e w' => e = .returned (.tuple #[]) ∧ w.grownBy w' (some g) := by
  obtain ⟨cur, hBg, hg, hn, hcm, hcs, ht⟩ : ∃ cur : Array Value, B ≤ g ∧ w.heap[g]? = some (.cells cur 44 (0, 0)) ∧ l.length ≤ cap ∧ cap ≤ maxLen ∧ cur.size = cap * 2 ∧ cur.toList.take (l.length * 2) = hdsV l := by
    rcases own.2 with ⟨h, _⟩ | ⟨_, _, cur, h, h1, h2, h3, h4, h5, h6⟩
    · cases h
    · cases h; exact ⟨cur, h1, h2, h3, h4, h5, h6⟩
  have hI : Is w g 44 cur.toList := by unfold Is; simpa using hg
  have HI := hide hI
  clear own hg ht hI
  go_enter Tryd.func17, Tryd.ntmps17
  go_wp2_with fail
  go_loopw [2] (fun u wr => ∃ (k : Nat) (cs : List Value), u = .int .i64 k ∧ k ≤ l.length ∧ cs.length = cap * 2 ∧ Is wr g 44 cs ∧ w.grownBy wr (some g)) (fun u _ => l.length - (intOf u).toNat)
  case atStart => exact ⟨0, cur.toList, rfl, by omega, by simpa using hcs, unhide HI, World.grownBy.refl _ _⟩
  case round =>
    obtain ⟨k, cs, rfl, hk, hcl, hIr, hgr⟩ := hrel
    by_cases hlt : k < l.length
    · have hlt' : (k : Int) < l.length := by omega
      have c0 : wr.cell? ⟨g, k * 2, none⟩ = some (cs[k * 2]'(by omega)) := by rw [hIr.cell, List.getElem?_eq_getElem]
      have c1 : wr.cell? ⟨g, k * 2 + 1, none⟩ = some (cs[k * 2 + 1]'(by omega)) := by rw [hIr.cell, List.getElem?_eq_getElem]
      have f0 := hIr.free (k * 2)
      have f1 := hIr.free (k * 2 + 1)
      have HIr := hide hIr
      clear hIr
      go_wp2_with fail
      go_roundw
      case rel => exact ⟨k + 1, _, by simp, by omega, by simpa using hcl, ((unhide HIr).set (k * 2) _).set (k * 2 + 1) _, (Turns.set (Turns.set hgr _ _) _ _)⟩
      case measure => simp [intOf]; omega
    · have hlt' : ¬ (k : Int) < l.length := by omega
      go_wp2_with fail
      go_end0
      exact ⟨rfl, hgr⟩

set_option maxHeartbeats 1000000 in
set_option maxRecDepth 100000 in
theorem spoil_none (w : World) : Calls Tryd.prog 17 #[.slice none 0 0] w fun e w' => e = .returned (.tuple #[]) ∧ w' = w := by
  go_enter Tryd.func17, Tryd.ntmps17
  go_wp2_with fail
  refine wp_loop_rounds 1 ?_
  rw [rounds_succ]
  go_wp2_with fail
  go_end0
  exact ⟨rfl, rfl⟩

theorem spoil_any (B : Nat) (v : Value) (l : List Lk.Hd) (w : World) (hl : l.length ≤ 1000) (own : w.ownsRow B 44 2 v l.length (hdsV l)) :
    Calls Tryd.prog 17 #[v] w fun e w' => e = .returned (.tuple #[]) ∧ w.grownBy w' v.ownBlock := by
  rcases owned_hds own with ⟨rfl, rfl⟩ | ⟨g, cap, rfl, _⟩
  · refine (spoil_none w).mono ?_
    rintro e w' ⟨rfl, rfl⟩
    exact ⟨rfl, World.grownBy.refl _ _⟩
  · exact spoil_some B g cap l w hl own

set_option maxHeartbeats 2000000 in
set_option maxRecDepth 100000 in
theorem alike_some (Ba Bb ga gb ca cb : Nat) (l : List Lk.Hd) (w : World) (hl : l.length ≤ 1000) (owa : w.ownsRow Ba 44 2 (.slice (some ⟨ga, 0, none⟩) l.length ca) l.length (hdsV l)) (owb : w.ownsRow Bb 44 2 (.slice (some ⟨gb, 0, none⟩) l.length cb) l.length (hdsV l)) :
    Calls Tryd.prog 16 #[.slice (some ⟨ga, 0, none⟩) l.length ca, .slice (some ⟨gb, 0, none⟩) l.length cb] w fun e w' => e = .returned (.bool true) ∧ ∃ n, w' = w.drewN n := by
  have HA := hide owa
  have HB := hide owb
  clear owa owb
  go_enter Tryd.func16, Tryd.ntmps16
  go_wp2_with fail
  go_loopw [5] (fun u wr => ∃ k : Nat, u = .int .i64 k ∧ k ≤ l.length ∧ ∃ n, wr = w.drewN n) (fun u _ => l.length - (intOf u).toNat)
  case atStart => exact ⟨0, rfl, by omega, 0, rfl⟩
  case round =>
    obtain ⟨k, rfl, hk, nd, rfl⟩ := hrel
    by_cases hlt : k < l.length
    · have hlt' : (k : Int) < l.length := by omega
      obtain ⟨x, hx⟩ : ∃ x, l[k]? = some x := ⟨_, List.getElem?_eq_getElem hlt⟩
      obtain ⟨_, a0, a1⟩ := row_at2 (unhide HA) hx
      obtain ⟨_, b0, b1⟩ := row_at2 (unhide HB) hx
      clear hx
      go_wp2_with fail
      go_quiet (fail)
      go_wp2_with fail
      go_roundw
      case rel => exact ⟨k + 1, by simp, by omega, _, rfl⟩
      case measure => simp [intOf]; omega
    · have hlt' : ¬ (k : Int) < l.length := by omega
      go_wp2_with fail
      go_ret
      exact ⟨rfl, nd, rfl⟩

set_option maxHeartbeats 1000000 in
set_option maxRecDepth 100000 in
theorem alike_zero (a b : Option Addr) (ca cb : Nat) (w : World) : Calls Tryd.prog 16 #[.slice a 0 ca, .slice b 0 cb] w fun e w' => e = .returned (.bool true) ∧ ∃ n, w' = w.drewN n := by
  go_enter Tryd.func16, Tryd.ntmps16
  go_wp2_with fail
  refine wp_loop_rounds 1 ?_
  rw [rounds_succ]
  go_wp2_with fail
  go_ret
  exact ⟨rfl, 0, rfl⟩

theorem alike_any (Ba Bb : Nat) (va vb : Value) (l : List Lk.Hd) (w : World) (hl : l.length ≤ 1000) (owa : w.ownsRow Ba 44 2 va l.length (hdsV l)) (owb : w.ownsRow Bb 44 2 vb l.length (hdsV l)) :
    Calls Tryd.prog 16 #[va, vb] w fun e w' => e = .returned (.bool true) ∧ ∃ n, w' = w.drewN n := by
  rcases owned_hds owa with ⟨hl0, rfl⟩ | ⟨ga, ca, rfl, _⟩
  · rcases owned_hds owb with ⟨_, rfl⟩ | ⟨gb, cb, rfl, _⟩
    · exact alike_zero _ _ _ _ w
    · subst hl0
      exact alike_zero _ _ _ _ w
  · rcases owned_hds owb with ⟨hl0, rfl⟩ | ⟨gb, cb, rfl, _⟩
    · subst hl0
      exact alike_zero _ _ _ _ w
    · exact alike_some Ba Bb ga gb ca cb l w hl owa owb

set_option maxHeartbeats 1000000 in
set_option maxRecDepth 100000 in
theorem lawClone_some (B g cap : Nat) (l : List Lk.Hd) (w : World) (hl : l.length ≤ 1000) (own : w.ownsRow B 44 2 (.slice (some ⟨g, 0, none⟩) l.length cap) l.length (hdsV l)) :
    Calls Tryd.prog 10 #[.slice (some ⟨g, 0, none⟩) l.length cap] w fun e w' => ∃ v', e = .returned v' ∧ w'.ownsRow w.heap.size 44 2 v' l.length (hdsV l) ∧ Below w.heap.size w w' := by
  obtain ⟨i, hi, hz0, hz1, hz2⟩ := info_parts info_hd
  have HO := hide own
  clear own
  go_enter Tryd.func10, Tryd.ntmps10
  go_wp2_with fail
  go_loopw [3, 4] (fun m u wr => ∃ k : Nat, u = .int .i64 k ∧ k ≤ l.length ∧ wr.ownsRow w.heap.size 44 2 m k (hdsV (l.take k)) ∧ Below w.heap.size w wr) (fun _ u _ => l.length - (intOf u).toNat)
  case atStart => exact ⟨0, rfl, by omega, World.ownsRow_nil _ _ _ _, Below.refl _ _⟩
  case round =>
    obtain ⟨k, rfl, hk, hown, hbel⟩ := hrel
    have hsz := hbel.size
    by_cases hlt : k < l.length
    · have hlt' : (k : Int) < l.length := by omega
      obtain ⟨x, hx⟩ : ∃ x, l[k]? = some x := ⟨_, List.getElem?_eq_getElem hlt⟩
      obtain ⟨hgl, a0, a1⟩ := row_at2 (own_belowB (unhide HO) hbel (by omega)) hx
      have HX := hide hx
      clear hx
      go_wp2_with (at_builtin; refine wpList_append_own _ rfl _ _ 29 rfl w.heap.size 44 i _ 2 32 Tryd.underlying29 hi hz0 hz1 hz2 rfl (by decide) _ k (hdsV (l.take k)) rfl (hown.alloc _) ⟨wr.heap.size, 0, none⟩ 1 1 (hdV x) rfl rfl ?hnews ?h1 ?h63 ?hby ?hba ?_)
      case hnews => exact row_cells (built_hd wr _ x)
      case h1 => simp [hdV, Value.oneCell']
      case h63 => unfold maxLen; omega
      case hby => omega
      case hba => simp; omega
      intro v' w' ho' hg' hn'
      have hb' := (hbel.alloc hsz _).grown hg' (by simp; omega) (fun k hk => (hown.lt k hk).1)
      have ho2 : w'.ownsRow w.heap.size 44 2 v' (k + 1) (hdsV (l.take (k + 1))) := by
        have e : l.take (k + 1) = l.take k ++ [x] := by rw [List.take_add_one, unhide HX]; rfl
        rw [e, hdsV_append]
        simpa [hdsV] using ho'
      clear ho' hg' hown hbel a0 a1
      go_wp2_with fail
      go_roundw
      case rel => exact ⟨k + 1, by simp, by omega, ho2, hb'⟩
      case measure => simp [intOf]; omega
    · have hlt' : ¬ (k : Int) < l.length := by omega
      have hkl : k = l.length := by omega
      have ho2 : wr.ownsRow w.heap.size 44 2 u3 l.length (hdsV l) := by rw [hkl, List.take_length] at hown; exact hown
      clear hown
      go_wp2_with fail
      go_ret
      exact ⟨_, rfl, ho2, hbel⟩
end Go.Proofs.YtbkpdapagfjmmaaDoor
