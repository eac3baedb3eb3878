import Derived.Test.YtbkpdapagfjmmaaGreatDoorT1
import Derived.Deep.AppendLies
import Derived.Laws.IdiomCopy
import Derived.Lib.SliceRun
/-
  Walks: the last of a row of headers is deleted; a row of headers is cloned.
-/
namespace Go.Proofs.YtbkpdapagfjmmaaGreatDoor
open Go.RowKit

theorem info_hd : (Tryz.prog.info? 112).map (fun i => (i.zero, i.size, i.bytes)) = some (some (.agg #[.string ⟨#[]⟩, .string ⟨#[]⟩]), 2, 32) := by kernel_rfl

theorem clear_one (g m cap : Nat) (W : World) (hc : ∀ j, j < 2 → (W.cell? ⟨g, m * 2 + j, none⟩).isSome = true) (hf : ∀ j, j < 2 → W.frozen? ⟨g, m * 2 + j, none⟩ = false) :
    (Builtin.clear_ #[42] 0 #[.slice (some ⟨g, m * 2, none⟩) 1 cap]).run Tryz.prog W = .ok (.tuple #[]) (W.setCells g (m * 2) [.string ⟨#[]⟩, .string ⟨#[]⟩]) := by
  obtain ⟨i, hi, hz0, hz1, hz2⟩ := info_parts info_hd
  have hst := run_storeCells_cells (P := Tryz.prog) g (m * 2) [.string ⟨#[]⟩, .string ⟨#[]⟩] 0 W (by simpa using hc) (by simpa using hf) (by simp [Value.oneCell'])
  simp only [Nat.add_zero] at hst
  simp [Builtin.clear_, run_underlying Tryz.underlying42, zeroValue, typeInfo, hi, hz0, Builtin.zeroCells, Value.cells, List.range_succ, hst]

theorem hdsV_take : ∀ (L : List Lk.Hd) (m : Nat), (hdsV L).take (m * 2) = hdsV (L.take m)
  | [], m => by simp [hdsV]
  | x :: L, 0 => by simp [hdsV]
  | x :: L, m + 1 => by
    have e : (m + 1) * 2 = m * 2 + 2 := by omega
    have ih := hdsV_take L m
    simp only [hdsV] at ih
    simp only [hdsV, List.flatMap_cons, List.take_succ_cons, hdV, e]
    simp [ih]

theorem del_post {W : World} {B g m cap : Nat} {L : List Lk.Hd} {cur : Array Value} {x y : Value} (hBg : B ≤ g) (hL : L.length = m + 1) (hmc : m ≤ cap) (hcm : cap ≤ maxLen) (hcs : cur.size = cap * 2) (HT : cur.toList.take ((m + 1) * 2) = hdsV L)
    (hI : Is W g 112 ((cur.toList.set (m * 2) x).set (m * 2 + 1) y)) :
    W.ownsRow B 112 2 (.slice (some ⟨g, 0, none⟩) m cap) m (hdsV (L.take m)) := by
  refine ⟨by rw [hdsV_len, List.length_take, Nat.min_eq_left (by omega)], .inr ⟨g, cap, _, rfl, hBg, hI, hmc, hcm, by simpa using hcs, ?_⟩⟩
  rw [← hdsV_take, ← HT, List.take_take, Nat.min_eq_left (by omega)]
  rw [List.toList_toArray, List.take_set_of_le (by omega), List.take_set_of_le (by omega)]

set_option maxHeartbeats 1000000 in
set_option maxRecDepth 100000 in
theorem delete_last (g m cap B : Nat) (L : List Lk.Hd) (w : World) (hL : L.length = m + 1) (hm : m ≤ 1000)
    (own : w.ownsRow B 112 2 (.slice (some ⟨g, 0, none⟩) (m + 1) cap) (m + 1) (hdsV L)) :
    Calls Tryz.prog 185 #[.slice (some ⟨g, 0, none⟩) (m + 1) cap, .int .i64 m, .int .i64 ((m : Int) + 1)] w fun e w' =>
      e = .returned (.slice (some ⟨g, 0, none⟩) m cap) ∧ w'.ownsRow B 112 2 (.slice (some ⟨g, 0, none⟩) m cap) m (hdsV (L.take m)) ∧ w.grownBy w' (some g) := by
  obtain ⟨cur, hBg, hg, hn, hcm, hcs, ht⟩ : ∃ cur : Array Value, B ≤ g ∧ w.heap[g]? = some (.cells cur 112 (0, 0)) ∧ m + 1 ≤ cap ∧ cap ≤ maxLen ∧ cur.size = cap * 2 ∧ cur.toList.take ((m + 1) * 2) = hdsV L := by
    rcases own.2 with ⟨h, _⟩ | ⟨_, _, cur, h, h1, h2, h3, h4, h5, h6⟩
    · cases h
    · cases h; exact ⟨cur, h1, h2, h3, h4, h5, h6⟩
  have hI : Is w g 112 cur.toList := by unfold Is; simpa using hg
  have hm0 : 0 ≤ (m : Int) + 1 := by omega
  have hcl := fun c => clear_one g m c w.drew (fun j hj => by
    have := (hI.drew).cell (m * 2 + j)
    rw [this, List.getElem?_eq_getElem (by simp; omega)]; rfl) (fun j _ => (hI.drew).free _)
  have hI2 := (hI.drew.set (m * 2) (.string ⟨#[]⟩)).set (m * 2 + 1) (.string ⟨#[]⟩)
  have hne : ¬ cap = m := by omega
  have hmc : m ≤ cap := by omega
  simp only [World.setCells] at hcl
  have HT := hide ht
  have HI2 := hide hI2
  have HI := hide hI
  clear own hg ht hI2 hI
  by_cases hcap : cap = m + 1
  · subst hcap
    go_enter Tryz.func185, Tryz.ntmps185
    go_wp2_with fail
    go_region
    go_wp2_with fail
    go_ret
    exact ⟨rfl, del_post hBg hL hmc hcm hcs (unhide HT) (unhide HI2), (((Turns.refl g w).drew).set _ _).set _ _⟩
  · go_enter Tryz.func185, Tryz.ntmps185
    go_wp2_with fail
    go_region
    go_wp2_with fail
    go_ret
    exact ⟨rfl, del_post hBg hL hmc hcm hcs (unhide HT) (unhide HI2), (((Turns.refl g w).drew).set _ _).set _ _⟩
end Go.Proofs.YtbkpdapagfjmmaaGreatDoor

/-
  Walks: a row of headers is cloned; Entries.
-/
namespace Go.Proofs.YtbkpdapagfjmmaaGreatDoor
open Go.RowKit

theorem oneCell_hds (L : List Lk.Hd) : ∀ u ∈ hdsV L, u.oneCell' = true := by
  intro u hu
  simp only [hdsV, List.mem_flatMap, hdV] at hu
  obtain ⟨x, _, hx⟩ := hu
  simp at hx
  rcases hx with rfl | rfl <;> rfl

/-- The cells of a row, for an append. -/
theorem row_cells {w : World} {B : Nat} {T : TypeId} {g n cap : Nat} {xs : List Value} (h : w.ownsRow B T 2 (.slice (some ⟨g, 0, none⟩) n cap) n xs) : ∀ j u, xs[j]? = some u → w.cell? ((⟨g, 0, none⟩ : Addr).add j) = some u := by
  intro j u hu
  rcases h.2 with ⟨h, _⟩ | ⟨_, _, cur, h, h1, h2, h3, h4, h5, h6⟩
  · cases h
  · cases h
    have hplain : (⟨g, 0, none⟩ : Addr).add j = ⟨g, j, none⟩ := by unfold Addr.add; split <;> simp_all
    have hI : Is w g T cur.toList := by unfold Is; simpa using h2
    rw [hplain, hI.cell j]
    rw [← h6] at hu
    rw [List.getElem?_take] at hu
    split at hu
    · exact hu
    · cases hu

set_option maxHeartbeats 1000000 in
set_option maxRecDepth 100000 in
theorem clone_hds (B : Nat) (v : Value) (L : List Lk.Hd) (w : World) (hl : L.length ≤ 1000) (own : w.ownsRow B 112 2 v L.length (hdsV L)) :
    Calls Tryz.prog 148 #[v] w fun e w' =>
      ∃ v', e = .returned v' ∧ w'.ownsRow w.heap.size 112 2 v' L.length (hdsV L) ∧ Below w.heap.size w w' := by
  obtain ⟨i, hi, hz0, hz1, hz2⟩ := info_parts info_hd
  rcases owned_hds own with ⟨hL, rfl⟩ | ⟨g, cap, rfl, _, hg, hcap, hcells⟩
  · subst hL
    have hq := Go.Lib.run_eql_slice_nil (P := Tryz.prog) w 42 112 none 0 0 0 0 Tryz.underlying42
    simp only [Option.isNone] at hq
    go_enter Tryz.func148, Tryz.ntmps148
    go_wp2_with fail
    go_ret
    exact ⟨_, rfl, World.ownsRow_nil _ _ _ _, Below.refl _ _⟩
  · have hown : (w.alloc (.cells #[] 112)).ownsRow w.heap.size 112 2 (.slice (some ⟨w.heap.size, 0, none⟩) 0 0) 0 [] :=
      ⟨rfl, .inr ⟨w.heap.size, 0, #[], rfl, Nat.le_refl _, heap_alloc_new w _, Nat.le_refl _, Nat.zero_le _, rfl, rfl⟩⟩
    have hq := Go.Lib.run_eql_slice_nil (P := Tryz.prog) w 42 112 (some ⟨g, 0, none⟩) L.length cap 0 0 Tryz.underlying42
    simp only [Option.isNone] at hq
    have HC := hide hcells
    clear hcells
    go_enter Tryz.func148, Tryz.ntmps148
    go_wp2_with (at_builtin; refine wpList_append_own _ rfl _ _ 42 rfl w.heap.size 112 i _ 2 32 Tryz.underlying42 hi hz0 hz1 hz2 rfl (by decide) _ 0 [] rfl hown ⟨g, 0, none⟩ L.length cap (hdsV L) rfl (hdsV_len L) ?hnews (oneCell_hds L) ?h63 ?hby ?hba ?_)
    case hnews => exact row_cells (own.alloc _)
    case h63 => unfold maxLen; omega
    case hby => omega
    case hba => simp
    intro v' w' ho' hg' hn'
    go_wp2_with fail
    go_ret
    refine ⟨_, rfl, by simpa using ho', ?_⟩
    exact ((Below.refl w.heap.size w).alloc (Nat.le_refl _) _).grown hg' (by simp) (fun k hk => by simp [Value.ownBlock] at hk; omega)
end Go.Proofs.YtbkpdapagfjmmaaGreatDoor
