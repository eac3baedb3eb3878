/-
  Walks: the last of a row of headers is deleted; a row of headers is cloned.
-/
import Derived.Test.YtbkpdapagfjmmaaDoorT1
import Derived.Deep.AppendLies
import Derived.Laws.IdiomCopy
namespace Go.Proofs.YtbkpdapagfjmmaaDoor
open Go.RowKit

theorem info_hd : (Tryd.prog.info? 44).map (fun i => (i.zero, i.size, i.bytes)) = some (some (.agg #[.string ⟨#[]⟩, .string ⟨#[]⟩]), 2, 32) := by kernel_rfl

theorem clear_one (g m cap : Nat) (W : World) (hc : ∀ j, j < 2 → (W.cell? ⟨g, m * 2 + j, none⟩).isSome = true) (hf : ∀ j, j < 2 → W.frozen? ⟨g, m * 2 + j, none⟩ = false) :
    (Builtin.clear_ #[29] 0 #[.slice (some ⟨g, m * 2, none⟩) 1 cap]).run Tryd.prog W = .ok (.tuple #[]) (W.setCells g (m * 2) [.string ⟨#[]⟩, .string ⟨#[]⟩]) := by
  obtain ⟨i, hi, hz0, hz1, hz2⟩ := info_parts info_hd
  have hst := run_storeCells_cells (P := Tryd.prog) g (m * 2) [.string ⟨#[]⟩, .string ⟨#[]⟩] 0 W (by simpa using hc) (by simpa using hf) (by simp [Value.oneCell'])
  simp only [Nat.add_zero] at hst
  simp [Builtin.clear_, run_underlying Tryd.underlying29, zeroValue, typeInfo, hi, hz0, Builtin.zeroCells, Value.cells, List.range_succ, hst]

theorem hdsV_take : ∀ (L : List Lk.Hd) (m : Nat), (hdsV L).take (m * 2) = hdsV (L.take m)
  | [], m => by simp [hdsV]
  | x :: L, 0 => by simp [hdsV]
  | x :: L, m + 1 => by
    have e : (m + 1) * 2 = m * 2 + 2 := by omega
    have ih := hdsV_take L m
    simp only [hdsV] at ih
    simp only [hdsV, List.flatMap_cons, List.take_succ_cons, hdV, e]
    simp [ih]

theorem del_post {W : World} {B g m cap : Nat} {L : List Lk.Hd} {cur : Array Value} {x y : Value} (hBg : B ≤ g) (hL : L.length = m + 1) (hmc : m ≤ cap) (hcm : cap ≤ maxLen) (hcs : cur.size = cap * 2) (HT : cur.toList.take ((m + 1) * 2) = hdsV L)
    (hI : Is W g 44 ((cur.toList.set (m * 2) x).set (m * 2 + 1) y)) :
    W.ownsRow B 44 2 (.slice (some ⟨g, 0, none⟩) m cap) m (hdsV (L.take m)) := by
  refine ⟨by rw [hdsV_len, List.length_take, Nat.min_eq_left (by omega)], .inr ⟨g, cap, _, rfl, hBg, hI, hmc, hcm, by simpa using hcs, ?_⟩⟩
  rw [← hdsV_take, ← HT, List.take_take, Nat.min_eq_left (by omega)]
  rw [List.toList_toArray, List.take_set_of_le (by omega), List.take_set_of_le (by omega)]

set_option maxHeartbeats 1000000 in
set_option maxRecDepth 100000 in
theorem delete_last (g m cap B : Nat) (L : List Lk.Hd) (w : World) (hL : L.length = m + 1) (hm : m ≤ 1000)
    (own : w.ownsRow B 44 2 (.slice (some ⟨g, 0, none⟩) (m + 1) cap) (m + 1) (hdsV L)) :
    Calls Tryd.prog 77 #[.slice (some ⟨g, 0, none⟩) (m + 1) cap, .int .i64 m, .int .i64 ((m : Int) + 1)] w fun e w' =>
      e = .returned (.slice (some ⟨g, 0, none⟩) m cap) ∧ w'.ownsRow B 44 2 (.slice (some ⟨g, 0, none⟩) m cap) m (hdsV (L.take m)) ∧ w.grownBy w' (some g) := by
  obtain ⟨cur, hBg, hg, hn, hcm, hcs, ht⟩ : ∃ cur : Array Value, B ≤ g ∧ w.heap[g]? = some (.cells cur 44 (0, 0)) ∧ m + 1 ≤ cap ∧ cap ≤ maxLen ∧ cur.size = cap * 2 ∧ cur.toList.take ((m + 1) * 2) = hdsV L := by
    rcases own.2 with ⟨h, _⟩ | ⟨_, _, cur, h, h1, h2, h3, h4, h5, h6⟩
    · cases h
    · cases h; exact ⟨cur, h1, h2, h3, h4, h5, h6⟩
  have hI : Is w g 44 cur.toList := by unfold Is; simpa using hg
  have hm0 : 0 ≤ (m : Int) + 1 := by omega
  have hcl := fun c => clear_one g m c w.drew (fun j hj => by
    have := (hI.drew).cell (m * 2 + j)
    rw [this, List.getElem?_eq_getElem (by simp; omega)]; rfl) (fun j _ => (hI.drew).free _)
  have hI2 := (hI.drew.set (m * 2) (.string ⟨#[]⟩)).set (m * 2 + 1) (.string ⟨#[]⟩)
  have hne : ¬ cap = m := by omega
  have hmc : m ≤ cap := by omega
  simp only [World.setCells] at hcl
  have HT := hide ht
  have HI2 := hide hI2
  have HI := hide hI
  clear own hg ht hI2 hI
  by_cases hcap : cap = m + 1
  · subst hcap
    go_enter Tryd.func77, Tryd.ntmps77
    go_wp2_with fail
    go_region
    go_wp2_with fail
    go_ret
    exact ⟨rfl, del_post hBg hL hmc hcm hcs (unhide HT) (unhide HI2), (((Turns.refl g w).drew).set _ _).set _ _⟩
  · go_enter Tryd.func77, Tryd.ntmps77
    go_wp2_with fail
    go_region
    go_wp2_with fail
    go_ret
    exact ⟨rfl, del_post hBg hL hmc hcm hcs (unhide HT) (unhide HI2), (((Turns.refl g w).drew).set _ _).set _ _⟩
end Go.Proofs.YtbkpdapagfjmmaaDoor
