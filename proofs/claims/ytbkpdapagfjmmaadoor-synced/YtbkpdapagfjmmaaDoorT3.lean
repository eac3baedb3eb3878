/-
  Walks: a row of headers is cloned; Entries.
-/
import Derived.Test.YtbkpdapagfjmmaaDoorT2
import Derived.Lib.SliceRun
namespace Go.Proofs.YtbkpdapagfjmmaaDoor
open Go.RowKit

theorem oneCell_hds (L : List Lk.Hd) : ∀ u ∈ hdsV L, u.oneCell' = true := by
  intro u hu
  simp only [hdsV, List.mem_flatMap, hdV] at hu
  obtain ⟨x, _, hx⟩ := hu
  simp at hx
  rcases hx with rfl | rfl <;> rfl

/-- The cells of a row, for an append. -/
theorem row_cells {w : World} {B : Nat} {T : TypeId} {g n cap : Nat} {xs : List Value} (h : w.ownsRow B T 2 (.slice (some ⟨g, 0, none⟩) n cap) n xs) : ∀ j u, xs[j]? = some u → w.cell? ((⟨g, 0, none⟩ : Addr).add j) = some u := by
  intro j u hu
  rcases h.2 with ⟨h, _⟩ | ⟨_, _, cur, h, h1, h2, h3, h4, h5, h6⟩
  · cases h
  · cases h
    have hplain : (⟨g, 0, none⟩ : Addr).add j = ⟨g, j, none⟩ := by unfold Addr.add; split <;> simp_all
    have hI : Is w g T cur.toList := by unfold Is; simpa using h2
    rw [hplain, hI.cell j]
    rw [← h6] at hu
    rw [List.getElem?_take] at hu
    split at hu
    · exact hu
    · cases hu

set_option maxHeartbeats 1000000 in
set_option maxRecDepth 100000 in
theorem clone_hds (B : Nat) (v : Value) (L : List Lk.Hd) (w : World) (hl : L.length ≤ 1000) (own : w.ownsRow B 44 2 v L.length (hdsV L)) :
    Calls Tryd.prog 20 #[v] w fun e w' =>
      ∃ v', e = .returned v' ∧ w'.ownsRow w.heap.size 44 2 v' L.length (hdsV L) ∧ Below w.heap.size w w' := by
  obtain ⟨i, hi, hz0, hz1, hz2⟩ := info_parts info_hd
  rcases owned_hds own with ⟨hL, rfl⟩ | ⟨g, cap, rfl, _, hg, hcap, hcells⟩
  · subst hL
    have hq := Go.Lib.run_eql_slice_nil (P := Tryd.prog) w 29 44 none 0 0 0 0 Tryd.underlying29
    simp only [Option.isNone] at hq
    go_enter Tryd.func20, Tryd.ntmps20
    go_wp2_with fail
    go_ret
    exact ⟨_, rfl, World.ownsRow_nil _ _ _ _, Below.refl _ _⟩
  · have hown : (w.alloc (.cells #[] 44)).ownsRow w.heap.size 44 2 (.slice (some ⟨w.heap.size, 0, none⟩) 0 0) 0 [] :=
      ⟨rfl, .inr ⟨w.heap.size, 0, #[], rfl, Nat.le_refl _, heap_alloc_new w _, Nat.le_refl _, Nat.zero_le _, rfl, rfl⟩⟩
    have hq := Go.Lib.run_eql_slice_nil (P := Tryd.prog) w 29 44 (some ⟨g, 0, none⟩) L.length cap 0 0 Tryd.underlying29
    simp only [Option.isNone] at hq
    have HC := hide hcells
    clear hcells
    go_enter Tryd.func20, Tryd.ntmps20
    go_wp2_with (at_builtin; refine wpList_append_own _ rfl _ _ 29 rfl w.heap.size 44 i _ 2 32 Tryd.underlying29 hi hz0 hz1 hz2 rfl (by decide) _ 0 [] rfl hown ⟨g, 0, none⟩ L.length cap (hdsV L) rfl (hdsV_len L) ?hnews (oneCell_hds L) ?h63 ?hby ?hba ?_)
    case hnews => exact row_cells (own.alloc _)
    case h63 => unfold maxLen; omega
    case hby => omega
    case hba => simp
    intro v' w' ho' hg' hn'
    go_wp2_with fail
    go_ret
    refine ⟨_, rfl, by simpa using ho', ?_⟩
    exact ((Below.refl w.heap.size w).alloc (Nat.le_refl _) _).grown hg' (by simp) (fun k hk => by simp [Value.ownBlock] at hk; omega)
end Go.Proofs.YtbkpdapagfjmmaaDoor
