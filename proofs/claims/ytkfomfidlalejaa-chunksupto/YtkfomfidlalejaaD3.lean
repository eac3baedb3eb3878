/-
  Walks: are the frames the same?
-/
import Derived.Test.YtkfomfidlalejaaD2
namespace Go.Proofs.Ytkfomfidlalejaa
open Go.RowKit

theorem framesV_at (fs : List Lk.Fr) : ∀ (i : Nat) (h : i < fs.length), (framesV fs)[i * 3]? = some (.int .i64 (fs[i].k : Int)) ∧ (framesV fs)[i * 3 + 1]? = some (.int .i64 (fs[i].st : Int)) ∧ (framesV fs)[i * 3 + 2]? = some (.string ⟨fs[i].d.toArray⟩) := by
  induction fs with
  | nil => intro i h; simp at h
  | cons f fs ih =>
    intro i h
    cases i with
    | zero => simp [framesV]
    | succ i =>
      have := ih i (by simpa using h)
      simp only [framesV, List.flatMap_cons, List.getElem_cons_succ] at this ⊢
      have e : (i + 1) * 3 = i * 3 + 3 := by omega
      rw [e]
      simpa using this

theorem framesV_len (fs : List Lk.Fr) : (framesV fs).length = fs.length * 3 := by
  induction fs with
  | nil => rfl
  | cons f fs ih => simp only [framesV, List.flatMap_cons, List.length_append, List.length_cons, List.length_nil] at ih ⊢; omega

/-- What a slice of frames is, for the walk. -/
theorem owned_frames {w : World} {B : Nat} {T : TypeId} {v : Value} {fs : List Lk.Fr} (h : w.ownsRow B T 3 v fs.length (framesV fs)) :
    (fs = [] ∧ v = .slice none 0 0) ∨ ∃ g cap, v = .slice (some ⟨g, 0, none⟩) fs.length cap ∧ B ≤ g ∧ g < w.heap.size ∧ fs.length ≤ cap ∧ ∀ i (h : i < fs.length), w.cell? ⟨g, i * 3, none⟩ = some (.int .i64 (fs[i].k : Int)) ∧ w.cell? ⟨g, i * 3 + 1, none⟩ = some (.int .i64 (fs[i].st : Int)) ∧ w.cell? ⟨g, i * 3 + 2, none⟩ = some (.string ⟨fs[i].d.toArray⟩) := by
  rcases h.2 with ⟨rfl, h0⟩ | ⟨g, cap, cur, rfl, hB, hg, hn, hc, hs, ht⟩
  · exact .inl ⟨List.eq_nil_of_length_eq_zero h0, rfl⟩
  · have hI : Is w g T cur.toList := by unfold Is; simpa using hg
    refine .inr ⟨g, cap, rfl, hB, hI.lt, hn, fun i hi => ?_⟩
    have e := framesV_at fs i hi
    have hc : ∀ j, j < fs.length * 3 → w.cell? ⟨g, j, none⟩ = (framesV fs)[j]? := by
      intro j hj
      rw [hI.cell j, ← ht, List.getElem?_take_of_lt hj]
    rw [hc _ (by omega), hc _ (by omega), hc _ (by omega)]
    exact e

set_option maxHeartbeats 1000000 in
set_option maxRecDepth 100000 in
theorem same_any (w : World) (fs : List Lk.Fr) (Ba Bb : Nat) (va vb : Value) (hl : fs.length ≤ 2 ^ 40) (ha : w.ownsRow Ba 26 3 va fs.length (framesV fs)) (hb : w.ownsRow Bb 29 3 vb fs.length (framesV fs)) :
    Calls Try.prog 42 #[va, vb] w fun e w' => e = .returned (.bool true) ∧ ∃ n, w' = w.drewN n := by
  rcases owned_frames ha with ⟨rfl, rfl⟩ | ⟨g, cap, rfl, _, _, hcap, hca⟩
  · rcases owned_frames hb with ⟨_, rfl⟩ | ⟨g', cap', rfl, _, _, hcap', hcb⟩
    all_goals
      clear ha hb
      go_enter Try.func42, Try.ntmps42
      go_wp2_with fail
      refine wp_loop_rounds 1 ?_
      rw [rounds_succ]
      go_wp2_with fail
      go_ret
      exact ⟨rfl, 0, rfl⟩
  · rcases owned_frames hb with ⟨rfl, rfl⟩ | ⟨g', cap', rfl, _, _, hcap', hcb⟩
    · clear ha hb
      go_enter Try.func42, Try.ntmps42
      go_wp2_with fail
      refine wp_loop_rounds 1 ?_
      rw [rounds_succ]
      go_wp2_with fail
      go_ret
      exact ⟨rfl, 0, rfl⟩
    · clear ha hb
      go_enter Try.func42, Try.ntmps42
      go_wp2_with fail
      go_loopw [5] (fun i wr => ∃ k n : Nat, k ≤ fs.length ∧ i = .int .i64 k ∧ wr = w.drewN n) (fun i _ => fs.length - (intOf i).toNat)
      case atStart => exact ⟨0, 0, Nat.zero_le _, rfl, rfl⟩
      case round =>
        obtain ⟨k, n, hk, rfl, rfl⟩ := hrel
        by_cases hlt : k < fs.length
        · obtain ⟨a0, a1, a2⟩ := hca k hlt
          obtain ⟨b0, b1, b2⟩ := hcb k hlt
          have hlt' : (k : Int) < fs.length := by omega
          generalize fs[k] = f at *
          obtain ⟨fk, fst, fd⟩ := f
          dsimp only at a0 a1 a2 b0 b1 b2
          clear hca hcb
          go_wp2_with fail
          go_quiet (fail)
          go_wp2_with fail
          go_roundw
          case rel => exact ⟨k + 1, _, by omega, by go_num, rfl⟩
          case measure => simp [intOf]; omega
        · have hlt' : ¬ (k : Int) < fs.length := by omega
          clear hca hcb
          go_wp2_with fail
          go_ret
          exact ⟨rfl, _, rfl⟩

end Go.Proofs.Ytkfomfidlalejaa
