import Derived.Test.YtbkpdapagfjmmaaGreatDoorMSpec15Spec18
/-
  Plain mathematics of the document: how great an event is. Imports nothing of the program.
-/
namespace Go.Proofs.YtbkpdapagfjmmaaGreatDoor.Lk

structure Ev.Ok (v : Ev) : Prop where
  hs : v.hs.length ≤ 6
  st : v.st ≤ 268435455
  n : v.n ≤ 268435455
  k : v.k ≤ 6
  t : v.t.length ≤ 64
theorem exR_len (B : Nat) (s : Bs) : ∀ (n : Nat) (L : List Hd) (p : Nat) (hs L2 : List Hd), exR B s n L p = .ok hs L2 → hs.length ≤ n
  | 0, L, p, hs, L2, h => by
    rw [exR] at h
    split at h
    · cases h; simp
    · cases h
  | n + 1, L, p, hs, L2, h => by
    rw [exR] at h
    split at h
    · cases h; simp
    · cases hp : partR B L s p with
      | bad q => rw [hp] at h; cases h
      | ok hl q =>
        rw [hp] at h
        simp only at h
        cases hx : exR B s n hl.2 q with
        | err a b => rw [hx] at h; cases h
        | ok hs2 L3 =>
          rw [hx] at h
          cases h
          have := exR_len B s n hl.2 q _ _ hx
          simp
          omega
theorem En.frame_ok (e : En) {f : Fr} (hg : Good f.k f.st f.d) : ∀ v ∈ (e.frame f).1, v.Ok := by
  have h1 := hg.st28
  have h2 := numOf_le f.d
  have h3 := hg.len
  intro v
  unfold En.frame
  split
  · unfold En.headF
    split
    · simp
    · split
      · simp
      · rename_i hs L hx
        have := exR_len _ _ _ _ _ _ _ hx
        split
        · simp
        · intro hv
          simp at hv
          subst hv
          exact ⟨this, h1, by simp, by simp, by simp⟩
  · split
    · unfold En.pieceF
      split
      · simp
      · split
        · simp
        · split
          · simp
          · split
            · intro hv
              rcases List.mem_append.1 hv with hv | hv
              · split at hv
                · simp at hv
                  subst hv
                  exact ⟨by simp, h1, by simp, by simp, h3⟩
                · cases hv
              · split at hv
                · simp at hv
                  subst hv
                  exact ⟨by simp, h1, by simp, by simp, by simp⟩
                · cases hv
            · simp
    · split
      · unfold En.resetF
        split
        · split
          · simp
          · intro hv
            simp at hv
            subst hv
            exact ⟨by simp, h1, h2, by simp, by simp⟩
        · split
          · simp
          · split
            · intro hv
              simp at hv
              subst hv
              exact ⟨by simp, h1, h2, by simp, by simp⟩
            · simp
      · split
        · simp
        · split
          · simp
          · split
            · intro hv
              simp at hv
              subst hv
              exact ⟨by simp, by simp, by simp, by simp, h3⟩
            · intro hv
              simp at hv
              subst hv
              exact ⟨by simp, by simp, h2, by simp, by simp⟩
theorem En.run_ok : ∀ (l : List Fr) (e : En), (∀ f ∈ l, Good f.k f.st f.d) → ∀ v ∈ (e.run l).1, v.Ok
  | [], e, _ => by simp [En.run]
  | f :: l, e, h => by
    have h1 := e.frame_ok (h f (by simp))
    have h2 := En.run_ok l (e.frame f).2.2 (fun g hg => h g (by simp [hg]))
    intro v hv
    rw [En.run] at hv
    split at hv
    · exact h1 v hv
    · rcases List.mem_append.1 hv with hv | hv
      · exact h1 v hv
      · exact h2 v hv
theorem En.feed_ok (e : En) (b : Bs) : ∀ v ∈ (e.feed b).1, v.Ok := by
  by_cases hd : e.down = 0
  · rw [e.feed_run b hd _ rfl _ rfl]
    exact En.run_ok _ _ (all_packs (e.rest ++ b)).1
  · rw [e.feed_down b hd]
    simp
end Go.Proofs.YtbkpdapagfjmmaaGreatDoor.Lk
