/-
  Plain mathematics: all that is read of bytes, piece by piece.
-/
import Derived.Test.YtbkpdapagfjmmaaGreatDoorSpec
namespace Go.Proofs.YtbkpdapagfjmmaaGreatDoor.Lk
set_option linter.unusedVariables false

/-- A frame. -/
structure Fr where
  k : Nat
  st : Nat
  d : Bs

theorem rd_short_len : ∀ (l : Bs) (k acc : Nat), k ≤ 4 → rd k acc l = .short → k + l.length ≤ 4
  | [], k, acc, hk, _ => by simpa using hk
  | c :: t, k, acc, hk, h => by
    rw [rd] at h
    split at h
    · cases h
    · rename_i g
      split at h
      · cases h
      · have := rd_short_len t (k + 1) _ (by omega) h
        simp only [List.length_cons]
        omega

theorem nx_frame_bounds {l d : Bs} {k st n : Nat} (h : nx l = .frame k st d n) : 3 ≤ n ∧ n ≤ l.length ∧ d.length ≤ 64 := by
  cases l with
  | nil => cases h
  | cons c t =>
    rw [nx] at h
    split at h
    · cases h
    · split at h
      · cases h
      · cases h
      · rename_i st' a hr1
        split at h
        · cases h
        · split at h
          · cases h
          · cases h
          · rename_i n' b hr2
            split at h
            · cases h
            · split at h
              · cases h
              · split at h
                · cases h
                · split at h
                  · cases h
                  · cases h
                    have h1 := rd_ok_bounds _ _ _ _ _ hr1
                    have h2 := rd_ok_bounds _ _ _ _ _ hr2
                    simp only [List.length_take, List.length_drop, List.length_cons] at *
                    omega

theorem nx_more_len {l : Bs} (h : nx l = .more) : l.length ≤ 72 := by
  cases l with
  | nil => simp
  | cons c t =>
    rw [nx] at h
    split at h
    · cases h
    · split at h
      · cases h
      · rename_i hr1
        have := rd_short_len _ 0 0 (by omega) hr1
        simp only [List.length_cons]
        omega
      · rename_i st' a hr1
        have h1 := rd_ok_le4 _ _ _ _ _ hr1
        split at h
        · cases h
        · split at h
          · cases h
          · rename_i hr2
            have := rd_short_len _ 0 0 (by omega) hr2
            simp only [List.length_cons, List.length_drop] at *
            omega
          · rename_i n' b hr2
            have h2 := rd_ok_le4 _ _ _ _ _ hr2
            split at h
            · cases h
            · split at h
              · cases h
              · split at h
                · simp only [List.length_cons]
                  omega
                · split at h <;> cases h

/-- All frames that are whole; the error; what is left (behind an error: nothing). -/
def all (l : Bs) : List Fr × Nat × Bs :=
  match h : nx l with
  | .more => ([], 0, l)
  | .err e => ([], e, [])
  | .frame k st d n => (⟨k, st, d⟩ :: (all (l.drop n)).1, (all (l.drop n)).2)
termination_by l.length
decreasing_by all_goals (have := nx_frame_bounds h; simp only [List.length_drop]; omega)

theorem all_more {l : Bs} (h : nx l = .more) : all l = ([], 0, l) := by
  rw [all]; split <;> simp_all
theorem all_err {l : Bs} {e : Nat} (h : nx l = .err e) : all l = ([], e, []) := by
  rw [all]; split <;> simp_all
theorem all_frame {l d : Bs} {k st n : Nat} (h : nx l = .frame k st d n) : all l = (⟨k, st, d⟩ :: (all (l.drop n)).1, (all (l.drop n)).2) := by
  rw [all]; split <;> simp_all

theorem nx_err_pos {l : Bs} {e : Nat} (h : nx l = .err e) : e ≠ 0 := by
  cases l with
  | nil => cases h
  | cons c t =>
    rw [nx] at h
    split at h
    · cases h; omega
    · split at h
      · cases h; omega
      · cases h
      · split at h
        · cases h; omega
        · split at h
          · cases h; omega
          · cases h
          · split at h
            · cases h; omega
            · split at h
              · cases h; omega
              · split at h
                · cases h
                · split at h <;> cases h
                  omega

end Go.Proofs.YtbkpdapagfjmmaaGreatDoor.Lk
