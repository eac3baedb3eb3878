/-
  Plain mathematics: bytes that come in pieces; frames that are packed again.
-/
import Derived.Test.YtbkpdapagfjmmaaDoorSpec3
namespace Go.Proofs.YtbkpdapagfjmmaaDoor.Lk

theorem rd_bad_append : ∀ (l p : Bs) (k acc j : Nat), rd k acc l = .bad j → rd k acc (l ++ p) = .bad j
  | [], p, k, acc, j, h => by simp [rd] at h
  | c :: t, p, k, acc, j, h => by
    rw [List.cons_append]
    rw [rd] at h ⊢
    split at h
    · rename_i g; rw [if_pos g]; exact h
    · rename_i g
      rw [if_neg g]
      split at h
      · cases h
      · rename_i g2
        rw [if_neg g2]
        exact rd_bad_append t p _ _ _ h

theorem rd_ok_append : ∀ (l p : Bs) (k acc n j : Nat), rd k acc l = .ok n j → rd k acc (l ++ p) = .ok n j
  | [], p, k, acc, n, j, h => by simp [rd] at h
  | c :: t, p, k, acc, n, j, h => by
    rw [List.cons_append]
    rw [rd] at h ⊢
    split at h
    · cases h
    · rename_i g
      rw [if_neg g]
      split at h
      · rename_i g2; rw [if_pos g2]; exact h
      · rename_i g2
        rw [if_neg g2]
        exact rd_ok_append t p _ _ _ _ h

theorem nx_err_append {l : Bs} (p : Bs) {e : Nat} (h : nx l = .err e) : nx (l ++ p) = .err e := by
  cases l with
  | nil => cases h
  | cons c t =>
    rw [List.cons_append]
    rw [nx] at h ⊢
    split at h
    · rename_i g; rw [if_pos g]; exact h
    · rename_i g
      rw [if_neg g]
      split at h
      · rename_i hr; rw [rd_bad_append _ p _ _ _ hr]; exact h
      · cases h
      · rename_i st a hr
        have hab := rd_ok_bounds _ _ _ _ _ hr
        rw [rd_ok_append _ p _ _ _ _ hr]
        simp only
        split at h
        · rename_i g2; rw [if_pos g2]; exact h
        · rename_i g2
          rw [if_neg g2, List.drop_append_of_le_length (by omega)]
          split at h
          · rename_i hr2; rw [rd_bad_append _ p _ _ _ hr2]; exact h
          · cases h
          · rename_i n b hr2
            have hbb := rd_ok_bounds _ _ _ _ _ hr2
            rw [List.length_drop] at hbb
            rw [rd_ok_append _ p _ _ _ _ hr2]
            simp only
            split at h
            · rename_i g3; rw [if_pos g3]; exact h
            · rename_i g3
              rw [if_neg g3]
              split at h
              · rename_i g4; rw [if_pos g4]; exact h
              · rename_i g4
                rw [if_neg g4]
                split at h
                · cases h
                · rename_i g5
                  rw [if_neg (by simp only [List.length_append]; omega), List.drop_append_of_le_length (by omega), List.take_append_of_le_length (by rw [List.length_drop]; omega)]
                  split at h
                  · rename_i g6; rw [if_pos g6]; exact h
                  · cases h

theorem nx_frame_append {l : Bs} (p : Bs) {k st n : Nat} {d : Bs} (h : nx l = .frame k st d n) : nx (l ++ p) = .frame k st d n := by
  cases l with
  | nil => cases h
  | cons c t =>
    rw [List.cons_append]
    rw [nx] at h ⊢
    split at h
    · cases h
    · rename_i g
      rw [if_neg g]
      split at h
      · cases h
      · cases h
      · rename_i st a hr
        have hab := rd_ok_bounds _ _ _ _ _ hr
        rw [rd_ok_append _ p _ _ _ _ hr]
        simp only
        split at h
        · cases h
        · rename_i g2
          rw [if_neg g2, List.drop_append_of_le_length (by omega)]
          split at h
          · cases h
          · cases h
          · rename_i n b hr2
            have hbb := rd_ok_bounds _ _ _ _ _ hr2
            rw [List.length_drop] at hbb
            rw [rd_ok_append _ p _ _ _ _ hr2]
            simp only
            split at h
            · cases h
            · rename_i g3
              rw [if_neg g3]
              split at h
              · cases h
              · rename_i g4
                rw [if_neg g4]
                split at h
                · cases h
                · rename_i g5
                  rw [if_neg (by simp only [List.length_append]; omega), List.drop_append_of_le_length (by omega), List.take_append_of_le_length (by rw [List.length_drop]; omega)]
                  split at h
                  · cases h
                  · rename_i g6; rw [if_neg g6]; exact h

/-- Bytes that come behind others: what is read then. -/
theorem all_append : ∀ (l p : Bs), all (l ++ p) = if (all l).2.1 = 0 then ((all l).1 ++ (all ((all l).2.2 ++ p)).1, (all ((all l).2.2 ++ p)).2) else all l := by
  intro l
  induction h : l.length using Nat.strongRecOn generalizing l with
  | _ n ih =>
    subst h
    intro p
    cases hx : nx l with
    | more => rw [all_more hx]; simp
    | err e =>
      rw [all_err hx, all_err (nx_err_append p hx), if_neg (nx_err_pos hx)]
    | frame k st d n =>
      have hb := nx_frame_bounds hx
      have e := ih (l.drop n).length (by rw [List.length_drop]; omega) (l.drop n) rfl p
      rw [all_frame (nx_frame_append p hx), all_frame hx, List.drop_append_of_le_length (by omega), e]
      by_cases h0 : (all (l.drop n)).2.1 = 0
      · rw [if_pos h0, if_pos h0]; simp
      · rw [if_neg h0, if_neg h0]

/-- A number that is read is written the same. -/
theorem rd_canon : ∀ (l : Bs) (k acc n j : Nat), k ≤ 4 → rd k acc l = .ok n j → ∃ m, n = acc + m * 128 ^ k ∧ wire m = l.take (j - k) ∧ (k = 0 ∨ m ≠ 0) ∧ m < 128 ^ (4 - k)
  | [], k, acc, n, j, _, h => by simp [rd] at h
  | c :: t, k, acc, n, j, hk, h => by
    have hc := c.toNat_lt
    have hof : UInt8.ofNat c.toNat = c := by simp
    rw [rd] at h
    split at h
    · cases h
    · rename_i g
      have hk3 : k ≤ 3 := by omega
      split at h
      · rename_i g2
        cases h
        refine ⟨c.toNat, by rw [Nat.mod_eq_of_lt g2], ?_, ?_, ?_⟩
        · rw [wire_small _ g2, show k + 1 - k = 1 from by omega, hof]; rfl
        · by_cases h0 : k = 0
          · exact .inl h0
          · right
            intro e
            apply g
            exact .inr ⟨by omega, by rw [← hof, e]; rfl⟩
        · rcases pow4 hk3 with rfl | rfl | rfl | rfl <;> simp <;> omega
      · rename_i g2
        obtain ⟨m, h1, h2, h3, h4⟩ := rd_canon t (k + 1) _ n j (by omega) h
        have hj := rd_ok_bounds _ _ _ _ _ h
        have hm : m ≠ 0 := by rcases h3 with h3 | h3 <;> omega
        refine ⟨c.toNat % 128 + 128 * m, ?_, ?_, .inr (by omega), ?_⟩
        · rw [h1, Nat.pow_succ, Nat.add_mul, Nat.add_assoc]
          congr 2
          rw [Nat.mul_comm (128 ^ k) 128, ← Nat.mul_assoc, Nat.mul_comm m 128]
        · rw [wire_big _ (by omega), show j - k = (j - (k + 1)) + 1 from by omega, List.take_succ_cons, ← h2]
          congr 1
          · have : 128 + (c.toNat % 128 + 128 * m) % 128 = c.toNat := by omega
            rw [this, hof]
          · congr 1; omega
        · have hk2 : k ≤ 2 := by
            rcases pow4 hk3 with rfl | rfl | rfl | rfl
            · omega
            · omega
            · omega
            · simp at h4; omega
          rcases (by omega : k = 0 ∨ k = 1 ∨ k = 2) with rfl | rfl | rfl <;> simp at h4 ⊢ <;> omega

theorem rd_canon0 {l : Bs} {n j : Nat} (h : rd 0 0 l = .ok n j) : wire n = l.take j ∧ n ≤ 268435455 := by
  obtain ⟨m, h1, h2, _, h4⟩ := rd_canon l 0 0 n j (by omega) h
  simp at h1 h2 h4
  subst h1
  exact ⟨h2, by omega⟩

/-- A frame that is read is one that is packed, as it was read. -/
theorem nx_good {l : Bs} {k st n : Nat} {d : Bs} (h : nx l = .frame k st d n) : Good k st d ∧ packed k st d = l.take n := by
  cases l with
  | nil => cases h
  | cons c t =>
    rw [nx] at h
    split at h
    · cases h
    · rename_i g
      split at h
      · cases h
      · cases h
      · rename_i st' a hr
        split at h
        · cases h
        · rename_i g2
          split at h
          · cases h
          · cases h
          · rename_i n' b hr2
            split at h
            · cases h
            · rename_i g3
              split at h
              · cases h
              · rename_i g4
                split at h
                · cases h
                · rename_i g5
                  split at h
                  · cases h
                  · rename_i g6
                    cases h
                    have c1 := rd_canon0 hr
                    have c2 := rd_canon0 hr2
                    have b1 := rd_ok_bounds _ _ _ _ _ hr
                    have b2 := rd_ok_bounds _ _ _ _ _ hr2
                    rw [List.length_drop] at b2
                    have hdl : ((t.drop (a + b)).take n').length = n' := by rw [List.length_take, List.length_drop]; omega
                    refine ⟨⟨by omega, c1.2, by omega, by simpa using g2, by rw [hdl]; simpa using g4, by simpa using g6⟩, ?_⟩
                    have hof : UInt8.ofNat c.toNat = c := by simp
                    rw [packed, Int.toNat_natCast, Int.toNat_natCast, hdl, c1.1, c2.1, hof, show 1 + a + b + n' = (a + b + n') + 1 from by omega, List.take_succ_cons]
                    congr 1
                    rw [List.take_add, List.take_add]

def packAll (fs : List Fr) : Bs := fs.flatMap fun f => packed f.k f.st f.d

theorem all_packs : ∀ (l : Bs), (∀ f ∈ (all l).1, Good f.k f.st f.d) ∧ ∃ r, l = packAll (all l).1 ++ r ∧ ((all l).2.1 = 0 → r.length ≤ 72) ∧ ((all l).2.1 ≠ 0 → 0 < r.length) := by
  intro l
  induction h : l.length using Nat.strongRecOn generalizing l with
  | _ n ih =>
    subst h
    cases hx : nx l with
    | more =>
      rw [all_more hx]
      exact ⟨by simp, l, by simp [packAll], fun _ => nx_more_len hx, by simp⟩
    | err e =>
      rw [all_err hx]
      refine ⟨by simp, l, by simp [packAll], fun h => absurd h (nx_err_pos hx), fun _ => ?_⟩
      cases l with
      | nil => cases hx
      | cons c t => simp
    | frame k st d n =>
      have hb := nx_frame_bounds hx
      have hg := nx_good hx
      obtain ⟨i1, r, i2, i3, i4⟩ := ih (l.drop n).length (by rw [List.length_drop]; omega) (l.drop n) rfl
      rw [all_frame hx]
      refine ⟨?_, r, ?_, i3, i4⟩
      · intro f hf
        rcases List.mem_cons.1 hf with rfl | hf
        · exact hg.1
        · exact i1 f hf
      · show l = packAll (_ :: _) ++ r
        rw [packAll, List.flatMap_cons, hg.2, List.append_assoc]
        have := List.take_append_drop n l
        rw [i2] at this
        exact this.symm

end Go.Proofs.YtbkpdapagfjmmaaDoor.Lk
