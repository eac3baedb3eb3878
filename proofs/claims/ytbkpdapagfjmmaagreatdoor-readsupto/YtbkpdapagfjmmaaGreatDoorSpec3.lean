/-
  Plain mathematics: what is packed is read as that frame; a beginning of it as nothing yet.
-/
import Derived.Test.YtbkpdapagfjmmaaGreatDoorSpec2
namespace Go.Proofs.YtbkpdapagfjmmaaGreatDoor.Lk

theorem ofNat_small (n : Nat) (h : n < 256) : (UInt8.ofNat n).toNat = n := by
  simp; omega

theorem ofNat_ne (n : Nat) (h : n < 256) (h0 : n ≠ 0) : ¬ UInt8.ofNat n = 0 := by
  intro e
  have := congrArg UInt8.toNat e
  rw [ofNat_small n h] at this
  exact h0 (by simpa using this)

theorem pow4 {k : Nat} (h : k ≤ 3) : k = 0 ∨ k = 1 ∨ k = 2 ∨ k = 3 := by omega

theorem rd_wire : ∀ (m k acc : Nat) (rest : Bs), k ≤ 3 → m < 128 ^ (4 - k) → (k = 0 ∨ m ≠ 0) → rd k acc (wire m ++ rest) = .ok (acc + m * 128 ^ k) (k + (wire m).length) := by
  intro m
  induction m using Nat.strongRecOn with
  | _ m ih =>
    intro k acc rest hk hm h0
    by_cases hs : m < 128
    · rw [wire_small m hs]
      have e := ofNat_small m (by omega)
      rw [List.cons_append, List.nil_append, rd, if_neg, if_pos (by omega), e]
      · rw [Nat.mod_eq_of_lt hs]; simp
      · rintro (h | ⟨h, h'⟩)
        · omega
        · exact ofNat_ne m (by omega) (by omega) h'
    · rw [wire_big m hs]
      have e := ofNat_small (128 + m % 128) (by omega)
      have hk2 : k ≠ 3 := by
        rintro rfl
        simp at hm
        omega
      rw [List.cons_append, rd, if_neg, if_neg (by omega), e]
      · have hd : m / 128 < 128 ^ (4 - (k + 1)) := by
          rcases (by omega : k = 0 ∨ k = 1 ∨ k = 2) with rfl | rfl | rfl <;> simp at hm ⊢ <;> omega
        rw [ih (m / 128) (by omega) (k + 1) _ rest (by omega) hd (Or.inr (by omega))]
        have e2 : (128 + m % 128) % 128 = m % 128 := by omega
        rw [e2]
        have e3 : m * 128 ^ k = m % 128 * 128 ^ k + m / 128 * 128 ^ (k + 1) := by
          rw [Nat.pow_succ, Nat.mul_comm (128 ^ k) 128, ← Nat.mul_assoc, ← Nat.add_mul]
          congr 1
          omega
        simp only [List.length_cons]
        congr 1
        · omega
        · omega
      · rintro (h | ⟨h, h'⟩)
        · omega
        · exact ofNat_ne (128 + m % 128) (by omega) (by omega) h'

theorem rd_wire0 (m : Nat) (rest : Bs) (h : m ≤ 268435455) : rd 0 0 (wire m ++ rest) = .ok m (wire m).length := by
  have := rd_wire m 0 0 rest (by omega) (by simp; omega) (Or.inl rfl)
  simpa using this

theorem rd_part : ∀ (m k acc j : Nat), k ≤ 3 → m < 128 ^ (4 - k) → j < (wire m).length → rd k acc ((wire m).take j) = .short := by
  intro m
  induction m using Nat.strongRecOn with
  | _ m ih =>
    intro k acc j hk hm hj
    cases j with
    | zero => rfl
    | succ j =>
      by_cases hs : m < 128
      · rw [wire_len1 m hs] at hj; omega
      · rw [wire_big m hs] at hj ⊢
        have e := ofNat_small (128 + m % 128) (by omega)
        have hk2 : k ≠ 3 := by
          rintro rfl
          simp at hm
          omega
        simp only [List.length_cons] at hj
        rw [List.take_succ_cons, rd, if_neg, if_neg (by omega)]
        · have hd : m / 128 < 128 ^ (4 - (k + 1)) := by
            rcases (by omega : k = 0 ∨ k = 1 ∨ k = 2) with rfl | rfl | rfl <;> simp at hm ⊢ <;> omega
          exact ih (m / 128) (by omega) (k + 1) _ j (by omega) hd (by omega)
        · rintro (h | ⟨h, h'⟩)
          · omega
          · exact ofNat_ne (128 + m % 128) (by omega) (by omega) h'

/-- What a frame must be to be packed. -/
structure Good (k st : Nat) (d : Bs) : Prop where
  k7 : k ≤ 7
  st28 : st ≤ 268435455
  len : d.length ≤ 64
  stream : streamFits k st = true
  length : lengthFits k d.length = true
  payload : payloadFits k d = true

theorem packErr_good {k st : Nat} {d : Bs} (h : Good k st d) : packErr k st d = 0 := by
  obtain ⟨h1, h2, h3, h4, h5, h6⟩ := h
  unfold packErr
  rw [if_neg (by omega), if_neg (by omega), if_neg (by rw [h4]; simp), if_neg (by omega), if_neg (by rw [h5]; simp), if_neg (by rw [h6]; simp)]

theorem nx_packed {k st : Nat} {d : Bs} (h : Good k st d) (rest : Bs) : nx (packed k st d ++ rest) = .frame k st d (packed k st d).length := by
  obtain ⟨h1, h2, h3, h4, h5, h6⟩ := h
  have hk := ofNat_small k (by omega)
  have e : packed k st d ++ rest = UInt8.ofNat k :: (wire st ++ (wire d.length ++ (d ++ rest))) := by simp [packed]
  have l : (packed k st d).length = 1 + (wire st).length + (wire d.length).length + d.length := by simp [packed]; omega
  have r1 := rd_wire0 st (wire d.length ++ (d ++ rest)) h2
  have r2 := rd_wire0 d.length (d ++ rest) (by omega)
  have hd1 : (wire st ++ (wire d.length ++ (d ++ rest))).drop (wire st).length = wire d.length ++ (d ++ rest) := List.drop_left
  have hd2 : ((wire st ++ (wire d.length ++ (d ++ rest))).drop ((wire st).length + (wire d.length).length)).take d.length = d := by
    rw [← List.drop_drop, hd1, List.drop_left, List.take_left]
  rw [e, l, nx, if_neg (by omega), r1, hk]
  simp only [h4, hd1, r2, hd2, h5, h6, Bool.true_eq_false, if_false]
  rw [if_neg (by omega), if_neg (by simp; omega)]

theorem nx_part {k st : Nat} {d : Bs} (h : Good k st d) (n : Nat) (hn : n < (packed k st d).length) : nx ((packed k st d).take n) = .more := by
  obtain ⟨h1, h2, h3, h4, h5, h6⟩ := h
  have hk := ofNat_small k (by omega)
  have e : packed k st d = UInt8.ofNat k :: (wire st ++ (wire d.length ++ d)) := by simp [packed]
  rw [e] at hn ⊢
  cases n with
  | zero => rfl
  | succ n =>
    simp only [List.length_cons, List.length_append] at hn
    rw [List.take_succ_cons, nx, if_neg (by omega)]
    by_cases c1 : n < (wire st).length
    · have r1 : rd 0 0 ((wire st ++ (wire d.length ++ d)).take n) = .short := by
        rw [List.take_append_of_le_length (by omega)]
        exact rd_part st 0 0 n (by omega) (by simp; omega) c1
      rw [r1]
    · have t1 : (wire st ++ (wire d.length ++ d)).take n = wire st ++ (wire d.length ++ d).take (n - (wire st).length) := by
        rw [List.take_append, List.take_of_length_le (by omega)]
      have r1 := rd_wire0 st ((wire d.length ++ d).take (n - (wire st).length)) h2
      rw [t1, r1, hk]
      simp only [h4, Bool.true_eq_false, if_false, List.drop_left]
      by_cases c2 : n - (wire st).length < (wire d.length).length
      · have r2 : rd 0 0 ((wire d.length ++ d).take (n - (wire st).length)) = .short := by
          rw [List.take_append_of_le_length (by omega)]
          exact rd_part d.length 0 0 _ (by omega) (by simp; omega) c2
        rw [r2]
      · have t2 : (wire d.length ++ d).take (n - (wire st).length) = wire d.length ++ d.take (n - (wire st).length - (wire d.length).length) := by
          rw [List.take_append, List.take_of_length_le (by omega)]
        have r2 := rd_wire0 d.length (d.take (n - (wire st).length - (wire d.length).length)) (by omega)
        rw [t2, r2]
        simp only [h5, Bool.true_eq_false, if_false]
        rw [if_neg (by omega), if_pos (by simp; omega)]

theorem all_nil : all [] = ([], 0, []) := all_more rfl

theorem all_packed {k st : Nat} {d : Bs} (h : Good k st d) (rest : Bs) : all (packed k st d ++ rest) = (⟨k, st, d⟩ :: (all rest).1, (all rest).2) := by
  rw [all_frame (nx_packed h rest), List.drop_left]

theorem all_twice {k st : Nat} {d : Bs} (h : Good k st d) : all (packed k st d ++ packed k st d) = ([⟨k, st, d⟩, ⟨k, st, d⟩], 0, []) := by
  have e : packed k st d ++ packed k st d = packed k st d ++ (packed k st d ++ []) := by simp
  rw [e, all_packed h, all_packed h, all_nil]

end Go.Proofs.YtbkpdapagfjmmaaGreatDoor.Lk
