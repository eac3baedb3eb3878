/-
  Plain mathematics of the document: numbers on the wire, frames, what is read. Imports nothing of the program.
-/
namespace Go.Proofs.YtbkpdapagfjmmaaGreatDoor.Lk

abbrev Bs := List UInt8

/-- A number on the wire. -/
def wire (n : Nat) : Bs := if n < 128 then [UInt8.ofNat n] else UInt8.ofNat (128 + n % 128) :: wire (n / 128)
termination_by n
decreasing_by omega

theorem wire_small (n : Nat) (h : n < 128) : wire n = [UInt8.ofNat n] := by rw [wire, if_pos h]
theorem wire_big (n : Nat) (h : ¬ n < 128) : wire n = UInt8.ofNat (128 + n % 128) :: wire (n / 128) := by rw [wire, if_neg h]

theorem wire_len_pos (n : Nat) : 0 < (wire n).length := by
  by_cases h : n < 128
  · rw [wire_small n h]; simp
  · rw [wire_big n h]; simp

theorem wire_len1 (n : Nat) (h : n < 128) : (wire n).length = 1 := by rw [wire_small n h]; rfl
theorem wire_len_le2 (n : Nat) (h : n < 16384) : (wire n).length ≤ 2 := by
  by_cases g : n < 128
  · rw [wire_len1 n g]; omega
  · rw [wire_big n g, List.length_cons, wire_len1 _ (by omega)]; omega
theorem wire_len_le3 (n : Nat) (h : n < 2097152) : (wire n).length ≤ 3 := by
  by_cases g : n < 128
  · rw [wire_len1 n g]; omega
  · rw [wire_big n g, List.length_cons]; have := wire_len_le2 (n / 128) (by omega); omega
theorem wire_len_le4 (n : Nat) (h : n ≤ 268435455) : (wire n).length ≤ 4 := by
  by_cases g : n < 128
  · rw [wire_len1 n g]; omega
  · rw [wire_big n g, List.length_cons]; have := wire_len_le3 (n / 128) (by omega); omega

/-- What reading a number comes to: more bytes must come; a byte that can't stand (behind k good ones); the number, and how many bytes. -/
inductive Rd where
  | short
  | bad (k : Nat)
  | ok (n k : Nat)

/-- The rest of a number, k bytes of which are taken and make acc. -/
def rd (k acc : Nat) : Bs → Rd
  | [] => .short
  | c :: t => if k = 4 ∨ (0 < k ∧ c = 0) then .bad k
    else if c.toNat < 128 then .ok (acc + c.toNat % 128 * 128 ^ k) (k + 1)
    else rd (k + 1) (acc + c.toNat % 128 * 128 ^ k) t

def streamFits (kind stream : Int) : Bool := if kind = 4 then true else if 5 ≤ kind then decide (stream = 0) else decide (0 < stream)
def lengthFits (kind n : Int) : Bool :=
  if kind = 1 then decide (1 ≤ n ∧ n ≤ 16) else if kind = 2 then decide (n ≤ 16) else if kind = 3 ∨ kind = 4 ∨ kind = 7 then decide (1 ≤ n ∧ n ≤ 4)
  else if kind = 5 ∨ kind = 6 then decide (n = 8) else true
def numberWhole (l : Bs) : Bool := match rd 0 0 l with
  | .ok _ k => decide (k = l.length)
  | _ => false
def payloadFits (kind : Int) (l : Bs) : Bool := if kind = 3 ∨ kind = 4 ∨ kind = 7 then numberWhole l else true

def kindErr (kind : Int) : Int := if kind < 0 ∨ 7 < kind then 3 else 0
def streamErr (kind stream : Int) : Int := if streamFits kind stream = false then 4 else 0
def lengthErr (kind n : Int) : Int := if 64 < n then 5 else if lengthFits kind n = false then 6 else 0
def payloadErr (kind : Int) (l : Bs) : Int := if payloadFits kind l = false then 6 else 0

/-- The error that Pack has (0: none). -/
def packErr (kind stream : Int) (data : Bs) : Int :=
  if kind < 0 ∨ 7 < kind then 3
  else if stream < 0 ∨ 268435455 < stream then 2
  else if streamFits kind stream = false then 4
  else if 64 < data.length then 5
  else if lengthFits kind data.length = false then 6
  else if payloadFits kind data = false then 6
  else 0

/-- The bytes that Pack answers where it has no error. -/
def packed (kind stream : Int) (data : Bs) : Bs := UInt8.ofNat kind.toNat :: (wire stream.toNat ++ wire data.length ++ data)

/-- What is at the beginning of bytes: nothing whole; an error; a frame, and of how many bytes. -/
inductive Nx where
  | more
  | err (e : Nat)
  | frame (kind stream : Nat) (data : Bs) (n : Nat)

def nx : Bs → Nx
  | [] => .more
  | c :: t =>
    if 7 < c.toNat then .err 3
    else match rd 0 0 t with
      | .bad _ => .err 2
      | .short => .more
      | .ok st a =>
        if streamFits c.toNat st = false then .err 4
        else match rd 0 0 (t.drop a) with
          | .bad _ => .err 2
          | .short => .more
          | .ok n b =>
            if 64 < n then .err 5
            else if lengthFits c.toNat n = false then .err 6
            else if t.length < a + b + n then .more
            else if payloadFits c.toNat ((t.drop (a + b)).take n) = false then .err 6
            else .frame c.toNat st ((t.drop (a + b)).take n) (1 + a + b + n)

/-- What a cursor's number answers, and where the cursor then is. -/
def Rd.val : Rd → Int | .ok n _ => n | _ => 0
def Rd.good : Rd → Bool | .ok _ _ => true | _ => false
def Rd.at (p size : Nat) : Rd → Nat | .ok _ k => p + k | .bad k => p + k | .short => size

/- small facts on rd -/
theorem rd_nil (k acc : Nat) : rd k acc [] = .short := rfl
theorem rd_bad (k acc : Nat) (c : UInt8) (t : Bs) (h : k = 4 ∨ (0 < k ∧ c = 0)) : rd k acc (c :: t) = .bad k := by rw [rd, if_pos h]
theorem rd_last (k acc : Nat) (c : UInt8) (t : Bs) (h : ¬ (k = 4 ∨ (0 < k ∧ c = 0))) (hc : c.toNat < 128) : rd k acc (c :: t) = .ok (acc + c.toNat % 128 * 128 ^ k) (k + 1) := by rw [rd, if_neg h, if_pos hc]
theorem rd_next (k acc : Nat) (c : UInt8) (t : Bs) (h : ¬ (k = 4 ∨ (0 < k ∧ c = 0))) (hc : ¬ c.toNat < 128) : rd k acc (c :: t) = rd (k + 1) (acc + c.toNat % 128 * 128 ^ k) t := by rw [rd, if_neg h, if_neg hc]

theorem rd_ok_bounds : ∀ (l : Bs) (k acc n j : Nat), rd k acc l = .ok n j → k < j ∧ j ≤ k + l.length
  | [], k, acc, n, j, h => by simp [rd] at h
  | c :: t, k, acc, n, j, h => by
    rw [rd] at h
    split at h
    · cases h
    · split at h
      · cases h; simp only [List.length_cons]; omega
      · have := rd_ok_bounds t _ _ _ _ h; simp only [List.length_cons]; omega

theorem rd_bad_bounds : ∀ (l : Bs) (k acc j : Nat), rd k acc l = .bad j → k ≤ j ∧ j < k + l.length
  | [], k, acc, j, h => by simp [rd] at h
  | c :: t, k, acc, j, h => by
    rw [rd] at h
    split at h
    · cases h; simp only [List.length_cons]; omega
    · split at h
      · cases h
      · have := rd_bad_bounds t _ _ _ h; simp only [List.length_cons]; omega

theorem rd_ok_le4 : ∀ (l : Bs) (k acc n j : Nat), rd k acc l = .ok n j → j ≤ 4 ∨ 4 < k
  | [], k, acc, n, j, h => by simp [rd] at h
  | c :: t, k, acc, n, j, h => by
    rw [rd] at h
    split at h
    · cases h
    · rename_i g
      split at h
      · cases h; omega
      · have := rd_ok_le4 t _ _ _ _ h; omega

end Go.Proofs.YtbkpdapagfjmmaaGreatDoor.Lk

/-
  Plain mathematics: all that is read of bytes, piece by piece.
-/
namespace Go.Proofs.YtbkpdapagfjmmaaGreatDoor.Lk
set_option linter.unusedVariables false

/-- A frame. -/
structure Fr where
  k : Nat
  st : Nat
  d : Bs

theorem rd_short_len : ∀ (l : Bs) (k acc : Nat), k ≤ 4 → rd k acc l = .short → k + l.length ≤ 4
  | [], k, acc, hk, _ => by simpa using hk
  | c :: t, k, acc, hk, h => by
    rw [rd] at h
    split at h
    · cases h
    · rename_i g
      split at h
      · cases h
      · have := rd_short_len t (k + 1) _ (by omega) h
        simp only [List.length_cons]
        omega

theorem nx_frame_bounds {l d : Bs} {k st n : Nat} (h : nx l = .frame k st d n) : 3 ≤ n ∧ n ≤ l.length ∧ d.length ≤ 64 := by
  cases l with
  | nil => cases h
  | cons c t =>
    rw [nx] at h
    split at h
    · cases h
    · split at h
      · cases h
      · cases h
      · rename_i st' a hr1
        split at h
        · cases h
        · split at h
          · cases h
          · cases h
          · rename_i n' b hr2
            split at h
            · cases h
            · split at h
              · cases h
              · split at h
                · cases h
                · split at h
                  · cases h
                  · cases h
                    have h1 := rd_ok_bounds _ _ _ _ _ hr1
                    have h2 := rd_ok_bounds _ _ _ _ _ hr2
                    simp only [List.length_take, List.length_drop, List.length_cons] at *
                    omega

theorem nx_more_len {l : Bs} (h : nx l = .more) : l.length ≤ 72 := by
  cases l with
  | nil => simp
  | cons c t =>
    rw [nx] at h
    split at h
    · cases h
    · split at h
      · cases h
      · rename_i hr1
        have := rd_short_len _ 0 0 (by omega) hr1
        simp only [List.length_cons]
        omega
      · rename_i st' a hr1
        have h1 := rd_ok_le4 _ _ _ _ _ hr1
        split at h
        · cases h
        · split at h
          · cases h
          · rename_i hr2
            have := rd_short_len _ 0 0 (by omega) hr2
            simp only [List.length_cons, List.length_drop] at *
            omega
          · rename_i n' b hr2
            have h2 := rd_ok_le4 _ _ _ _ _ hr2
            split at h
            · cases h
            · split at h
              · cases h
              · split at h
                · simp only [List.length_cons]
                  omega
                · split at h <;> cases h

/-- All frames that are whole; the error; what is left (behind an error: nothing). -/
def all (l : Bs) : List Fr × Nat × Bs :=
  match h : nx l with
  | .more => ([], 0, l)
  | .err e => ([], e, [])
  | .frame k st d n => (⟨k, st, d⟩ :: (all (l.drop n)).1, (all (l.drop n)).2)
termination_by l.length
decreasing_by all_goals (have := nx_frame_bounds h; simp only [List.length_drop]; omega)

theorem all_more {l : Bs} (h : nx l = .more) : all l = ([], 0, l) := by
  rw [all]; split <;> simp_all
theorem all_err {l : Bs} {e : Nat} (h : nx l = .err e) : all l = ([], e, []) := by
  rw [all]; split <;> simp_all
theorem all_frame {l d : Bs} {k st n : Nat} (h : nx l = .frame k st d n) : all l = (⟨k, st, d⟩ :: (all (l.drop n)).1, (all (l.drop n)).2) := by
  rw [all]; split <;> simp_all

theorem nx_err_pos {l : Bs} {e : Nat} (h : nx l = .err e) : e ≠ 0 := by
  cases l with
  | nil => cases h
  | cons c t =>
    rw [nx] at h
    split at h
    · cases h; omega
    · split at h
      · cases h; omega
      · cases h
      · split at h
        · cases h; omega
        · split at h
          · cases h; omega
          · cases h
          · split at h
            · cases h; omega
            · split at h
              · cases h; omega
              · split at h
                · cases h
                · split at h <;> cases h
                  omega

end Go.Proofs.YtbkpdapagfjmmaaGreatDoor.Lk

/-
  Plain mathematics: what is packed is read as that frame; a beginning of it as nothing yet.
-/
namespace Go.Proofs.YtbkpdapagfjmmaaGreatDoor.Lk

theorem ofNat_small (n : Nat) (h : n < 256) : (UInt8.ofNat n).toNat = n := by
  simp; omega

theorem ofNat_ne (n : Nat) (h : n < 256) (h0 : n ≠ 0) : ¬ UInt8.ofNat n = 0 := by
  intro e
  have := congrArg UInt8.toNat e
  rw [ofNat_small n h] at this
  exact h0 (by simpa using this)

theorem pow4 {k : Nat} (h : k ≤ 3) : k = 0 ∨ k = 1 ∨ k = 2 ∨ k = 3 := by omega

theorem rd_wire : ∀ (m k acc : Nat) (rest : Bs), k ≤ 3 → m < 128 ^ (4 - k) → (k = 0 ∨ m ≠ 0) → rd k acc (wire m ++ rest) = .ok (acc + m * 128 ^ k) (k + (wire m).length) := by
  intro m
  induction m using Nat.strongRecOn with
  | _ m ih =>
    intro k acc rest hk hm h0
    by_cases hs : m < 128
    · rw [wire_small m hs]
      have e := ofNat_small m (by omega)
      rw [List.cons_append, List.nil_append, rd, if_neg, if_pos (by omega), e]
      · rw [Nat.mod_eq_of_lt hs]; simp
      · rintro (h | ⟨h, h'⟩)
        · omega
        · exact ofNat_ne m (by omega) (by omega) h'
    · rw [wire_big m hs]
      have e := ofNat_small (128 + m % 128) (by omega)
      have hk2 : k ≠ 3 := by
        rintro rfl
        simp at hm
        omega
      rw [List.cons_append, rd, if_neg, if_neg (by omega), e]
      · have hd : m / 128 < 128 ^ (4 - (k + 1)) := by
          rcases (by omega : k = 0 ∨ k = 1 ∨ k = 2) with rfl | rfl | rfl <;> simp at hm ⊢ <;> omega
        rw [ih (m / 128) (by omega) (k + 1) _ rest (by omega) hd (Or.inr (by omega))]
        have e2 : (128 + m % 128) % 128 = m % 128 := by omega
        rw [e2]
        have e3 : m * 128 ^ k = m % 128 * 128 ^ k + m / 128 * 128 ^ (k + 1) := by
          rw [Nat.pow_succ, Nat.mul_comm (128 ^ k) 128, ← Nat.mul_assoc, ← Nat.add_mul]
          congr 1
          omega
        simp only [List.length_cons]
        congr 1
        · omega
        · omega
      · rintro (h | ⟨h, h'⟩)
        · omega
        · exact ofNat_ne (128 + m % 128) (by omega) (by omega) h'

theorem rd_wire0 (m : Nat) (rest : Bs) (h : m ≤ 268435455) : rd 0 0 (wire m ++ rest) = .ok m (wire m).length := by
  have := rd_wire m 0 0 rest (by omega) (by simp; omega) (Or.inl rfl)
  simpa using this

theorem rd_part : ∀ (m k acc j : Nat), k ≤ 3 → m < 128 ^ (4 - k) → j < (wire m).length → rd k acc ((wire m).take j) = .short := by
  intro m
  induction m using Nat.strongRecOn with
  | _ m ih =>
    intro k acc j hk hm hj
    cases j with
    | zero => rfl
    | succ j =>
      by_cases hs : m < 128
      · rw [wire_len1 m hs] at hj; omega
      · rw [wire_big m hs] at hj ⊢
        have e := ofNat_small (128 + m % 128) (by omega)
        have hk2 : k ≠ 3 := by
          rintro rfl
          simp at hm
          omega
        simp only [List.length_cons] at hj
        rw [List.take_succ_cons, rd, if_neg, if_neg (by omega)]
        · have hd : m / 128 < 128 ^ (4 - (k + 1)) := by
            rcases (by omega : k = 0 ∨ k = 1 ∨ k = 2) with rfl | rfl | rfl <;> simp at hm ⊢ <;> omega
          exact ih (m / 128) (by omega) (k + 1) _ j (by omega) hd (by omega)
        · rintro (h | ⟨h, h'⟩)
          · omega
          · exact ofNat_ne (128 + m % 128) (by omega) (by omega) h'

/-- What a frame must be to be packed. -/
structure Good (k st : Nat) (d : Bs) : Prop where
  k7 : k ≤ 7
  st28 : st ≤ 268435455
  len : d.length ≤ 64
  stream : streamFits k st = true
  length : lengthFits k d.length = true
  payload : payloadFits k d = true

theorem packErr_good {k st : Nat} {d : Bs} (h : Good k st d) : packErr k st d = 0 := by
  obtain ⟨h1, h2, h3, h4, h5, h6⟩ := h
  unfold packErr
  rw [if_neg (by omega), if_neg (by omega), if_neg (by rw [h4]; simp), if_neg (by omega), if_neg (by rw [h5]; simp), if_neg (by rw [h6]; simp)]

theorem nx_packed {k st : Nat} {d : Bs} (h : Good k st d) (rest : Bs) : nx (packed k st d ++ rest) = .frame k st d (packed k st d).length := by
  obtain ⟨h1, h2, h3, h4, h5, h6⟩ := h
  have hk := ofNat_small k (by omega)
  have e : packed k st d ++ rest = UInt8.ofNat k :: (wire st ++ (wire d.length ++ (d ++ rest))) := by simp [packed]
  have l : (packed k st d).length = 1 + (wire st).length + (wire d.length).length + d.length := by simp [packed]; omega
  have r1 := rd_wire0 st (wire d.length ++ (d ++ rest)) h2
  have r2 := rd_wire0 d.length (d ++ rest) (by omega)
  have hd1 : (wire st ++ (wire d.length ++ (d ++ rest))).drop (wire st).length = wire d.length ++ (d ++ rest) := List.drop_left
  have hd2 : ((wire st ++ (wire d.length ++ (d ++ rest))).drop ((wire st).length + (wire d.length).length)).take d.length = d := by
    rw [← List.drop_drop, hd1, List.drop_left, List.take_left]
  rw [e, l, nx, if_neg (by omega), r1, hk]
  simp only [h4, hd1, r2, hd2, h5, h6, Bool.true_eq_false, if_false]
  rw [if_neg (by omega), if_neg (by simp; omega)]

theorem nx_part {k st : Nat} {d : Bs} (h : Good k st d) (n : Nat) (hn : n < (packed k st d).length) : nx ((packed k st d).take n) = .more := by
  obtain ⟨h1, h2, h3, h4, h5, h6⟩ := h
  have hk := ofNat_small k (by omega)
  have e : packed k st d = UInt8.ofNat k :: (wire st ++ (wire d.length ++ d)) := by simp [packed]
  rw [e] at hn ⊢
  cases n with
  | zero => rfl
  | succ n =>
    simp only [List.length_cons, List.length_append] at hn
    rw [List.take_succ_cons, nx, if_neg (by omega)]
    by_cases c1 : n < (wire st).length
    · have r1 : rd 0 0 ((wire st ++ (wire d.length ++ d)).take n) = .short := by
        rw [List.take_append_of_le_length (by omega)]
        exact rd_part st 0 0 n (by omega) (by simp; omega) c1
      rw [r1]
    · have t1 : (wire st ++ (wire d.length ++ d)).take n = wire st ++ (wire d.length ++ d).take (n - (wire st).length) := by
        rw [List.take_append, List.take_of_length_le (by omega)]
      have r1 := rd_wire0 st ((wire d.length ++ d).take (n - (wire st).length)) h2
      rw [t1, r1, hk]
      simp only [h4, Bool.true_eq_false, if_false, List.drop_left]
      by_cases c2 : n - (wire st).length < (wire d.length).length
      · have r2 : rd 0 0 ((wire d.length ++ d).take (n - (wire st).length)) = .short := by
          rw [List.take_append_of_le_length (by omega)]
          exact rd_part d.length 0 0 _ (by omega) (by simp; omega) c2
        rw [r2]
      · have t2 : (wire d.length ++ d).take (n - (wire st).length) = wire d.length ++ d.take (n - (wire st).length - (wire d.length).length) := by
          rw [List.take_append, List.take_of_length_le (by omega)]
        have r2 := rd_wire0 d.length (d.take (n - (wire st).length - (wire d.length).length)) (by omega)
        rw [t2, r2]
        simp only [h5, Bool.true_eq_false, if_false]
        rw [if_neg (by omega), if_pos (by simp; omega)]

theorem all_nil : all [] = ([], 0, []) := all_more rfl

theorem all_packed {k st : Nat} {d : Bs} (h : Good k st d) (rest : Bs) : all (packed k st d ++ rest) = (⟨k, st, d⟩ :: (all rest).1, (all rest).2) := by
  rw [all_frame (nx_packed h rest), List.drop_left]

theorem all_twice {k st : Nat} {d : Bs} (h : Good k st d) : all (packed k st d ++ packed k st d) = ([⟨k, st, d⟩, ⟨k, st, d⟩], 0, []) := by
  have e : packed k st d ++ packed k st d = packed k st d ++ (packed k st d ++ []) := by simp
  rw [e, all_packed h, all_packed h, all_nil]

end Go.Proofs.YtbkpdapagfjmmaaGreatDoor.Lk
