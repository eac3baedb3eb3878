/-
  Plain mathematics of the document: numbers on the wire, frames, what is read. Imports nothing of the program.
-/
namespace Go.Proofs.YtbkpdapagfjmmaaGreatDoor.Lk

abbrev Bs := List UInt8

/-- A number on the wire. -/
def wire (n : Nat) : Bs := if n < 128 then [UInt8.ofNat n] else UInt8.ofNat (128 + n % 128) :: wire (n / 128)
termination_by n
decreasing_by omega

theorem wire_small (n : Nat) (h : n < 128) : wire n = [UInt8.ofNat n] := by rw [wire, if_pos h]
theorem wire_big (n : Nat) (h : ¬ n < 128) : wire n = UInt8.ofNat (128 + n % 128) :: wire (n / 128) := by rw [wire, if_neg h]

theorem wire_len_pos (n : Nat) : 0 < (wire n).length := by
  by_cases h : n < 128
  · rw [wire_small n h]; simp
  · rw [wire_big n h]; simp

theorem wire_len1 (n : Nat) (h : n < 128) : (wire n).length = 1 := by rw [wire_small n h]; rfl
theorem wire_len_le2 (n : Nat) (h : n < 16384) : (wire n).length ≤ 2 := by
  by_cases g : n < 128
  · rw [wire_len1 n g]; omega
  · rw [wire_big n g, List.length_cons, wire_len1 _ (by omega)]; omega
theorem wire_len_le3 (n : Nat) (h : n < 2097152) : (wire n).length ≤ 3 := by
  by_cases g : n < 128
  · rw [wire_len1 n g]; omega
  · rw [wire_big n g, List.length_cons]; have := wire_len_le2 (n / 128) (by omega); omega
theorem wire_len_le4 (n : Nat) (h : n ≤ 268435455) : (wire n).length ≤ 4 := by
  by_cases g : n < 128
  · rw [wire_len1 n g]; omega
  · rw [wire_big n g, List.length_cons]; have := wire_len_le3 (n / 128) (by omega); omega

/-- What reading a number comes to: more bytes must come; a byte that can't stand (behind k good ones); the number, and how many bytes. -/
inductive Rd where
  | short
  | bad (k : Nat)
  | ok (n k : Nat)

/-- The rest of a number, k bytes of which are taken and make acc. -/
def rd (k acc : Nat) : Bs → Rd
  | [] => .short
  | c :: t => if k = 4 ∨ (0 < k ∧ c = 0) then .bad k
    else if c.toNat < 128 then .ok (acc + c.toNat % 128 * 128 ^ k) (k + 1)
    else rd (k + 1) (acc + c.toNat % 128 * 128 ^ k) t

def streamFits (kind stream : Int) : Bool := if kind = 4 then true else if 5 ≤ kind then decide (stream = 0) else decide (0 < stream)
def lengthFits (kind n : Int) : Bool :=
  if kind = 1 then decide (1 ≤ n ∧ n ≤ 16) else if kind = 2 then decide (n ≤ 16) else if kind = 3 ∨ kind = 4 ∨ kind = 7 then decide (1 ≤ n ∧ n ≤ 4)
  else if kind = 5 ∨ kind = 6 then decide (n = 8) else true
def numberWhole (l : Bs) : Bool := match rd 0 0 l with
  | .ok _ k => decide (k = l.length)
  | _ => false
def payloadFits (kind : Int) (l : Bs) : Bool := if kind = 3 ∨ kind = 4 ∨ kind = 7 then numberWhole l else true

def kindErr (kind : Int) : Int := if kind < 0 ∨ 7 < kind then 3 else 0
def streamErr (kind stream : Int) : Int := if streamFits kind stream = false then 4 else 0
def lengthErr (kind n : Int) : Int := if 64 < n then 5 else if lengthFits kind n = false then 6 else 0
def payloadErr (kind : Int) (l : Bs) : Int := if payloadFits kind l = false then 6 else 0

/-- The error that Pack has (0: none). -/
def packErr (kind stream : Int) (data : Bs) : Int :=
  if kind < 0 ∨ 7 < kind then 3
  else if stream < 0 ∨ 268435455 < stream then 2
  else if streamFits kind stream = false then 4
  else if 64 < data.length then 5
  else if lengthFits kind data.length = false then 6
  else if payloadFits kind data = false then 6
  else 0

/-- The bytes that Pack answers where it has no error. -/
def packed (kind stream : Int) (data : Bs) : Bs := UInt8.ofNat kind.toNat :: (wire stream.toNat ++ wire data.length ++ data)

/-- What is at the beginning of bytes: nothing whole; an error; a frame, and of how many bytes. -/
inductive Nx where
  | more
  | err (e : Nat)
  | frame (kind stream : Nat) (data : Bs) (n : Nat)

def nx : Bs → Nx
  | [] => .more
  | c :: t =>
    if 7 < c.toNat then .err 3
    else match rd 0 0 t with
      | .bad _ => .err 2
      | .short => .more
      | .ok st a =>
        if streamFits c.toNat st = false then .err 4
        else match rd 0 0 (t.drop a) with
          | .bad _ => .err 2
          | .short => .more
          | .ok n b =>
            if 64 < n then .err 5
            else if lengthFits c.toNat n = false then .err 6
            else if t.length < a + b + n then .more
            else if payloadFits c.toNat ((t.drop (a + b)).take n) = false then .err 6
            else .frame c.toNat st ((t.drop (a + b)).take n) (1 + a + b + n)

/-- What a cursor's number answers, and where the cursor then is. -/
def Rd.val : Rd → Int | .ok n _ => n | _ => 0
def Rd.good : Rd → Bool | .ok _ _ => true | _ => false
def Rd.at (p size : Nat) : Rd → Nat | .ok _ k => p + k | .bad k => p + k | .short => size

/- small facts on rd -/
theorem rd_nil (k acc : Nat) : rd k acc [] = .short := rfl
theorem rd_bad (k acc : Nat) (c : UInt8) (t : Bs) (h : k = 4 ∨ (0 < k ∧ c = 0)) : rd k acc (c :: t) = .bad k := by rw [rd, if_pos h]
theorem rd_last (k acc : Nat) (c : UInt8) (t : Bs) (h : ¬ (k = 4 ∨ (0 < k ∧ c = 0))) (hc : c.toNat < 128) : rd k acc (c :: t) = .ok (acc + c.toNat % 128 * 128 ^ k) (k + 1) := by rw [rd, if_neg h, if_pos hc]
theorem rd_next (k acc : Nat) (c : UInt8) (t : Bs) (h : ¬ (k = 4 ∨ (0 < k ∧ c = 0))) (hc : ¬ c.toNat < 128) : rd k acc (c :: t) = rd (k + 1) (acc + c.toNat % 128 * 128 ^ k) t := by rw [rd, if_neg h, if_neg hc]

theorem rd_ok_bounds : ∀ (l : Bs) (k acc n j : Nat), rd k acc l = .ok n j → k < j ∧ j ≤ k + l.length
  | [], k, acc, n, j, h => by simp [rd] at h
  | c :: t, k, acc, n, j, h => by
    rw [rd] at h
    split at h
    · cases h
    · split at h
      · cases h; simp only [List.length_cons]; omega
      · have := rd_ok_bounds t _ _ _ _ h; simp only [List.length_cons]; omega

theorem rd_bad_bounds : ∀ (l : Bs) (k acc j : Nat), rd k acc l = .bad j → k ≤ j ∧ j < k + l.length
  | [], k, acc, j, h => by simp [rd] at h
  | c :: t, k, acc, j, h => by
    rw [rd] at h
    split at h
    · cases h; simp only [List.length_cons]; omega
    · split at h
      · cases h
      · have := rd_bad_bounds t _ _ _ h; simp only [List.length_cons]; omega

theorem rd_ok_le4 : ∀ (l : Bs) (k acc n j : Nat), rd k acc l = .ok n j → j ≤ 4 ∨ 4 < k
  | [], k, acc, n, j, h => by simp [rd] at h
  | c :: t, k, acc, n, j, h => by
    rw [rd] at h
    split at h
    · cases h
    · rename_i g
      split at h
      · cases h; omega
      · have := rd_ok_le4 t _ _ _ _ h; omega

end Go.Proofs.YtbkpdapagfjmmaaGreatDoor.Lk

/-
  Plain mathematics: all that is read of bytes, piece by piece.
-/
namespace Go.Proofs.YtbkpdapagfjmmaaGreatDoor.Lk
set_option linter.unusedVariables false

/-- A frame. -/
structure Fr where
  k : Nat
  st : Nat
  d : Bs

theorem rd_short_len : ∀ (l : Bs) (k acc : Nat), k ≤ 4 → rd k acc l = .short → k + l.length ≤ 4
  | [], k, acc, hk, _ => by simpa using hk
  | c :: t, k, acc, hk, h => by
    rw [rd] at h
    split at h
    · cases h
    · rename_i g
      split at h
      · cases h
      · have := rd_short_len t (k + 1) _ (by omega) h
        simp only [List.length_cons]
        omega

theorem nx_frame_bounds {l d : Bs} {k st n : Nat} (h : nx l = .frame k st d n) : 3 ≤ n ∧ n ≤ l.length ∧ d.length ≤ 64 := by
  cases l with
  | nil => cases h
  | cons c t =>
    rw [nx] at h
    split at h
    · cases h
    · split at h
      · cases h
      · cases h
      · rename_i st' a hr1
        split at h
        · cases h
        · split at h
          · cases h
          · cases h
          · rename_i n' b hr2
            split at h
            · cases h
            · split at h
              · cases h
              · split at h
                · cases h
                · split at h
                  · cases h
                  · cases h
                    have h1 := rd_ok_bounds _ _ _ _ _ hr1
                    have h2 := rd_ok_bounds _ _ _ _ _ hr2
                    simp only [List.length_take, List.length_drop, List.length_cons] at *
                    omega

theorem nx_more_len {l : Bs} (h : nx l = .more) : l.length ≤ 72 := by
  cases l with
  | nil => simp
  | cons c t =>
    rw [nx] at h
    split at h
    · cases h
    · split at h
      · cases h
      · rename_i hr1
        have := rd_short_len _ 0 0 (by omega) hr1
        simp only [List.length_cons]
        omega
      · rename_i st' a hr1
        have h1 := rd_ok_le4 _ _ _ _ _ hr1
        split at h
        · cases h
        · split at h
          · cases h
          · rename_i hr2
            have := rd_short_len _ 0 0 (by omega) hr2
            simp only [List.length_cons, List.length_drop] at *
            omega
          · rename_i n' b hr2
            have h2 := rd_ok_le4 _ _ _ _ _ hr2
            split at h
            · cases h
            · split at h
              · cases h
              · split at h
                · simp only [List.length_cons]
                  omega
                · split at h <;> cases h

/-- All frames that are whole; the error; what is left (behind an error: nothing). -/
def all (l : Bs) : List Fr × Nat × Bs :=
  match h : nx l with
  | .more => ([], 0, l)
  | .err e => ([], e, [])
  | .frame k st d n => (⟨k, st, d⟩ :: (all (l.drop n)).1, (all (l.drop n)).2)
termination_by l.length
decreasing_by all_goals (have := nx_frame_bounds h; simp only [List.length_drop]; omega)

theorem all_more {l : Bs} (h : nx l = .more) : all l = ([], 0, l) := by
  rw [all]; split <;> simp_all
theorem all_err {l : Bs} {e : Nat} (h : nx l = .err e) : all l = ([], e, []) := by
  rw [all]; split <;> simp_all
theorem all_frame {l d : Bs} {k st n : Nat} (h : nx l = .frame k st d n) : all l = (⟨k, st, d⟩ :: (all (l.drop n)).1, (all (l.drop n)).2) := by
  rw [all]; split <;> simp_all

theorem nx_err_pos {l : Bs} {e : Nat} (h : nx l = .err e) : e ≠ 0 := by
  cases l with
  | nil => cases h
  | cons c t =>
    rw [nx] at h
    split at h
    · cases h; omega
    · split at h
      · cases h; omega
      · cases h
      · split at h
        · cases h; omega
        · split at h
          · cases h; omega
          · cases h
          · split at h
            · cases h; omega
            · split at h
              · cases h; omega
              · split at h
                · cases h
                · split at h <;> cases h
                  omega

end Go.Proofs.YtbkpdapagfjmmaaGreatDoor.Lk

/-
  Plain mathematics: what is packed is read as that frame; a beginning of it as nothing yet.
-/
namespace Go.Proofs.YtbkpdapagfjmmaaGreatDoor.Lk

theorem ofNat_small (n : Nat) (h : n < 256) : (UInt8.ofNat n).toNat = n := by
  simp; omega

theorem ofNat_ne (n : Nat) (h : n < 256) (h0 : n ≠ 0) : ¬ UInt8.ofNat n = 0 := by
  intro e
  have := congrArg UInt8.toNat e
  rw [ofNat_small n h] at this
  exact h0 (by simpa using this)

theorem pow4 {k : Nat} (h : k ≤ 3) : k = 0 ∨ k = 1 ∨ k = 2 ∨ k = 3 := by omega

theorem rd_wire : ∀ (m k acc : Nat) (rest : Bs), k ≤ 3 → m < 128 ^ (4 - k) → (k = 0 ∨ m ≠ 0) → rd k acc (wire m ++ rest) = .ok (acc + m * 128 ^ k) (k + (wire m).length) := by
  intro m
  induction m using Nat.strongRecOn with
  | _ m ih =>
    intro k acc rest hk hm h0
    by_cases hs : m < 128
    · rw [wire_small m hs]
      have e := ofNat_small m (by omega)
      rw [List.cons_append, List.nil_append, rd, if_neg, if_pos (by omega), e]
      · rw [Nat.mod_eq_of_lt hs]; simp
      · rintro (h | ⟨h, h'⟩)
        · omega
        · exact ofNat_ne m (by omega) (by omega) h'
    · rw [wire_big m hs]
      have e := ofNat_small (128 + m % 128) (by omega)
      have hk2 : k ≠ 3 := by
        rintro rfl
        simp at hm
        omega
      rw [List.cons_append, rd, if_neg, if_neg (by omega), e]
      · have hd : m / 128 < 128 ^ (4 - (k + 1)) := by
          rcases (by omega : k = 0 ∨ k = 1 ∨ k = 2) with rfl | rfl | rfl <;> simp at hm ⊢ <;> omega
        rw [ih (m / 128) (by omega) (k + 1) _ rest (by omega) hd (Or.inr (by omega))]
        have e2 : (128 + m % 128) % 128 = m % 128 := by omega
        rw [e2]
        have e3 : m * 128 ^ k = m % 128 * 128 ^ k + m / 128 * 128 ^ (k + 1) := by
          rw [Nat.pow_succ, Nat.mul_comm (128 ^ k) 128, ← Nat.mul_assoc, ← Nat.add_mul]
          congr 1
          omega
        simp only [List.length_cons]
        congr 1
        · omega
        · omega
      · rintro (h | ⟨h, h'⟩)
        · omega
        · exact ofNat_ne (128 + m % 128) (by omega) (by omega) h'

theorem rd_wire0 (m : Nat) (rest : Bs) (h : m ≤ 268435455) : rd 0 0 (wire m ++ rest) = .ok m (wire m).length := by
  have := rd_wire m 0 0 rest (by omega) (by simp; omega) (Or.inl rfl)
  simpa using this

theorem rd_part : ∀ (m k acc j : Nat), k ≤ 3 → m < 128 ^ (4 - k) → j < (wire m).length → rd k acc ((wire m).take j) = .short := by
  intro m
  induction m using Nat.strongRecOn with
  | _ m ih =>
    intro k acc j hk hm hj
    cases j with
    | zero => rfl
    | succ j =>
      by_cases hs : m < 128
      · rw [wire_len1 m hs] at hj; omega
      · rw [wire_big m hs] at hj ⊢
        have e := ofNat_small (128 + m % 128) (by omega)
        have hk2 : k ≠ 3 := by
          rintro rfl
          simp at hm
          omega
        simp only [List.length_cons] at hj
        rw [List.take_succ_cons, rd, if_neg, if_neg (by omega)]
        · have hd : m / 128 < 128 ^ (4 - (k + 1)) := by
            rcases (by omega : k = 0 ∨ k = 1 ∨ k = 2) with rfl | rfl | rfl <;> simp at hm ⊢ <;> omega
          exact ih (m / 128) (by omega) (k + 1) _ j (by omega) hd (by omega)
        · rintro (h | ⟨h, h'⟩)
          · omega
          · exact ofNat_ne (128 + m % 128) (by omega) (by omega) h'

/-- What a frame must be to be packed. -/
structure Good (k st : Nat) (d : Bs) : Prop where
  k7 : k ≤ 7
  st28 : st ≤ 268435455
  len : d.length ≤ 64
  stream : streamFits k st = true
  length : lengthFits k d.length = true
  payload : payloadFits k d = true

theorem packErr_good {k st : Nat} {d : Bs} (h : Good k st d) : packErr k st d = 0 := by
  obtain ⟨h1, h2, h3, h4, h5, h6⟩ := h
  unfold packErr
  rw [if_neg (by omega), if_neg (by omega), if_neg (by rw [h4]; simp), if_neg (by omega), if_neg (by rw [h5]; simp), if_neg (by rw [h6]; simp)]

theorem nx_packed {k st : Nat} {d : Bs} (h : Good k st d) (rest : Bs) : nx (packed k st d ++ rest) = .frame k st d (packed k st d).length := by
  obtain ⟨h1, h2, h3, h4, h5, h6⟩ := h
  have hk := ofNat_small k (by omega)
  have e : packed k st d ++ rest = UInt8.ofNat k :: (wire st ++ (wire d.length ++ (d ++ rest))) := by simp [packed]
  have l : (packed k st d).length = 1 + (wire st).length + (wire d.length).length + d.length := by simp [packed]; omega
  have r1 := rd_wire0 st (wire d.length ++ (d ++ rest)) h2
  have r2 := rd_wire0 d.length (d ++ rest) (by omega)
  have hd1 : (wire st ++ (wire d.length ++ (d ++ rest))).drop (wire st).length = wire d.length ++ (d ++ rest) := List.drop_left
  have hd2 : ((wire st ++ (wire d.length ++ (d ++ rest))).drop ((wire st).length + (wire d.length).length)).take d.length = d := by
    rw [← List.drop_drop, hd1, List.drop_left, List.take_left]
  rw [e, l, nx, if_neg (by omega), r1, hk]
  simp only [h4, hd1, r2, hd2, h5, h6, Bool.true_eq_false, if_false]
  rw [if_neg (by omega), if_neg (by simp; omega)]

theorem nx_part {k st : Nat} {d : Bs} (h : Good k st d) (n : Nat) (hn : n < (packed k st d).length) : nx ((packed k st d).take n) = .more := by
  obtain ⟨h1, h2, h3, h4, h5, h6⟩ := h
  have hk := ofNat_small k (by omega)
  have e : packed k st d = UInt8.ofNat k :: (wire st ++ (wire d.length ++ d)) := by simp [packed]
  rw [e] at hn ⊢
  cases n with
  | zero => rfl
  | succ n =>
    simp only [List.length_cons, List.length_append] at hn
    rw [List.take_succ_cons, nx, if_neg (by omega)]
    by_cases c1 : n < (wire st).length
    · have r1 : rd 0 0 ((wire st ++ (wire d.length ++ d)).take n) = .short := by
        rw [List.take_append_of_le_length (by omega)]
        exact rd_part st 0 0 n (by omega) (by simp; omega) c1
      rw [r1]
    · have t1 : (wire st ++ (wire d.length ++ d)).take n = wire st ++ (wire d.length ++ d).take (n - (wire st).length) := by
        rw [List.take_append, List.take_of_length_le (by omega)]
      have r1 := rd_wire0 st ((wire d.length ++ d).take (n - (wire st).length)) h2
      rw [t1, r1, hk]
      simp only [h4, Bool.true_eq_false, if_false, List.drop_left]
      by_cases c2 : n - (wire st).length < (wire d.length).length
      · have r2 : rd 0 0 ((wire d.length ++ d).take (n - (wire st).length)) = .short := by
          rw [List.take_append_of_le_length (by omega)]
          exact rd_part d.length 0 0 _ (by omega) (by simp; omega) c2
        rw [r2]
      · have t2 : (wire d.length ++ d).take (n - (wire st).length) = wire d.length ++ d.take (n - (wire st).length - (wire d.length).length) := by
          rw [List.take_append, List.take_of_length_le (by omega)]
        have r2 := rd_wire0 d.length (d.take (n - (wire st).length - (wire d.length).length)) (by omega)
        rw [t2, r2]
        simp only [h5, Bool.true_eq_false, if_false]
        rw [if_neg (by omega), if_pos (by simp; omega)]

theorem all_nil : all [] = ([], 0, []) := all_more rfl

theorem all_packed {k st : Nat} {d : Bs} (h : Good k st d) (rest : Bs) : all (packed k st d ++ rest) = (⟨k, st, d⟩ :: (all rest).1, (all rest).2) := by
  rw [all_frame (nx_packed h rest), List.drop_left]

theorem all_twice {k st : Nat} {d : Bs} (h : Good k st d) : all (packed k st d ++ packed k st d) = ([⟨k, st, d⟩, ⟨k, st, d⟩], 0, []) := by
  have e : packed k st d ++ packed k st d = packed k st d ++ (packed k st d ++ []) := by simp
  rw [e, all_packed h, all_packed h, all_nil]

end Go.Proofs.YtbkpdapagfjmmaaGreatDoor.Lk

/-
  Plain mathematics: bytes that come in pieces; frames that are packed again.
-/
namespace Go.Proofs.YtbkpdapagfjmmaaGreatDoor.Lk

theorem rd_bad_append : ∀ (l p : Bs) (k acc j : Nat), rd k acc l = .bad j → rd k acc (l ++ p) = .bad j
  | [], p, k, acc, j, h => by simp [rd] at h
  | c :: t, p, k, acc, j, h => by
    rw [List.cons_append]
    rw [rd] at h ⊢
    split at h
    · rename_i g; rw [if_pos g]; exact h
    · rename_i g
      rw [if_neg g]
      split at h
      · cases h
      · rename_i g2
        rw [if_neg g2]
        exact rd_bad_append t p _ _ _ h

theorem rd_ok_append : ∀ (l p : Bs) (k acc n j : Nat), rd k acc l = .ok n j → rd k acc (l ++ p) = .ok n j
  | [], p, k, acc, n, j, h => by simp [rd] at h
  | c :: t, p, k, acc, n, j, h => by
    rw [List.cons_append]
    rw [rd] at h ⊢
    split at h
    · cases h
    · rename_i g
      rw [if_neg g]
      split at h
      · rename_i g2; rw [if_pos g2]; exact h
      · rename_i g2
        rw [if_neg g2]
        exact rd_ok_append t p _ _ _ _ h

theorem nx_err_append {l : Bs} (p : Bs) {e : Nat} (h : nx l = .err e) : nx (l ++ p) = .err e := by
  cases l with
  | nil => cases h
  | cons c t =>
    rw [List.cons_append]
    rw [nx] at h ⊢
    split at h
    · rename_i g; rw [if_pos g]; exact h
    · rename_i g
      rw [if_neg g]
      split at h
      · rename_i hr; rw [rd_bad_append _ p _ _ _ hr]; exact h
      · cases h
      · rename_i st a hr
        have hab := rd_ok_bounds _ _ _ _ _ hr
        rw [rd_ok_append _ p _ _ _ _ hr]
        simp only
        split at h
        · rename_i g2; rw [if_pos g2]; exact h
        · rename_i g2
          rw [if_neg g2, List.drop_append_of_le_length (by omega)]
          split at h
          · rename_i hr2; rw [rd_bad_append _ p _ _ _ hr2]; exact h
          · cases h
          · rename_i n b hr2
            have hbb := rd_ok_bounds _ _ _ _ _ hr2
            rw [List.length_drop] at hbb
            rw [rd_ok_append _ p _ _ _ _ hr2]
            simp only
            split at h
            · rename_i g3; rw [if_pos g3]; exact h
            · rename_i g3
              rw [if_neg g3]
              split at h
              · rename_i g4; rw [if_pos g4]; exact h
              · rename_i g4
                rw [if_neg g4]
                split at h
                · cases h
                · rename_i g5
                  rw [if_neg (by simp only [List.length_append]; omega), List.drop_append_of_le_length (by omega), List.take_append_of_le_length (by rw [List.length_drop]; omega)]
                  split at h
                  · rename_i g6; rw [if_pos g6]; exact h
                  · cases h

theorem nx_frame_append {l : Bs} (p : Bs) {k st n : Nat} {d : Bs} (h : nx l = .frame k st d n) : nx (l ++ p) = .frame k st d n := by
  cases l with
  | nil => cases h
  | cons c t =>
    rw [List.cons_append]
    rw [nx] at h ⊢
    split at h
    · cases h
    · rename_i g
      rw [if_neg g]
      split at h
      · cases h
      · cases h
      · rename_i st a hr
        have hab := rd_ok_bounds _ _ _ _ _ hr
        rw [rd_ok_append _ p _ _ _ _ hr]
        simp only
        split at h
        · cases h
        · rename_i g2
          rw [if_neg g2, List.drop_append_of_le_length (by omega)]
          split at h
          · cases h
          · cases h
          · rename_i n b hr2
            have hbb := rd_ok_bounds _ _ _ _ _ hr2
            rw [List.length_drop] at hbb
            rw [rd_ok_append _ p _ _ _ _ hr2]
            simp only
            split at h
            · cases h
            · rename_i g3
              rw [if_neg g3]
              split at h
              · cases h
              · rename_i g4
                rw [if_neg g4]
                split at h
                · cases h
                · rename_i g5
                  rw [if_neg (by simp only [List.length_append]; omega), List.drop_append_of_le_length (by omega), List.take_append_of_le_length (by rw [List.length_drop]; omega)]
                  split at h
                  · cases h
                  · rename_i g6; rw [if_neg g6]; exact h

/-- Bytes that come behind others: what is read then. -/
theorem all_append : ∀ (l p : Bs), all (l ++ p) = if (all l).2.1 = 0 then ((all l).1 ++ (all ((all l).2.2 ++ p)).1, (all ((all l).2.2 ++ p)).2) else all l := by
  intro l
  induction h : l.length using Nat.strongRecOn generalizing l with
  | _ n ih =>
    subst h
    intro p
    cases hx : nx l with
    | more => rw [all_more hx]; simp
    | err e =>
      rw [all_err hx, all_err (nx_err_append p hx), if_neg (nx_err_pos hx)]
    | frame k st d n =>
      have hb := nx_frame_bounds hx
      have e := ih (l.drop n).length (by rw [List.length_drop]; omega) (l.drop n) rfl p
      rw [all_frame (nx_frame_append p hx), all_frame hx, List.drop_append_of_le_length (by omega), e]
      by_cases h0 : (all (l.drop n)).2.1 = 0
      · rw [if_pos h0, if_pos h0]; simp
      · rw [if_neg h0, if_neg h0]

/-- A number that is read is written the same. -/
theorem rd_canon : ∀ (l : Bs) (k acc n j : Nat), k ≤ 4 → rd k acc l = .ok n j → ∃ m, n = acc + m * 128 ^ k ∧ wire m = l.take (j - k) ∧ (k = 0 ∨ m ≠ 0) ∧ m < 128 ^ (4 - k)
  | [], k, acc, n, j, _, h => by simp [rd] at h
  | c :: t, k, acc, n, j, hk, h => by
    have hc := c.toNat_lt
    have hof : UInt8.ofNat c.toNat = c := by simp
    rw [rd] at h
    split at h
    · cases h
    · rename_i g
      have hk3 : k ≤ 3 := by omega
      split at h
      · rename_i g2
        cases h
        refine ⟨c.toNat, by rw [Nat.mod_eq_of_lt g2], ?_, ?_, ?_⟩
        · rw [wire_small _ g2, show k + 1 - k = 1 from by omega, hof]; rfl
        · by_cases h0 : k = 0
          · exact .inl h0
          · right
            intro e
            apply g
            exact .inr ⟨by omega, by rw [← hof, e]; rfl⟩
        · rcases pow4 hk3 with rfl | rfl | rfl | rfl <;> simp <;> omega
      · rename_i g2
        obtain ⟨m, h1, h2, h3, h4⟩ := rd_canon t (k + 1) _ n j (by omega) h
        have hj := rd_ok_bounds _ _ _ _ _ h
        have hm : m ≠ 0 := by rcases h3 with h3 | h3 <;> omega
        refine ⟨c.toNat % 128 + 128 * m, ?_, ?_, .inr (by omega), ?_⟩
        · rw [h1, Nat.pow_succ, Nat.add_mul, Nat.add_assoc]
          congr 2
          rw [Nat.mul_comm (128 ^ k) 128, ← Nat.mul_assoc, Nat.mul_comm m 128]
        · rw [wire_big _ (by omega), show j - k = (j - (k + 1)) + 1 from by omega, List.take_succ_cons, ← h2]
          congr 1
          · have : 128 + (c.toNat % 128 + 128 * m) % 128 = c.toNat := by omega
            rw [this, hof]
          · congr 1; omega
        · have hk2 : k ≤ 2 := by
            rcases pow4 hk3 with rfl | rfl | rfl | rfl
            · omega
            · omega
            · omega
            · simp at h4; omega
          rcases (by omega : k = 0 ∨ k = 1 ∨ k = 2) with rfl | rfl | rfl <;> simp at h4 ⊢ <;> omega

theorem rd_canon0 {l : Bs} {n j : Nat} (h : rd 0 0 l = .ok n j) : wire n = l.take j ∧ n ≤ 268435455 := by
  obtain ⟨m, h1, h2, _, h4⟩ := rd_canon l 0 0 n j (by omega) h
  simp at h1 h2 h4
  subst h1
  exact ⟨h2, by omega⟩

/-- A frame that is read is one that is packed, as it was read. -/
theorem nx_good {l : Bs} {k st n : Nat} {d : Bs} (h : nx l = .frame k st d n) : Good k st d ∧ packed k st d = l.take n := by
  cases l with
  | nil => cases h
  | cons c t =>
    rw [nx] at h
    split at h
    · cases h
    · rename_i g
      split at h
      · cases h
      · cases h
      · rename_i st' a hr
        split at h
        · cases h
        · rename_i g2
          split at h
          · cases h
          · cases h
          · rename_i n' b hr2
            split at h
            · cases h
            · rename_i g3
              split at h
              · cases h
              · rename_i g4
                split at h
                · cases h
                · rename_i g5
                  split at h
                  · cases h
                  · rename_i g6
                    cases h
                    have c1 := rd_canon0 hr
                    have c2 := rd_canon0 hr2
                    have b1 := rd_ok_bounds _ _ _ _ _ hr
                    have b2 := rd_ok_bounds _ _ _ _ _ hr2
                    rw [List.length_drop] at b2
                    have hdl : ((t.drop (a + b)).take n').length = n' := by rw [List.length_take, List.length_drop]; omega
                    refine ⟨⟨by omega, c1.2, by omega, by simpa using g2, by rw [hdl]; simpa using g4, by simpa using g6⟩, ?_⟩
                    have hof : UInt8.ofNat c.toNat = c := by simp
                    rw [packed, Int.toNat_natCast, Int.toNat_natCast, hdl, c1.1, c2.1, hof, show 1 + a + b + n' = (a + b + n') + 1 from by omega, List.take_succ_cons]
                    congr 1
                    rw [List.take_add, List.take_add]

def packAll (fs : List Fr) : Bs := fs.flatMap fun f => packed f.k f.st f.d

theorem all_packs : ∀ (l : Bs), (∀ f ∈ (all l).1, Good f.k f.st f.d) ∧ ∃ r, l = packAll (all l).1 ++ r ∧ ((all l).2.1 = 0 → r.length ≤ 72) ∧ ((all l).2.1 ≠ 0 → 0 < r.length) := by
  intro l
  induction h : l.length using Nat.strongRecOn generalizing l with
  | _ n ih =>
    subst h
    cases hx : nx l with
    | more =>
      rw [all_more hx]
      exact ⟨by simp, l, by simp [packAll], fun _ => nx_more_len hx, by simp⟩
    | err e =>
      rw [all_err hx]
      refine ⟨by simp, l, by simp [packAll], fun h => absurd h (nx_err_pos hx), fun _ => ?_⟩
      cases l with
      | nil => cases hx
      | cons c t => simp
    | frame k st d n =>
      have hb := nx_frame_bounds hx
      have hg := nx_good hx
      obtain ⟨i1, r, i2, i3, i4⟩ := ih (l.drop n).length (by rw [List.length_drop]; omega) (l.drop n) rfl
      rw [all_frame hx]
      refine ⟨?_, r, ?_, i3, i4⟩
      · intro f hf
        rcases List.mem_cons.1 hf with rfl | hf
        · exact hg.1
        · exact i1 f hf
      · show l = packAll (_ :: _) ++ r
        rw [packAll, List.flatMap_cons, hg.2, List.append_assoc]
        have := List.take_append_drop n l
        rw [i2] at this
        exact this.symm

end Go.Proofs.YtbkpdapagfjmmaaGreatDoor.Lk

/-
  Plain mathematics of the document: tables: what is kept within a bound, blocks, what is read of them. Imports nothing of the program.
-/
namespace Go.Proofs.YtbkpdapagfjmmaaGreatDoor.Lk

/-- A header. -/
structure Hd where
  n : Bs
  v : Bs

def Hd.weight (h : Hd) : Nat := h.n.length + h.v.length + 4
def weights : List Hd → Nat
  | [] => 0
  | x :: l => x.weight + weights l
/-- As many from the front as there is room for. -/
def fit : Nat → List Hd → List Hd
  | _, [] => []
  | B, x :: l => if x.weight ≤ B then x :: fit (B - x.weight) l else []
def put (B : Nat) (L : List Hd) (h : Hd) : List Hd := fit B (h :: L)

def fixedL : List Hd := [⟨[116, 111], []⟩, ⟨[107, 105, 110, 100], [116, 101, 120, 116]⟩, ⟨[107, 105, 110, 100], [99, 97, 108, 108]⟩, ⟨[117, 114, 103, 101, 110, 116], [110, 111]⟩]
def ents (L : List Hd) : List Hd := fixedL ++ L

theorem weights_append (a b : List Hd) : weights (a ++ b) = weights a + weights b := by
  induction a with
  | nil => simp [weights]
  | cons x a ih => simp [weights, ih]; omega
theorem weights_len (l : List Hd) : 4 * l.length ≤ weights l := by
  induction l with
  | nil => simp
  | cons x l ih => simp [weights, Hd.weight]; omega
theorem weights_mem {l : List Hd} {x : Hd} (h : x ∈ l) : x.weight ≤ weights l := by
  induction l with
  | nil => simp at h
  | cons y l ih =>
    simp only [List.mem_cons] at h
    simp only [weights]
    rcases h with rfl | h
    · omega
    · have := ih h; omega
theorem fit_weights : ∀ (l : List Hd) (B : Nat), weights (fit B l) ≤ B
  | [], B => by simp [fit, weights]
  | x :: l, B => by
    rw [fit]
    split
    · have := fit_weights l (B - x.weight)
      simp only [weights]
      omega
    · simp [weights]
theorem put_weights (B : Nat) (L : List Hd) (h : Hd) : weights (put B L h) ≤ B := fit_weights _ _
theorem weights_take_le (l : List Hd) (k : Nat) : weights (l.take k) ≤ weights l := by
  have := congrArg weights (List.take_append_drop k l)
  rw [weights_append] at this
  omega
/-- The longest beginning that fits. -/
theorem fit_take : ∀ (l : List Hd) (B k : Nat), k ≤ l.length → weights (l.take k) ≤ B → (k = l.length ∨ B < weights (l.take (k + 1))) → fit B l = l.take k
  | [], B, k, h, _, _ => by simp [fit]
  | x :: l, B, 0, _, _, h2 => by
    rcases h2 with h2 | h2
    · simp at h2
    · simp only [List.take_succ_cons, List.take_zero, weights] at h2
      rw [fit, if_neg (by omega)]
      simp
  | x :: l, B, k + 1, h, h1, h2 => by
    simp only [List.take_succ_cons, weights] at h1 h2
    simp only [List.length_cons] at h h2
    rw [fit, if_pos (by omega), fit_take l (B - x.weight) k (by omega) (by omega) (by omega)]
    simp

def nameByte (c : UInt8) : Bool := (decide (97 ≤ c) && decide (c ≤ 122)) || decide (c = 45)
def valueByte (c : UInt8) : Bool := decide (32 ≤ c) && decide (c ≤ 126)
def allows (name : Bool) (c : UInt8) : Bool := if name then nameByte c else valueByte c
def lenOk (name : Bool) (n : Nat) : Bool := if name then decide (1 ≤ n ∧ n ≤ 16) else decide (n ≤ 32)
def fits (name : Bool) (s : Bs) : Bool := lenOk name s.length && s.all (allows name)
def good (h : Hd) : Bool := fits true h.n && fits false h.v
def wrongAt : Nat → List Hd → Nat × Nat
  | _, [] => (0, 0)
  | i, h :: l => if good h then wrongAt (i + 1) l else (7, i)
def wrong (l : List Hd) : Nat × Nat := if 6 < l.length then (8, 0) else wrongAt 0 l

theorem allows_name {c : UInt8} (h : nameByte c = true) : valueByte c = true := by
  simp only [nameByte, valueByte, Bool.or_eq_true, Bool.and_eq_true, decide_eq_true_eq, UInt8.le_iff_toNat_le] at *
  rcases h with ⟨h1, h2⟩ | h
  · simp at h1 h2 ⊢; omega
  · subst h; simp

def sameHd (h x : Hd) : Bool := decide (x.n = h.n) && decide (x.v = h.v)
def sameName (h x : Hd) : Bool := decide (x.n = h.n)

/-- The lowest that is as asked; their number, if none is. -/
def low (p : Hd → Bool) : List Hd → Nat
  | [] => 0
  | x :: l => if p x then 0 else low p l + 1

theorem low_le (p : Hd → Bool) (l : List Hd) : low p l ≤ l.length := by
  induction l with
  | nil => simp [low]
  | cons x l ih => rw [low]; split <;> simp; omega
theorem low_of (p : Hd → Bool) : ∀ (l : List Hd) (i : Nat), (∀ j, j < i → ∃ x, l[j]? = some x ∧ p x = false) → (i = l.length ∨ ∃ x, l[i]? = some x ∧ p x = true) → low p l = i
  | [], i, h, h2 => by
    rcases h2 with h2 | ⟨x, hx, _⟩
    · simpa [low] using h2.symm
    · simp at hx
  | x :: l, 0, _, h2 => by
    rcases h2 with h2 | ⟨y, hy, hp⟩
    · simp at h2
    · simp at hy; subst hy; simp [low, hp]
  | x :: l, i + 1, h, h2 => by
    obtain ⟨y, hy, hp⟩ := h 0 (by omega)
    simp at hy
    subst hy
    rw [low, hp, low_of p l i (fun j hj => by simpa using h (j + 1) (by omega)) (by simpa using h2)]
    simp
theorem low_get (p : Hd → Bool) : ∀ (l : List Hd), low p l < l.length → ∃ x, l[low p l]? = some x ∧ p x = true
  | [], h => by simp at h
  | x :: l, h => by
    rw [low] at h ⊢
    by_cases hp : p x = true
    · simp [hp]
    · simp only [hp] at h ⊢
      simp at h
      simpa using low_get p l h

def text (s : Bs) : Bs := wire s.length ++ s
/-- The part of a header, and what is kept behind it. -/
def oneP (B : Nat) (L : List Hd) (h : Hd) : Bs × List Hd :=
  if low (sameHd h) (ents L) < (ents L).length then (wire (2 * low (sameHd h) (ents L)), L)
  else if low (sameName h) (ents L) < (ents L).length then (wire (2 * (low (sameName h) (ents L) + 1) + 1) ++ text h.v, put B L h)
  else (wire 1 ++ text h.n ++ text h.v, put B L h)
def squeeze (B : Nat) : List Hd → List Hd → Bs × List Hd
  | L, [] => ([], L)
  | L, h :: t => ((oneP B L h).1 ++ (squeeze B (oneP B L h).2 t).1, (squeeze B (oneP B L h).2 t).2)

/-- What is read at a place: it, and the place behind; or the place of the fault. -/
inductive PR (α : Type) where
  | ok (a : α) (p : Nat)
  | bad (p : Nat)
def PR.at {α : Type} : PR α → Nat
  | .ok _ p => p
  | .bad p => p
def PR.good {α : Type} : PR α → Bool
  | .ok _ _ => true
  | .bad _ => false
def numR (s : Bs) (p : Nat) : PR Nat := match rd 0 0 (s.drop p) with
  | .short => .bad s.length
  | .bad k => .bad (p + k)
  | .ok n k => .ok n (p + k)
/-- How many of the first n bytes are as asked. -/
def upto (q : UInt8 → Bool) : Nat → Bs → Nat
  | 0, _ => 0
  | _ + 1, [] => 0
  | n + 1, c :: m => if q c then upto q n m + 1 else 0
def textR (name : Bool) (s : Bs) (p : Nat) : PR Bs := match numR s p with
  | .bad q => .bad q
  | .ok n q => if lenOk name n then
      (if upto (allows name) n (s.drop q) = n then .ok ((s.drop q).take n) (q + n) else .bad (q + upto (allows name) n (s.drop q)))
    else .bad (q - 1)
def entR (L : List Hd) (i p : Nat) : PR Hd := match (ents L)[i]? with
  | some h => .ok h p
  | none => .bad (p - 1)
def nameR (L : List Hd) (k : Nat) (s : Bs) (p : Nat) : PR Bs := if k = 0 then textR true s p else match entR L (k - 1) p with
  | .ok h p => .ok h.n p
  | .bad p => .bad p
def freshR (L : List Hd) (k : Nat) (s : Bs) (p : Nat) : PR Hd := match nameR L k s p with
  | .bad q => .bad q
  | .ok n q => match textR false s q with
    | .bad q => .bad q
    | .ok v q => .ok ⟨n, v⟩ q
def partR (B : Nat) (L : List Hd) (s : Bs) (p : Nat) : PR (Hd × List Hd) := match numR s p with
  | .bad q => .bad q
  | .ok n q => if n % 2 = 0 then (match entR L (n / 2) q with
      | .ok h q => .ok (h, L) q
      | .bad q => .bad q)
    else match freshR L (n / 2) s q with
      | .ok h q => .ok (h, put B L h) q
      | .bad q => .bad q
inductive XR where
  | ok (hs L : List Hd)
  | err (e p : Nat)
def exR (B : Nat) (s : Bs) : Nat → List Hd → Nat → XR
  | 0, L, p => if s.length ≤ p then .ok [] L else .err 8 p
  | n + 1, L, p => if s.length ≤ p then .ok [] L else match partR B L s p with
    | .bad q => .err 9 q
    | .ok hl q => match exR B s n hl.2 q with
      | .ok hs L2 => .ok (hl.1 :: hs) L2
      | .err e q => .err e q

theorem upto_le (q : UInt8 → Bool) : ∀ (n : Nat) (m : Bs), upto q n m ≤ n ∧ upto q n m ≤ m.length
  | 0, _ => by simp [upto]
  | _ + 1, [] => by simp [upto]
  | n + 1, c :: m => by
    rw [upto]
    have := upto_le q n m
    split <;> simp <;> omega
theorem upto_of (q : UInt8 → Bool) : ∀ (n i : Nat) (m : Bs), i ≤ n → (∀ j, j < i → ∃ c, m[j]? = some c ∧ q c = true) → (i = n ∨ m[i]? = none ∨ ∃ c, m[i]? = some c ∧ q c = false) → upto q n m = i
  | 0, i, m, h, _, _ => by simp [upto]; omega
  | n + 1, 0, [], _, _, _ => by simp [upto]
  | n + 1, 0, c :: m, _, _, h => by
    rcases h with h | h | ⟨d, hd, hq⟩
    · simp at h
    · simp at h
    · simp at hd; subst hd; simp [upto, hq]
  | n + 1, i + 1, [], _, h, _ => by
    obtain ⟨c, hc, _⟩ := h 0 (by omega)
    simp at hc
  | n + 1, i + 1, c :: m, h0, h, h2 => by
    obtain ⟨d, hd, hq⟩ := h 0 (by omega)
    simp at hd
    subst hd
    rw [upto, hq, upto_of q n i m (by omega) (fun j hj => by simpa using h (j + 1) (by omega)) (by simpa using h2)]
    simp
theorem upto_all (q : UInt8 → Bool) : ∀ (t r : Bs), t.all q = true → upto q t.length (t ++ r) = t.length
  | [], r, _ => by simp [upto]
  | c :: t, r, h => by
    simp only [List.all_cons, Bool.and_eq_true] at h
    simp only [List.length_cons, List.cons_append, upto, h.1, if_true]
    rw [upto_all q t r h.2]

theorem numR_ge {s : Bs} {p n q : Nat} (hp : p ≤ s.length) (h : numR s p = .ok n q) : p < q ∧ q ≤ s.length := by
  unfold numR at h
  cases e : rd 0 0 (s.drop p) with
  | short => rw [e] at h; cases h
  | bad k => rw [e] at h; cases h
  | ok m k =>
    rw [e] at h
    cases h
    have := rd_ok_bounds _ _ _ _ _ e
    rw [List.length_drop] at this
    omega
theorem numR_bad {s : Bs} {p q : Nat} (hp : p ≤ s.length) (h : numR s p = .bad q) : p ≤ q ∧ q ≤ s.length := by
  unfold numR at h
  cases e : rd 0 0 (s.drop p) with
  | short => rw [e] at h; cases h; omega
  | bad k =>
    rw [e] at h
    cases h
    have := rd_bad_bounds _ _ _ _ e
    rw [List.length_drop] at this
    omega
  | ok m k => rw [e] at h; cases h
theorem textR_ge {name : Bool} {s : Bs} {p : Nat} {t : Bs} {q : Nat} (hp : p ≤ s.length) (h : textR name s p = .ok t q) : p < q ∧ q ≤ s.length ∧ t.length ≤ 32 := by
  unfold textR at h
  cases e : numR s p with
  | bad k => rw [e] at h; cases h
  | ok m k =>
    have b := numR_ge hp e
    rw [e] at h
    simp only at h
    split at h
    · rename_i hl
      split at h
      · rename_i hu
        cases h
        have := upto_le (allows name) m (s.drop k)
        rw [hu, List.length_drop] at this
        have hm : m ≤ 32 := by
          unfold lenOk at hl
          split at hl <;> simp at hl <;> omega
        simp
        omega
      · cases h
    · cases h
theorem textR_bad {name : Bool} {s : Bs} {p q : Nat} (hp : p ≤ s.length) (h : textR name s p = .bad q) : p ≤ q ∧ q ≤ s.length := by
  unfold textR at h
  cases e : numR s p with
  | bad k => rw [e] at h; cases h; exact numR_bad hp e
  | ok m k =>
    have b := numR_ge hp e
    rw [e] at h
    simp only at h
    split at h
    · split at h
      · cases h
      · cases h
        have := upto_le (allows name) m (s.drop k)
        rw [List.length_drop] at this
        omega
    · cases h
      omega

/-- What is written is read. -/
theorem numR_wire (a b : Bs) (m : Nat) (h : m ≤ 268435455) : numR (a ++ (wire m ++ b)) a.length = .ok m (a.length + (wire m).length) := by
  unfold numR
  rw [List.drop_left, rd_wire0 m b h]
theorem textR_text (name : Bool) (a b t : Bs) (h : fits name t = true) : textR name (a ++ (text t ++ b)) a.length = .ok t (a.length + (text t).length) := by
  unfold fits at h
  rw [Bool.and_eq_true] at h
  have hl : t.length ≤ 32 := by
    have := h.1
    unfold lenOk at this
    split at this <;> simp at this <;> omega
  unfold textR text
  rw [List.append_assoc, numR_wire a (t ++ b) t.length (by omega)]
  simp only [h.1, if_true]
  have e : (a ++ (wire t.length ++ (t ++ b))).drop (a.length + (wire t.length).length) = t ++ b := by
    rw [← List.append_assoc, ← List.length_append, List.drop_left]
  rw [e, upto_all _ t b h.2]
  simp
  omega

theorem ents_len (L : List Hd) : (ents L).length = 4 + L.length := by simp [ents, fixedL]; omega

theorem partR_one (B : Nat) (L : List Hd) (h : Hd) (a b : Bs) (hB : B ≤ 200) (hL : weights L ≤ B) (hg : good h = true) :
    partR B L (a ++ ((oneP B L h).1 ++ b)) a.length = .ok (h, (oneP B L h).2) (a.length + (oneP B L h).1.length) := by
  have hlen := weights_len L
  have hE := ents_len L
  unfold good at hg
  rw [Bool.and_eq_true] at hg
  unfold oneP
  split
  · rename_i h1
    obtain ⟨x, hx, hp⟩ := low_get _ _ h1
    simp only [partR, numR_wire a b _ (show 2 * low (sameHd h) (ents L) ≤ 268435455 by omega)]
    rw [if_pos (by omega)]
    simp only [sameHd, Bool.and_eq_true, decide_eq_true_eq] at hp
    have : x = h := by cases x; cases h; simp at hp ⊢; exact hp
    subst this
    rw [show 2 * low (sameHd x) (ents L) / 2 = low (sameHd x) (ents L) by omega]
    simp only [entR, hx]
  · split
    · rename_i _ h1
      obtain ⟨x, hx, hp⟩ := low_get _ _ h1
      simp only [partR, List.append_assoc, numR_wire a _ _ (show 2 * (low (sameName h) (ents L) + 1) + 1 ≤ 268435455 by omega)]
      rw [if_neg (by omega)]
      simp only [sameName, decide_eq_true_eq] at hp
      rw [show (2 * (low (sameName h) (ents L) + 1) + 1) / 2 = low (sameName h) (ents L) + 1 by omega]
      simp only [freshR, nameR]
      rw [if_neg (by omega), show low (sameName h) (ents L) + 1 - 1 = low (sameName h) (ents L) by omega]
      simp only [entR, hx]
      have e := textR_text false (a ++ wire (2 * (low (sameName h) (ents L) + 1) + 1)) b h.v hg.2
      rw [List.append_assoc, List.length_append] at e
      rw [e]
      simp only [hp, List.length_append]
      rw [Nat.add_assoc]
    · simp only [partR, List.append_assoc, numR_wire a _ 1 (by omega)]
      rw [if_neg (by omega)]
      simp only [freshR, nameR]
      rw [if_pos trivial]
      have e := textR_text true (a ++ wire 1) (text h.v ++ b) h.n hg.1
      rw [List.append_assoc, List.length_append] at e
      rw [e]
      have e2 := textR_text false (a ++ (wire 1 ++ text h.n)) b h.v hg.2
      rw [List.append_assoc, List.append_assoc, List.length_append, List.length_append] at e2
      simp only [Nat.add_assoc] at e2 ⊢
      rw [e2]
      simp only [List.length_append]

theorem oneP_weights (B : Nat) (L : List Hd) (h : Hd) (hL : weights L ≤ B) : weights (oneP B L h).2 ≤ B := by
  unfold oneP
  split
  · exact hL
  · split <;> exact put_weights _ _ _
theorem oneP_pos (B : Nat) (L : List Hd) (h : Hd) : 0 < (oneP B L h).1.length := by
  unfold oneP
  split
  · exact wire_len_pos _
  · split <;> simp only [List.length_append]
    · have := wire_len_pos (2 * (low (sameName h) (ents L) + 1) + 1); omega
    · have := wire_len_pos 1; omega
theorem squeeze_weights (B : Nat) : ∀ (hs L : List Hd), weights L ≤ B → weights (squeeze B L hs).2 ≤ B
  | [], _, h => h
  | x :: hs, L, h => squeeze_weights B hs _ (oneP_weights B L x h)
theorem squeeze_nil (B : Nat) : ∀ (hs L : List Hd), (squeeze B L hs).1 = [] ↔ hs = []
  | [], _ => by simp [squeeze]
  | x :: hs, L => by
    have := oneP_pos B L x
    simp only [squeeze, List.append_eq_nil_iff]
    constructor
    · rintro ⟨h, _⟩; rw [h] at this; simp at this
    · intro h; cases h
theorem squeeze_snoc (B : Nat) : ∀ (hs L : List Hd) (x : Hd), squeeze B L (hs ++ [x]) = ((squeeze B L hs).1 ++ (oneP B (squeeze B L hs).2 x).1, (oneP B (squeeze B L hs).2 x).2)
  | [], L, x => by simp [squeeze]
  | y :: hs, L, x => by
    simp only [List.cons_append, squeeze, squeeze_snoc B hs _ x, List.append_assoc]

/-- What one table squeezes, another one like it expands, and they stay alike. -/
theorem exR_squeeze (B : Nat) (hB : B ≤ 200) : ∀ (hs L : List Hd) (a : Bs) (n : Nat), hs.length ≤ n → weights L ≤ B → (∀ h ∈ hs, good h = true) →
    exR B (a ++ (squeeze B L hs).1) n L a.length = .ok hs (squeeze B L hs).2
  | [], L, a, n, _, _, _ => by
    cases n <;> simp [squeeze, exR]
  | x :: hs, L, a, 0, h, _, _ => by simp at h
  | x :: hs, L, a, n + 1, h, hL, hg => by
    have hpos := oneP_pos B L x
    simp only [squeeze]
    rw [exR, if_neg (by simp only [List.length_append]; omega)]
    rw [partR_one B L x a _ hB hL (hg x (by simp))]
    simp only
    have e := exR_squeeze B hB hs (oneP B L x).2 (a ++ (oneP B L x).1) n (by simpa using h) (oneP_weights B L x hL) (fun y hy => hg y (by simp [hy]))
    rw [List.append_assoc, List.length_append] at e
    rw [e]

theorem wrongAt_ok : ∀ (l : List Hd) (i : Nat), (wrongAt i l).1 = 0 ↔ ∀ h ∈ l, good h = true
  | [], i => by simp [wrongAt]
  | x :: l, i => by
    rw [wrongAt]
    split
    · rename_i h; rw [wrongAt_ok l (i + 1)]; simp [h]
    · rename_i h; simp [h]
theorem wrong_ok {l : List Hd} (h : (wrong l).1 = 0) : l.length ≤ 6 ∧ ∀ x ∈ l, good x = true := by
  unfold wrong at h
  split at h
  · cases h
  · exact ⟨by omega, (wrongAt_ok l 0).1 h⟩

end Go.Proofs.YtbkpdapagfjmmaaGreatDoor.Lk
