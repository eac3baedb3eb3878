/-
  Plain mathematics of the document: numbers on the wire, frames, what is read. Imports nothing of the program.
-/
namespace Go.Proofs.YtbkpdapagfjmmaaGreatDoor.Lk

abbrev Bs := List UInt8

/-- A number on the wire. -/
def wire (n : Nat) : Bs := if n < 128 then [UInt8.ofNat n] else UInt8.ofNat (128 + n % 128) :: wire (n / 128)
termination_by n
decreasing_by omega

theorem wire_small (n : Nat) (h : n < 128) : wire n = [UInt8.ofNat n] := by rw [wire, if_pos h]
theorem wire_big (n : Nat) (h : ¬ n < 128) : wire n = UInt8.ofNat (128 + n % 128) :: wire (n / 128) := by rw [wire, if_neg h]

theorem wire_len_pos (n : Nat) : 0 < (wire n).length := by
  by_cases h : n < 128
  · rw [wire_small n h]; simp
  · rw [wire_big n h]; simp

theorem wire_len1 (n : Nat) (h : n < 128) : (wire n).length = 1 := by rw [wire_small n h]; rfl
theorem wire_len_le2 (n : Nat) (h : n < 16384) : (wire n).length ≤ 2 := by
  by_cases g : n < 128
  · rw [wire_len1 n g]; omega
  · rw [wire_big n g, List.length_cons, wire_len1 _ (by omega)]; omega
theorem wire_len_le3 (n : Nat) (h : n < 2097152) : (wire n).length ≤ 3 := by
  by_cases g : n < 128
  · rw [wire_len1 n g]; omega
  · rw [wire_big n g, List.length_cons]; have := wire_len_le2 (n / 128) (by omega); omega
theorem wire_len_le4 (n : Nat) (h : n ≤ 268435455) : (wire n).length ≤ 4 := by
  by_cases g : n < 128
  · rw [wire_len1 n g]; omega
  · rw [wire_big n g, List.length_cons]; have := wire_len_le3 (n / 128) (by omega); omega

/-- What reading a number comes to: more bytes must come; a byte that can't stand (behind k good ones); the number, and how many bytes. -/
inductive Rd where
  | short
  | bad (k : Nat)
  | ok (n k : Nat)

/-- The rest of a number, k bytes of which are taken and make acc. -/
def rd (k acc : Nat) : Bs → Rd
  | [] => .short
  | c :: t => if k = 4 ∨ (0 < k ∧ c = 0) then .bad k
    else if c.toNat < 128 then .ok (acc + c.toNat % 128 * 128 ^ k) (k + 1)
    else rd (k + 1) (acc + c.toNat % 128 * 128 ^ k) t

def streamFits (kind stream : Int) : Bool := if kind = 4 then true else if 5 ≤ kind then decide (stream = 0) else decide (0 < stream)
def lengthFits (kind n : Int) : Bool :=
  if kind = 1 then decide (1 ≤ n ∧ n ≤ 16) else if kind = 2 then decide (n ≤ 16) else if kind = 3 ∨ kind = 4 ∨ kind = 7 then decide (1 ≤ n ∧ n ≤ 4)
  else if kind = 5 ∨ kind = 6 then decide (n = 8) else true
def numberWhole (l : Bs) : Bool := match rd 0 0 l with
  | .ok _ k => decide (k = l.length)
  | _ => false
def payloadFits (kind : Int) (l : Bs) : Bool := if kind = 3 ∨ kind = 4 ∨ kind = 7 then numberWhole l else true

def kindErr (kind : Int) : Int := if kind < 0 ∨ 7 < kind then 3 else 0
def streamErr (kind stream : Int) : Int := if streamFits kind stream = false then 4 else 0
def lengthErr (kind n : Int) : Int := if 64 < n then 5 else if lengthFits kind n = false then 6 else 0
def payloadErr (kind : Int) (l : Bs) : Int := if payloadFits kind l = false then 6 else 0

/-- The error that Pack has (0: none). -/
def packErr (kind stream : Int) (data : Bs) : Int :=
  if kind < 0 ∨ 7 < kind then 3
  else if stream < 0 ∨ 268435455 < stream then 2
  else if streamFits kind stream = false then 4
  else if 64 < data.length then 5
  else if lengthFits kind data.length = false then 6
  else if payloadFits kind data = false then 6
  else 0

/-- The bytes that Pack answers where it has no error. -/
def packed (kind stream : Int) (data : Bs) : Bs := UInt8.ofNat kind.toNat :: (wire stream.toNat ++ wire data.length ++ data)

/-- What is at the beginning of bytes: nothing whole; an error; a frame, and of how many bytes. -/
inductive Nx where
  | more
  | err (e : Nat)
  | frame (kind stream : Nat) (data : Bs) (n : Nat)

def nx : Bs → Nx
  | [] => .more
  | c :: t =>
    if 7 < c.toNat then .err 3
    else match rd 0 0 t with
      | .bad _ => .err 2
      | .short => .more
      | .ok st a =>
        if streamFits c.toNat st = false then .err 4
        else match rd 0 0 (t.drop a) with
          | .bad _ => .err 2
          | .short => .more
          | .ok n b =>
            if 64 < n then .err 5
            else if lengthFits c.toNat n = false then .err 6
            else if t.length < a + b + n then .more
            else if payloadFits c.toNat ((t.drop (a + b)).take n) = false then .err 6
            else .frame c.toNat st ((t.drop (a + b)).take n) (1 + a + b + n)

/-- What a cursor's number answers, and where the cursor then is. -/
def Rd.val : Rd → Int | .ok n _ => n | _ => 0
def Rd.good : Rd → Bool | .ok _ _ => true | _ => false
def Rd.at (p size : Nat) : Rd → Nat | .ok _ k => p + k | .bad k => p + k | .short => size

/- small facts on rd -/
theorem rd_nil (k acc : Nat) : rd k acc [] = .short := rfl
theorem rd_bad (k acc : Nat) (c : UInt8) (t : Bs) (h : k = 4 ∨ (0 < k ∧ c = 0)) : rd k acc (c :: t) = .bad k := by rw [rd, if_pos h]
theorem rd_last (k acc : Nat) (c : UInt8) (t : Bs) (h : ¬ (k = 4 ∨ (0 < k ∧ c = 0))) (hc : c.toNat < 128) : rd k acc (c :: t) = .ok (acc + c.toNat % 128 * 128 ^ k) (k + 1) := by rw [rd, if_neg h, if_pos hc]
theorem rd_next (k acc : Nat) (c : UInt8) (t : Bs) (h : ¬ (k = 4 ∨ (0 < k ∧ c = 0))) (hc : ¬ c.toNat < 128) : rd k acc (c :: t) = rd (k + 1) (acc + c.toNat % 128 * 128 ^ k) t := by rw [rd, if_neg h, if_neg hc]

theorem rd_ok_bounds : ∀ (l : Bs) (k acc n j : Nat), rd k acc l = .ok n j → k < j ∧ j ≤ k + l.length
  | [], k, acc, n, j, h => by simp [rd] at h
  | c :: t, k, acc, n, j, h => by
    rw [rd] at h
    split at h
    · cases h
    · split at h
      · cases h; simp only [List.length_cons]; omega
      · have := rd_ok_bounds t _ _ _ _ h; simp only [List.length_cons]; omega

theorem rd_bad_bounds : ∀ (l : Bs) (k acc j : Nat), rd k acc l = .bad j → k ≤ j ∧ j < k + l.length
  | [], k, acc, j, h => by simp [rd] at h
  | c :: t, k, acc, j, h => by
    rw [rd] at h
    split at h
    · cases h; simp only [List.length_cons]; omega
    · split at h
      · cases h
      · have := rd_bad_bounds t _ _ _ h; simp only [List.length_cons]; omega

theorem rd_ok_le4 : ∀ (l : Bs) (k acc n j : Nat), rd k acc l = .ok n j → j ≤ 4 ∨ 4 < k
  | [], k, acc, n, j, h => by simp [rd] at h
  | c :: t, k, acc, n, j, h => by
    rw [rd] at h
    split at h
    · cases h
    · rename_i g
      split at h
      · cases h; omega
      · have := rd_ok_le4 t _ _ _ _ h; omega

end Go.Proofs.YtbkpdapagfjmmaaGreatDoor.Lk
