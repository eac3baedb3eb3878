import Derived.WalkKit
import Derived.WalkSpells
import Derived.WalkLawsBesides
import Derived.Deep.QuietTactic
import Derived.BigQuiet
import Derived.OneCell
set_option linter.unusedVariables false
set_option maxRecDepth 100000
set_option maxHeartbeats 16000000
namespace Go.Proofs.YtbkpdapagfjmmaaGreatDoor
theorem nbq {a b : Nat} (h : Nat.beq a b = false) : a ≠ b := Nat.ne_of_beq_eq_false h
end Go.Proofs.YtbkpdapagfjmmaaGreatDoor
namespace Go.Proofs.YtbkpdapagfjmmaaGreatDoor.Lk
abbrev Bs := List UInt8
def wire (n : Nat) : Bs := if n < 128 then [UInt8.ofNat n] else UInt8.ofNat (128 + n % 128) :: wire (n / 128)
termination_by n
decreasing_by omega
theorem wire_small (n : Nat) (h : n < 128) : wire n = [UInt8.ofNat n] := by rw [wire, if_pos h]
theorem wire_big (n : Nat) (h : ¬ n < 128) : wire n = UInt8.ofNat (128 + n % 128) :: wire (n / 128) := by rw [wire, if_neg h]
theorem wire_len_pos (n : Nat) : 0 < (wire n).length := by
  by_cases h : n < 128
  · rw [wire_small n h]; simp
  · rw [wire_big n h]; simp
theorem wire_len1 (n : Nat) (h : n < 128) : (wire n).length = 1 := by rw [wire_small n h]; rfl
theorem wire_len_le2 (n : Nat) (h : n < 16384) : (wire n).length ≤ 2 := by
  by_cases g : n < 128
  · rw [wire_len1 n g]; omega
  · rw [wire_big n g, List.length_cons, wire_len1 _ (by omega)]; omega
theorem wire_len_le3 (n : Nat) (h : n < 2097152) : (wire n).length ≤ 3 := by
  by_cases g : n < 128
  · rw [wire_len1 n g]; omega
  · rw [wire_big n g, List.length_cons]; have := wire_len_le2 (n / 128) (by omega); omega
theorem wire_len_le4 (n : Nat) (h : n ≤ 268435455) : (wire n).length ≤ 4 := by
  by_cases g : n < 128
  · rw [wire_len1 n g]; omega
  · rw [wire_big n g, List.length_cons]; have := wire_len_le3 (n / 128) (by omega); omega
inductive Rd where
  | short
  | bad (k : Nat)
  | ok (n k : Nat)
def rd (k acc : Nat) : Bs → Rd
  | [] => .short
  | c :: t => if k = 4 ∨ (0 < k ∧ c = 0) then .bad k
    else if c.toNat < 128 then .ok (acc + c.toNat % 128 * 128 ^ k) (k + 1)
    else rd (k + 1) (acc + c.toNat % 128 * 128 ^ k) t
def streamFits (kind stream : Int) : Bool := if kind = 4 then true else if 5 ≤ kind then decide (stream = 0) else decide (0 < stream)
def lengthFits (kind n : Int) : Bool :=
  if kind = 1 then decide (1 ≤ n ∧ n ≤ 16) else if kind = 2 then decide (n ≤ 16) else if kind = 3 ∨ kind = 4 ∨ kind = 7 then decide (1 ≤ n ∧ n ≤ 4)
  else if kind = 5 ∨ kind = 6 then decide (n = 8) else true
def numberWhole (l : Bs) : Bool := match rd 0 0 l with
  | .ok _ k => decide (k = l.length)
  | _ => false
def payloadFits (kind : Int) (l : Bs) : Bool := if kind = 3 ∨ kind = 4 ∨ kind = 7 then numberWhole l else true
def kindErr (kind : Int) : Int := if kind < 0 ∨ 7 < kind then 3 else 0
def streamErr (kind stream : Int) : Int := if streamFits kind stream = false then 4 else 0
def lengthErr (kind n : Int) : Int := if 64 < n then 5 else if lengthFits kind n = false then 6 else 0
def payloadErr (kind : Int) (l : Bs) : Int := if payloadFits kind l = false then 6 else 0
def packErr (kind stream : Int) (data : Bs) : Int :=
  if kind < 0 ∨ 7 < kind then 3
  else if stream < 0 ∨ 268435455 < stream then 2
  else if streamFits kind stream = false then 4
  else if 64 < data.length then 5
  else if lengthFits kind data.length = false then 6
  else if payloadFits kind data = false then 6
  else 0
def packed (kind stream : Int) (data : Bs) : Bs := UInt8.ofNat kind.toNat :: (wire stream.toNat ++ wire data.length ++ data)
inductive Nx where
  | more
  | err (e : Nat)
  | frame (kind stream : Nat) (data : Bs) (n : Nat)
def nx : Bs → Nx
  | [] => .more
  | c :: t =>
    if 7 < c.toNat then .err 3
    else match rd 0 0 t with
      | .bad _ => .err 2
      | .short => .more
      | .ok st a =>
        if streamFits c.toNat st = false then .err 4
        else match rd 0 0 (t.drop a) with
          | .bad _ => .err 2
          | .short => .more
          | .ok n b =>
            if 64 < n then .err 5
            else if lengthFits c.toNat n = false then .err 6
            else if t.length < a + b + n then .more
            else if payloadFits c.toNat ((t.drop (a + b)).take n) = false then .err 6
            else .frame c.toNat st ((t.drop (a + b)).take n) (1 + a + b + n)
def Rd.val : Rd → Int | .ok n _ => n | _ => 0
def Rd.good : Rd → Bool | .ok _ _ => true | _ => false
def Rd.at (p size : Nat) : Rd → Nat | .ok _ k => p + k | .bad k => p + k | .short => size
theorem rd_nil (k acc : Nat) : rd k acc [] = .short := rfl
theorem rd_bad (k acc : Nat) (c : UInt8) (t : Bs) (h : k = 4 ∨ (0 < k ∧ c = 0)) : rd k acc (c :: t) = .bad k := by rw [rd, if_pos h]
theorem rd_last (k acc : Nat) (c : UInt8) (t : Bs) (h : ¬ (k = 4 ∨ (0 < k ∧ c = 0))) (hc : c.toNat < 128) : rd k acc (c :: t) = .ok (acc + c.toNat % 128 * 128 ^ k) (k + 1) := by rw [rd, if_neg h, if_pos hc]
theorem rd_next (k acc : Nat) (c : UInt8) (t : Bs) (h : ¬ (k = 4 ∨ (0 < k ∧ c = 0))) (hc : ¬ c.toNat < 128) : rd k acc (c :: t) = rd (k + 1) (acc + c.toNat % 128 * 128 ^ k) t := by rw [rd, if_neg h, if_neg hc]
theorem rd_ok_bounds : ∀ (l : Bs) (k acc n j : Nat), rd k acc l = .ok n j → k < j ∧ j ≤ k + l.length
  | [], k, acc, n, j, h => by simp [rd] at h
  | c :: t, k, acc, n, j, h => by
    rw [rd] at h
    split at h
    · cases h
    · split at h
      · cases h; simp only [List.length_cons]; omega
      · have := rd_ok_bounds t _ _ _ _ h; simp only [List.length_cons]; omega
theorem rd_bad_bounds : ∀ (l : Bs) (k acc j : Nat), rd k acc l = .bad j → k ≤ j ∧ j < k + l.length
  | [], k, acc, j, h => by simp [rd] at h
  | c :: t, k, acc, j, h => by
    rw [rd] at h
    split at h
    · cases h; simp only [List.length_cons]; omega
    · split at h
      · cases h
      · have := rd_bad_bounds t _ _ _ h; simp only [List.length_cons]; omega
theorem rd_ok_le4 : ∀ (l : Bs) (k acc n j : Nat), rd k acc l = .ok n j → j ≤ 4 ∨ 4 < k
  | [], k, acc, n, j, h => by simp [rd] at h
  | c :: t, k, acc, n, j, h => by
    rw [rd] at h
    split at h
    · cases h
    · rename_i g
      split at h
      · cases h; omega
      · have := rd_ok_le4 t _ _ _ _ h; omega
end Go.Proofs.YtbkpdapagfjmmaaGreatDoor.Lk

namespace Go.Proofs.YtbkpdapagfjmmaaGreatDoor.Lk
structure Fr where
  k : Nat
  st : Nat
  d : Bs
theorem rd_short_len : ∀ (l : Bs) (k acc : Nat), k ≤ 4 → rd k acc l = .short → k + l.length ≤ 4
  | [], k, acc, hk, _ => by simpa using hk
  | c :: t, k, acc, hk, h => by
    rw [rd] at h
    split at h
    · cases h
    · rename_i g
      split at h
      · cases h
      · have := rd_short_len t (k + 1) _ (by omega) h
        simp only [List.length_cons]
        omega
theorem nx_frame_bounds {l d : Bs} {k st n : Nat} (h : nx l = .frame k st d n) : 3 ≤ n ∧ n ≤ l.length ∧ d.length ≤ 64 := by
  cases l with
  | nil => cases h
  | cons c t =>
    rw [nx] at h
    split at h
    · cases h
    · split at h
      · cases h
      · cases h
      · rename_i st' a hr1
        split at h
        · cases h
        · split at h
          · cases h
          · cases h
          · rename_i n' b hr2
            split at h
            · cases h
            · split at h
              · cases h
              · split at h
                · cases h
                · split at h
                  · cases h
                  · cases h
                    have h1 := rd_ok_bounds _ _ _ _ _ hr1
                    have h2 := rd_ok_bounds _ _ _ _ _ hr2
                    simp only [List.length_take, List.length_drop, List.length_cons] at *
                    omega
theorem nx_more_len {l : Bs} (h : nx l = .more) : l.length ≤ 72 := by
  cases l with
  | nil => simp
  | cons c t =>
    rw [nx] at h
    split at h
    · cases h
    · split at h
      · cases h
      · rename_i hr1
        have := rd_short_len _ 0 0 (by omega) hr1
        simp only [List.length_cons]
        omega
      · rename_i st' a hr1
        have h1 := rd_ok_le4 _ _ _ _ _ hr1
        split at h
        · cases h
        · split at h
          · cases h
          · rename_i hr2
            have := rd_short_len _ 0 0 (by omega) hr2
            simp only [List.length_cons, List.length_drop] at *
            omega
          · rename_i n' b hr2
            have h2 := rd_ok_le4 _ _ _ _ _ hr2
            split at h
            · cases h
            · split at h
              · cases h
              · split at h
                · simp only [List.length_cons]
                  omega
                · split at h <;> cases h
def all (l : Bs) : List Fr × Nat × Bs :=
  match h : nx l with
  | .more => ([], 0, l)
  | .err e => ([], e, [])
  | .frame k st d n => (⟨k, st, d⟩ :: (all (l.drop n)).1, (all (l.drop n)).2)
termination_by l.length
decreasing_by all_goals (have := nx_frame_bounds h; simp only [List.length_drop]; omega)
theorem all_more {l : Bs} (h : nx l = .more) : all l = ([], 0, l) := by
  rw [all]; split <;> simp_all
theorem all_err {l : Bs} {e : Nat} (h : nx l = .err e) : all l = ([], e, []) := by
  rw [all]; split <;> simp_all
theorem all_frame {l d : Bs} {k st n : Nat} (h : nx l = .frame k st d n) : all l = (⟨k, st, d⟩ :: (all (l.drop n)).1, (all (l.drop n)).2) := by
  rw [all]; split <;> simp_all
theorem nx_err_pos {l : Bs} {e : Nat} (h : nx l = .err e) : e ≠ 0 := by
  cases l with
  | nil => cases h
  | cons c t =>
    rw [nx] at h
    split at h
    · cases h; omega
    · split at h
      · cases h; omega
      · cases h
      · split at h
        · cases h; omega
        · split at h
          · cases h; omega
          · cases h
          · split at h
            · cases h; omega
            · split at h
              · cases h; omega
              · split at h
                · cases h
                · split at h <;> cases h
                  omega
end Go.Proofs.YtbkpdapagfjmmaaGreatDoor.Lk

namespace Go.Proofs.YtbkpdapagfjmmaaGreatDoor.Lk
theorem ofNat_small (n : Nat) (h : n < 256) : (UInt8.ofNat n).toNat = n := by
  simp; omega
theorem ofNat_ne (n : Nat) (h : n < 256) (h0 : n ≠ 0) : ¬ UInt8.ofNat n = 0 := by
  intro e
  have := congrArg UInt8.toNat e
  rw [ofNat_small n h] at this
  exact h0 (by simpa using this)
theorem pow4 {k : Nat} (h : k ≤ 3) : k = 0 ∨ k = 1 ∨ k = 2 ∨ k = 3 := by omega
theorem rd_wire : ∀ (m k acc : Nat) (rest : Bs), k ≤ 3 → m < 128 ^ (4 - k) → (k = 0 ∨ m ≠ 0) → rd k acc (wire m ++ rest) = .ok (acc + m * 128 ^ k) (k + (wire m).length) := by
  intro m
  induction m using Nat.strongRecOn with
  | _ m ih =>
    intro k acc rest hk hm h0
    by_cases hs : m < 128
    · rw [wire_small m hs]
      have e := ofNat_small m (by omega)
      rw [List.cons_append, List.nil_append, rd, if_neg, if_pos (by omega), e]
      · rw [Nat.mod_eq_of_lt hs]; simp
      · rintro (h | ⟨h, h'⟩)
        · omega
        · exact ofNat_ne m (by omega) (by omega) h'
    · rw [wire_big m hs]
      have e := ofNat_small (128 + m % 128) (by omega)
      have hk2 : k ≠ 3 := by
        rintro rfl
        simp at hm
        omega
      rw [List.cons_append, rd, if_neg, if_neg (by omega), e]
      · have hd : m / 128 < 128 ^ (4 - (k + 1)) := by
          rcases (by omega : k = 0 ∨ k = 1 ∨ k = 2) with rfl | rfl | rfl <;> simp at hm ⊢ <;> omega
        rw [ih (m / 128) (by omega) (k + 1) _ rest (by omega) hd (Or.inr (by omega))]
        have e2 : (128 + m % 128) % 128 = m % 128 := by omega
        rw [e2]
        have e3 : m * 128 ^ k = m % 128 * 128 ^ k + m / 128 * 128 ^ (k + 1) := by
          rw [Nat.pow_succ, Nat.mul_comm (128 ^ k) 128, ← Nat.mul_assoc, ← Nat.add_mul]
          congr 1
          omega
        simp only [List.length_cons]
        congr 1
        · omega
        · omega
      · rintro (h | ⟨h, h'⟩)
        · omega
        · exact ofNat_ne (128 + m % 128) (by omega) (by omega) h'
theorem rd_wire0 (m : Nat) (rest : Bs) (h : m ≤ 268435455) : rd 0 0 (wire m ++ rest) = .ok m (wire m).length := by
  have := rd_wire m 0 0 rest (by omega) (by simp; omega) (Or.inl rfl)
  simpa using this
structure Good (k st : Nat) (d : Bs) : Prop where
  k7 : k ≤ 7
  st28 : st ≤ 268435455
  len : d.length ≤ 64
  stream : streamFits k st = true
  length : lengthFits k d.length = true
  payload : payloadFits k d = true
theorem all_nil : all [] = ([], 0, []) := all_more rfl
end Go.Proofs.YtbkpdapagfjmmaaGreatDoor.Lk

namespace Go.Proofs.YtbkpdapagfjmmaaGreatDoor.Lk
structure Hd where
  n : Bs
  v : Bs
def Hd.weight (h : Hd) : Nat := h.n.length + h.v.length + 4
def weights : List Hd → Nat
  | [] => 0
  | x :: l => x.weight + weights l
def fit : Nat → List Hd → List Hd
  | _, [] => []
  | B, x :: l => if x.weight ≤ B then x :: fit (B - x.weight) l else []
def put (B : Nat) (L : List Hd) (h : Hd) : List Hd := fit B (h :: L)
def fixedL : List Hd := [⟨[116, 111], []⟩, ⟨[107, 105, 110, 100], [116, 101, 120, 116]⟩, ⟨[107, 105, 110, 100], [99, 97, 108, 108]⟩, ⟨[117, 114, 103, 101, 110, 116], [110, 111]⟩]
def ents (L : List Hd) : List Hd := fixedL ++ L
theorem weights_append (a b : List Hd) : weights (a ++ b) = weights a + weights b := by
  induction a with
  | nil => simp [weights]
  | cons x a ih => simp [weights, ih]; omega
theorem weights_len (l : List Hd) : 4 * l.length ≤ weights l := by
  induction l with
  | nil => simp
  | cons x l ih => simp [weights, Hd.weight]; omega
theorem weights_mem {l : List Hd} {x : Hd} (h : x ∈ l) : x.weight ≤ weights l := by
  induction l with
  | nil => simp at h
  | cons y l ih =>
    simp only [List.mem_cons] at h
    simp only [weights]
    rcases h with rfl | h
    · omega
    · have := ih h; omega
theorem fit_weights : ∀ (l : List Hd) (B : Nat), weights (fit B l) ≤ B
  | [], B => by simp [fit, weights]
  | x :: l, B => by
    rw [fit]
    split
    · have := fit_weights l (B - x.weight)
      simp only [weights]
      omega
    · simp [weights]
theorem put_weights (B : Nat) (L : List Hd) (h : Hd) : weights (put B L h) ≤ B := fit_weights _ _
theorem weights_take_le (l : List Hd) (k : Nat) : weights (l.take k) ≤ weights l := by
  have := congrArg weights (List.take_append_drop k l)
  rw [weights_append] at this
  omega
theorem fit_take : ∀ (l : List Hd) (B k : Nat), k ≤ l.length → weights (l.take k) ≤ B → (k = l.length ∨ B < weights (l.take (k + 1))) → fit B l = l.take k
  | [], B, k, h, _, _ => by simp [fit]
  | x :: l, B, 0, _, _, h2 => by
    rcases h2 with h2 | h2
    · simp at h2
    · simp only [List.take_succ_cons, List.take_zero, weights] at h2
      rw [fit, if_neg (by omega)]
      simp
  | x :: l, B, k + 1, h, h1, h2 => by
    simp only [List.take_succ_cons, weights] at h1 h2
    simp only [List.length_cons] at h h2
    rw [fit, if_pos (by omega), fit_take l (B - x.weight) k (by omega) (by omega) (by omega)]
    simp
def nameByte (c : UInt8) : Bool := (decide (97 ≤ c) && decide (c ≤ 122)) || decide (c = 45)
def valueByte (c : UInt8) : Bool := decide (32 ≤ c) && decide (c ≤ 126)
def allows (name : Bool) (c : UInt8) : Bool := if name then nameByte c else valueByte c
def lenOk (name : Bool) (n : Nat) : Bool := if name then decide (1 ≤ n ∧ n ≤ 16) else decide (n ≤ 32)
def fits (name : Bool) (s : Bs) : Bool := lenOk name s.length && s.all (allows name)
def good (h : Hd) : Bool := fits true h.n && fits false h.v
def wrongAt : Nat → List Hd → Nat × Nat
  | _, [] => (0, 0)
  | i, h :: l => if good h then wrongAt (i + 1) l else (7, i)
def wrong (l : List Hd) : Nat × Nat := if 6 < l.length then (8, 0) else wrongAt 0 l
theorem allows_name {c : UInt8} (h : nameByte c = true) : valueByte c = true := by
  simp only [nameByte, valueByte, Bool.or_eq_true, Bool.and_eq_true, decide_eq_true_eq, UInt8.le_iff_toNat_le] at *
  rcases h with ⟨h1, h2⟩ | h
  · simp at h1 h2 ⊢; omega
  · subst h; simp
def sameHd (h x : Hd) : Bool := decide (x.n = h.n) && decide (x.v = h.v)
def sameName (h x : Hd) : Bool := decide (x.n = h.n)
def low (p : Hd → Bool) : List Hd → Nat
  | [] => 0
  | x :: l => if p x then 0 else low p l + 1
theorem low_le (p : Hd → Bool) (l : List Hd) : low p l ≤ l.length := by
  induction l with
  | nil => simp [low]
  | cons x l ih => rw [low]; split <;> simp; omega
theorem low_of (p : Hd → Bool) : ∀ (l : List Hd) (i : Nat), (∀ j, j < i → ∃ x, l[j]? = some x ∧ p x = false) → (i = l.length ∨ ∃ x, l[i]? = some x ∧ p x = true) → low p l = i
  | [], i, h, h2 => by
    rcases h2 with h2 | ⟨x, hx, _⟩
    · simpa [low] using h2.symm
    · simp at hx
  | x :: l, 0, _, h2 => by
    rcases h2 with h2 | ⟨y, hy, hp⟩
    · simp at h2
    · simp at hy; subst hy; simp [low, hp]
  | x :: l, i + 1, h, h2 => by
    obtain ⟨y, hy, hp⟩ := h 0 (by omega)
    simp at hy
    subst hy
    rw [low, hp, low_of p l i (fun j hj => by simpa using h (j + 1) (by omega)) (by simpa using h2)]
    simp
def text (s : Bs) : Bs := wire s.length ++ s
def oneP (B : Nat) (L : List Hd) (h : Hd) : Bs × List Hd :=
  if low (sameHd h) (ents L) < (ents L).length then (wire (2 * low (sameHd h) (ents L)), L)
  else if low (sameName h) (ents L) < (ents L).length then (wire (2 * (low (sameName h) (ents L) + 1) + 1) ++ text h.v, put B L h)
  else (wire 1 ++ text h.n ++ text h.v, put B L h)
def squeeze (B : Nat) : List Hd → List Hd → Bs × List Hd
  | L, [] => ([], L)
  | L, h :: t => ((oneP B L h).1 ++ (squeeze B (oneP B L h).2 t).1, (squeeze B (oneP B L h).2 t).2)
inductive PR (α : Type) where
  | ok (a : α) (p : Nat)
  | bad (p : Nat)
def PR.at {α : Type} : PR α → Nat
  | .ok _ p => p
  | .bad p => p
def PR.good {α : Type} : PR α → Bool
  | .ok _ _ => true
  | .bad _ => false
def numR (s : Bs) (p : Nat) : PR Nat := match rd 0 0 (s.drop p) with
  | .short => .bad s.length
  | .bad k => .bad (p + k)
  | .ok n k => .ok n (p + k)
def upto (q : UInt8 → Bool) : Nat → Bs → Nat
  | 0, _ => 0
  | _ + 1, [] => 0
  | n + 1, c :: m => if q c then upto q n m + 1 else 0
def textR (name : Bool) (s : Bs) (p : Nat) : PR Bs := match numR s p with
  | .bad q => .bad q
  | .ok n q => if lenOk name n then
      (if upto (allows name) n (s.drop q) = n then .ok ((s.drop q).take n) (q + n) else .bad (q + upto (allows name) n (s.drop q)))
    else .bad (q - 1)
def entR (L : List Hd) (i p : Nat) : PR Hd := match (ents L)[i]? with
  | some h => .ok h p
  | none => .bad (p - 1)
def nameR (L : List Hd) (k : Nat) (s : Bs) (p : Nat) : PR Bs := if k = 0 then textR true s p else match entR L (k - 1) p with
  | .ok h p => .ok h.n p
  | .bad p => .bad p
def freshR (L : List Hd) (k : Nat) (s : Bs) (p : Nat) : PR Hd := match nameR L k s p with
  | .bad q => .bad q
  | .ok n q => match textR false s q with
    | .bad q => .bad q
    | .ok v q => .ok ⟨n, v⟩ q
def partR (B : Nat) (L : List Hd) (s : Bs) (p : Nat) : PR (Hd × List Hd) := match numR s p with
  | .bad q => .bad q
  | .ok n q => if n % 2 = 0 then (match entR L (n / 2) q with
      | .ok h q => .ok (h, L) q
      | .bad q => .bad q)
    else match freshR L (n / 2) s q with
      | .ok h q => .ok (h, put B L h) q
      | .bad q => .bad q
inductive XR where
  | ok (hs L : List Hd)
  | err (e p : Nat)
def exR (B : Nat) (s : Bs) : Nat → List Hd → Nat → XR
  | 0, L, p => if s.length ≤ p then .ok [] L else .err 8 p
  | n + 1, L, p => if s.length ≤ p then .ok [] L else match partR B L s p with
    | .bad q => .err 9 q
    | .ok hl q => match exR B s n hl.2 q with
      | .ok hs L2 => .ok (hl.1 :: hs) L2
      | .err e q => .err e q
theorem upto_le (q : UInt8 → Bool) : ∀ (n : Nat) (m : Bs), upto q n m ≤ n ∧ upto q n m ≤ m.length
  | 0, _ => by simp [upto]
  | _ + 1, [] => by simp [upto]
  | n + 1, c :: m => by
    rw [upto]
    have := upto_le q n m
    split <;> simp <;> omega
theorem upto_of (q : UInt8 → Bool) : ∀ (n i : Nat) (m : Bs), i ≤ n → (∀ j, j < i → ∃ c, m[j]? = some c ∧ q c = true) → (i = n ∨ m[i]? = none ∨ ∃ c, m[i]? = some c ∧ q c = false) → upto q n m = i
  | 0, i, m, h, _, _ => by simp [upto]; omega
  | n + 1, 0, [], _, _, _ => by simp [upto]
  | n + 1, 0, c :: m, _, _, h => by
    rcases h with h | h | ⟨d, hd, hq⟩
    · simp at h
    · simp at h
    · simp at hd; subst hd; simp [upto, hq]
  | n + 1, i + 1, [], _, h, _ => by
    obtain ⟨c, hc, _⟩ := h 0 (by omega)
    simp at hc
  | n + 1, i + 1, c :: m, h0, h, h2 => by
    obtain ⟨d, hd, hq⟩ := h 0 (by omega)
    simp at hd
    subst hd
    rw [upto, hq, upto_of q n i m (by omega) (fun j hj => by simpa using h (j + 1) (by omega)) (by simpa using h2)]
    simp
theorem numR_ge {s : Bs} {p n q : Nat} (hp : p ≤ s.length) (h : numR s p = .ok n q) : p < q ∧ q ≤ s.length := by
  unfold numR at h
  cases e : rd 0 0 (s.drop p) with
  | short => rw [e] at h; cases h
  | bad k => rw [e] at h; cases h
  | ok m k =>
    rw [e] at h
    cases h
    have := rd_ok_bounds _ _ _ _ _ e
    rw [List.length_drop] at this
    omega
theorem textR_ge {name : Bool} {s : Bs} {p : Nat} {t : Bs} {q : Nat} (hp : p ≤ s.length) (h : textR name s p = .ok t q) : p < q ∧ q ≤ s.length ∧ t.length ≤ 32 := by
  unfold textR at h
  cases e : numR s p with
  | bad k => rw [e] at h; cases h
  | ok m k =>
    have b := numR_ge hp e
    rw [e] at h
    simp only at h
    split at h
    · rename_i hl
      split at h
      · rename_i hu
        cases h
        have := upto_le (allows name) m (s.drop k)
        rw [hu, List.length_drop] at this
        have hm : m ≤ 32 := by
          unfold lenOk at hl
          split at hl <;> simp at hl <;> omega
        simp
        omega
      · cases h
    · cases h
theorem ents_len (L : List Hd) : (ents L).length = 4 + L.length := by simp [ents, fixedL]; omega
theorem oneP_weights (B : Nat) (L : List Hd) (h : Hd) (hL : weights L ≤ B) : weights (oneP B L h).2 ≤ B := by
  unfold oneP
  split
  · exact hL
  · split <;> exact put_weights _ _ _
theorem oneP_pos (B : Nat) (L : List Hd) (h : Hd) : 0 < (oneP B L h).1.length := by
  unfold oneP
  split
  · exact wire_len_pos _
  · split <;> simp only [List.length_append]
    · have := wire_len_pos (2 * (low (sameName h) (ents L) + 1) + 1); omega
    · have := wire_len_pos 1; omega
theorem squeeze_weights (B : Nat) : ∀ (hs L : List Hd), weights L ≤ B → weights (squeeze B L hs).2 ≤ B
  | [], _, h => h
  | x :: hs, L, h => squeeze_weights B hs _ (oneP_weights B L x h)
theorem squeeze_nil (B : Nat) : ∀ (hs L : List Hd), (squeeze B L hs).1 = [] ↔ hs = []
  | [], _ => by simp [squeeze]
  | x :: hs, L => by
    have := oneP_pos B L x
    simp only [squeeze, List.append_eq_nil_iff]
    constructor
    · rintro ⟨h, _⟩; rw [h] at this; simp at this
    · intro h; cases h
theorem squeeze_snoc (B : Nat) : ∀ (hs L : List Hd) (x : Hd), squeeze B L (hs ++ [x]) = ((squeeze B L hs).1 ++ (oneP B (squeeze B L hs).2 x).1, (oneP B (squeeze B L hs).2 x).2)
  | [], L, x => by simp [squeeze]
  | y :: hs, L, x => by
    simp only [List.cons_append, squeeze, squeeze_snoc B hs _ x, List.append_assoc]
theorem wrongAt_ok : ∀ (l : List Hd) (i : Nat), (wrongAt i l).1 = 0 ↔ ∀ h ∈ l, good h = true
  | [], i => by simp [wrongAt]
  | x :: l, i => by
    rw [wrongAt]
    split
    · rename_i h; rw [wrongAt_ok l (i + 1)]; simp [h]
    · rename_i h; simp [h]
theorem wrong_ok {l : List Hd} (h : (wrong l).1 = 0) : l.length ≤ 6 ∧ ∀ x ∈ l, good x = true := by
  unfold wrong at h
  split at h
  · cases h
  · exact ⟨by omega, (wrongAt_ok l 0).1 h⟩
end Go.Proofs.YtbkpdapagfjmmaaGreatDoor.Lk

namespace Go.Proofs.YtbkpdapagfjmmaaGreatDoor
open Go.RowKit
theorem hide {p : Prop} (h : p) : Hid p := h
theorem uh {p : Prop} (h : Hid p) : p := h
theorem ret_int {k : IntKind} {a b : Int} (h : a = b) : Ending.returned (.int k a) = .returned (.int k b) := by rw [h]
theorem ret_bool {a b : Bool} (h : a = b) : Ending.returned (.bool a) = .returned (.bool b) := by rw [h]
def Is (w : World) (b : Nat) (T : TypeId) (cs : List Value) : Prop := w.heap[b]? = some (.cells cs.toArray T (0, 0))
theorem Is.lt {w : World} {b : Nat} {T : TypeId} {cs : List Value} (h : Is w b T cs) : b < w.heap.size := lt_of_block h
theorem Is.cell {w : World} {b : Nat} {T : TypeId} {cs : List Value} (h : Is w b T cs) (i : Nat) : w.cell? ⟨b, i, none⟩ = cs[i]? := by
  unfold Is at h
  simp [World.cell?, h]
theorem Is.free {w : World} {b : Nat} {T : TypeId} {cs : List Value} (h : Is w b T cs) (i : Nat) : w.frozen? ⟨b, i, none⟩ = false := by
  unfold Is at h
  simp [World.frozen?, h]
theorem Is.set {w : World} {b : Nat} {T : TypeId} {cs : List Value} (h : Is w b T cs) (i : Nat) (v : Value) : Is (w.setCell ⟨b, i, none⟩ v) b T (cs.set i v) := by
  unfold Is
  rw [heap_setCell_same w b i _ T v h]
  simp
theorem Is.drewN {w : World} {b : Nat} {T : TypeId} {cs : List Value} (h : Is w b T cs) (n : Nat) : Is (w.drewN n) b T cs := h
theorem Is.drew {w : World} {b : Nat} {T : TypeId} {cs : List Value} (h : Is w b T cs) : Is w.drew b T cs := h
theorem Is.new (w : World) (T : TypeId) (cs : List Value) : Is (w.alloc (.cells cs.toArray T)) w.heap.size T cs := by
  exact heap_alloc_new w _
theorem Is.alloc {w : World} {b : Nat} {T : TypeId} {cs : List Value} (h : Is w b T cs) (o : Obj) : Is (w.alloc o) b T cs := by
  unfold Is
  rw [Below.heap_alloc _ _ _ h.lt]
  exact h
theorem Is.other {w : World} {b : Nat} {T : TypeId} {cs : List Value} (h : Is w b T cs) (a : Addr) (v : Value) (hne : b ≠ a.block) : Is (w.setCell a v) b T cs := by
  unfold Is
  rw [heap_setCell_other w a b v hne]
  exact h
theorem Is.grown {w w' : World} {b : Nat} {T : TypeId} {cs : List Value} (h : Is w b T cs) {row : Option Nat} (hg : w.grownBy w' row) (hne : some b ≠ row) : Is w' b T cs := by
  unfold Is
  rw [hg.block b h.lt hne]
  exact h
theorem Is.below {w w' : World} {b B : Nat} {T : TypeId} {cs : List Value} (h : Is w b T cs) (hg : Below B w w') (hne : b < B) : Is w' b T cs := by
  unfold Is
  rw [hg.block b hne]
  exact h
def Turns (b : Nat) (w w' : World) : Prop := w.grownBy w' (some b)
theorem Turns.refl (b : Nat) (w : World) : Turns b w w := World.grownBy.refl w _
theorem Turns.trans {b : Nat} {w w1 w2 : World} (h : Turns b w w1) (k : Turns b w1 w2) : Turns b w w2 :=
  ⟨k.os.trans h.os, k.tape.trans h.tape, k.output.trans h.output, Nat.le_trans h.size k.size, fun i hi hn => (k.block i (Nat.lt_of_lt_of_le hi h.size) hn).trans (h.block i hi hn)⟩
theorem Turns.drewN {b : Nat} {w w1 : World} (h : Turns b w w1) (n : Nat) : Turns b w (w1.drewN n) := ⟨h.os, h.tape, h.output, h.size, h.block⟩
theorem Turns.drew {b : Nat} {w w1 : World} (h : Turns b w w1) : Turns b w w1.drew := ⟨h.os, h.tape, h.output, h.size, h.block⟩
theorem Turns.set {b : Nat} {w w1 : World} (h : Turns b w w1) (i : Nat) (v : Value) : Turns b w (w1.setCell ⟨b, i, none⟩ v) :=
  h.trans ⟨rfl, rfl, rfl, by simp, fun k _ hn => heap_setCell_other _ _ _ _ (fun e => hn (congrArg some e))⟩
theorem Turns.alloc {b : Nat} {w w1 : World} (h : Turns b w w1) (o : Obj) : Turns b w (w1.alloc o) := h.trans (World.grownBy_alloc _ _ _)
theorem Turns.below {b : Nat} {w w1 w2 : World} (h : Turns b w w1) (k : Below w1.heap.size w1 w2) : Turns b w w2 :=
  h.trans ⟨k.os, k.tape, k.output, k.size, fun i hi _ => k.block i hi⟩
theorem Turns.toBelow {b B : Nat} {w w1 w2 : World} (h : Below B w w1) (k : Turns b w1 w2) (hb : B ≤ b) (hB : B ≤ w1.heap.size) : Below B w w2 :=
  h.trans ⟨k.os, k.tape, k.output, k.size, fun i hi => k.block i (by omega) (fun e => by cases e; omega)⟩
theorem Below.drewN {B : Nat} {a w : World} (h : Below B a w) (n : Nat) : Below B a (w.drewN n) := ⟨h.os, h.tape, h.output, h.size, h.block⟩
end Go.Proofs.YtbkpdapagfjmmaaGreatDoor
