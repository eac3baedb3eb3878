import Derived.WalkKit
import Derived.WalkSpells
import Derived.WalkLawsBesides
import Derived.Deep.QuietTactic
import Derived.BigQuiet
import Derived.OneCell
import Derived.Test.YtbkpdapagfjmmaaGreatDoorProg
import Derived.Deep.RegionWith
import Derived.Test.YtbkpdapagfjmmaaGreatDoorRows
import Derived.ProofKit
import Derived.OpenShut
import Derived.ShutString
import Derived.ChangeOld
import Derived.JoinedCond
import Derived.Deep.Slices
import Derived.Deep.DeepHandedRow
import Derived.Lib.LaidTab
set_option linter.unusedVariables false
set_option maxRecDepth 100000
set_option maxHeartbeats 16000000
namespace Go.Proofs.YtbkpdapagfjmmaaGreatDoor
theorem nbq {a b : Nat} (h : Nat.beq a b = false) : a ≠ b := Nat.ne_of_beq_eq_false h
end Go.Proofs.YtbkpdapagfjmmaaGreatDoor
namespace Go.Proofs.YtbkpdapagfjmmaaGreatDoor.Lk
abbrev Bs := List UInt8
def wire (n : Nat) : Bs := if n < 128 then [UInt8.ofNat n] else UInt8.ofNat (128 + n % 128) :: wire (n / 128)
termination_by n
decreasing_by omega
theorem gu (n : Nat) (h : n < 128) : wire n = [UInt8.ofNat n] := by rw [wire, if_pos h]
theorem iG (n : Nat) (h : ¬ n < 128) : wire n = UInt8.ofNat (128 + n % 128) :: wire (n / 128) := by rw [wire, if_neg h]
theorem dw (n : Nat) : 0 < (wire n).length := by
 by_cases h : n < 128
 . rw [gu n h]; simp
 . rw [iG n h]; simp
theorem gK (n : Nat) (h : n < 128) : (wire n).length = 1 := by rw [gu n h]; rfl
theorem kR (n : Nat) (h : n < 16384) : (wire n).length <= 2 := by
 by_cases g : n < 128
 . rw [gK n g]; omega
 . rw [iG n g, List.length_cons, gK _ (by omega)]; omega
theorem zo (n : Nat) (h : n < 2097152) : (wire n).length <= 3 := by
 by_cases g : n < 128
 . rw [gK n g]; omega
 . rw [iG n g, List.length_cons]; have := kR (n / 128) (by omega); omega
theorem au (n : Nat) (h : n <= 268435455) : (wire n).length <= 4 := by
 by_cases g : n < 128
 . rw [gK n g]; omega
 . rw [iG n g, List.length_cons]; have := zo (n / 128) (by omega); omega
inductive Rd where
 | short
 | bad (k : Nat)
 | ok (n k : Nat)
def rd (k acc : Nat) : Bs -> Rd
 | [] => .short
 | c :: t => if k = 4 ∨ (0 < k ∧ c = 0) then .bad k
   else if c.toNat < 128 then .ok (acc + c.toNat % 128 * 128 ^ k) (k + 1)
   else rd (k + 1) (acc + c.toNat % 128 * 128 ^ k) t
def aC (kind stream : Int) : Bool := if kind = 4 then true else if 5 <= kind then decide (stream = 0) else decide (0 < stream)
def aA (kind n : Int) : Bool :=
 if kind = 1 then decide (1 <= n ∧ n <= 16) else if kind = 2 then decide (n <= 16) else if kind = 3 ∨ kind = 4 ∨ kind = 7 then decide (1 <= n ∧ n <= 4)
 else if kind = 5 ∨ kind = 6 then decide (n = 8) else true
def eG (l : Bs) : Bool := match rd 0 0 l with
 | .ok _ k => decide (k = l.length)
 | _ => false
def ay (kind : Int) (l : Bs) : Bool := if kind = 3 ∨ kind = 4 ∨ kind = 7 then eG l else true
def jH (kind : Int) : Int := if kind < 0 ∨ 7 < kind then 3 else 0
def fM (kind stream : Int) : Int := if aC kind stream = false then 4 else 0
def dF (kind n : Int) : Int := if 64 < n then 5 else if aA kind n = false then 6 else 0
def bP (kind : Int) (l : Bs) : Int := if ay kind l = false then 6 else 0
def aO (kind stream : Int) (data : Bs) : Int :=
 if kind < 0 ∨ 7 < kind then 3
 else if stream < 0 ∨ 268435455 < stream then 2
 else if aC kind stream = false then 4
 else if 64 < data.length then 5
 else if aA kind data.length = false then 6
 else if ay kind data = false then 6
 else 0
def packed (kind stream : Int) (data : Bs) : Bs := UInt8.ofNat kind.toNat :: (wire stream.toNat ++ wire data.length ++ data)
inductive Nx where
 | more
 | err (e : Nat)
 | frame (kind stream : Nat) (data : Bs) (n : Nat)
def nx : Bs -> Nx
 | [] => .more
 | c :: t =>
   if 7 < c.toNat then .err 3
   else match rd 0 0 t with
    | .bad _ => .err 2
    | .short => .more
    | .ok st a =>
      if aC c.toNat st = false then .err 4
      else match rd 0 0 (t.drop a) with
       | .bad _ => .err 2
       | .short => .more
       | .ok n b =>
         if 64 < n then .err 5
         else if aA c.toNat n = false then .err 6
         else if t.length < a + b + n then .more
         else if ay c.toNat ((t.drop (a + b)).take n) = false then .err 6
         else .frame c.toNat st ((t.drop (a + b)).take n) (1 + a + b + n)
def Rd.val : Rd -> Int | .ok n _ => n | _ => 0
def Rd.good : Rd -> Bool | .ok _ _ => true | _ => false
def Rd.at (p size : Nat) : Rd -> Nat | .ok _ k => p + k | .bad k => p + k | .short => size
theorem Og (k acc : Nat) : rd k acc [] = .short := rfl
theorem Oh (k acc : Nat) (c : UInt8) (t : Bs) (h : k = 4 ∨ (0 < k ∧ c = 0)) : rd k acc (c :: t) = .bad k := by rw [rd, if_pos h]
theorem IA (k acc : Nat) (c : UInt8) (t : Bs) (h : ¬ (k = 4 ∨ (0 < k ∧ c = 0))) (hc : c.toNat < 128) : rd k acc (c :: t) = .ok (acc + c.toNat % 128 * 128 ^ k) (k + 1) := by rw [rd, if_neg h, if_pos hc]
theorem OW (k acc : Nat) (c : UInt8) (t : Bs) (h : ¬ (k = 4 ∨ (0 < k ∧ c = 0))) (hc : ¬ c.toNat < 128) : rd k acc (c :: t) = rd (k + 1) (acc + c.toNat % 128 * 128 ^ k) t := by rw [rd, if_neg h, if_neg hc]
theorem bn : ∀ (l : Bs) (k acc n j : Nat), rd k acc l = .ok n j -> k < j ∧ j <= k + l.length
 | [], k, acc, n, j, h => by simp [rd] at h
 | c :: t, k, acc, n, j, h => by
   rw [rd] at h
   split at h
   . cases h
   . split at h
     . cases h; simp only [List.length_cons]; omega
     . have := bn t _ _ _ _ h; simp only [List.length_cons]; omega
theorem jW : ∀ (l : Bs) (k acc j : Nat), rd k acc l = .bad j -> k <= j ∧ j < k + l.length
 | [], k, acc, j, h => by simp [rd] at h
 | c :: t, k, acc, j, h => by
   rw [rd] at h
   split at h
   . cases h; simp only [List.length_cons]; omega
   . split at h
     . cases h
     . have := jW t _ _ _ h; simp only [List.length_cons]; omega
theorem ry : ∀ (l : Bs) (k acc n j : Nat), rd k acc l = .ok n j -> j <= 4 ∨ 4 < k
 | [], k, acc, n, j, h => by simp [rd] at h
 | c :: t, k, acc, n, j, h => by
   rw [rd] at h
   split at h
   . cases h
   . rename_i g
     split at h
     . cases h; omega
     . have := ry t _ _ _ _ h; omega
structure Fr where
 k : Nat
 st : Nat
 d : Bs
theorem kS : ∀ (l : Bs) (k acc : Nat), k <= 4 -> rd k acc l = .short -> k + l.length <= 4
 | [], k, acc, hk, _ => by simpa using hk
 | c :: t, k, acc, hk, h => by
   rw [rd] at h
   split at h
   . cases h
   . rename_i g
     split at h
     . cases h
     . have := kS t (k + 1) _ (by omega) h
       simp only [List.length_cons]
       omega
theorem aV {l d : Bs} {k st n : Nat} (h : nx l = .frame k st d n) : 3 <= n ∧ n <= l.length ∧ d.length <= 64 := by
 cases l with
 | nil => cases h
 | cons c t =>
   rw [nx] at h
   split at h
   . cases h
   . split at h
     . cases h
     . cases h
     . rename_i st' a hr1
       split at h
       . cases h
       . split at h
         . cases h
         . cases h
         . rename_i n' b hr2
           split at h
           . cases h
           . split at h
             . cases h
             . split at h
               . cases h
               . split at h
                 . cases h
                 . cases h
                   have h1 := bn _ _ _ _ _ hr1
                   have h2 := bn _ _ _ _ _ hr2
                   simp only [List.length_take, List.length_drop, List.length_cons] at *
                   omega
theorem mV {l : Bs} (h : nx l = .more) : l.length <= 72 := by
 cases l with
 | nil => simp
 | cons c t =>
   rw [nx] at h
   split at h
   . cases h
   . split at h
     . cases h
     . rename_i hr1
       have := kS _ 0 0 (by omega) hr1
       simp only [List.length_cons]
       omega
     . rename_i st' a hr1
       have h1 := ry _ _ _ _ _ hr1
       split at h
       . cases h
       . split at h
         . cases h
         . rename_i hr2
           have := kS _ 0 0 (by omega) hr2
           simp only [List.length_cons, List.length_drop] at *
           omega
         . rename_i n' b hr2
           have h2 := ry _ _ _ _ _ hr2
           split at h
           . cases h
           . split at h
             . cases h
             . split at h
               . simp only [List.length_cons]
                 omega
               . split at h <;> cases h
def all (l : Bs) : List Fr × Nat × Bs :=
 match h : nx l with
 | .more => ([], 0, l)
 | .err e => ([], e, [])
 | .frame k st d n => (⟨k, st, d⟩ :: (all (l.drop n)).1, (all (l.drop n)).2)
termination_by l.length
decreasing_by all_goals (have := aV h; simp only [List.length_drop]; omega)
theorem iU {l : Bs} (h : nx l = .more) : all l = ([], 0, l) := by
 rw [all]; split <;> simp_all
theorem mW {l : Bs} {e : Nat} (h : nx l = .err e) : all l = ([], e, []) := by
 rw [all]; split <;> simp_all
theorem ja {l d : Bs} {k st n : Nat} (h : nx l = .frame k st d n) : all l = (⟨k, st, d⟩ :: (all (l.drop n)).1, (all (l.drop n)).2) := by
 rw [all]; split <;> simp_all
theorem oO {l : Bs} {e : Nat} (h : nx l = .err e) : e ≠ 0 := by
 cases l with
 | nil => cases h
 | cons c t =>
   rw [nx] at h
   split at h
   . cases h; omega
   . split at h
     . cases h; omega
     . cases h
     . split at h
       . cases h; omega
       . split at h
         . cases h; omega
         . cases h
         . split at h
           . cases h; omega
           . split at h
             . cases h; omega
             . split at h
               . cases h
               . split at h <;> cases h
                 omega
theorem mX (n : Nat) (h : n < 256) : (UInt8.ofNat n).toNat = n := by
 simp; omega
theorem Ed (n : Nat) (h : n < 256) (h0 : n ≠ 0) : ¬ UInt8.ofNat n = 0 := by
 intro e
 have := congrArg UInt8.toNat e
 rw [mX n h] at this
 exact h0 (by simpa using this)
theorem UN {k : Nat} (h : k <= 3) : k = 0 ∨ k = 1 ∨ k = 2 ∨ k = 3 := by omega
theorem OX : ∀ (m k acc : Nat) (rest : Bs), k <= 3 -> m < 128 ^ (4 - k) -> (k = 0 ∨ m ≠ 0) -> rd k acc (wire m ++ rest) = .ok (acc + m * 128 ^ k) (k + (wire m).length) := by
 intro m
 induction m using Nat.strongRecOn with
 | _ m ih =>
   intro k acc rest hk hm h0
   by_cases hs : m < 128
   . rw [gu m hs]
     have e := mX m (by omega)
     rw [List.cons_append, List.nil_append, rd, if_neg, if_pos (by omega), e]
     . rw [Nat.mod_eq_of_lt hs]; simp
     . rintro (h | ⟨h, h'⟩)
       . omega
       . exact Ed m (by omega) (by omega) h'
   . rw [iG m hs]
     have e := mX (128 + m % 128) (by omega)
     have hk2 : k ≠ 3 := by
      rintro rfl
      simp at hm
      omega
     rw [List.cons_append, rd, if_neg, if_neg (by omega), e]
     . have hd : m / 128 < 128 ^ (4 - (k + 1)) := by
        rcases (by omega : k = 0 ∨ k = 1 ∨ k = 2) with rfl | rfl | rfl <;> simp at hm ⊢ <;> omega
       rw [ih (m / 128) (by omega) (k + 1) _ rest (by omega) hd (Or.inr (by omega))]
       have e2 : (128 + m % 128) % 128 = m % 128 := by omega
       rw [e2]
       have e3 : m * 128 ^ k = m % 128 * 128 ^ k + m / 128 * 128 ^ (k + 1) := by
        rw [Nat.pow_succ, Nat.mul_comm (128 ^ k) 128, <- Nat.mul_assoc, <- Nat.add_mul]
        congr 1
        omega
       simp only [List.length_cons]
       congr 1
       . omega
       . omega
     . rintro (h | ⟨h, h'⟩)
       . omega
       . exact Ed (128 + m % 128) (by omega) (by omega) h'
theorem Lj (m : Nat) (rest : Bs) (h : m <= 268435455) : rd 0 0 (wire m ++ rest) = .ok m (wire m).length := by
 have := OX m 0 0 rest (by omega) (by simp; omega) (Or.inl rfl)
 simpa using this
structure Good (k st : Nat) (d : Bs) : Prop where
 k7 : k <= 7
 Fv : st <= 268435455
 len : d.length <= 64
 stream : aC k st = true
 length : aA k d.length = true
 payload : ay k d = true
theorem all_nil : all [] = ([], 0, []) := iU rfl
structure Hd where
 n : Bs
 v : Bs
def Hd.weight (h : Hd) : Nat := h.n.length + h.v.length + 4
def weights : List Hd -> Nat
 | [] => 0
 | x :: l => x.weight + weights l
def fit : Nat -> List Hd -> List Hd
 | _, [] => []
 | B, x :: l => if x.weight <= B then x :: fit (B - x.weight) l else []
def put (B : Nat) (L : List Hd) (h : Hd) : List Hd := fit B (h :: L)
def jb : List Hd := [⟨[116, 111], []⟩, ⟨[107, 105, 110, 100], [116, 101, 120, 116]⟩, ⟨[107, 105, 110, 100], [99, 97, 108, 108]⟩, ⟨[117, 114, 103, 101, 110, 116], [110, 111]⟩]
def fB (L : List Hd) : List Hd := jb ++ L
theorem jI (a b : List Hd) : weights (a ++ b) = weights a + weights b := by
 induction a with
 | nil => simp [weights]
 | cons x a ih => simp [weights, ih]; omega
theorem jc (l : List Hd) : 4 * l.length <= weights l := by
 induction l with
 | nil => simp
 | cons x l ih => simp [weights, Hd.weight]; omega
theorem jX {l : List Hd} {x : Hd} (h : x ∈ l) : x.weight <= weights l := by
 induction l with
 | nil => simp at h
 | cons y l ih =>
   simp only [List.mem_cons] at h
   simp only [weights]
   rcases h with rfl | h
   . omega
   . have := ih h; omega
theorem rC : ∀ (l : List Hd) (B : Nat), weights (fit B l) <= B
 | [], B => by simp [fit, weights]
 | x :: l, B => by
   rw [fit]
   split
   . have := rC l (B - x.weight)
     simp only [weights]
     omega
   . simp [weights]
theorem jd (B : Nat) (L : List Hd) (h : Hd) : weights (put B L h) <= B := rC _ _
theorem rD (l : List Hd) (k : Nat) : weights (l.take k) <= weights l := by
 have := congrArg weights (List.take_append_drop k l)
 rw [jI] at this
 omega
theorem xx : ∀ (l : List Hd) (B k : Nat), k <= l.length -> weights (l.take k) <= B -> (k = l.length ∨ B < weights (l.take (k + 1))) -> fit B l = l.take k
 | [], B, k, h, _, _ => by simp [fit]
 | x :: l, B, 0, _, _, h2 => by
   rcases h2 with h2 | h2
   . simp at h2
   . simp only [List.take_succ_cons, List.take_zero, weights] at h2
     rw [fit, if_neg (by omega)]
     simp
 | x :: l, B, k + 1, h, h1, h2 => by
   simp only [List.take_succ_cons, weights] at h1 h2
   simp only [List.length_cons] at h h2
   rw [fit, if_pos (by omega), xx l (B - x.weight) k (by omega) (by omega) (by omega)]
   simp
def aG (c : UInt8) : Bool := (decide (97 <= c) && decide (c <= 122)) || decide (c = 45)
def aB (c : UInt8) : Bool := decide (32 <= c) && decide (c <= 126)
def allows (name : Bool) (c : UInt8) : Bool := if name then aG c else aB c
def jM (name : Bool) (n : Nat) : Bool := if name then decide (1 <= n ∧ n <= 16) else decide (n <= 32)
def fits (name : Bool) (s : Bs) : Bool := jM name s.length && s.all (allows name)
def good (h : Hd) : Bool := fits true h.n && fits false h.v
def di : Nat -> List Hd -> Nat × Nat
 | _, [] => (0, 0)
 | i, h :: l => if good h then di (i + 1) l else (7, i)
def wrong (l : List Hd) : Nat × Nat := if 6 < l.length then (8, 0) else di 0 l
theorem BG {c : UInt8} (h : aG c = true) : aB c = true := by
 simp only [aG, aB, Bool.or_eq_true, Bool.and_eq_true, decide_eq_true_eq, UInt8.le_iff_toNat_le] at *
 rcases h with ⟨h1, h2⟩ | h
 . simp at h1 h2 ⊢; omega
 . subst h; simp
def gy (h x : Hd) : Bool := decide (x.n = h.n) && decide (x.v = h.v)
def aX (h x : Hd) : Bool := decide (x.n = h.n)
def low (p : Hd -> Bool) : List Hd -> Nat
 | [] => 0
 | x :: l => if p x then 0 else low p l + 1
theorem Oi (p : Hd -> Bool) (l : List Hd) : low p l <= l.length := by
 induction l with
 | nil => simp [low]
 | cons x l ih => rw [low]; split <;> simp; omega
theorem nK (p : Hd -> Bool) : ∀ (l : List Hd) (i : Nat), (∀ j, j < i -> ∃ x, l[j]? = some x ∧ p x = false) -> (i = l.length ∨ ∃ x, l[i]? = some x ∧ p x = true) -> low p l = i
 | [], i, h, h2 => by
   rcases h2 with h2 | ⟨x, hx, _⟩
   . simpa [low] using h2.symm
   . simp at hx
 | x :: l, 0, _, h2 => by
   rcases h2 with h2 | ⟨y, hy, hp⟩
   . simp at h2
   . simp at hy; subst hy; simp [low, hp]
 | x :: l, i + 1, h, h2 => by
   obtain ⟨y, hy, hp⟩ := h 0 (by omega)
   simp at hy
   subst hy
   rw [low, hp, nK p l i (fun j hj => by simpa using h (j + 1) (by omega)) (by simpa using h2)]
   simp
def text (s : Bs) : Bs := wire s.length ++ s
def lT (B : Nat) (L : List Hd) (h : Hd) : Bs × List Hd :=
 if low (gy h) (fB L) < (fB L).length then (wire (2 * low (gy h) (fB L)), L)
 else if low (aX h) (fB L) < (fB L).length then (wire (2 * (low (aX h) (fB L) + 1) + 1) ++ text h.v, put B L h)
 else (wire 1 ++ text h.n ++ text h.v, put B L h)
def squeeze (B : Nat) : List Hd -> List Hd -> Bs × List Hd
 | L, [] => ([], L)
 | L, h :: t => ((lT B L h).1 ++ (squeeze B (lT B L h).2 t).1, (squeeze B (lT B L h).2 t).2)
inductive PR (α : Type) where
 | ok (a : α) (p : Nat)
 | bad (p : Nat)
def PR.at {α : Type} : PR α -> Nat
 | .ok _ p => p
 | .bad p => p
def PR.good {α : Type} : PR α -> Bool
 | .ok _ _ => true
 | .bad _ => false
def kT (s : Bs) (p : Nat) : PR Nat := match rd 0 0 (s.drop p) with
 | .short => .bad s.length
 | .bad k => .bad (p + k)
 | .ok n k => .ok n (p + k)
def upto (q : UInt8 -> Bool) : Nat -> Bs -> Nat
 | 0, _ => 0
 | _ + 1, [] => 0
 | n + 1, c :: m => if q c then upto q n m + 1 else 0
def bI (name : Bool) (s : Bs) (p : Nat) : PR Bs := match kT s p with
 | .bad q => .bad q
 | .ok n q => if jM name n then
  (if upto (allows name) n (s.drop q) = n then .ok ((s.drop q).take n) (q + n) else .bad (q + upto (allows name) n (s.drop q)))
   else .bad (q - 1)
def pX (L : List Hd) (i p : Nat) : PR Hd := match (fB L)[i]? with
 | some h => .ok h p
 | none => .bad (p - 1)
def jY (L : List Hd) (k : Nat) (s : Bs) (p : Nat) : PR Bs := if k = 0 then bI true s p else match pX L (k - 1) p with
 | .ok h p => .ok h.n p
 | .bad p => .bad p
def eH (L : List Hd) (k : Nat) (s : Bs) (p : Nat) : PR Hd := match jY L k s p with
 | .bad q => .bad q
 | .ok n q => match bI false s q with
   | .bad q => .bad q
   | .ok v q => .ok ⟨n, v⟩ q
def mY (B : Nat) (L : List Hd) (s : Bs) (p : Nat) : PR (Hd × List Hd) := match kT s p with
 | .bad q => .bad q
 | .ok n q => if n % 2 = 0 then (match pX L (n / 2) q with
  | .ok h q => .ok (h, L) q
  | .bad q => .bad q)
   else match eH L (n / 2) s q with
    | .ok h q => .ok (h, put B L h) q
    | .bad q => .bad q
inductive XR where
 | ok (hs L : List Hd)
 | err (e p : Nat)
def exR (B : Nat) (s : Bs) : Nat -> List Hd -> Nat -> XR
 | 0, L, p => if s.length <= p then .ok [] L else .err 8 p
 | n + 1, L, p => if s.length <= p then .ok [] L else match mY B L s p with
   | .bad q => .err 9 q
   | .ok hl q => match exR B s n hl.2 q with
     | .ok hs L2 => .ok (hl.1 :: hs) L2
     | .err e q => .err e q
theorem IB (q : UInt8 -> Bool) : ∀ (n : Nat) (m : Bs), upto q n m <= n ∧ upto q n m <= m.length
 | 0, _ => by simp [upto]
 | _ + 1, [] => by simp [upto]
 | n + 1, c :: m => by
   rw [upto]
   have := IB q n m
   split <;> simp <;> omega
theorem ik (q : UInt8 -> Bool) : ∀ (n i : Nat) (m : Bs), i <= n -> (∀ j, j < i -> ∃ c, m[j]? = some c ∧ q c = true) -> (i = n ∨ m[i]? = none ∨ ∃ c, m[i]? = some c ∧ q c = false) -> upto q n m = i
 | 0, i, m, h, _, _ => by simp [upto]; omega
 | n + 1, 0, [], _, _, _ => by simp [upto]
 | n + 1, 0, c :: m, _, _, h => by
   rcases h with h | h | ⟨d, hd, hq⟩
   . simp at h
   . simp at h
   . simp at hd; subst hd; simp [upto, hq]
 | n + 1, i + 1, [], _, h, _ => by
   obtain ⟨c, hc, _⟩ := h 0 (by omega)
   simp at hc
 | n + 1, i + 1, c :: m, h0, h, h2 => by
   obtain ⟨d, hd, hq⟩ := h 0 (by omega)
   simp at hd
   subst hd
   rw [upto, hq, ik q n i m (by omega) (fun j hj => by simpa using h (j + 1) (by omega)) (by simpa using h2)]
   simp
theorem iq {s : Bs} {p n q : Nat} (hp : p <= s.length) (h : kT s p = .ok n q) : p < q ∧ q <= s.length := by
 unfold kT at h
 cases e : rd 0 0 (s.drop p) with
 | short => rw [e] at h; cases h
 | bad k => rw [e] at h; cases h
 | ok m k =>
   rw [e] at h
   cases h
   have := bn _ _ _ _ _ e
   rw [List.length_drop] at this
   omega
theorem jZ {name : Bool} {s : Bs} {p : Nat} {t : Bs} {q : Nat} (hp : p <= s.length) (h : bI name s p = .ok t q) : p < q ∧ q <= s.length ∧ t.length <= 32 := by
 unfold bI at h
 cases e : kT s p with
 | bad k => rw [e] at h; cases h
 | ok m k =>
   have b := iq hp e
   rw [e] at h
   simp only at h
   split at h
   . rename_i hl
     split at h
     . rename_i hu
       cases h
       have := IB (allows name) m (s.drop k)
       rw [hu, List.length_drop] at this
       have hm : m <= 32 := by
        unfold jM at hl
        split at hl <;> simp at hl <;> omega
       simp
       omega
     . cases h
   . cases h
theorem nM (L : List Hd) : (fB L).length = 4 + L.length := by simp [fB, jb]; omega
theorem pY (B : Nat) (L : List Hd) (h : Hd) (hL : weights L <= B) : weights (lT B L h).2 <= B := by
 unfold lT
 split
 . exact hL
 . split <;> exact jd _ _ _
theorem Ll (B : Nat) (L : List Hd) (h : Hd) : 0 < (lT B L h).1.length := by
 unfold lT
 split
 . exact dw _
 . split <;> simp only [List.length_append]
   . have := dw (2 * (low (aX h) (fB L) + 1) + 1); omega
   . have := dw 1; omega
theorem kU (B : Nat) : ∀ (hs L : List Hd), weights L <= B -> weights (squeeze B L hs).2 <= B
 | [], _, h => h
 | x :: hs, L, h => kU B hs _ (pY B L x h)
theorem BH (B : Nat) : ∀ (hs L : List Hd), (squeeze B L hs).1 = [] ↔ hs = []
 | [], _ => by simp [squeeze]
 | x :: hs, L => by
   have := Ll B L x
   simp only [squeeze, List.append_eq_nil_iff]
   constructor
   . rintro ⟨h, _⟩; rw [h] at this; simp at this
   . intro h; cases h
theorem kV (B : Nat) : ∀ (hs L : List Hd) (x : Hd), squeeze B L (hs ++ [x]) = ((squeeze B L hs).1 ++ (lT B (squeeze B L hs).2 x).1, (lT B (squeeze B L hs).2 x).2)
 | [], L, x => by simp [squeeze]
 | y :: hs, L, x => by
   simp only [List.cons_append, squeeze, kV B hs _ x, List.append_assoc]
theorem vI : ∀ (l : List Hd) (i : Nat), (di i l).1 = 0 ↔ ∀ h ∈ l, good h = true
 | [], i => by simp [di]
 | x :: l, i => by
   rw [di]
   split
   . rename_i h; rw [vI l (i + 1)]; simp [h]
   . rename_i h; simp [h]
theorem xy {l : List Hd} (h : (wrong l).1 = 0) : l.length <= 6 ∧ ∀ x ∈ l, good x = true := by
 unfold wrong at h
 split at h
 . cases h
 . exact ⟨by omega, (vI l 0).1 h⟩
end Go.Proofs.YtbkpdapagfjmmaaGreatDoor.Lk

namespace Go.Proofs.YtbkpdapagfjmmaaGreatDoor
open Go.RowKit
theorem hide {p : Prop} (h : p) : Hid p := h
theorem uh {p : Prop} (h : Hid p) : p := h
theorem je {k : IntKind} {a b : Int} (h : a = b) : Ending.returned (.int k a) = .returned (.int k b) := by rw [h]
theorem aH {a b : Bool} (h : a = b) : Ending.returned (.bool a) = .returned (.bool b) := by rw [h]
def Is (w : World) (b : Nat) (T : TypeId) (cs : List Value) : Prop := w.heap[b]? = some (.cells cs.toArray T (0, 0))
theorem Is.lt {w : World} {b : Nat} {T : TypeId} {cs : List Value} (h : Is w b T cs) : b < w.heap.size := lt_of_block h
theorem Is.cell {w : World} {b : Nat} {T : TypeId} {cs : List Value} (h : Is w b T cs) (i : Nat) : w.cell? ⟨b, i, none⟩ = cs[i]? := by
 unfold Is at h
 simp [World.cell?, h]
theorem Is.free {w : World} {b : Nat} {T : TypeId} {cs : List Value} (h : Is w b T cs) (i : Nat) : w.frozen? ⟨b, i, none⟩ = false := by
 unfold Is at h
 simp [World.frozen?, h]
theorem Is.set {w : World} {b : Nat} {T : TypeId} {cs : List Value} (h : Is w b T cs) (i : Nat) (v : Value) : Is (w.setCell ⟨b, i, none⟩ v) b T (cs.set i v) := by
 unfold Is
 rw [heap_setCell_same w b i _ T v h]
 simp
theorem Is.drewN {w : World} {b : Nat} {T : TypeId} {cs : List Value} (h : Is w b T cs) (n : Nat) : Is (w.drewN n) b T cs := h
theorem Is.drew {w : World} {b : Nat} {T : TypeId} {cs : List Value} (h : Is w b T cs) : Is w.drew b T cs := h
theorem Is.new (w : World) (T : TypeId) (cs : List Value) : Is (w.alloc (.cells cs.toArray T)) w.heap.size T cs := by
 exact heap_alloc_new w _
theorem Is.alloc {w : World} {b : Nat} {T : TypeId} {cs : List Value} (h : Is w b T cs) (o : Obj) : Is (w.alloc o) b T cs := by
 unfold Is
 rw [Below.heap_alloc _ _ _ h.lt]
 exact h
theorem Is.other {w : World} {b : Nat} {T : TypeId} {cs : List Value} (h : Is w b T cs) (a : Addr) (v : Value) (hne : b ≠ a.block) : Is (w.setCell a v) b T cs := by
 unfold Is
 rw [heap_setCell_other w a b v hne]
 exact h
theorem Is.grown {w w' : World} {b : Nat} {T : TypeId} {cs : List Value} (h : Is w b T cs) {row : Option Nat} (hg : w.grownBy w' row) (hne : some b ≠ row) : Is w' b T cs := by
 unfold Is
 rw [hg.block b h.lt hne]
 exact h
theorem Is.below {w w' : World} {b B : Nat} {T : TypeId} {cs : List Value} (h : Is w b T cs) (hg : Below B w w') (hne : b < B) : Is w' b T cs := by
 unfold Is
 rw [hg.block b hne]
 exact h
def Turns (b : Nat) (w w' : World) : Prop := w.grownBy w' (some b)
theorem Turns.refl (b : Nat) (w : World) : Turns b w w := World.grownBy.refl w _
theorem Turns.trans {b : Nat} {w w1 w2 : World} (h : Turns b w w1) (k : Turns b w1 w2) : Turns b w w2 :=
 ⟨k.os.trans h.os, k.tape.trans h.tape, k.output.trans h.output, Nat.le_trans h.size k.size, fun i hi hn => (k.block i (Nat.lt_of_lt_of_le hi h.size) hn).trans (h.block i hi hn)⟩
theorem Turns.drewN {b : Nat} {w w1 : World} (h : Turns b w w1) (n : Nat) : Turns b w (w1.drewN n) := ⟨h.os, h.tape, h.output, h.size, h.block⟩
theorem Turns.drew {b : Nat} {w w1 : World} (h : Turns b w w1) : Turns b w w1.drew := ⟨h.os, h.tape, h.output, h.size, h.block⟩
theorem Turns.set {b : Nat} {w w1 : World} (h : Turns b w w1) (i : Nat) (v : Value) : Turns b w (w1.setCell ⟨b, i, none⟩ v) :=
 h.trans ⟨rfl, rfl, rfl, by simp, fun k _ hn => heap_setCell_other _ _ _ _ (fun e => hn (congrArg some e))⟩
theorem Turns.alloc {b : Nat} {w w1 : World} (h : Turns b w w1) (o : Obj) : Turns b w (w1.alloc o) := h.trans (World.grownBy_alloc _ _ _)
theorem Turns.below {b : Nat} {w w1 w2 : World} (h : Turns b w w1) (k : Below w1.heap.size w1 w2) : Turns b w w2 :=
 h.trans ⟨k.os, k.tape, k.output, k.size, fun i hi _ => k.block i hi⟩
theorem Turns.toBelow {b B : Nat} {w w1 w2 : World} (h : Below B w w1) (k : Turns b w1 w2) (hb : B <= b) (hB : B <= w1.heap.size) : Below B w w2 :=
 h.trans ⟨k.os, k.tape, k.output, k.size, fun i hi => k.block i (by omega) (fun e => by cases e; omega)⟩
theorem Below.drewN {B : Nat} {a w : World} (h : Below B a w) (n : Nat) : Below B a (w.drewN n) := ⟨h.os, h.tape, h.output, h.size, h.block⟩
def bs (l : Lk.Bs) : ByteArray := ⟨l.toArray⟩
def hdV (h : Lk.Hd) : List Value := [.string (bs h.n), .string (bs h.v)]
def aQ (l : List Lk.Hd) : List Value := l.flatMap hdV
abbrev hdA (h : Lk.Hd) : Value := .agg #[.string (bs h.n), .string (bs h.v)]
theorem ax (l : Lk.Bs) : (bs l).size = l.length := by simp [bs, ByteArray.size]
theorem qQ (l : List Lk.Hd) : (aQ l).length = l.length * 2 := by
 induction l with
 | nil => rfl
 | cons f fs ih => simp only [aQ, List.flatMap_cons, List.length_append, hdV, List.length_cons, List.length_nil] at ih ⊢; omega
theorem OY (l : List Lk.Hd) : ∀ (i : Nat) (x : Lk.Hd), l[i]? = some x -> (aQ l)[i * 2]? = some (.string (bs x.n)) ∧ (aQ l)[i * 2 + 1]? = some (.string (bs x.v)) := by
 induction l with
 | nil => intro i x h; simp at h
 | cons f fs ih =>
   intro i x h
   cases i with
   | zero => simp at h; subst h; simp [aQ, hdV]
   | succ i =>
     have := ih i x (by simpa using h)
     simp only [aQ, List.flatMap_cons, hdV] at this ⊢
     have e : (i + 1) * 2 = i * 2 + 2 := by omega
     rw [e]
     simpa using this
theorem dJ (a b : List Lk.Hd) : aQ (a ++ b) = aQ a ++ aQ b := by simp [aQ]
theorem eP {w : World} {B : Nat} {T : TypeId} {v : Value} {l : List Lk.Hd} (h : w.ownsRow B T 2 v l.length (aQ l)) :
 (l = [] ∧ v = .slice none 0 0) ∨ ∃ g cap, v = .slice (some ⟨g, 0, none⟩) l.length cap ∧ B <= g ∧ g < w.heap.size ∧ l.length <= cap ∧ ∀ (i : Nat) (x : Lk.Hd), l[i]? = some x -> w.cell? ⟨g, i * 2, none⟩ = some (.string (bs x.n)) ∧ w.cell? ⟨g, i * 2 + 1, none⟩ = some (.string (bs x.v)) := by
 rcases h.2 with ⟨rfl, h0⟩ | ⟨g, cap, cur, rfl, hB, hg, hn, hc, hs, ht⟩
 . exact .inl ⟨List.eq_nil_of_length_eq_zero h0, rfl⟩
 . have hI : Is w g T cur.toList := by unfold Is; simpa using hg
   refine .inr ⟨g, cap, rfl, hB, hI.lt, hn, fun i x hx => ?_⟩
   have e := OY l i x hx
   have hi : i < l.length := by
    rcases Nat.lt_or_ge i l.length with h | h
    . exact h
    . rw [List.getElem?_eq_none h] at hx; cases hx
   have hc : ∀ j, j < l.length * 2 -> w.cell? ⟨g, j, none⟩ = (aQ l)[j]? := by
    intro j hj
    rw [hI.cell j, <- ht, List.getElem?_take_of_lt hj]
   rw [hc _ (by omega), hc _ (by omega)]
   exact e
theorem jJ {w : World} {B g n cap i : Nat} {T : TypeId} {l : List Lk.Hd} {x : Lk.Hd} (h : w.ownsRow B T 2 (.slice (some ⟨g, 0, none⟩) n cap) n (aQ l)) (hx : l[i]? = some x) :
 g < w.heap.size ∧ w.cell? ⟨g, i * 2, none⟩ = some (.string (bs x.n)) ∧ w.cell? ⟨g, i * 2 + 1, none⟩ = some (.string (bs x.v)) := by
 have hn : n = l.length := by have := h.1; rw [qQ] at this; omega
 subst hn
 rcases eP h with ⟨_, h⟩ | ⟨g', cap', h, _, hg, _, hc⟩
 . cases h
 . cases h
   exact ⟨hg, hc i x hx⟩
def Fx (w : World) : Prop := 0 < w.heap.size ∧ ∀ (i : Nat) (x : Lk.Hd), Lk.jb[i]? = some x -> w.cell? ⟨0, i * 2, none⟩ = some (.string (bs x.n)) ∧ w.cell? ⟨0, i * 2 + 1, none⟩ = some (.string (bs x.v))
theorem Fx.below {w w' : World} {B : Nat} (h : Fx w) (hb : Below B w w') (hB : 0 < B) : Fx w' :=
 ⟨Nat.lt_of_lt_of_le h.1 hb.size, fun i x hx => by rw [hb.cell (p := ⟨0, _, none⟩) hB, hb.cell (p := ⟨0, _, none⟩) hB]; exact h.2 i x hx⟩
theorem Fx.grown {w w' : World} {row : Option Nat} (h : Fx w) (hb : w.grownBy w' row) (hr : some 0 ≠ row) : Fx w' :=
 ⟨Nat.lt_of_lt_of_le h.1 hb.size, fun i x hx => by
  have e : ∀ k, w'.cell? ⟨0, k, none⟩ = w.cell? ⟨0, k, none⟩ := fun k => by simp only [World.cell?]; rw [hb.block 0 h.1 hr]
  rw [e, e]; exact h.2 i x hx⟩
theorem vJ (h : Lk.Hd) (w : World) (hl : h.n.length <= 1000) (hv : h.v.length <= 1000) :
 Calls Tryz.prog 126 #[hdA h] w fun e w' => e = .returned (.int .i64 h.weight) ∧ Below w.heap.size w w' := by
 unfold hdA
 have h1 := ax h.n
 have h2 := ax h.v
 go_enter Tryz.func126, Tryz.ntmps126
 go_wp2_with fail
 go_ret
 refine ⟨je ?_, (Below.refl _ _).alloc (Nat.le_refl _) _⟩
 simp [Lk.Hd.weight]
def bF : Lk.Hd := ⟨[], []⟩
theorem BI (b o i : Nat) (x : Lk.Hd) (w : World) (hi : (i : Int) < 4) (hfx : Fx w) (hx : Lk.jb[i]? = some x) :
 Calls Tryz.prog 184 #[.pointer (some ⟨b, o, none⟩), .int .i64 i] w fun e w' => e = .returned (.tuple #[hdA x, .bool true]) ∧ Below w.heap.size w w' := by
 obtain ⟨h0, hc⟩ := hfx
 obtain ⟨c0, c1⟩ := hc i x hx
 clear hc hx
 have hi2 : i * 2 < 8 := by omega
 go_enter Tryz.func184, Tryz.ntmps184
 go_wp2_with fail
 exact bodyPost_ret (v := .tuple #[hdA x, .bool true]) (by simp [results, Tryz.results184, go_sem, hdA]) rfl ⟨rfl, by ((repeat' (first | exact Below.refl _ _ | assumption | apply Below.drew | apply Below.alloc | apply Below.setCell)) <;> (simp <;> omega))⟩
theorem vK (b o i : Nat) (n cap : Nat) (ad : Option Addr) (w : World) (hb : b < w.heap.size) (hi : ¬ (i : Int) < 4) (hiN : i <= 2 ^ 40) (hv : w.cell? ⟨b, o + 2, none⟩ = some (.slice ad n cap)) (hn : ¬ (i : Int) - 4 < n) :
 Calls Tryz.prog 184 #[.pointer (some ⟨b, o, none⟩), .int .i64 i] w fun e w' => e = .returned (.tuple #[hdA bF, .bool false]) ∧ Below w.heap.size w w' := by
 go_enter Tryz.func184, Tryz.ntmps184
 go_wp2_with fail
 exact bodyPost_ret (v := .tuple #[hdA bF, .bool false]) (by simp [results, Tryz.results184, go_sem, hdA, bF, bs]) rfl ⟨rfl, by ((repeat' (first | exact Below.refl _ _ | assumption | apply Below.drew | apply Below.alloc | apply Below.setCell)) <;> (simp <;> omega))⟩
theorem Fz (b o i : Nat) (x : Lk.Hd) (n cap g : Nat) (w : World) (hb : b < w.heap.size) (hi : ¬ (i : Int) < 4) (hiN : i <= 2 ^ 40) (hv : w.cell? ⟨b, o + 2, none⟩ = some (.slice (some ⟨g, 0, none⟩) n cap)) (hn : (i : Int) - 4 < n) (hg : g < w.heap.size)
 (c0 : w.cell? ⟨g, (i - 4) * 2, none⟩ = some (.string (bs x.n))) (c1 : w.cell? ⟨g, (i - 4) * 2 + 1, none⟩ = some (.string (bs x.v))) :
 Calls Tryz.prog 184 #[.pointer (some ⟨b, o, none⟩), .int .i64 i] w fun e w' => e = .returned (.tuple #[hdA x, .bool true]) ∧ Below w.heap.size w w' := by
 go_enter Tryz.func184, Tryz.ntmps184
 go_wp2_with fail
 exact bodyPost_ret (v := .tuple #[hdA x, .bool true]) (by simp [results, Tryz.results184, go_sem, hdA]) rfl ⟨rfl, by ((repeat' (first | exact Below.refl _ _ | assumption | apply Below.drew | apply Below.alloc | apply Below.setCell)) <;> (simp <;> omega))⟩
open Go.ChangeShapes Go.WideShapes Go.ChangeAt Go.RowKit
theorem QX : Tryz.prog.globalNamed "link/link.fixed" = some 0 := by kernel_rfl
theorem QY : (Tryz.prog.globals[0]?).map (·.type) = some 282 := by kernel_rfl
theorem IC : Tryz.prog.cellsOf 112 = 2 := by kernel_rfl
theorem FC : Tryz.prog.cellsOf 282 = 8 := by kernel_rfl
theorem nN : Tryz.prog.cellsOf 9 = 1 := by kernel_rfl
theorem xA {H : Type} {enc : TypeId × Value -> H} {w : World} {base : Nat} {spare : Nat -> Bool} {held : Bool} {fuel : Nat} {cs : List Value} {x : DataW H × List MemPlace}
 (h : DataW.trod enc Tryz.prog w base spare held fuel 112 cs = some x) : ∃ a b : ByteArray, cs = [.string a, .string b] ∧ x.1 = .agg [.lit (.string a.data.toList), .lit (.string b.data.toList)] := by
 obtain ⟨xs, n, _, rfl, hl, hlen, hf⟩ := DataW.trod_struct Tryz.underlying112 h
 rw [IC] at hl
 match cs, hl with
 | [c0, c1], _ =>
 match xs, hlen with
 | [y0, y1], _ =>
 have f0 : DataW.trod enc Tryz.prog w base spare held n 9 (([c0, c1].drop 0).take (Tryz.prog.cellsOf 9)) = some y0 := hf 0 _ rfl
 rw [nN] at f0
 have f1 : DataW.trod enc Tryz.prog w base spare held n 9 (([c0, c1].drop 1).take (Tryz.prog.cellsOf 9)) = some y1 := hf 1 _ rfl
 rw [nN] at f1
 simp only [List.drop_zero, List.drop_succ_cons, List.take_succ_cons, List.take_zero] at f0 f1
 obtain ⟨a, e0, rfl, _⟩ := DataW.trod_string Tryz.underlying9 f0
 obtain ⟨b, e1, rfl, _⟩ := DataW.trod_string Tryz.underlying9 f1
 simp only [List.cons.injEq, and_true] at e0 e1
 subst e0 e1
 exact ⟨a, b, rfl, rfl⟩
theorem zq {a : ByteArray} {l : Lk.Bs} (h : a.data.toList = l) : a = bs l := by subst h; simp [bs]
theorem FD {W : World} (h : laidMet Tryz.prog [("link/link.fixed", Rows.laid_link_link_fixed)] W) : Fx W := by
 obtain ⟨ps, ⟨g0, t0, cs0, f0, p0, q0, hg0, ht0, hv0, hd0, _⟩, _⟩ := h
 obtain rfl := Option.some.inj (QX.symm.trans hg0)
 obtain rfl := Option.some.inj (QY.symm.trans ht0)
 obtain ⟨xs, m1, rfl, hx1, hlen, hn4, hel⟩ := DataW.trod_array Tryz.underlying282 hd0
 rw [FC] at hlen
 rw [IC] at hel
 have hcell := fun j => World.var?_cell hg0 hv0 j
 match xs, hn4 with
 | [x0, x1, x2, x3], _ =>
 obtain ⟨a0, b0, e0, d0⟩ := xA (hel 0 (by decide))
 obtain ⟨a1, b1, e1, d1⟩ := xA (hel 1 (by decide))
 obtain ⟨a2, b2, e2, d2⟩ := xA (hel 2 (by decide))
 obtain ⟨a3, b3, e3, d3⟩ := xA (hel 3 (by decide))
 simp only [Rows.laid_link_link_fixed, Prod.mk.injEq, DataW.agg.injEq, List.map_cons, List.map_nil, List.cons.injEq, d0, d1, d2, d3, DataW.lit.injEq, Lit.string.injEq, and_true] at hx1
 obtain ⟨⟨⟨y0, z0⟩, ⟨y1, z1⟩, ⟨y2, z2⟩, ⟨y3, z3⟩⟩, _⟩ := hx1
 obtain ⟨l⟩ := cs0
 simp only at hlen e0 e1 e2 e3
 match l, hlen with
 | [c0, c1, c2, c3, c4, c5, c6, c7], _ =>
 simp at e0 e1 e2 e3
 obtain ⟨rfl, rfl⟩ := e0
 obtain ⟨rfl, rfl⟩ := e1
 obtain ⟨rfl, rfl⟩ := e2
 obtain ⟨rfl, rfl⟩ := e3
 obtain rfl := zq y0.symm
 obtain rfl := zq z0.symm
 obtain rfl := zq y1.symm
 obtain rfl := zq z1.symm
 obtain rfl := zq y2.symm
 obtain rfl := zq z2.symm
 obtain rfl := zq y3.symm
 obtain rfl := zq z3.symm
 have k0 := hcell 0
 have k1 := hcell 1
 have k2 := hcell 2
 have k3 := hcell 3
 have k4 := hcell 4
 have k5 := hcell 5
 have k6 := hcell 6
 have k7 := hcell 7
 refine ⟨World.block_lt_of_cell? _ _ k0, fun i x hx => ?_⟩
 match i, hx with
 | 0, hx => cases hx; exact ⟨k0, k1⟩
 | 1, hx => cases hx; exact ⟨k2, k3⟩
 | 2, hx => cases hx; exact ⟨k4, k5⟩
 | 3, hx => cases hx; exact ⟨k6, k7⟩
 | n + 4, hx => simp [Lk.jb] at hx
end Go.Proofs.YtbkpdapagfjmmaaGreatDoor
