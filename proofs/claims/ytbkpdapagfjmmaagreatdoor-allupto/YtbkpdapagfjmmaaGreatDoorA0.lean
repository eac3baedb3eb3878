set_option linter.unusedVariables false
set_option maxRecDepth 100000
set_option maxHeartbeats 16000000
namespace Go.Proofs.YtbkpdapagfjmmaaGreatDoor
theorem nbq {a b : Nat} (h : Nat.beq a b = false) : a ≠ b := Nat.ne_of_beq_eq_false h
end Go.Proofs.YtbkpdapagfjmmaaGreatDoor
namespace Go.Proofs.YtbkpdapagfjmmaaGreatDoor.Lk
abbrev Bs := List UInt8
def wire (n : Nat) : Bs := if n < 128 then [UInt8.ofNat n] else UInt8.ofNat (128 + n % 128) :: wire (n / 128)
termination_by n
decreasing_by omega
theorem gu (n : Nat) (h : n < 128) : wire n = [UInt8.ofNat n] := by rw [wire, if_pos h]
theorem iG (n : Nat) (h : ¬ n < 128) : wire n = UInt8.ofNat (128 + n % 128) :: wire (n / 128) := by rw [wire, if_neg h]
theorem dw (n : Nat) : 0 < (wire n).length := by
 by_cases h : n < 128
 . rw [gu n h]; simp
 . rw [iG n h]; simp
theorem gK (n : Nat) (h : n < 128) : (wire n).length = 1 := by rw [gu n h]; rfl
theorem kR (n : Nat) (h : n < 16384) : (wire n).length <= 2 := by
 by_cases g : n < 128
 . rw [gK n g]; omega
 . rw [iG n g, List.length_cons, gK _ (by omega)]; omega
theorem zo (n : Nat) (h : n < 2097152) : (wire n).length <= 3 := by
 by_cases g : n < 128
 . rw [gK n g]; omega
 . rw [iG n g, List.length_cons]; have := kR (n / 128) (by omega); omega
theorem au (n : Nat) (h : n <= 268435455) : (wire n).length <= 4 := by
 by_cases g : n < 128
 . rw [gK n g]; omega
 . rw [iG n g, List.length_cons]; have := zo (n / 128) (by omega); omega
inductive Rd where
 | short
 | bad (k : Nat)
 | ok (n k : Nat)
def rd (k acc : Nat) : Bs -> Rd
 | [] => .short
 | c :: t => if k = 4 ∨ (0 < k ∧ c = 0) then .bad k
   else if c.toNat < 128 then .ok (acc + c.toNat % 128 * 128 ^ k) (k + 1)
   else rd (k + 1) (acc + c.toNat % 128 * 128 ^ k) t
def aC (kind stream : Int) : Bool := if kind = 4 then true else if 5 <= kind then decide (stream = 0) else decide (0 < stream)
def aA (kind n : Int) : Bool :=
 if kind = 1 then decide (1 <= n ∧ n <= 16) else if kind = 2 then decide (n <= 16) else if kind = 3 ∨ kind = 4 ∨ kind = 7 then decide (1 <= n ∧ n <= 4)
 else if kind = 5 ∨ kind = 6 then decide (n = 8) else true
def eG (l : Bs) : Bool := match rd 0 0 l with
 | .ok _ k => decide (k = l.length)
 | _ => false
def ay (kind : Int) (l : Bs) : Bool := if kind = 3 ∨ kind = 4 ∨ kind = 7 then eG l else true
def jH (kind : Int) : Int := if kind < 0 ∨ 7 < kind then 3 else 0
def fM (kind stream : Int) : Int := if aC kind stream = false then 4 else 0
def dF (kind n : Int) : Int := if 64 < n then 5 else if aA kind n = false then 6 else 0
def bP (kind : Int) (l : Bs) : Int := if ay kind l = false then 6 else 0
def aO (kind stream : Int) (data : Bs) : Int :=
 if kind < 0 ∨ 7 < kind then 3
 else if stream < 0 ∨ 268435455 < stream then 2
 else if aC kind stream = false then 4
 else if 64 < data.length then 5
 else if aA kind data.length = false then 6
 else if ay kind data = false then 6
 else 0
def packed (kind stream : Int) (data : Bs) : Bs := UInt8.ofNat kind.toNat :: (wire stream.toNat ++ wire data.length ++ data)
inductive Nx where
 | more
 | err (e : Nat)
 | frame (kind stream : Nat) (data : Bs) (n : Nat)
def nx : Bs -> Nx
 | [] => .more
 | c :: t =>
   if 7 < c.toNat then .err 3
   else match rd 0 0 t with
    | .bad _ => .err 2
    | .short => .more
    | .ok st a =>
      if aC c.toNat st = false then .err 4
      else match rd 0 0 (t.drop a) with
       | .bad _ => .err 2
       | .short => .more
       | .ok n b =>
         if 64 < n then .err 5
         else if aA c.toNat n = false then .err 6
         else if t.length < a + b + n then .more
         else if ay c.toNat ((t.drop (a + b)).take n) = false then .err 6
         else .frame c.toNat st ((t.drop (a + b)).take n) (1 + a + b + n)
def Rd.val : Rd -> Int | .ok n _ => n | _ => 0
def Rd.good : Rd -> Bool | .ok _ _ => true | _ => false
def Rd.at (p size : Nat) : Rd -> Nat | .ok _ k => p + k | .bad k => p + k | .short => size
theorem Og (k acc : Nat) : rd k acc [] = .short := rfl
theorem Oh (k acc : Nat) (c : UInt8) (t : Bs) (h : k = 4 ∨ (0 < k ∧ c = 0)) : rd k acc (c :: t) = .bad k := by rw [rd, if_pos h]
theorem IA (k acc : Nat) (c : UInt8) (t : Bs) (h : ¬ (k = 4 ∨ (0 < k ∧ c = 0))) (hc : c.toNat < 128) : rd k acc (c :: t) = .ok (acc + c.toNat % 128 * 128 ^ k) (k + 1) := by rw [rd, if_neg h, if_pos hc]
theorem OW (k acc : Nat) (c : UInt8) (t : Bs) (h : ¬ (k = 4 ∨ (0 < k ∧ c = 0))) (hc : ¬ c.toNat < 128) : rd k acc (c :: t) = rd (k + 1) (acc + c.toNat % 128 * 128 ^ k) t := by rw [rd, if_neg h, if_neg hc]
theorem bn : ∀ (l : Bs) (k acc n j : Nat), rd k acc l = .ok n j -> k < j ∧ j <= k + l.length
 | [], k, acc, n, j, h => by simp [rd] at h
 | c :: t, k, acc, n, j, h => by
   rw [rd] at h
   split at h
   . cases h
   . split at h
     . cases h; simp only [List.length_cons]; omega
     . have := bn t _ _ _ _ h; simp only [List.length_cons]; omega
theorem jW : ∀ (l : Bs) (k acc j : Nat), rd k acc l = .bad j -> k <= j ∧ j < k + l.length
 | [], k, acc, j, h => by simp [rd] at h
 | c :: t, k, acc, j, h => by
   rw [rd] at h
   split at h
   . cases h; simp only [List.length_cons]; omega
   . split at h
     . cases h
     . have := jW t _ _ _ h; simp only [List.length_cons]; omega
theorem ry : ∀ (l : Bs) (k acc n j : Nat), rd k acc l = .ok n j -> j <= 4 ∨ 4 < k
 | [], k, acc, n, j, h => by simp [rd] at h
 | c :: t, k, acc, n, j, h => by
   rw [rd] at h
   split at h
   . cases h
   . rename_i g
     split at h
     . cases h; omega
     . have := ry t _ _ _ _ h; omega
structure Fr where
 k : Nat
 st : Nat
 d : Bs
theorem kS : ∀ (l : Bs) (k acc : Nat), k <= 4 -> rd k acc l = .short -> k + l.length <= 4
 | [], k, acc, hk, _ => by simpa using hk
 | c :: t, k, acc, hk, h => by
   rw [rd] at h
   split at h
   . cases h
   . rename_i g
     split at h
     . cases h
     . have := kS t (k + 1) _ (by omega) h
       simp only [List.length_cons]
       omega
theorem aV {l d : Bs} {k st n : Nat} (h : nx l = .frame k st d n) : 3 <= n ∧ n <= l.length ∧ d.length <= 64 := by
 cases l with
 | nil => cases h
 | cons c t =>
   rw [nx] at h
   split at h
   . cases h
   . split at h
     . cases h
     . cases h
     . rename_i st' a hr1
       split at h
       . cases h
       . split at h
         . cases h
         . cases h
         . rename_i n' b hr2
           split at h
           . cases h
           . split at h
             . cases h
             . split at h
               . cases h
               . split at h
                 . cases h
                 . cases h
                   have h1 := bn _ _ _ _ _ hr1
                   have h2 := bn _ _ _ _ _ hr2
                   simp only [List.length_take, List.length_drop, List.length_cons] at *
                   omega
theorem mV {l : Bs} (h : nx l = .more) : l.length <= 72 := by
 cases l with
 | nil => simp
 | cons c t =>
   rw [nx] at h
   split at h
   . cases h
   . split at h
     . cases h
     . rename_i hr1
       have := kS _ 0 0 (by omega) hr1
       simp only [List.length_cons]
       omega
     . rename_i st' a hr1
       have h1 := ry _ _ _ _ _ hr1
       split at h
       . cases h
       . split at h
         . cases h
         . rename_i hr2
           have := kS _ 0 0 (by omega) hr2
           simp only [List.length_cons, List.length_drop] at *
           omega
         . rename_i n' b hr2
           have h2 := ry _ _ _ _ _ hr2
           split at h
           . cases h
           . split at h
             . cases h
             . split at h
               . simp only [List.length_cons]
                 omega
               . split at h <;> cases h
def all (l : Bs) : List Fr × Nat × Bs :=
 match h : nx l with
 | .more => ([], 0, l)
 | .err e => ([], e, [])
 | .frame k st d n => (⟨k, st, d⟩ :: (all (l.drop n)).1, (all (l.drop n)).2)
termination_by l.length
decreasing_by all_goals (have := aV h; simp only [List.length_drop]; omega)
theorem iU {l : Bs} (h : nx l = .more) : all l = ([], 0, l) := by
 rw [all]; split <;> simp_all
theorem mW {l : Bs} {e : Nat} (h : nx l = .err e) : all l = ([], e, []) := by
 rw [all]; split <;> simp_all
theorem ja {l d : Bs} {k st n : Nat} (h : nx l = .frame k st d n) : all l = (⟨k, st, d⟩ :: (all (l.drop n)).1, (all (l.drop n)).2) := by
 rw [all]; split <;> simp_all
theorem oO {l : Bs} {e : Nat} (h : nx l = .err e) : e ≠ 0 := by
 cases l with
 | nil => cases h
 | cons c t =>
   rw [nx] at h
   split at h
   . cases h; omega
   . split at h
     . cases h; omega
     . cases h
     . split at h
       . cases h; omega
       . split at h
         . cases h; omega
         . cases h
         . split at h
           . cases h; omega
           . split at h
             . cases h; omega
             . split at h
               . cases h
               . split at h <;> cases h
                 omega
theorem mX (n : Nat) (h : n < 256) : (UInt8.ofNat n).toNat = n := by
 simp; omega
theorem Ed (n : Nat) (h : n < 256) (h0 : n ≠ 0) : ¬ UInt8.ofNat n = 0 := by
 intro e
 have := congrArg UInt8.toNat e
 rw [mX n h] at this
 exact h0 (by simpa using this)
theorem UN {k : Nat} (h : k <= 3) : k = 0 ∨ k = 1 ∨ k = 2 ∨ k = 3 := by omega
theorem OX : ∀ (m k acc : Nat) (rest : Bs), k <= 3 -> m < 128 ^ (4 - k) -> (k = 0 ∨ m ≠ 0) -> rd k acc (wire m ++ rest) = .ok (acc + m * 128 ^ k) (k + (wire m).length) := by
 intro m
 induction m using Nat.strongRecOn with
 | _ m ih =>
   intro k acc rest hk hm h0
   by_cases hs : m < 128
   . rw [gu m hs]
     have e := mX m (by omega)
     rw [List.cons_append, List.nil_append, rd, if_neg, if_pos (by omega), e]
     . rw [Nat.mod_eq_of_lt hs]; simp
     . rintro (h | ⟨h, h'⟩)
       . omega
       . exact Ed m (by omega) (by omega) h'
   . rw [iG m hs]
     have e := mX (128 + m % 128) (by omega)
     have hk2 : k ≠ 3 := by
      rintro rfl
      simp at hm
      omega
     rw [List.cons_append, rd, if_neg, if_neg (by omega), e]
     . have hd : m / 128 < 128 ^ (4 - (k + 1)) := by
        rcases (by omega : k = 0 ∨ k = 1 ∨ k = 2) with rfl | rfl | rfl <;> simp at hm ⊢ <;> omega
       rw [ih (m / 128) (by omega) (k + 1) _ rest (by omega) hd (Or.inr (by omega))]
       have e2 : (128 + m % 128) % 128 = m % 128 := by omega
       rw [e2]
       have e3 : m * 128 ^ k = m % 128 * 128 ^ k + m / 128 * 128 ^ (k + 1) := by
        rw [Nat.pow_succ, Nat.mul_comm (128 ^ k) 128, <- Nat.mul_assoc, <- Nat.add_mul]
        congr 1
        omega
       simp only [List.length_cons]
       congr 1
       . omega
       . omega
     . rintro (h | ⟨h, h'⟩)
       . omega
       . exact Ed (128 + m % 128) (by omega) (by omega) h'
theorem Lj (m : Nat) (rest : Bs) (h : m <= 268435455) : rd 0 0 (wire m ++ rest) = .ok m (wire m).length := by
 have := OX m 0 0 rest (by omega) (by simp; omega) (Or.inl rfl)
 simpa using this
structure Good (k st : Nat) (d : Bs) : Prop where
 k7 : k <= 7
 Fv : st <= 268435455
 len : d.length <= 64
 stream : aC k st = true
 length : aA k d.length = true
 payload : ay k d = true
theorem all_nil : all [] = ([], 0, []) := iU rfl
structure Hd where
 n : Bs
 v : Bs
def Hd.weight (h : Hd) : Nat := h.n.length + h.v.length + 4
def weights : List Hd -> Nat
 | [] => 0
 | x :: l => x.weight + weights l
def fit : Nat -> List Hd -> List Hd
 | _, [] => []
 | B, x :: l => if x.weight <= B then x :: fit (B - x.weight) l else []
def put (B : Nat) (L : List Hd) (h : Hd) : List Hd := fit B (h :: L)
def jb : List Hd := [⟨[116, 111], []⟩, ⟨[107, 105, 110, 100], [116, 101, 120, 116]⟩, ⟨[107, 105, 110, 100], [99, 97, 108, 108]⟩, ⟨[117, 114, 103, 101, 110, 116], [110, 111]⟩]
def fB (L : List Hd) : List Hd := jb ++ L
theorem jI (a b : List Hd) : weights (a ++ b) = weights a + weights b := by
 induction a with
 | nil => simp [weights]
 | cons x a ih => simp [weights, ih]; omega
theorem jc (l : List Hd) : 4 * l.length <= weights l := by
 induction l with
 | nil => simp
 | cons x l ih => simp [weights, Hd.weight]; omega
theorem jX {l : List Hd} {x : Hd} (h : x ∈ l) : x.weight <= weights l := by
 induction l with
 | nil => simp at h
 | cons y l ih =>
   simp only [List.mem_cons] at h
   simp only [weights]
   rcases h with rfl | h
   . omega
   . have := ih h; omega
theorem rC : ∀ (l : List Hd) (B : Nat), weights (fit B l) <= B
 | [], B => by simp [fit, weights]
 | x :: l, B => by
   rw [fit]
   split
   . have := rC l (B - x.weight)
     simp only [weights]
     omega
   . simp [weights]
theorem jd (B : Nat) (L : List Hd) (h : Hd) : weights (put B L h) <= B := rC _ _
theorem rD (l : List Hd) (k : Nat) : weights (l.take k) <= weights l := by
 have := congrArg weights (List.take_append_drop k l)
 rw [jI] at this
 omega
theorem xx : ∀ (l : List Hd) (B k : Nat), k <= l.length -> weights (l.take k) <= B -> (k = l.length ∨ B < weights (l.take (k + 1))) -> fit B l = l.take k
 | [], B, k, h, _, _ => by simp [fit]
 | x :: l, B, 0, _, _, h2 => by
   rcases h2 with h2 | h2
   . simp at h2
   . simp only [List.take_succ_cons, List.take_zero, weights] at h2
     rw [fit, if_neg (by omega)]
     simp
 | x :: l, B, k + 1, h, h1, h2 => by
   simp only [List.take_succ_cons, weights] at h1 h2
   simp only [List.length_cons] at h h2
   rw [fit, if_pos (by omega), xx l (B - x.weight) k (by omega) (by omega) (by omega)]
   simp
def aG (c : UInt8) : Bool := (decide (97 <= c) && decide (c <= 122)) || decide (c = 45)
def aB (c : UInt8) : Bool := decide (32 <= c) && decide (c <= 126)
def allows (name : Bool) (c : UInt8) : Bool := if name then aG c else aB c
def jM (name : Bool) (n : Nat) : Bool := if name then decide (1 <= n ∧ n <= 16) else decide (n <= 32)
def fits (name : Bool) (s : Bs) : Bool := jM name s.length && s.all (allows name)
def good (h : Hd) : Bool := fits true h.n && fits false h.v
def di : Nat -> List Hd -> Nat × Nat
 | _, [] => (0, 0)
 | i, h :: l => if good h then di (i + 1) l else (7, i)
def wrong (l : List Hd) : Nat × Nat := if 6 < l.length then (8, 0) else di 0 l
theorem BG {c : UInt8} (h : aG c = true) : aB c = true := by
 simp only [aG, aB, Bool.or_eq_true, Bool.and_eq_true, decide_eq_true_eq, UInt8.le_iff_toNat_le] at *
 rcases h with ⟨h1, h2⟩ | h
 . simp at h1 h2 ⊢; omega
 . subst h; simp
def gy (h x : Hd) : Bool := decide (x.n = h.n) && decide (x.v = h.v)
def aX (h x : Hd) : Bool := decide (x.n = h.n)
def low (p : Hd -> Bool) : List Hd -> Nat
 | [] => 0
 | x :: l => if p x then 0 else low p l + 1
theorem Oi (p : Hd -> Bool) (l : List Hd) : low p l <= l.length := by
 induction l with
 | nil => simp [low]
 | cons x l ih => rw [low]; split <;> simp; omega
theorem nK (p : Hd -> Bool) : ∀ (l : List Hd) (i : Nat), (∀ j, j < i -> ∃ x, l[j]? = some x ∧ p x = false) -> (i = l.length ∨ ∃ x, l[i]? = some x ∧ p x = true) -> low p l = i
 | [], i, h, h2 => by
   rcases h2 with h2 | ⟨x, hx, _⟩
   . simpa [low] using h2.symm
   . simp at hx
 | x :: l, 0, _, h2 => by
   rcases h2 with h2 | ⟨y, hy, hp⟩
   . simp at h2
   . simp at hy; subst hy; simp [low, hp]
 | x :: l, i + 1, h, h2 => by
   obtain ⟨y, hy, hp⟩ := h 0 (by omega)
   simp at hy
   subst hy
   rw [low, hp, nK p l i (fun j hj => by simpa using h (j + 1) (by omega)) (by simpa using h2)]
   simp
def text (s : Bs) : Bs := wire s.length ++ s
def lT (B : Nat) (L : List Hd) (h : Hd) : Bs × List Hd :=
 if low (gy h) (fB L) < (fB L).length then (wire (2 * low (gy h) (fB L)), L)
 else if low (aX h) (fB L) < (fB L).length then (wire (2 * (low (aX h) (fB L) + 1) + 1) ++ text h.v, put B L h)
 else (wire 1 ++ text h.n ++ text h.v, put B L h)
def squeeze (B : Nat) : List Hd -> List Hd -> Bs × List Hd
 | L, [] => ([], L)
 | L, h :: t => ((lT B L h).1 ++ (squeeze B (lT B L h).2 t).1, (squeeze B (lT B L h).2 t).2)
inductive PR (α : Type) where
 | ok (a : α) (p : Nat)
 | bad (p : Nat)
def PR.at {α : Type} : PR α -> Nat
 | .ok _ p => p
 | .bad p => p
def PR.good {α : Type} : PR α -> Bool
 | .ok _ _ => true
 | .bad _ => false
def kT (s : Bs) (p : Nat) : PR Nat := match rd 0 0 (s.drop p) with
 | .short => .bad s.length
 | .bad k => .bad (p + k)
 | .ok n k => .ok n (p + k)
def upto (q : UInt8 -> Bool) : Nat -> Bs -> Nat
 | 0, _ => 0
 | _ + 1, [] => 0
 | n + 1, c :: m => if q c then upto q n m + 1 else 0
def bI (name : Bool) (s : Bs) (p : Nat) : PR Bs := match kT s p with
 | .bad q => .bad q
 | .ok n q => if jM name n then
  (if upto (allows name) n (s.drop q) = n then .ok ((s.drop q).take n) (q + n) else .bad (q + upto (allows name) n (s.drop q)))
   else .bad (q - 1)
def pX (L : List Hd) (i p : Nat) : PR Hd := match (fB L)[i]? with
 | some h => .ok h p
 | none => .bad (p - 1)
def jY (L : List Hd) (k : Nat) (s : Bs) (p : Nat) : PR Bs := if k = 0 then bI true s p else match pX L (k - 1) p with
 | .ok h p => .ok h.n p
 | .bad p => .bad p
def eH (L : List Hd) (k : Nat) (s : Bs) (p : Nat) : PR Hd := match jY L k s p with
 | .bad q => .bad q
 | .ok n q => match bI false s q with
   | .bad q => .bad q
   | .ok v q => .ok ⟨n, v⟩ q
def mY (B : Nat) (L : List Hd) (s : Bs) (p : Nat) : PR (Hd × List Hd) := match kT s p with
 | .bad q => .bad q
 | .ok n q => if n % 2 = 0 then (match pX L (n / 2) q with
  | .ok h q => .ok (h, L) q
  | .bad q => .bad q)
   else match eH L (n / 2) s q with
    | .ok h q => .ok (h, put B L h) q
    | .bad q => .bad q
inductive XR where
 | ok (hs L : List Hd)
 | err (e p : Nat)
def exR (B : Nat) (s : Bs) : Nat -> List Hd -> Nat -> XR
 | 0, L, p => if s.length <= p then .ok [] L else .err 8 p
 | n + 1, L, p => if s.length <= p then .ok [] L else match mY B L s p with
   | .bad q => .err 9 q
   | .ok hl q => match exR B s n hl.2 q with
     | .ok hs L2 => .ok (hl.1 :: hs) L2
     | .err e q => .err e q
theorem IB (q : UInt8 -> Bool) : ∀ (n : Nat) (m : Bs), upto q n m <= n ∧ upto q n m <= m.length
 | 0, _ => by simp [upto]
 | _ + 1, [] => by simp [upto]
 | n + 1, c :: m => by
   rw [upto]
   have := IB q n m
   split <;> simp <;> omega
theorem ik (q : UInt8 -> Bool) : ∀ (n i : Nat) (m : Bs), i <= n -> (∀ j, j < i -> ∃ c, m[j]? = some c ∧ q c = true) -> (i = n ∨ m[i]? = none ∨ ∃ c, m[i]? = some c ∧ q c = false) -> upto q n m = i
 | 0, i, m, h, _, _ => by simp [upto]; omega
 | n + 1, 0, [], _, _, _ => by simp [upto]
 | n + 1, 0, c :: m, _, _, h => by
   rcases h with h | h | ⟨d, hd, hq⟩
   . simp at h
   . simp at h
   . simp at hd; subst hd; simp [upto, hq]
 | n + 1, i + 1, [], _, h, _ => by
   obtain ⟨c, hc, _⟩ := h 0 (by omega)
   simp at hc
 | n + 1, i + 1, c :: m, h0, h, h2 => by
   obtain ⟨d, hd, hq⟩ := h 0 (by omega)
   simp at hd
   subst hd
   rw [upto, hq, ik q n i m (by omega) (fun j hj => by simpa using h (j + 1) (by omega)) (by simpa using h2)]
   simp
theorem iq {s : Bs} {p n q : Nat} (hp : p <= s.length) (h : kT s p = .ok n q) : p < q ∧ q <= s.length := by
 unfold kT at h
 cases e : rd 0 0 (s.drop p) with
 | short => rw [e] at h; cases h
 | bad k => rw [e] at h; cases h
 | ok m k =>
   rw [e] at h
   cases h
   have := bn _ _ _ _ _ e
   rw [List.length_drop] at this
   omega
theorem jZ {name : Bool} {s : Bs} {p : Nat} {t : Bs} {q : Nat} (hp : p <= s.length) (h : bI name s p = .ok t q) : p < q ∧ q <= s.length ∧ t.length <= 32 := by
 unfold bI at h
 cases e : kT s p with
 | bad k => rw [e] at h; cases h
 | ok m k =>
   have b := iq hp e
   rw [e] at h
   simp only at h
   split at h
   . rename_i hl
     split at h
     . rename_i hu
       cases h
       have := IB (allows name) m (s.drop k)
       rw [hu, List.length_drop] at this
       have hm : m <= 32 := by
        unfold jM at hl
        split at hl <;> simp at hl <;> omega
       simp
       omega
     . cases h
   . cases h
theorem nM (L : List Hd) : (fB L).length = 4 + L.length := by simp [fB, jb]; omega
theorem pY (B : Nat) (L : List Hd) (h : Hd) (hL : weights L <= B) : weights (lT B L h).2 <= B := by
 unfold lT
 split
 . exact hL
 . split <;> exact jd _ _ _
theorem Ll (B : Nat) (L : List Hd) (h : Hd) : 0 < (lT B L h).1.length := by
 unfold lT
 split
 . exact dw _
 . split <;> simp only [List.length_append]
   . have := dw (2 * (low (aX h) (fB L) + 1) + 1); omega
   . have := dw 1; omega
theorem kU (B : Nat) : ∀ (hs L : List Hd), weights L <= B -> weights (squeeze B L hs).2 <= B
 | [], _, h => h
 | x :: hs, L, h => kU B hs _ (pY B L x h)
theorem BH (B : Nat) : ∀ (hs L : List Hd), (squeeze B L hs).1 = [] ↔ hs = []
 | [], _ => by simp [squeeze]
 | x :: hs, L => by
   have := Ll B L x
   simp only [squeeze, List.append_eq_nil_iff]
   constructor
   . rintro ⟨h, _⟩; rw [h] at this; simp at this
   . intro h; cases h
theorem kV (B : Nat) : ∀ (hs L : List Hd) (x : Hd), squeeze B L (hs ++ [x]) = ((squeeze B L hs).1 ++ (lT B (squeeze B L hs).2 x).1, (lT B (squeeze B L hs).2 x).2)
 | [], L, x => by simp [squeeze]
 | y :: hs, L, x => by
   simp only [List.cons_append, squeeze, kV B hs _ x, List.append_assoc]
theorem vI : ∀ (l : List Hd) (i : Nat), (di i l).1 = 0 ↔ ∀ h ∈ l, good h = true
 | [], i => by simp [di]
 | x :: l, i => by
   rw [di]
   split
   . rename_i h; rw [vI l (i + 1)]; simp [h]
   . rename_i h; simp [h]
theorem xy {l : List Hd} (h : (wrong l).1 = 0) : l.length <= 6 ∧ ∀ x ∈ l, good x = true := by
 unfold wrong at h
 split at h
 . cases h
 . exact ⟨by omega, (vI l 0).1 h⟩
end Go.Proofs.YtbkpdapagfjmmaaGreatDoor.Lk
