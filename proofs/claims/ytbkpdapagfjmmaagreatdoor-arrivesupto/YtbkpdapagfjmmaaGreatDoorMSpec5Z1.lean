import Derived.Test.YtbkpdapagfjmmaaGreatDoorMSpecSpec3
import Derived.WalkKit
import Derived.WalkSpells
import Derived.WalkLawsBesides
import Derived.Deep.QuietTactic
import Derived.BigQuiet
import Derived.OneCell
import Derived.Test.YtbkpdapagfjmmaaGreatDoorProg
import Derived.Deep.RegionWith
import Derived.Test.YtbkpdapagfjmmaaGreatDoorRows
import Derived.ProofKit
import Derived.OpenShut
import Derived.ShutString
import Derived.ChangeOld
import Derived.JoinedCond
import Derived.Deep.Slices
import Derived.Deep.DeepHandedRow
import Derived.Lib.LaidTab
/-
  Plain mathematics of the document: tables: what is kept within a bound, blocks, what is read of them. Imports nothing of the program.
-/
namespace Go.Proofs.YtbkpdapagfjmmaaGreatDoor.Lk

/-- A header. -/
structure Hd where
  n : Bs
  v : Bs

def Hd.weight (h : Hd) : Nat := h.n.length + h.v.length + 4
def weights : List Hd → Nat
  | [] => 0
  | x :: l => x.weight + weights l
/-- As many from the front as there is room for. -/
def fit : Nat → List Hd → List Hd
  | _, [] => []
  | B, x :: l => if x.weight ≤ B then x :: fit (B - x.weight) l else []
def put (B : Nat) (L : List Hd) (h : Hd) : List Hd := fit B (h :: L)

def fixedL : List Hd := [⟨[116, 111], []⟩, ⟨[107, 105, 110, 100], [116, 101, 120, 116]⟩, ⟨[107, 105, 110, 100], [99, 97, 108, 108]⟩, ⟨[117, 114, 103, 101, 110, 116], [110, 111]⟩]
def ents (L : List Hd) : List Hd := fixedL ++ L

theorem weights_append (a b : List Hd) : weights (a ++ b) = weights a + weights b := by
  induction a with
  | nil => simp [weights]
  | cons x a ih => simp [weights, ih]; omega
theorem weights_len (l : List Hd) : 4 * l.length ≤ weights l := by
  induction l with
  | nil => simp
  | cons x l ih => simp [weights, Hd.weight]; omega
theorem weights_mem {l : List Hd} {x : Hd} (h : x ∈ l) : x.weight ≤ weights l := by
  induction l with
  | nil => simp at h
  | cons y l ih =>
    simp only [List.mem_cons] at h
    simp only [weights]
    rcases h with rfl | h
    · omega
    · have := ih h; omega
theorem fit_weights : ∀ (l : List Hd) (B : Nat), weights (fit B l) ≤ B
  | [], B => by simp [fit, weights]
  | x :: l, B => by
    rw [fit]
    split
    · have := fit_weights l (B - x.weight)
      simp only [weights]
      omega
    · simp [weights]
theorem put_weights (B : Nat) (L : List Hd) (h : Hd) : weights (put B L h) ≤ B := fit_weights _ _
theorem weights_take_le (l : List Hd) (k : Nat) : weights (l.take k) ≤ weights l := by
  have := congrArg weights (List.take_append_drop k l)
  rw [weights_append] at this
  omega
/-- The longest beginning that fits. -/
theorem fit_take : ∀ (l : List Hd) (B k : Nat), k ≤ l.length → weights (l.take k) ≤ B → (k = l.length ∨ B < weights (l.take (k + 1))) → fit B l = l.take k
  | [], B, k, h, _, _ => by simp [fit]
  | x :: l, B, 0, _, _, h2 => by
    rcases h2 with h2 | h2
    · simp at h2
    · simp only [List.take_succ_cons, List.take_zero, weights] at h2
      rw [fit, if_neg (by omega)]
      simp
  | x :: l, B, k + 1, h, h1, h2 => by
    simp only [List.take_succ_cons, weights] at h1 h2
    simp only [List.length_cons] at h h2
    rw [fit, if_pos (by omega), fit_take l (B - x.weight) k (by omega) (by omega) (by omega)]
    simp

def nameByte (c : UInt8) : Bool := (decide (97 ≤ c) && decide (c ≤ 122)) || decide (c = 45)
def valueByte (c : UInt8) : Bool := decide (32 ≤ c) && decide (c ≤ 126)
def allows (name : Bool) (c : UInt8) : Bool := if name then nameByte c else valueByte c
def lenOk (name : Bool) (n : Nat) : Bool := if name then decide (1 ≤ n ∧ n ≤ 16) else decide (n ≤ 32)
def fits (name : Bool) (s : Bs) : Bool := lenOk name s.length && s.all (allows name)
def good (h : Hd) : Bool := fits true h.n && fits false h.v
def wrongAt : Nat → List Hd → Nat × Nat
  | _, [] => (0, 0)
  | i, h :: l => if good h then wrongAt (i + 1) l else (7, i)
def wrong (l : List Hd) : Nat × Nat := if 6 < l.length then (8, 0) else wrongAt 0 l

theorem allows_name {c : UInt8} (h : nameByte c = true) : valueByte c = true := by
  simp only [nameByte, valueByte, Bool.or_eq_true, Bool.and_eq_true, decide_eq_true_eq, UInt8.le_iff_toNat_le] at *
  rcases h with ⟨h1, h2⟩ | h
  · simp at h1 h2 ⊢; omega
  · subst h; simp

def sameHd (h x : Hd) : Bool := decide (x.n = h.n) && decide (x.v = h.v)
def sameName (h x : Hd) : Bool := decide (x.n = h.n)

/-- The lowest that is as asked; their number, if none is. -/
def low (p : Hd → Bool) : List Hd → Nat
  | [] => 0
  | x :: l => if p x then 0 else low p l + 1

theorem low_le (p : Hd → Bool) (l : List Hd) : low p l ≤ l.length := by
  induction l with
  | nil => simp [low]
  | cons x l ih => rw [low]; split <;> simp; omega
theorem low_of (p : Hd → Bool) : ∀ (l : List Hd) (i : Nat), (∀ j, j < i → ∃ x, l[j]? = some x ∧ p x = false) → (i = l.length ∨ ∃ x, l[i]? = some x ∧ p x = true) → low p l = i
  | [], i, h, h2 => by
    rcases h2 with h2 | ⟨x, hx, _⟩
    · simpa [low] using h2.symm
    · simp at hx
  | x :: l, 0, _, h2 => by
    rcases h2 with h2 | ⟨y, hy, hp⟩
    · simp at h2
    · simp at hy; subst hy; simp [low, hp]
  | x :: l, i + 1, h, h2 => by
    obtain ⟨y, hy, hp⟩ := h 0 (by omega)
    simp at hy
    subst hy
    rw [low, hp, low_of p l i (fun j hj => by simpa using h (j + 1) (by omega)) (by simpa using h2)]
    simp
theorem low_get (p : Hd → Bool) : ∀ (l : List Hd), low p l < l.length → ∃ x, l[low p l]? = some x ∧ p x = true
  | [], h => by simp at h
  | x :: l, h => by
    rw [low] at h ⊢
    by_cases hp : p x = true
    · simp [hp]
    · simp only [hp] at h ⊢
      simp at h
      simpa using low_get p l h

def text (s : Bs) : Bs := wire s.length ++ s
/-- The part of a header, and what is kept behind it. -/
def oneP (B : Nat) (L : List Hd) (h : Hd) : Bs × List Hd :=
  if low (sameHd h) (ents L) < (ents L).length then (wire (2 * low (sameHd h) (ents L)), L)
  else if low (sameName h) (ents L) < (ents L).length then (wire (2 * (low (sameName h) (ents L) + 1) + 1) ++ text h.v, put B L h)
  else (wire 1 ++ text h.n ++ text h.v, put B L h)
def squeeze (B : Nat) : List Hd → List Hd → Bs × List Hd
  | L, [] => ([], L)
  | L, h :: t => ((oneP B L h).1 ++ (squeeze B (oneP B L h).2 t).1, (squeeze B (oneP B L h).2 t).2)

/-- What is read at a place: it, and the place behind; or the place of the fault. -/
inductive PR (α : Type) where
  | ok (a : α) (p : Nat)
  | bad (p : Nat)
def PR.at {α : Type} : PR α → Nat
  | .ok _ p => p
  | .bad p => p
def PR.good {α : Type} : PR α → Bool
  | .ok _ _ => true
  | .bad _ => false
def numR (s : Bs) (p : Nat) : PR Nat := match rd 0 0 (s.drop p) with
  | .short => .bad s.length
  | .bad k => .bad (p + k)
  | .ok n k => .ok n (p + k)
/-- How many of the first n bytes are as asked. -/
def upto (q : UInt8 → Bool) : Nat → Bs → Nat
  | 0, _ => 0
  | _ + 1, [] => 0
  | n + 1, c :: m => if q c then upto q n m + 1 else 0
def textR (name : Bool) (s : Bs) (p : Nat) : PR Bs := match numR s p with
  | .bad q => .bad q
  | .ok n q => if lenOk name n then
      (if upto (allows name) n (s.drop q) = n then .ok ((s.drop q).take n) (q + n) else .bad (q + upto (allows name) n (s.drop q)))
    else .bad (q - 1)
def entR (L : List Hd) (i p : Nat) : PR Hd := match (ents L)[i]? with
  | some h => .ok h p
  | none => .bad (p - 1)
def nameR (L : List Hd) (k : Nat) (s : Bs) (p : Nat) : PR Bs := if k = 0 then textR true s p else match entR L (k - 1) p with
  | .ok h p => .ok h.n p
  | .bad p => .bad p
def freshR (L : List Hd) (k : Nat) (s : Bs) (p : Nat) : PR Hd := match nameR L k s p with
  | .bad q => .bad q
  | .ok n q => match textR false s q with
    | .bad q => .bad q
    | .ok v q => .ok ⟨n, v⟩ q
def partR (B : Nat) (L : List Hd) (s : Bs) (p : Nat) : PR (Hd × List Hd) := match numR s p with
  | .bad q => .bad q
  | .ok n q => if n % 2 = 0 then (match entR L (n / 2) q with
      | .ok h q => .ok (h, L) q
      | .bad q => .bad q)
    else match freshR L (n / 2) s q with
      | .ok h q => .ok (h, put B L h) q
      | .bad q => .bad q
inductive XR where
  | ok (hs L : List Hd)
  | err (e p : Nat)
def exR (B : Nat) (s : Bs) : Nat → List Hd → Nat → XR
  | 0, L, p => if s.length ≤ p then .ok [] L else .err 8 p
  | n + 1, L, p => if s.length ≤ p then .ok [] L else match partR B L s p with
    | .bad q => .err 9 q
    | .ok hl q => match exR B s n hl.2 q with
      | .ok hs L2 => .ok (hl.1 :: hs) L2
      | .err e q => .err e q

theorem upto_le (q : UInt8 → Bool) : ∀ (n : Nat) (m : Bs), upto q n m ≤ n ∧ upto q n m ≤ m.length
  | 0, _ => by simp [upto]
  | _ + 1, [] => by simp [upto]
  | n + 1, c :: m => by
    rw [upto]
    have := upto_le q n m
    split <;> simp <;> omega
theorem upto_of (q : UInt8 → Bool) : ∀ (n i : Nat) (m : Bs), i ≤ n → (∀ j, j < i → ∃ c, m[j]? = some c ∧ q c = true) → (i = n ∨ m[i]? = none ∨ ∃ c, m[i]? = some c ∧ q c = false) → upto q n m = i
  | 0, i, m, h, _, _ => by simp [upto]; omega
  | n + 1, 0, [], _, _, _ => by simp [upto]
  | n + 1, 0, c :: m, _, _, h => by
    rcases h with h | h | ⟨d, hd, hq⟩
    · simp at h
    · simp at h
    · simp at hd; subst hd; simp [upto, hq]
  | n + 1, i + 1, [], _, h, _ => by
    obtain ⟨c, hc, _⟩ := h 0 (by omega)
    simp at hc
  | n + 1, i + 1, c :: m, h0, h, h2 => by
    obtain ⟨d, hd, hq⟩ := h 0 (by omega)
    simp at hd
    subst hd
    rw [upto, hq, upto_of q n i m (by omega) (fun j hj => by simpa using h (j + 1) (by omega)) (by simpa using h2)]
    simp
theorem upto_all (q : UInt8 → Bool) : ∀ (t r : Bs), t.all q = true → upto q t.length (t ++ r) = t.length
  | [], r, _ => by simp [upto]
  | c :: t, r, h => by
    simp only [List.all_cons, Bool.and_eq_true] at h
    simp only [List.length_cons, List.cons_append, upto, h.1, if_true]
    rw [upto_all q t r h.2]

theorem numR_ge {s : Bs} {p n q : Nat} (hp : p ≤ s.length) (h : numR s p = .ok n q) : p < q ∧ q ≤ s.length := by
  unfold numR at h
  cases e : rd 0 0 (s.drop p) with
  | short => rw [e] at h; cases h
  | bad k => rw [e] at h; cases h
  | ok m k =>
    rw [e] at h
    cases h
    have := rd_ok_bounds _ _ _ _ _ e
    rw [List.length_drop] at this
    omega
theorem numR_bad {s : Bs} {p q : Nat} (hp : p ≤ s.length) (h : numR s p = .bad q) : p ≤ q ∧ q ≤ s.length := by
  unfold numR at h
  cases e : rd 0 0 (s.drop p) with
  | short => rw [e] at h; cases h; omega
  | bad k =>
    rw [e] at h
    cases h
    have := rd_bad_bounds _ _ _ _ e
    rw [List.length_drop] at this
    omega
  | ok m k => rw [e] at h; cases h
theorem textR_ge {name : Bool} {s : Bs} {p : Nat} {t : Bs} {q : Nat} (hp : p ≤ s.length) (h : textR name s p = .ok t q) : p < q ∧ q ≤ s.length ∧ t.length ≤ 32 := by
  unfold textR at h
  cases e : numR s p with
  | bad k => rw [e] at h; cases h
  | ok m k =>
    have b := numR_ge hp e
    rw [e] at h
    simp only at h
    split at h
    · rename_i hl
      split at h
      · rename_i hu
        cases h
        have := upto_le (allows name) m (s.drop k)
        rw [hu, List.length_drop] at this
        have hm : m ≤ 32 := by
          unfold lenOk at hl
          split at hl <;> simp at hl <;> omega
        simp
        omega
      · cases h
    · cases h
theorem textR_bad {name : Bool} {s : Bs} {p q : Nat} (hp : p ≤ s.length) (h : textR name s p = .bad q) : p ≤ q ∧ q ≤ s.length := by
  unfold textR at h
  cases e : numR s p with
  | bad k => rw [e] at h; cases h; exact numR_bad hp e
  | ok m k =>
    have b := numR_ge hp e
    rw [e] at h
    simp only at h
    split at h
    · split at h
      · cases h
      · cases h
        have := upto_le (allows name) m (s.drop k)
        rw [List.length_drop] at this
        omega
    · cases h
      omega

/-- What is written is read. -/
theorem numR_wire (a b : Bs) (m : Nat) (h : m ≤ 268435455) : numR (a ++ (wire m ++ b)) a.length = .ok m (a.length + (wire m).length) := by
  unfold numR
  rw [List.drop_left, rd_wire0 m b h]
theorem textR_text (name : Bool) (a b t : Bs) (h : fits name t = true) : textR name (a ++ (text t ++ b)) a.length = .ok t (a.length + (text t).length) := by
  unfold fits at h
  rw [Bool.and_eq_true] at h
  have hl : t.length ≤ 32 := by
    have := h.1
    unfold lenOk at this
    split at this <;> simp at this <;> omega
  unfold textR text
  rw [List.append_assoc, numR_wire a (t ++ b) t.length (by omega)]
  simp only [h.1, if_true]
  have e : (a ++ (wire t.length ++ (t ++ b))).drop (a.length + (wire t.length).length) = t ++ b := by
    rw [← List.append_assoc, ← List.length_append, List.drop_left]
  rw [e, upto_all _ t b h.2]
  simp
  omega

theorem ents_len (L : List Hd) : (ents L).length = 4 + L.length := by simp [ents, fixedL]; omega

theorem partR_one (B : Nat) (L : List Hd) (h : Hd) (a b : Bs) (hB : B ≤ 200) (hL : weights L ≤ B) (hg : good h = true) :
    partR B L (a ++ ((oneP B L h).1 ++ b)) a.length = .ok (h, (oneP B L h).2) (a.length + (oneP B L h).1.length) := by
  have hlen := weights_len L
  have hE := ents_len L
  unfold good at hg
  rw [Bool.and_eq_true] at hg
  unfold oneP
  split
  · rename_i h1
    obtain ⟨x, hx, hp⟩ := low_get _ _ h1
    simp only [partR, numR_wire a b _ (show 2 * low (sameHd h) (ents L) ≤ 268435455 by omega)]
    rw [if_pos (by omega)]
    simp only [sameHd, Bool.and_eq_true, decide_eq_true_eq] at hp
    have : x = h := by cases x; cases h; simp at hp ⊢; exact hp
    subst this
    rw [show 2 * low (sameHd x) (ents L) / 2 = low (sameHd x) (ents L) by omega]
    simp only [entR, hx]
  · split
    · rename_i _ h1
      obtain ⟨x, hx, hp⟩ := low_get _ _ h1
      simp only [partR, List.append_assoc, numR_wire a _ _ (show 2 * (low (sameName h) (ents L) + 1) + 1 ≤ 268435455 by omega)]
      rw [if_neg (by omega)]
      simp only [sameName, decide_eq_true_eq] at hp
      rw [show (2 * (low (sameName h) (ents L) + 1) + 1) / 2 = low (sameName h) (ents L) + 1 by omega]
      simp only [freshR, nameR]
      rw [if_neg (by omega), show low (sameName h) (ents L) + 1 - 1 = low (sameName h) (ents L) by omega]
      simp only [entR, hx]
      have e := textR_text false (a ++ wire (2 * (low (sameName h) (ents L) + 1) + 1)) b h.v hg.2
      rw [List.append_assoc, List.length_append] at e
      rw [e]
      simp only [hp, List.length_append]
      rw [Nat.add_assoc]
    · simp only [partR, List.append_assoc, numR_wire a _ 1 (by omega)]
      rw [if_neg (by omega)]
      simp only [freshR, nameR]
      rw [if_pos trivial]
      have e := textR_text true (a ++ wire 1) (text h.v ++ b) h.n hg.1
      rw [List.append_assoc, List.length_append] at e
      rw [e]
      have e2 := textR_text false (a ++ (wire 1 ++ text h.n)) b h.v hg.2
      rw [List.append_assoc, List.append_assoc, List.length_append, List.length_append] at e2
      simp only [Nat.add_assoc] at e2 ⊢
      rw [e2]
      simp only [List.length_append]

theorem oneP_weights (B : Nat) (L : List Hd) (h : Hd) (hL : weights L ≤ B) : weights (oneP B L h).2 ≤ B := by
  unfold oneP
  split
  · exact hL
  · split <;> exact put_weights _ _ _
theorem oneP_pos (B : Nat) (L : List Hd) (h : Hd) : 0 < (oneP B L h).1.length := by
  unfold oneP
  split
  · exact wire_len_pos _
  · split <;> simp only [List.length_append]
    · have := wire_len_pos (2 * (low (sameName h) (ents L) + 1) + 1); omega
    · have := wire_len_pos 1; omega
theorem squeeze_weights (B : Nat) : ∀ (hs L : List Hd), weights L ≤ B → weights (squeeze B L hs).2 ≤ B
  | [], _, h => h
  | x :: hs, L, h => squeeze_weights B hs _ (oneP_weights B L x h)
theorem squeeze_nil (B : Nat) : ∀ (hs L : List Hd), (squeeze B L hs).1 = [] ↔ hs = []
  | [], _ => by simp [squeeze]
  | x :: hs, L => by
    have := oneP_pos B L x
    simp only [squeeze, List.append_eq_nil_iff]
    constructor
    · rintro ⟨h, _⟩; rw [h] at this; simp at this
    · intro h; cases h
theorem squeeze_snoc (B : Nat) : ∀ (hs L : List Hd) (x : Hd), squeeze B L (hs ++ [x]) = ((squeeze B L hs).1 ++ (oneP B (squeeze B L hs).2 x).1, (oneP B (squeeze B L hs).2 x).2)
  | [], L, x => by simp [squeeze]
  | y :: hs, L, x => by
    simp only [List.cons_append, squeeze, squeeze_snoc B hs _ x, List.append_assoc]

/-- What one table squeezes, another one like it expands, and they stay alike. -/
theorem exR_squeeze (B : Nat) (hB : B ≤ 200) : ∀ (hs L : List Hd) (a : Bs) (n : Nat), hs.length ≤ n → weights L ≤ B → (∀ h ∈ hs, good h = true) →
    exR B (a ++ (squeeze B L hs).1) n L a.length = .ok hs (squeeze B L hs).2
  | [], L, a, n, _, _, _ => by
    cases n <;> simp [squeeze, exR]
  | x :: hs, L, a, 0, h, _, _ => by simp at h
  | x :: hs, L, a, n + 1, h, hL, hg => by
    have hpos := oneP_pos B L x
    simp only [squeeze]
    rw [exR, if_neg (by simp only [List.length_append]; omega)]
    rw [partR_one B L x a _ hB hL (hg x (by simp))]
    simp only
    have e := exR_squeeze B hB hs (oneP B L x).2 (a ++ (oneP B L x).1) n (by simpa using h) (oneP_weights B L x hL) (fun y hy => hg y (by simp [hy]))
    rw [List.append_assoc, List.length_append] at e
    rw [e]

theorem wrongAt_ok : ∀ (l : List Hd) (i : Nat), (wrongAt i l).1 = 0 ↔ ∀ h ∈ l, good h = true
  | [], i => by simp [wrongAt]
  | x :: l, i => by
    rw [wrongAt]
    split
    · rename_i h; rw [wrongAt_ok l (i + 1)]; simp [h]
    · rename_i h; simp [h]
theorem wrong_ok {l : List Hd} (h : (wrong l).1 = 0) : l.length ≤ 6 ∧ ∀ x ∈ l, good x = true := by
  unfold wrong at h
  split at h
  · cases h
  · exact ⟨by omega, (wrongAt_ok l 0).1 h⟩

end Go.Proofs.YtbkpdapagfjmmaaGreatDoor.Lk

/-
  Small facts on memory: a block that is known whole.
-/
namespace Go.Proofs.YtbkpdapagfjmmaaGreatDoor
open Go.RowKit

theorem hide {p : Prop} (h : p) : Hid p := h
theorem unhide {p : Prop} (h : Hid p) : p := h
theorem ret_int {k : IntKind} {a b : Int} (h : a = b) : Ending.returned (.int k a) = .returned (.int k b) := by rw [h]
theorem ret_bool {a b : Bool} (h : a = b) : Ending.returned (.bool a) = .returned (.bool b) := by rw [h]

/-- Block b is these cells, none frozen. -/
def Is (w : World) (b : Nat) (T : TypeId) (cs : List Value) : Prop := w.heap[b]? = some (.cells cs.toArray T (0, 0))

theorem Is.lt {w : World} {b : Nat} {T : TypeId} {cs : List Value} (h : Is w b T cs) : b < w.heap.size := lt_of_block h
theorem Is.cell {w : World} {b : Nat} {T : TypeId} {cs : List Value} (h : Is w b T cs) (i : Nat) : w.cell? ⟨b, i, none⟩ = cs[i]? := by
  unfold Is at h
  simp [World.cell?, h]
theorem Is.free {w : World} {b : Nat} {T : TypeId} {cs : List Value} (h : Is w b T cs) (i : Nat) : w.frozen? ⟨b, i, none⟩ = false := by
  unfold Is at h
  simp [World.frozen?, h]
theorem Is.set {w : World} {b : Nat} {T : TypeId} {cs : List Value} (h : Is w b T cs) (i : Nat) (v : Value) : Is (w.setCell ⟨b, i, none⟩ v) b T (cs.set i v) := by
  unfold Is
  rw [heap_setCell_same w b i _ T v h]
  simp
theorem Is.drewN {w : World} {b : Nat} {T : TypeId} {cs : List Value} (h : Is w b T cs) (n : Nat) : Is (w.drewN n) b T cs := h
theorem Is.drew {w : World} {b : Nat} {T : TypeId} {cs : List Value} (h : Is w b T cs) : Is w.drew b T cs := h
theorem Is.new (w : World) (T : TypeId) (cs : List Value) : Is (w.alloc (.cells cs.toArray T)) w.heap.size T cs := by
  exact heap_alloc_new w _
theorem Is.alloc {w : World} {b : Nat} {T : TypeId} {cs : List Value} (h : Is w b T cs) (o : Obj) : Is (w.alloc o) b T cs := by
  unfold Is
  rw [Below.heap_alloc _ _ _ h.lt]
  exact h
theorem Is.other {w : World} {b : Nat} {T : TypeId} {cs : List Value} (h : Is w b T cs) (a : Addr) (v : Value) (hne : b ≠ a.block) : Is (w.setCell a v) b T cs := by
  unfold Is
  rw [heap_setCell_other w a b v hne]
  exact h
theorem Is.grown {w w' : World} {b : Nat} {T : TypeId} {cs : List Value} (h : Is w b T cs) {row : Option Nat} (hg : w.grownBy w' row) (hne : some b ≠ row) : Is w' b T cs := by
  unfold Is
  rw [hg.block b h.lt hne]
  exact h
theorem Is.below {w w' : World} {b B : Nat} {T : TypeId} {cs : List Value} (h : Is w b T cs) (hg : Below B w w') (hne : b < B) : Is w' b T cs := by
  unfold Is
  rw [hg.block b hne]
  exact h

/-- Nothing that was there has turned but block b. -/
def Turns (b : Nat) (w w' : World) : Prop := w.grownBy w' (some b)

theorem Turns.refl (b : Nat) (w : World) : Turns b w w := World.grownBy.refl w _
theorem Turns.trans {b : Nat} {w w1 w2 : World} (h : Turns b w w1) (k : Turns b w1 w2) : Turns b w w2 :=
  ⟨k.os.trans h.os, k.tape.trans h.tape, k.output.trans h.output, Nat.le_trans h.size k.size, fun i hi hn => (k.block i (Nat.lt_of_lt_of_le hi h.size) hn).trans (h.block i hi hn)⟩
theorem Turns.drewN {b : Nat} {w w1 : World} (h : Turns b w w1) (n : Nat) : Turns b w (w1.drewN n) := ⟨h.os, h.tape, h.output, h.size, h.block⟩
theorem Turns.drew {b : Nat} {w w1 : World} (h : Turns b w w1) : Turns b w w1.drew := ⟨h.os, h.tape, h.output, h.size, h.block⟩
theorem Turns.set {b : Nat} {w w1 : World} (h : Turns b w w1) (i : Nat) (v : Value) : Turns b w (w1.setCell ⟨b, i, none⟩ v) :=
  h.trans ⟨rfl, rfl, rfl, by simp, fun k _ hn => heap_setCell_other _ _ _ _ (fun e => hn (congrArg some e))⟩
theorem Turns.alloc {b : Nat} {w w1 : World} (h : Turns b w w1) (o : Obj) : Turns b w (w1.alloc o) := h.trans (World.grownBy_alloc _ _ _)
theorem Turns.below {b : Nat} {w w1 w2 : World} (h : Turns b w w1) (k : Below w1.heap.size w1 w2) : Turns b w w2 :=
  h.trans ⟨k.os, k.tape, k.output, k.size, fun i hi _ => k.block i hi⟩
/-- Where that block is a new one, nothing old has turned. -/
theorem Turns.toBelow {b B : Nat} {w w1 w2 : World} (h : Below B w w1) (k : Turns b w1 w2) (hb : B ≤ b) (hB : B ≤ w1.heap.size) : Below B w w2 :=
  h.trans ⟨k.os, k.tape, k.output, k.size, fun i hi => k.block i (by omega) (fun e => by cases e; omega)⟩
theorem Below.drewN {B : Nat} {a w : World} (h : Below B a w) (n : Nat) : Below B a (w.drewN n) := ⟨h.os, h.tape, h.output, h.size, h.block⟩

end Go.Proofs.YtbkpdapagfjmmaaGreatDoor

/-
  Walks: what a table keeps: its entries.
-/
namespace Go.Proofs.YtbkpdapagfjmmaaGreatDoor
open Go.RowKit

def bs (l : Lk.Bs) : ByteArray := ⟨l.toArray⟩
def hdV (h : Lk.Hd) : List Value := [.string (bs h.n), .string (bs h.v)]
def hdsV (l : List Lk.Hd) : List Value := l.flatMap hdV
abbrev hdA (h : Lk.Hd) : Value := .agg #[.string (bs h.n), .string (bs h.v)]
theorem bs_size (l : Lk.Bs) : (bs l).size = l.length := by simp [bs, ByteArray.size]

theorem hdsV_len (l : List Lk.Hd) : (hdsV l).length = l.length * 2 := by
  induction l with
  | nil => rfl
  | cons f fs ih => simp only [hdsV, List.flatMap_cons, List.length_append, hdV, List.length_cons, List.length_nil] at ih ⊢; omega
theorem hdsV_at (l : List Lk.Hd) : ∀ (i : Nat) (x : Lk.Hd), l[i]? = some x → (hdsV l)[i * 2]? = some (.string (bs x.n)) ∧ (hdsV l)[i * 2 + 1]? = some (.string (bs x.v)) := by
  induction l with
  | nil => intro i x h; simp at h
  | cons f fs ih =>
    intro i x h
    cases i with
    | zero => simp at h; subst h; simp [hdsV, hdV]
    | succ i =>
      have := ih i x (by simpa using h)
      simp only [hdsV, List.flatMap_cons, hdV] at this ⊢
      have e : (i + 1) * 2 = i * 2 + 2 := by omega
      rw [e]
      simpa using this
theorem hdsV_append (a b : List Lk.Hd) : hdsV (a ++ b) = hdsV a ++ hdsV b := by simp [hdsV]

/-- What a slice of headers is, for the walk. -/
theorem owned_hds {w : World} {B : Nat} {T : TypeId} {v : Value} {l : List Lk.Hd} (h : w.ownsRow B T 2 v l.length (hdsV l)) :
    (l = [] ∧ v = .slice none 0 0) ∨ ∃ g cap, v = .slice (some ⟨g, 0, none⟩) l.length cap ∧ B ≤ g ∧ g < w.heap.size ∧ l.length ≤ cap ∧ ∀ (i : Nat) (x : Lk.Hd), l[i]? = some x → w.cell? ⟨g, i * 2, none⟩ = some (.string (bs x.n)) ∧ w.cell? ⟨g, i * 2 + 1, none⟩ = some (.string (bs x.v)) := by
  rcases h.2 with ⟨rfl, h0⟩ | ⟨g, cap, cur, rfl, hB, hg, hn, hc, hs, ht⟩
  · exact .inl ⟨List.eq_nil_of_length_eq_zero h0, rfl⟩
  · have hI : Is w g T cur.toList := by unfold Is; simpa using hg
    refine .inr ⟨g, cap, rfl, hB, hI.lt, hn, fun i x hx => ?_⟩
    have e := hdsV_at l i x hx
    have hi : i < l.length := by
      rcases Nat.lt_or_ge i l.length with h | h
      · exact h
      · rw [List.getElem?_eq_none h] at hx; cases hx
    have hc : ∀ j, j < l.length * 2 → w.cell? ⟨g, j, none⟩ = (hdsV l)[j]? := by
      intro j hj
      rw [hI.cell j, ← ht, List.getElem?_take_of_lt hj]
    rw [hc _ (by omega), hc _ (by omega)]
    exact e

theorem row_at2 {w : World} {B g n cap i : Nat} {T : TypeId} {l : List Lk.Hd} {x : Lk.Hd} (h : w.ownsRow B T 2 (.slice (some ⟨g, 0, none⟩) n cap) n (hdsV l)) (hx : l[i]? = some x) :
    g < w.heap.size ∧ w.cell? ⟨g, i * 2, none⟩ = some (.string (bs x.n)) ∧ w.cell? ⟨g, i * 2 + 1, none⟩ = some (.string (bs x.v)) := by
  have hn : n = l.length := by have := h.1; rw [hdsV_len] at this; omega
  subst hn
  rcases owned_hds h with ⟨_, h⟩ | ⟨g', cap', h, _, hg, _, hc⟩
  · cases h
  · cases h
    exact ⟨hg, hc i x hx⟩
/-- The first four entries lie where they were laid. -/
def Fx (w : World) : Prop := 0 < w.heap.size ∧ ∀ (i : Nat) (x : Lk.Hd), Lk.fixedL[i]? = some x → w.cell? ⟨0, i * 2, none⟩ = some (.string (bs x.n)) ∧ w.cell? ⟨0, i * 2 + 1, none⟩ = some (.string (bs x.v))
theorem Fx.below {w w' : World} {B : Nat} (h : Fx w) (hb : Below B w w') (hB : 0 < B) : Fx w' :=
  ⟨Nat.lt_of_lt_of_le h.1 hb.size, fun i x hx => by rw [hb.cell (p := ⟨0, _, none⟩) hB, hb.cell (p := ⟨0, _, none⟩) hB]; exact h.2 i x hx⟩
theorem Fx.grown {w w' : World} {row : Option Nat} (h : Fx w) (hb : w.grownBy w' row) (hr : some 0 ≠ row) : Fx w' :=
  ⟨Nat.lt_of_lt_of_le h.1 hb.size, fun i x hx => by
    have e : ∀ k, w'.cell? ⟨0, k, none⟩ = w.cell? ⟨0, k, none⟩ := fun k => by simp only [World.cell?]; rw [hb.block 0 h.1 hr]
    rw [e, e]; exact h.2 i x hx⟩

theorem weight_any (h : Lk.Hd) (w : World) (hl : h.n.length ≤ 1000) (hv : h.v.length ≤ 1000) :
    Calls Tryz.prog 126 #[hdA h] w fun e w' => e = .returned (.int .i64 h.weight) ∧ Below w.heap.size w w' := by
  unfold hdA
  have h1 := bs_size h.n
  have h2 := bs_size h.v
  go_enter Tryz.func126, Tryz.ntmps126
  go_wp2_with fail
  go_ret
  refine ⟨ret_int ?_, (Below.refl _ _).alloc (Nat.le_refl _) _⟩
  simp [Lk.Hd.weight]

def zeroHd : Lk.Hd := ⟨[], []⟩
set_option maxRecDepth 100000 in
theorem entry_fixed (b o i : Nat) (x : Lk.Hd) (w : World) (hi : (i : Int) < 4) (hfx : Fx w) (hx : Lk.fixedL[i]? = some x) :
    Calls Tryz.prog 184 #[.pointer (some ⟨b, o, none⟩), .int .i64 i] w fun e w' => e = .returned (.tuple #[hdA x, .bool true]) ∧ Below w.heap.size w w' := by
  obtain ⟨h0, hc⟩ := hfx
  obtain ⟨c0, c1⟩ := hc i x hx
  clear hc hx
  have hi2 : i * 2 < 8 := by omega
  go_enter Tryz.func184, Tryz.ntmps184
  go_wp2_with fail
  exact bodyPost_ret (v := .tuple #[hdA x, .bool true]) (by simp [results, Tryz.results184, go_sem, hdA]) rfl ⟨rfl, by ((repeat' (first | exact Below.refl _ _ | assumption | apply Below.drew | apply Below.alloc | apply Below.setCell)) <;> (simp <;> omega))⟩
set_option maxRecDepth 100000 in
theorem entry_none (b o i : Nat) (n cap : Nat) (ad : Option Addr) (w : World) (hb : b < w.heap.size) (hi : ¬ (i : Int) < 4) (hiN : i ≤ 2 ^ 40) (hv : w.cell? ⟨b, o + 2, none⟩ = some (.slice ad n cap)) (hn : ¬ (i : Int) - 4 < n) :
    Calls Tryz.prog 184 #[.pointer (some ⟨b, o, none⟩), .int .i64 i] w fun e w' => e = .returned (.tuple #[hdA zeroHd, .bool false]) ∧ Below w.heap.size w w' := by
  go_enter Tryz.func184, Tryz.ntmps184
  go_wp2_with fail
  exact bodyPost_ret (v := .tuple #[hdA zeroHd, .bool false]) (by simp [results, Tryz.results184, go_sem, hdA, zeroHd, bs]) rfl ⟨rfl, by ((repeat' (first | exact Below.refl _ _ | assumption | apply Below.drew | apply Below.alloc | apply Below.setCell)) <;> (simp <;> omega))⟩
set_option maxRecDepth 100000 in
theorem entry_kept (b o i : Nat) (x : Lk.Hd) (n cap g : Nat) (w : World) (hb : b < w.heap.size) (hi : ¬ (i : Int) < 4) (hiN : i ≤ 2 ^ 40) (hv : w.cell? ⟨b, o + 2, none⟩ = some (.slice (some ⟨g, 0, none⟩) n cap)) (hn : (i : Int) - 4 < n) (hg : g < w.heap.size)
    (c0 : w.cell? ⟨g, (i - 4) * 2, none⟩ = some (.string (bs x.n))) (c1 : w.cell? ⟨g, (i - 4) * 2 + 1, none⟩ = some (.string (bs x.v))) :
    Calls Tryz.prog 184 #[.pointer (some ⟨b, o, none⟩), .int .i64 i] w fun e w' => e = .returned (.tuple #[hdA x, .bool true]) ∧ Below w.heap.size w w' := by
  go_enter Tryz.func184, Tryz.ntmps184
  go_wp2_with fail
  exact bodyPost_ret (v := .tuple #[hdA x, .bool true]) (by simp [results, Tryz.results184, go_sem, hdA]) rfl ⟨rfl, by ((repeat' (first | exact Below.refl _ _ | assumption | apply Below.drew | apply Below.alloc | apply Below.setCell)) <;> (simp <;> omega))⟩
end Go.Proofs.YtbkpdapagfjmmaaGreatDoor

/-
  The first four entries, as the row lists them.
-/
namespace Go.Proofs.YtbkpdapagfjmmaaGreatDoor
open Go.ChangeShapes Go.WideShapes Go.ChangeAt Go.RowKit

theorem gFixed : Tryz.prog.globalNamed "link/link.fixed" = some 0 := by kernel_rfl
theorem tFixed : (Tryz.prog.globals[0]?).map (·.type) = some 282 := by kernel_rfl
theorem cellsHd : Tryz.prog.cellsOf 112 = 2 := by kernel_rfl
theorem cellsFixed : Tryz.prog.cellsOf 282 = 8 := by kernel_rfl
theorem cellsStr : Tryz.prog.cellsOf 9 = 1 := by kernel_rfl

set_option maxRecDepth 100000 in
/-- A header that was read as data. -/
theorem open_hd {H : Type} {enc : TypeId × Value → H} {w : World} {base : Nat} {spare : Nat → Bool} {held : Bool} {fuel : Nat} {cs : List Value} {x : DataW H × List MemPlace}
    (h : DataW.trod enc Tryz.prog w base spare held fuel 112 cs = some x) : ∃ a b : ByteArray, cs = [.string a, .string b] ∧ x.1 = .agg [.lit (.string a.data.toList), .lit (.string b.data.toList)] := by
  obtain ⟨xs, n, _, rfl, hl, hlen, hf⟩ := DataW.trod_struct Tryz.underlying112 h
  rw [cellsHd] at hl
  match cs, hl with
  | [c0, c1], _ =>
  match xs, hlen with
  | [y0, y1], _ =>
  have f0 : DataW.trod enc Tryz.prog w base spare held n 9 (([c0, c1].drop 0).take (Tryz.prog.cellsOf 9)) = some y0 := hf 0 _ rfl
  rw [cellsStr] at f0
  have f1 : DataW.trod enc Tryz.prog w base spare held n 9 (([c0, c1].drop 1).take (Tryz.prog.cellsOf 9)) = some y1 := hf 1 _ rfl
  rw [cellsStr] at f1
  simp only [List.drop_zero, List.drop_succ_cons, List.take_succ_cons, List.take_zero] at f0 f1
  obtain ⟨a, e0, rfl, _⟩ := DataW.trod_string Tryz.underlying9 f0
  obtain ⟨b, e1, rfl, _⟩ := DataW.trod_string Tryz.underlying9 f1
  simp only [List.cons.injEq, and_true] at e0 e1
  subst e0 e1
  exact ⟨a, b, rfl, rfl⟩

theorem bs_eq {a : ByteArray} {l : Lk.Bs} (h : a.data.toList = l) : a = bs l := by subst h; simp [bs]

set_option maxRecDepth 100000 in
theorem fx_of_laid {W : World} (h : laidMet Tryz.prog [("link/link.fixed", Rows.laid_link_link_fixed)] W) : Fx W := by
  obtain ⟨ps, ⟨g0, t0, cs0, f0, p0, q0, hg0, ht0, hv0, hd0, _⟩, _⟩ := h
  obtain rfl := Option.some.inj (gFixed.symm.trans hg0)
  obtain rfl := Option.some.inj (tFixed.symm.trans ht0)
  obtain ⟨xs, m1, rfl, hx1, hlen, hn4, hel⟩ := DataW.trod_array Tryz.underlying282 hd0
  rw [cellsFixed] at hlen
  rw [cellsHd] at hel
  have hcell := fun j => World.var?_cell hg0 hv0 j
  match xs, hn4 with
  | [x0, x1, x2, x3], _ =>
  obtain ⟨a0, b0, e0, d0⟩ := open_hd (hel 0 (by decide))
  obtain ⟨a1, b1, e1, d1⟩ := open_hd (hel 1 (by decide))
  obtain ⟨a2, b2, e2, d2⟩ := open_hd (hel 2 (by decide))
  obtain ⟨a3, b3, e3, d3⟩ := open_hd (hel 3 (by decide))
  simp only [Rows.laid_link_link_fixed, Prod.mk.injEq, DataW.agg.injEq, List.map_cons, List.map_nil, List.cons.injEq, d0, d1, d2, d3, DataW.lit.injEq, Lit.string.injEq, and_true] at hx1
  obtain ⟨⟨⟨y0, z0⟩, ⟨y1, z1⟩, ⟨y2, z2⟩, ⟨y3, z3⟩⟩, _⟩ := hx1
  obtain ⟨l⟩ := cs0
  simp only at hlen e0 e1 e2 e3
  match l, hlen with
  | [c0, c1, c2, c3, c4, c5, c6, c7], _ =>
  simp at e0 e1 e2 e3
  obtain ⟨rfl, rfl⟩ := e0
  obtain ⟨rfl, rfl⟩ := e1
  obtain ⟨rfl, rfl⟩ := e2
  obtain ⟨rfl, rfl⟩ := e3
  obtain rfl := bs_eq y0.symm
  obtain rfl := bs_eq z0.symm
  obtain rfl := bs_eq y1.symm
  obtain rfl := bs_eq z1.symm
  obtain rfl := bs_eq y2.symm
  obtain rfl := bs_eq z2.symm
  obtain rfl := bs_eq y3.symm
  obtain rfl := bs_eq z3.symm
  have k0 := hcell 0
  have k1 := hcell 1
  have k2 := hcell 2
  have k3 := hcell 3
  have k4 := hcell 4
  have k5 := hcell 5
  have k6 := hcell 6
  have k7 := hcell 7
  refine ⟨World.block_lt_of_cell? _ _ k0, fun i x hx => ?_⟩
  match i, hx with
  | 0, hx => cases hx; exact ⟨k0, k1⟩
  | 1, hx => cases hx; exact ⟨k2, k3⟩
  | 2, hx => cases hx; exact ⟨k4, k5⟩
  | 3, hx => cases hx; exact ⟨k6, k7⟩
  | n + 4, hx => simp [Lk.fixedL] at hx
end Go.Proofs.YtbkpdapagfjmmaaGreatDoor
