import Derived.Test.YtbkpdapagfjmmaaGreatDoorMSpec5Z1
import Derived.Deep.RegionLaw
import Derived.Deep.AppendLies
import Derived.Deep.DeepCutAuto
import Derived.Maps.OwnSet
import Derived.Test.YtbkpdapagfjmmaaGreatDoorMSpecSpec3
/-
  Memory: rows and blocks that are two; what a call keeps.
-/
namespace Go.Proofs.YtbkpdapagfjmmaaGreatDoor
open Go.RowKit

theorem one_new_at (w : World) (x : Value) (t : TypeId) (H : Nat) (hH : w.heap.size = H) : ∀ j u, [x][j]? = some u → (w.alloc (.cells #[x] t)).drew.cell? ((⟨H, 0, none⟩ : Addr).add j) = some u := by
  subst hH
  exact cell_one_new w x t
/-- Blocks of two types are two. -/
theorem Is.ne {w : World} {a b : Nat} {T T' : TypeId} {cs cs' : List Value} (h : Is w a T cs) (h' : Is w b T' cs') (hT : T ≠ T') : a ≠ b := by
  rintro rfl
  unfold Is at h h'
  rw [h] at h'
  simp at h'
  exact hT h'.2
theorem own_ne {w : World} {B b : Nat} {T e : TypeId} {size n : Nat} {v : Value} {xs cs : List Value} (h : w.ownsRow B e size v n xs) (h' : Is w b T cs) (hT : T ≠ e) : some b ≠ v.ownBlock := by
  rcases h.2 with ⟨rfl, _⟩ | ⟨g, cap, cur, rfl, _, hg, _⟩
  · simp [Value.ownBlock]
  · have hI : Is w g e cur.toList := by unfold Is; simpa using hg
    have := h'.ne hI hT
    simp [Value.ownBlock]
    exact this

def ptr (b : Nat) : Value := .pointer (some ⟨b, 0, none⟩)
abbrev nilS : Value := .slice none 0 0

theorem own_own_ne {w : World} {B B' : Nat} {e e' : TypeId} {size size' n n' : Nat} {v v' : Value} {xs xs' : List Value} (h : w.ownsRow B e size v n xs) (h' : w.ownsRow B' e' size' v' n' xs') (hT : e ≠ e') : v.ownBlock = none ∨ v.ownBlock ≠ v'.ownBlock := by
  rcases h.2 with ⟨rfl, _⟩ | ⟨g, cap, cur, rfl, _, hg, _⟩
  · exact .inl rfl
  · right
    have hI : Is w g e cur.toList := by unfold Is; simpa using hg
    exact own_ne h' hI hT

theorem undrew {w w' : World} {row : Option Nat} (h : w.drew.grownBy w' row) : w.grownBy w' row := ⟨h.os, h.tape, h.output, h.size, h.block⟩

theorem grownBy_set (w : World) (b i : Nat) (x : Value) : w.grownBy (w.setCell ⟨b, i, none⟩ x) (some b) :=
  ⟨rfl, rfl, rfl, by simp, fun k _ hn => heap_setCell_other _ _ _ _ (fun e => hn (congrArg some e))⟩

theorem Turns.grownNew {b : Nat} {w w1 w2 : World} {row : Option Nat} (h : Turns b w w1) (hg : w1.grownBy w2 row) (hr : ∀ k, row = some k → w.heap.size ≤ k) : Turns b w w2 :=
  ⟨hg.os.trans h.os, hg.tape.trans h.tape, hg.output.trans h.output, Nat.le_trans h.size hg.size, fun k hk hn => (hg.block k (Nat.lt_of_lt_of_le hk h.size) (fun e => by have := hr k e.symm; omega)).trans (h.block k hk hn)⟩

theorem kept_turns {w w1 w2 : World} {b : Nat} {e : TypeId} {size n : Nat} {v : Value} {xs : List Value} (h : w1.ownsRow w.heap.size e size v n xs) (hb : b < w.heap.size) (hT : Turns b w1 w2) : w2.ownsRow w.heap.size e size v n xs := by
  refine h.kept hT ?_
  cases hv : Value.ownBlock v with
  | none => exact .inl rfl
  | some k => exact .inr (by have := (h.lt k hv).1; simp; omega)

theorem below_grown {w w' : World} (hb : Below w.heap.size w w') : w.grownBy w' none := ⟨hb.os, hb.tape, hb.output, hb.size, fun i hi _ => hb.block i hi⟩
theorem own_below {w w' : World} {B : Nat} {e : TypeId} {size n : Nat} {v : Value} {xs : List Value} (h : w.ownsRow B e size v n xs) (hb : Below w.heap.size w w') : w'.ownsRow B e size v n xs :=
  h.kept (row := none) (below_grown hb) (by cases v.ownBlock <;> simp)

theorem own_belowB {w w' : World} {B B' : Nat} {e : TypeId} {size n : Nat} {v : Value} {xs : List Value} (h : w.ownsRow B e size v n xs) (hb : Below B' w w') (hB : w.heap.size ≤ B') : w'.ownsRow B e size v n xs :=
  own_below h ⟨hb.os, hb.tape, hb.output, hb.size, fun i hi => hb.block i (by omega)⟩
theorem call_keeps {W w' : World} (hb : Below W.heap.size W w') {b k : Nat} {v : Value} (hlt : b < W.heap.size) (hc : W.cell? ⟨b, k, none⟩ = some v) : w'.cell? ⟨b, k, none⟩ = some v := by
  rw [hb.cell (p := ⟨b, k, none⟩) hlt]; exact hc
theorem call_free {W w' : World} (hb : Below W.heap.size W w') {b k : Nat} (hlt : b < W.heap.size) (hc : W.frozen? ⟨b, k, none⟩ = false) : w'.frozen? ⟨b, k, none⟩ = false := by
  rw [hb.frozen (p := ⟨b, k, none⟩) hlt]; exact hc
theorem call_lt {W w' : World} (hb : Below W.heap.size W w') {b : Nat} (hlt : b < W.heap.size) : b < w'.heap.size := Nat.lt_of_lt_of_le hlt hb.size
theorem undrewB {W w' : World} {B : Nat} (h : Below B W.drew w') : Below B W w' := ⟨h.os, h.tape, h.output, h.size, h.block⟩
theorem Below.turns {w w1 : World} (h : Below w.heap.size w w1) (b : Nat) : Turns b w w1 := (Turns.refl b w).below h

/-- Whatever block is of another type is as it was. -/
def KeepsT (e : TypeId) (w w' : World) : Prop := ∀ (i : Nat) (T : TypeId) (cs : List Value), T ≠ e → Is w i T cs → Is w' i T cs
theorem KeepsT.refl (e : TypeId) (w : World) : KeepsT e w w := fun _ _ _ _ h => h
theorem KeepsT.trans {e : TypeId} {a b c : World} (h : KeepsT e a b) (k : KeepsT e b c) : KeepsT e a c := fun i T cs hT hI => k i T cs hT (h i T cs hT hI)
theorem KeepsT.alloc {e : TypeId} {a b : World} (h : KeepsT e a b) (o : Obj) : KeepsT e a (b.alloc o) := fun i T cs hT hI => (h i T cs hT hI).alloc o
theorem KeepsT.drewN {e : TypeId} {a b : World} (h : KeepsT e a b) (n : Nat) : KeepsT e a (b.drewN n) := fun i T cs hT hI => (h i T cs hT hI).drewN n
theorem KeepsT.below {e : TypeId} {a b c : World} (h : KeepsT e a b) (hb : Below b.heap.size b c) : KeepsT e a c := fun i T cs hT hI => (h i T cs hT hI).below hb (h i T cs hT hI).lt
theorem KeepsT.grown {e : TypeId} {a b c : World} {B size n : Nat} {v : Value} {xs : List Value} (h : KeepsT e a b) (hg : b.grownBy c v.ownBlock) (own : b.ownsRow B e size v n xs) : KeepsT e a c :=
  fun i T cs hT hI => (h i T cs hT hI).grown hg (own_ne own (h i T cs hT hI) hT)
theorem KeepsT.own {e : TypeId} {a b : World} (h : KeepsT e a b) {B size n : Nat} {T : TypeId} {v : Value} {xs : List Value} (hT : T ≠ e) (ho : a.ownsRow B T size v n xs) : b.ownsRow B T size v n xs := by
  refine ⟨ho.1, ?_⟩
  rcases ho.2 with h0 | ⟨g, cap, cur, h0, h1, h2, h3⟩
  · exact .inl h0
  · have hI : Is a g T cur.toList := by unfold Is; simpa using h2
    have := h g T _ hT hI
    unfold Is at this
    exact .inr ⟨g, cap, cur, h0, h1, by simpa using this, h3⟩

/-- One cell of a known block is written behind a call. -/
theorem write_behind {w wc w' : World} {b k B n size : Nat} {T e : TypeId} {cs xs : List Value} {v x y : Value} (hI : Is wc b T cs) (hb : Below wc.heap.size wc w') (hT : Turns b w wc) (ho : wc.ownsRow B e size v n xs) (hne : T ≠ e) (hx : x = y) :
    Is (w'.setCell ⟨b, k, none⟩ x) b T (cs.set k y) ∧ (w'.setCell ⟨b, k, none⟩ x).ownsRow B e size v n xs ∧ Turns b w (w'.setCell ⟨b, k, none⟩ x) := by
  subst hx
  have hI' := hI.below hb hI.lt
  have ho' := own_below ho hb
  exact ⟨hI'.set k x, ho'.kept (grownBy_set w' b k x) (.inr (fun e => own_ne ho' hI' hne e.symm)), (hT.below hb).set k x⟩

end Go.Proofs.YtbkpdapagfjmmaaGreatDoor

/-
  Memory: only some blocks turn.
-/
namespace Go.Proofs.YtbkpdapagfjmmaaGreatDoor
open Go.RowKit

/-- Only blocks of S, and new ones, have turned. -/
structure Only (S : Nat → Prop) (w w' : World) : Prop where
  os : w'.os = w.os
  tape : w'.tape = w.tape
  output : w'.output = w.output
  size : w.heap.size ≤ w'.heap.size
  block : ∀ i, i < w.heap.size → ¬ S i → w'.heap[i]? = w.heap[i]?

theorem Only.refl (S : Nat → Prop) (w : World) : Only S w w := ⟨rfl, rfl, rfl, Nat.le_refl _, fun _ _ _ => rfl⟩
theorem Only.trans {S S' : Nat → Prop} {a b c : World} (h : Only S a b) (k : Only S' b c) (hs : ∀ i, S' i → i < a.heap.size → S i) : Only S a c :=
  ⟨k.os.trans h.os, k.tape.trans h.tape, k.output.trans h.output, Nat.le_trans h.size k.size, fun i hi hn => (k.block i (Nat.lt_of_lt_of_le hi h.size) (fun hx => hn (hs i hx hi))).trans (h.block i hi hn)⟩
theorem Only.mono {S S' : Nat → Prop} {a b : World} (h : Only S a b) (hs : ∀ i, S i → S' i) : Only S' a b :=
  ⟨h.os, h.tape, h.output, h.size, fun i hi hn => h.block i hi (fun hx => hn (hs i hx))⟩
theorem Only.of_below {a b : World} (k : Below a.heap.size a b) (S : Nat → Prop) : Only S a b := ⟨k.os, k.tape, k.output, k.size, fun i hi _ => k.block i hi⟩
theorem Only.of_turns {t : Nat} {a b : World} (k : Turns t a b) : Only (· = t) a b := ⟨k.os, k.tape, k.output, k.size, fun i hi hn => k.block i hi (by simpa using hn)⟩
theorem Only.of_grown {a b : World} {row : Option Nat} (k : a.grownBy b row) : Only (fun i => some i = row) a b := ⟨k.os, k.tape, k.output, k.size, fun i hi hn => k.block i hi hn⟩
theorem Only.below {S : Nat → Prop} {a b c : World} (h : Only S a b) (k : Below b.heap.size b c) : Only S a c := h.trans (Only.of_below k (fun _ => False)) (fun _ hx _ => hx.elim)
theorem Only.turns {S : Nat → Prop} {t : Nat} {a b c : World} (h : Only S a b) (k : Turns t b c) (ht : t < a.heap.size → S t) : Only S a c := h.trans (Only.of_turns k) (fun i hx hi => by subst hx; exact ht hi)
theorem Only.grown {S : Nat → Prop} {a b c : World} {row : Option Nat} (h : Only S a b) (k : b.grownBy c row) (hr : ∀ i, row = some i → i < a.heap.size → S i) : Only S a c := h.trans (Only.of_grown k) (fun i hx hi => hr i hx.symm hi)
theorem Only.alloc {S : Nat → Prop} {a b : World} (h : Only S a b) (o : Obj) : Only S a (b.alloc o) := h.below ((Below.refl _ _).alloc (Nat.le_refl _) o)
theorem Only.drewN {S : Nat → Prop} {a b : World} (h : Only S a b) (n : Nat) : Only S a (b.drewN n) := ⟨h.os, h.tape, h.output, h.size, h.block⟩
theorem Only.drew {S : Nat → Prop} {a b : World} (h : Only S a b) : Only S a b.drew := ⟨h.os, h.tape, h.output, h.size, h.block⟩
theorem Only.undrew {S : Nat → Prop} {a b : World} (h : Only S a.drew b) : Only S a b := ⟨h.os, h.tape, h.output, h.size, h.block⟩
theorem Only.set {S : Nat → Prop} {a b : World} (h : Only S a b) (t i : Nat) (v : Value) (ht : t < a.heap.size → S t) : Only S a (b.setCell ⟨t, i, none⟩ v) := h.turns ((Turns.refl t b).set i v) ht
theorem Only.toBelow {S : Nat → Prop} {B : Nat} {a b : World} (h : Only S a b) (hS : ∀ i, S i → i < a.heap.size → B ≤ i) (hB : B ≤ a.heap.size) : Below B a b :=
  ⟨h.os, h.tape, h.output, h.size, fun i hi => h.block i (by omega) (fun hx => by have := hS i hx (by omega); omega)⟩
theorem Only.toTurns {S : Nat → Prop} {t : Nat} {a b : World} (h : Only S a b) (hS : ∀ i, S i → i < a.heap.size → i = t) : Turns t a b :=
  ⟨h.os, h.tape, h.output, h.size, fun i hi hn => h.block i hi (fun hx => hn (congrArg some (hS i hx hi)))⟩

theorem Is.only {S : Nat → Prop} {w w' : World} {b : Nat} {T : TypeId} {cs : List Value} (h : Is w b T cs) (k : Only S w w') (hn : ¬ S b) : Is w' b T cs := by
  unfold Is
  rw [k.block b h.lt hn]
  exact h
theorem own_only {S : Nat → Prop} {w w' : World} {B : Nat} {e : TypeId} {size n : Nat} {v : Value} {xs : List Value} (h : w.ownsRow B e size v n xs) (k : Only S w w') (hn : ∀ i, v.ownBlock = some i → ¬ S i) : w'.ownsRow B e size v n xs := by
  refine ⟨h.1, ?_⟩
  rcases h.2 with h0 | ⟨g, cap, cur, h0, h1, h2, h3⟩
  · exact .inl h0
  · have hI : Is w g e cur.toList := by unfold Is; simpa using h2
    have := hI.only k (hn g (by rw [h0]; rfl))
    unfold Is at this
    exact .inr ⟨g, cap, cur, h0, h1, by simpa using this, h3⟩

theorem own_slice {w : World} {B : Nat} {e : TypeId} {size n : Nat} {v : Value} {xs : List Value} (h : w.ownsRow B e size v n xs) : ∃ a m cap, v = .slice a m cap ∧ m = n := by
  rcases h.2 with ⟨rfl, h0⟩ | ⟨g, cap, cur, rfl, _⟩
  · exact ⟨_, _, _, rfl, h0.symm⟩
  · exact ⟨_, _, _, rfl, rfl⟩
theorem Only.of_belowB {B : Nat} {a b : World} (k : Below B a b) : Only (fun i => B ≤ i) a b := ⟨k.os, k.tape, k.output, k.size, fun i _ hn => k.block i (by omega)⟩

/-! ### a map from int to pointers -/
open Go.Maps (Keyed)
def ptrE : Value → Option (DataW Unit × List MemPlace)
  | .pointer (some ⟨b, 0, none⟩) => some (.lit (.int .i64 (b : Int)), [])
  | .pointer none => some (.nil, [])
  | _ => none
theorem ptrE_mk (b : Nat) : ptrE (ptr b) = some (.lit (.int .i64 (b : Int)), []) := rfl
theorem ptrE_inv {v : Value} {b : Int} {ps : List MemPlace} (h : ptrE v = some (.lit (.int .i64 b), ps)) : v = ptr b.toNat := by
  unfold ptrE at h
  split at h
  · simp at h
    obtain ⟨h, _⟩ := h
    rw [← h]
    rfl
  · simp at h
  · cases h
theorem ptrE_nil {v : Value} {ps : List MemPlace} (h : ptrE v = some (.nil, ps)) : v = .pointer none := by
  unfold ptrE at h
  split at h
  · simp at h
  · rfl
  · cases h
def optPtr : Option Nat → Value
  | some b => ptr b
  | none => .pointer none
/-- Block b is a map that has these pointers. -/
def MapIs (P : Program) (K : TypeId) (w : World) (b n : Nat) (ins : Int → Option Nat) : Prop :=
  ∃ D : DataW Unit, w.ownsMap P K ptrE b n D ∧ ∀ k : Int, (match ins k with
    | some p => Maps.has D (.int .i64 k) = true ∧ D.atKey (.int .i64 k) .nil = .lit (.int .i64 (p : Int))
    | none => Maps.has D (.int .i64 k) = false)
theorem MapIs.lt {P : Program} {K : TypeId} {w : World} {b n : Nat} {ins : Int → Option Nat} (h : MapIs P K w b n ins) : b < w.heap.size := let ⟨_, h, _⟩ := h; h.lt
theorem MapIs.mono {P : Program} {K : TypeId} {w : World} {b n m : Nat} {ins : Int → Option Nat} (h : MapIs P K w b n ins) (hm : n ≤ m) : MapIs P K w b m ins := let ⟨D, h, k⟩ := h; ⟨D, h.mono hm, k⟩
theorem MapIs.only {P : Program} {K : TypeId} {S : Nat → Prop} {w w' : World} {b n : Nat} {ins : Int → Option Nat} (h : MapIs P K w b n ins) (k : Only S w w') (hn : ¬ S b) : MapIs P K w' b n ins := by
  have hl := h.lt
  obtain ⟨D, ⟨es, clock, hb, h⟩, hk⟩ := h
  exact ⟨D, ⟨es, clock, by rw [k.block b hl hn]; exact hb, h⟩, hk⟩
theorem MapIs.ne {P : Program} {K T : TypeId} {w : World} {b n c : Nat} {ins : Int → Option Nat} {cs : List Value} (h : MapIs P K w b n ins) (hI : Is w c T cs) : b ≠ c := by
  rintro rfl
  obtain ⟨D, ⟨es, clock, hb, _⟩, _⟩ := h
  unfold Is at hI
  rw [hI] at hb
  cases hb
theorem MapIs.ne_own {P : Program} {K : TypeId} {w : World} {b n B m size : Nat} {ins : Int → Option Nat} {e : TypeId} {v : Value} {xs : List Value} (h : MapIs P K w b n ins) (ho : w.ownsRow B e size v m xs) : v.ownBlock ≠ some b := by
  rcases ho.2 with ⟨rfl, _⟩ | ⟨g, cap, cur, rfl, _, hg, _⟩
  · simp [Value.ownBlock]
  · have hI : Is w g e cur.toList := by unfold Is; simpa using hg
    have := h.ne hI
    simp [Value.ownBlock]
    exact fun e => this e.symm
theorem MapIs.made (P : Program) (K : TypeId) (w : World) : MapIs P K (w.alloc (.map #[] 0)) w.heap.size 0 (fun _ => none) :=
  ⟨.map [], World.ownsMap_made w P K ptrE, fun _ => rfl⟩
theorem MapIs.look {P : Program} {K T E : TypeId} {w : World} {b n : Nat} {ins : Int → Option Nat} (h : MapIs P K w b n ins) (L : Keyed P K) (hT : P.underlying T = some (.map K E)) (hz : (zeroValue E).run P w = .ok (.pointer none) w) (k : Int) (hk : keyOf P K (.int .i64 k) = some (.int .i64 k)) :
    (Instr.lookup T (.map (some b)) (.int .i64 k) true).run P w = .ok (.tuple #[optPtr (ins k), .bool (ins k).isSome]) w ∧ (Instr.lookup T (.map (some b)) (.int .i64 k) false).run P w = .ok (optPtr (ins k)) w := by
  obtain ⟨D, hD, hv⟩ := h
  obtain ⟨v, ps, h1, h2⟩ := hD.look_ok L hT hz (zd := .nil) (zp := []) rfl hk
  obtain ⟨v', ps', h1', h2'⟩ := hD.lookup L hT hz (zd := .nil) (zp := []) rfl hk
  have := hv k
  cases hi : ins k with
  | none =>
    rw [hi] at this
    simp only at this
    rw [Maps.atKey_of_not_has this] at h2 h2'
    have e := ptrE_nil h2
    have e' := ptrE_nil h2'
    subst e e'
    rw [this] at h1
    exact ⟨h1, h1'⟩
  | some p =>
    rw [hi] at this
    simp only at this
    rw [this.2] at h2 h2'
    have e := ptrE_inv h2
    have e' := ptrE_inv h2'
    subst e e'
    rw [this.1] at h1
    exact ⟨h1, h1'⟩
theorem isKey_int (k : Int) : WideAt.IsKeyLit (.int .i64 k) := by trivial
theorem lit_ne {a b : Int} (h : a ≠ b) : (Lit.int .i64 a) ≠ .int .i64 b := fun e => h (by cases e; rfl)
theorem MapIs.put {P : Program} {K T E : TypeId} {w : World} {b n : Nat} {ins : Int → Option Nat} (h : MapIs P K w b n ins) (L : Keyed P K) (hT : P.underlying T = some (.map K E)) (hn : n < maxLen) (k : Int) (hk : keyOf P K (.int .i64 k) = some (.int .i64 k)) (p : Nat) :
    ∃ w', (Instr.mapUpdate T (.map (some b)) (.int .i64 k) (ptr p)).run P w = .ok () w' ∧ MapIs P K w' b (n + 1) (fun x => if x = k then some p else ins x) ∧ Only (· = b) w w' := by
  obtain ⟨D, hD, hv⟩ := h
  obtain ⟨w', h1, h2, h3⟩ := hD.update L hT hn hk (ptrE_mk p)
  refine ⟨w', h1, ⟨_, h2, fun x => ?_⟩, (Only.of_grown h3).mono (fun i hi => by simpa using hi)⟩
  by_cases hx : x = k
  · subst hx
    simp only [if_true]
    exact ⟨Maps.has_put_same hD.isMap (isKey_int x) _, Maps.atKey_put_same hD.isMap (isKey_int x) _ _⟩
  · simp only [if_neg hx]
    have := hv x
    cases hi : ins x with
    | none => rw [hi] at this; simp only at this ⊢; rw [Maps.has_put_other (lit_ne hx)]; exact this
    | some q => rw [hi] at this; simp only at this ⊢; rw [Maps.has_put_other (lit_ne hx), Maps.atKey_put_other (lit_ne hx)]; exact this
theorem MapIs.del {P : Program} {K T E : TypeId} {w : World} {b n : Nat} {ins : Int → Option Nat} (h : MapIs P K w b n ins) (L : Keyed P K) (hT : P.underlying T = some (.map K E)) (k : Int) (hk : keyOf P K (.int .i64 k) = some (.int .i64 k)) (ty : TypeId) :
    ∃ w', (Builtin.delete_ #[T, K] ty #[.map (some b), .int .i64 k]).run P w = .ok (.tuple #[]) w' ∧ MapIs P K w' b n (fun x => if x = k then none else ins x) ∧ Only (· = b) w w' := by
  obtain ⟨D, hD, hv⟩ := h
  obtain ⟨w', h1, h2, h3⟩ := hD.drop L hT hk ty
  refine ⟨w', h1, ⟨_, h2, fun x => ?_⟩, (Only.of_grown h3.grown).mono (fun i hi => by simpa using hi)⟩
  by_cases hx : x = k
  · subst hx
    simp only [if_true]
    exact Maps.has_del_same
  · simp only [if_neg hx]
    have := hv x
    cases hi : ins x with
    | none => rw [hi] at this; simp only at this ⊢; rw [Maps.has_del_other (lit_ne hx)]; exact this
    | some q => rw [hi] at this; simp only at this ⊢; rw [Maps.has_del_other (lit_ne hx), Maps.atKey_del_other (lit_ne hx)]; exact this
end Go.Proofs.YtbkpdapagfjmmaaGreatDoor

/-
  Plain mathematics: bytes that come in pieces; frames that are packed again.
-/
namespace Go.Proofs.YtbkpdapagfjmmaaGreatDoor.Lk

theorem rd_bad_append : ∀ (l p : Bs) (k acc j : Nat), rd k acc l = .bad j → rd k acc (l ++ p) = .bad j
  | [], p, k, acc, j, h => by simp [rd] at h
  | c :: t, p, k, acc, j, h => by
    rw [List.cons_append]
    rw [rd] at h ⊢
    split at h
    · rename_i g; rw [if_pos g]; exact h
    · rename_i g
      rw [if_neg g]
      split at h
      · cases h
      · rename_i g2
        rw [if_neg g2]
        exact rd_bad_append t p _ _ _ h

theorem rd_ok_append : ∀ (l p : Bs) (k acc n j : Nat), rd k acc l = .ok n j → rd k acc (l ++ p) = .ok n j
  | [], p, k, acc, n, j, h => by simp [rd] at h
  | c :: t, p, k, acc, n, j, h => by
    rw [List.cons_append]
    rw [rd] at h ⊢
    split at h
    · cases h
    · rename_i g
      rw [if_neg g]
      split at h
      · rename_i g2; rw [if_pos g2]; exact h
      · rename_i g2
        rw [if_neg g2]
        exact rd_ok_append t p _ _ _ _ h

theorem nx_err_append {l : Bs} (p : Bs) {e : Nat} (h : nx l = .err e) : nx (l ++ p) = .err e := by
  cases l with
  | nil => cases h
  | cons c t =>
    rw [List.cons_append]
    rw [nx] at h ⊢
    split at h
    · rename_i g; rw [if_pos g]; exact h
    · rename_i g
      rw [if_neg g]
      split at h
      · rename_i hr; rw [rd_bad_append _ p _ _ _ hr]; exact h
      · cases h
      · rename_i st a hr
        have hab := rd_ok_bounds _ _ _ _ _ hr
        rw [rd_ok_append _ p _ _ _ _ hr]
        simp only
        split at h
        · rename_i g2; rw [if_pos g2]; exact h
        · rename_i g2
          rw [if_neg g2, List.drop_append_of_le_length (by omega)]
          split at h
          · rename_i hr2; rw [rd_bad_append _ p _ _ _ hr2]; exact h
          · cases h
          · rename_i n b hr2
            have hbb := rd_ok_bounds _ _ _ _ _ hr2
            rw [List.length_drop] at hbb
            rw [rd_ok_append _ p _ _ _ _ hr2]
            simp only
            split at h
            · rename_i g3; rw [if_pos g3]; exact h
            · rename_i g3
              rw [if_neg g3]
              split at h
              · rename_i g4; rw [if_pos g4]; exact h
              · rename_i g4
                rw [if_neg g4]
                split at h
                · cases h
                · rename_i g5
                  rw [if_neg (by simp only [List.length_append]; omega), List.drop_append_of_le_length (by omega), List.take_append_of_le_length (by rw [List.length_drop]; omega)]
                  split at h
                  · rename_i g6; rw [if_pos g6]; exact h
                  · cases h

theorem nx_frame_append {l : Bs} (p : Bs) {k st n : Nat} {d : Bs} (h : nx l = .frame k st d n) : nx (l ++ p) = .frame k st d n := by
  cases l with
  | nil => cases h
  | cons c t =>
    rw [List.cons_append]
    rw [nx] at h ⊢
    split at h
    · cases h
    · rename_i g
      rw [if_neg g]
      split at h
      · cases h
      · cases h
      · rename_i st a hr
        have hab := rd_ok_bounds _ _ _ _ _ hr
        rw [rd_ok_append _ p _ _ _ _ hr]
        simp only
        split at h
        · cases h
        · rename_i g2
          rw [if_neg g2, List.drop_append_of_le_length (by omega)]
          split at h
          · cases h
          · cases h
          · rename_i n b hr2
            have hbb := rd_ok_bounds _ _ _ _ _ hr2
            rw [List.length_drop] at hbb
            rw [rd_ok_append _ p _ _ _ _ hr2]
            simp only
            split at h
            · cases h
            · rename_i g3
              rw [if_neg g3]
              split at h
              · cases h
              · rename_i g4
                rw [if_neg g4]
                split at h
                · cases h
                · rename_i g5
                  rw [if_neg (by simp only [List.length_append]; omega), List.drop_append_of_le_length (by omega), List.take_append_of_le_length (by rw [List.length_drop]; omega)]
                  split at h
                  · cases h
                  · rename_i g6; rw [if_neg g6]; exact h

/-- Bytes that come behind others: what is read then. -/
theorem all_append : ∀ (l p : Bs), all (l ++ p) = if (all l).2.1 = 0 then ((all l).1 ++ (all ((all l).2.2 ++ p)).1, (all ((all l).2.2 ++ p)).2) else all l := by
  intro l
  induction h : l.length using Nat.strongRecOn generalizing l with
  | _ n ih =>
    subst h
    intro p
    cases hx : nx l with
    | more => rw [all_more hx]; simp
    | err e =>
      rw [all_err hx, all_err (nx_err_append p hx), if_neg (nx_err_pos hx)]
    | frame k st d n =>
      have hb := nx_frame_bounds hx
      have e := ih (l.drop n).length (by rw [List.length_drop]; omega) (l.drop n) rfl p
      rw [all_frame (nx_frame_append p hx), all_frame hx, List.drop_append_of_le_length (by omega), e]
      by_cases h0 : (all (l.drop n)).2.1 = 0
      · rw [if_pos h0, if_pos h0]; simp
      · rw [if_neg h0, if_neg h0]

/-- A number that is read is written the same. -/
theorem rd_canon : ∀ (l : Bs) (k acc n j : Nat), k ≤ 4 → rd k acc l = .ok n j → ∃ m, n = acc + m * 128 ^ k ∧ wire m = l.take (j - k) ∧ (k = 0 ∨ m ≠ 0) ∧ m < 128 ^ (4 - k)
  | [], k, acc, n, j, _, h => by simp [rd] at h
  | c :: t, k, acc, n, j, hk, h => by
    have hc := c.toNat_lt
    have hof : UInt8.ofNat c.toNat = c := by simp
    rw [rd] at h
    split at h
    · cases h
    · rename_i g
      have hk3 : k ≤ 3 := by omega
      split at h
      · rename_i g2
        cases h
        refine ⟨c.toNat, by rw [Nat.mod_eq_of_lt g2], ?_, ?_, ?_⟩
        · rw [wire_small _ g2, show k + 1 - k = 1 from by omega, hof]; rfl
        · by_cases h0 : k = 0
          · exact .inl h0
          · right
            intro e
            apply g
            exact .inr ⟨by omega, by rw [← hof, e]; rfl⟩
        · rcases pow4 hk3 with rfl | rfl | rfl | rfl <;> simp <;> omega
      · rename_i g2
        obtain ⟨m, h1, h2, h3, h4⟩ := rd_canon t (k + 1) _ n j (by omega) h
        have hj := rd_ok_bounds _ _ _ _ _ h
        have hm : m ≠ 0 := by rcases h3 with h3 | h3 <;> omega
        refine ⟨c.toNat % 128 + 128 * m, ?_, ?_, .inr (by omega), ?_⟩
        · rw [h1, Nat.pow_succ, Nat.add_mul, Nat.add_assoc]
          congr 2
          rw [Nat.mul_comm (128 ^ k) 128, ← Nat.mul_assoc, Nat.mul_comm m 128]
        · rw [wire_big _ (by omega), show j - k = (j - (k + 1)) + 1 from by omega, List.take_succ_cons, ← h2]
          congr 1
          · have : 128 + (c.toNat % 128 + 128 * m) % 128 = c.toNat := by omega
            rw [this, hof]
          · congr 1; omega
        · have hk2 : k ≤ 2 := by
            rcases pow4 hk3 with rfl | rfl | rfl | rfl
            · omega
            · omega
            · omega
            · simp at h4; omega
          rcases (by omega : k = 0 ∨ k = 1 ∨ k = 2) with rfl | rfl | rfl <;> simp at h4 ⊢ <;> omega

theorem rd_canon0 {l : Bs} {n j : Nat} (h : rd 0 0 l = .ok n j) : wire n = l.take j ∧ n ≤ 268435455 := by
  obtain ⟨m, h1, h2, _, h4⟩ := rd_canon l 0 0 n j (by omega) h
  simp at h1 h2 h4
  subst h1
  exact ⟨h2, by omega⟩

/-- A frame that is read is one that is packed, as it was read. -/
theorem nx_good {l : Bs} {k st n : Nat} {d : Bs} (h : nx l = .frame k st d n) : Good k st d ∧ packed k st d = l.take n := by
  cases l with
  | nil => cases h
  | cons c t =>
    rw [nx] at h
    split at h
    · cases h
    · rename_i g
      split at h
      · cases h
      · cases h
      · rename_i st' a hr
        split at h
        · cases h
        · rename_i g2
          split at h
          · cases h
          · cases h
          · rename_i n' b hr2
            split at h
            · cases h
            · rename_i g3
              split at h
              · cases h
              · rename_i g4
                split at h
                · cases h
                · rename_i g5
                  split at h
                  · cases h
                  · rename_i g6
                    cases h
                    have c1 := rd_canon0 hr
                    have c2 := rd_canon0 hr2
                    have b1 := rd_ok_bounds _ _ _ _ _ hr
                    have b2 := rd_ok_bounds _ _ _ _ _ hr2
                    rw [List.length_drop] at b2
                    have hdl : ((t.drop (a + b)).take n').length = n' := by rw [List.length_take, List.length_drop]; omega
                    refine ⟨⟨by omega, c1.2, by omega, by simpa using g2, by rw [hdl]; simpa using g4, by simpa using g6⟩, ?_⟩
                    have hof : UInt8.ofNat c.toNat = c := by simp
                    rw [packed, Int.toNat_natCast, Int.toNat_natCast, hdl, c1.1, c2.1, hof, show 1 + a + b + n' = (a + b + n') + 1 from by omega, List.take_succ_cons]
                    congr 1
                    rw [List.take_add, List.take_add]

def packAll (fs : List Fr) : Bs := fs.flatMap fun f => packed f.k f.st f.d

theorem all_packs : ∀ (l : Bs), (∀ f ∈ (all l).1, Good f.k f.st f.d) ∧ ∃ r, l = packAll (all l).1 ++ r ∧ ((all l).2.1 = 0 → r.length ≤ 72) ∧ ((all l).2.1 ≠ 0 → 0 < r.length) := by
  intro l
  induction h : l.length using Nat.strongRecOn generalizing l with
  | _ n ih =>
    subst h
    cases hx : nx l with
    | more =>
      rw [all_more hx]
      exact ⟨by simp, l, by simp [packAll], fun _ => nx_more_len hx, by simp⟩
    | err e =>
      rw [all_err hx]
      refine ⟨by simp, l, by simp [packAll], fun h => absurd h (nx_err_pos hx), fun _ => ?_⟩
      cases l with
      | nil => cases hx
      | cons c t => simp
    | frame k st d n =>
      have hb := nx_frame_bounds hx
      have hg := nx_good hx
      obtain ⟨i1, r, i2, i3, i4⟩ := ih (l.drop n).length (by rw [List.length_drop]; omega) (l.drop n) rfl
      rw [all_frame hx]
      refine ⟨?_, r, ?_, i3, i4⟩
      · intro f hf
        rcases List.mem_cons.1 hf with rfl | hf
        · exact hg.1
        · exact i1 f hf
      · show l = packAll (_ :: _) ++ r
        rw [packAll, List.flatMap_cons, hg.2, List.append_assoc]
        have := List.take_append_drop n l
        rw [i2] at this
        exact this.symm

end Go.Proofs.YtbkpdapagfjmmaaGreatDoor.Lk
