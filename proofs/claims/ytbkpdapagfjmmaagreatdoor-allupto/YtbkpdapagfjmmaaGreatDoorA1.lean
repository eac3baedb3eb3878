import Derived.WalkKit
import Derived.WalkSpells
import Derived.WalkLawsBesides
import Derived.Deep.QuietTactic
import Derived.BigQuiet
import Derived.OneCell
import Derived.Deep.RegionLaw
import Derived.Deep.AppendLies
import Derived.Deep.DeepCutAuto
set_option linter.unusedVariables false
set_option maxRecDepth 100000
set_option maxHeartbeats 16000000
namespace Go.Proofs.YtbkpdapagfjmmaaGreatDoor
open Go.RowKit
theorem hide {p : Prop} (h : p) : Hid p := h
theorem uh {p : Prop} (h : Hid p) : p := h
theorem je {k : IntKind} {a b : Int} (h : a = b) : Ending.returned (.int k a) = .returned (.int k b) := by rw [h]
theorem aH {a b : Bool} (h : a = b) : Ending.returned (.bool a) = .returned (.bool b) := by rw [h]
def Is (w : World) (b : Nat) (T : TypeId) (cs : List Value) : Prop := w.heap[b]? = some (.cells cs.toArray T (0, 0))
theorem Is.lt {w : World} {b : Nat} {T : TypeId} {cs : List Value} (h : Is w b T cs) : b < w.heap.size := lt_of_block h
theorem Is.cell {w : World} {b : Nat} {T : TypeId} {cs : List Value} (h : Is w b T cs) (i : Nat) : w.cell? ⟨b, i, none⟩ = cs[i]? := by
 unfold Is at h
 simp [World.cell?, h]
theorem Is.free {w : World} {b : Nat} {T : TypeId} {cs : List Value} (h : Is w b T cs) (i : Nat) : w.frozen? ⟨b, i, none⟩ = false := by
 unfold Is at h
 simp [World.frozen?, h]
theorem Is.set {w : World} {b : Nat} {T : TypeId} {cs : List Value} (h : Is w b T cs) (i : Nat) (v : Value) : Is (w.setCell ⟨b, i, none⟩ v) b T (cs.set i v) := by
 unfold Is
 rw [heap_setCell_same w b i _ T v h]
 simp
theorem Is.drewN {w : World} {b : Nat} {T : TypeId} {cs : List Value} (h : Is w b T cs) (n : Nat) : Is (w.drewN n) b T cs := h
theorem Is.drew {w : World} {b : Nat} {T : TypeId} {cs : List Value} (h : Is w b T cs) : Is w.drew b T cs := h
theorem Is.new (w : World) (T : TypeId) (cs : List Value) : Is (w.alloc (.cells cs.toArray T)) w.heap.size T cs := by
 exact heap_alloc_new w _
theorem Is.alloc {w : World} {b : Nat} {T : TypeId} {cs : List Value} (h : Is w b T cs) (o : Obj) : Is (w.alloc o) b T cs := by
 unfold Is
 rw [Below.heap_alloc _ _ _ h.lt]
 exact h
theorem Is.other {w : World} {b : Nat} {T : TypeId} {cs : List Value} (h : Is w b T cs) (a : Addr) (v : Value) (hne : b ≠ a.block) : Is (w.setCell a v) b T cs := by
 unfold Is
 rw [heap_setCell_other w a b v hne]
 exact h
theorem Is.grown {w w' : World} {b : Nat} {T : TypeId} {cs : List Value} (h : Is w b T cs) {row : Option Nat} (hg : w.grownBy w' row) (hne : some b ≠ row) : Is w' b T cs := by
 unfold Is
 rw [hg.block b h.lt hne]
 exact h
theorem Is.below {w w' : World} {b B : Nat} {T : TypeId} {cs : List Value} (h : Is w b T cs) (hg : Below B w w') (hne : b < B) : Is w' b T cs := by
 unfold Is
 rw [hg.block b hne]
 exact h
def Turns (b : Nat) (w w' : World) : Prop := w.grownBy w' (some b)
theorem Turns.refl (b : Nat) (w : World) : Turns b w w := World.grownBy.refl w _
theorem Turns.trans {b : Nat} {w w1 w2 : World} (h : Turns b w w1) (k : Turns b w1 w2) : Turns b w w2 :=
 ⟨k.os.trans h.os, k.tape.trans h.tape, k.output.trans h.output, Nat.le_trans h.size k.size, fun i hi hn => (k.block i (Nat.lt_of_lt_of_le hi h.size) hn).trans (h.block i hi hn)⟩
theorem Turns.drewN {b : Nat} {w w1 : World} (h : Turns b w w1) (n : Nat) : Turns b w (w1.drewN n) := ⟨h.os, h.tape, h.output, h.size, h.block⟩
theorem Turns.drew {b : Nat} {w w1 : World} (h : Turns b w w1) : Turns b w w1.drew := ⟨h.os, h.tape, h.output, h.size, h.block⟩
theorem Turns.set {b : Nat} {w w1 : World} (h : Turns b w w1) (i : Nat) (v : Value) : Turns b w (w1.setCell ⟨b, i, none⟩ v) :=
 h.trans ⟨rfl, rfl, rfl, by simp, fun k _ hn => heap_setCell_other _ _ _ _ (fun e => hn (congrArg some e))⟩
theorem Turns.alloc {b : Nat} {w w1 : World} (h : Turns b w w1) (o : Obj) : Turns b w (w1.alloc o) := h.trans (World.grownBy_alloc _ _ _)
theorem Turns.below {b : Nat} {w w1 w2 : World} (h : Turns b w w1) (k : Below w1.heap.size w1 w2) : Turns b w w2 :=
 h.trans ⟨k.os, k.tape, k.output, k.size, fun i hi _ => k.block i hi⟩
theorem Turns.toBelow {b B : Nat} {w w1 w2 : World} (h : Below B w w1) (k : Turns b w1 w2) (hb : B <= b) (hB : B <= w1.heap.size) : Below B w w2 :=
 h.trans ⟨k.os, k.tape, k.output, k.size, fun i hi => k.block i (by omega) (fun e => by cases e; omega)⟩
theorem Below.drewN {B : Nat} {a w : World} (h : Below B a w) (n : Nat) : Below B a (w.drewN n) := ⟨h.os, h.tape, h.output, h.size, h.block⟩
theorem vM (w : World) (x : Value) (t : TypeId) (H : Nat) (hH : w.heap.size = H) : ∀ j u, [x][j]? = some u -> (w.alloc (.cells #[x] t)).drew.cell? ((⟨H, 0, none⟩ : Addr).add j) = some u := by
 subst hH
 exact cell_one_new w x t
theorem Is.ne {w : World} {a b : Nat} {T T' : TypeId} {cs cs' : List Value} (h : Is w a T cs) (h' : Is w b T' cs') (hT : T ≠ T') : a ≠ b := by
 rintro rfl
 unfold Is at h h'
 rw [h] at h'
 simp at h'
 exact hT h'.2
theorem own_ne {w : World} {B b : Nat} {T e : TypeId} {size n : Nat} {v : Value} {xs cs : List Value} (h : w.ownsRow B e size v n xs) (h' : Is w b T cs) (hT : T ≠ e) : some b ≠ v.ownBlock := by
 rcases h.2 with ⟨rfl, _⟩ | ⟨g, cap, cur, rfl, _, hg, _⟩
 . simp [Value.ownBlock]
 . have hI : Is w g e cur.toList := by unfold Is; simpa using hg
   have := h'.ne hI hT
   simp [Value.ownBlock]
   exact this
def ptr (b : Nat) : Value := .pointer (some ⟨b, 0, none⟩)
abbrev gQ : Value := .slice none 0 0
theorem oP {w : World} {B B' : Nat} {e e' : TypeId} {size size' n n' : Nat} {v v' : Value} {xs xs' : List Value} (h : w.ownsRow B e size v n xs) (h' : w.ownsRow B' e' size' v' n' xs') (hT : e ≠ e') : v.ownBlock = none ∨ v.ownBlock ≠ v'.ownBlock := by
 rcases h.2 with ⟨rfl, _⟩ | ⟨g, cap, cur, rfl, _, hg, _⟩
 . exact .inl rfl
 . right
   have hI : Is w g e cur.toList := by unfold Is; simpa using hg
   exact own_ne h' hI hT
theorem zt {w w' : World} {row : Option Nat} (h : w.drew.grownBy w' row) : w.grownBy w' row := ⟨h.os, h.tape, h.output, h.size, h.block⟩
theorem grownBy_set (w : World) (b i : Nat) (x : Value) : w.grownBy (w.setCell ⟨b, i, none⟩ x) (some b) :=
 ⟨rfl, rfl, rfl, by simp, fun k _ hn => heap_setCell_other _ _ _ _ (fun e => hn (congrArg some e))⟩
theorem Turns.qR {b : Nat} {w w1 w2 : World} {row : Option Nat} (h : Turns b w w1) (hg : w1.grownBy w2 row) (hr : ∀ k, row = some k -> w.heap.size <= k) : Turns b w w2 :=
 ⟨hg.os.trans h.os, hg.tape.trans h.tape, hg.output.trans h.output, Nat.le_trans h.size hg.size, fun k hk hn => (hg.block k (Nat.lt_of_lt_of_le hk h.size) (fun e => by have := hr k e.symm; omega)).trans (h.block k hk hn)⟩
theorem iw {w w1 w2 : World} {b : Nat} {e : TypeId} {size n : Nat} {v : Value} {xs : List Value} (h : w1.ownsRow w.heap.size e size v n xs) (hb : b < w.heap.size) (hT : Turns b w1 w2) : w2.ownsRow w.heap.size e size v n xs := by
 refine h.kept hT ?_
 cases hv : Value.ownBlock v with
 | none => exact .inl rfl
 | some k => exact .inr (by have := (h.lt k hv).1; simp; omega)
theorem below_grown {w w' : World} (hb : Below w.heap.size w w') : w.grownBy w' none := ⟨hb.os, hb.tape, hb.output, hb.size, fun i hi _ => hb.block i hi⟩
theorem own_below {w w' : World} {B : Nat} {e : TypeId} {size n : Nat} {v : Value} {xs : List Value} (h : w.ownsRow B e size v n xs) (hb : Below w.heap.size w w') : w'.ownsRow B e size v n xs :=
 h.kept (row := none) (below_grown hb) (by cases v.ownBlock <;> simp)
theorem jO {w w' : World} {B B' : Nat} {e : TypeId} {size n : Nat} {v : Value} {xs : List Value} (h : w.ownsRow B e size v n xs) (hb : Below B' w w') (hB : w.heap.size <= B') : w'.ownsRow B e size v n xs :=
 own_below h ⟨hb.os, hb.tape, hb.output, hb.size, fun i hi => hb.block i (by omega)⟩
theorem aK {W w' : World} (hb : Below W.heap.size W w') {b k : Nat} {v : Value} (hlt : b < W.heap.size) (hc : W.cell? ⟨b, k, none⟩ = some v) : w'.cell? ⟨b, k, none⟩ = some v := by
 rw [hb.cell (p := ⟨b, k, none⟩) hlt]; exact hc
theorem nO {W w' : World} (hb : Below W.heap.size W w') {b k : Nat} (hlt : b < W.heap.size) (hc : W.frozen? ⟨b, k, none⟩ = false) : w'.frozen? ⟨b, k, none⟩ = false := by
 rw [hb.frozen (p := ⟨b, k, none⟩) hlt]; exact hc
theorem kW {W w' : World} (hb : Below W.heap.size W w') {b : Nat} (hlt : b < W.heap.size) : b < w'.heap.size := Nat.lt_of_lt_of_le hlt hb.size
theorem bQ {W w' : World} {B : Nat} (h : Below B W.drew w') : Below B W w' := ⟨h.os, h.tape, h.output, h.size, h.block⟩
theorem Below.turns {w w1 : World} (h : Below w.heap.size w w1) (b : Nat) : Turns b w w1 := (Turns.refl b w).below h
def bZ (e : TypeId) (w w' : World) : Prop := ∀ (i : Nat) (T : TypeId) (cs : List Value), T ≠ e -> Is w i T cs -> Is w' i T cs
theorem bZ.refl (e : TypeId) (w : World) : bZ e w w := fun _ _ _ _ h => h
theorem bZ.trans {e : TypeId} {a b c : World} (h : bZ e a b) (k : bZ e b c) : bZ e a c := fun i T cs hT hI => k i T cs hT (h i T cs hT hI)
theorem bZ.alloc {e : TypeId} {a b : World} (h : bZ e a b) (o : Obj) : bZ e a (b.alloc o) := fun i T cs hT hI => (h i T cs hT hI).alloc o
theorem bZ.drewN {e : TypeId} {a b : World} (h : bZ e a b) (n : Nat) : bZ e a (b.drewN n) := fun i T cs hT hI => (h i T cs hT hI).drewN n
theorem bZ.below {e : TypeId} {a b c : World} (h : bZ e a b) (hb : Below b.heap.size b c) : bZ e a c := fun i T cs hT hI => (h i T cs hT hI).below hb (h i T cs hT hI).lt
theorem bZ.grown {e : TypeId} {a b c : World} {B size n : Nat} {v : Value} {xs : List Value} (h : bZ e a b) (hg : b.grownBy c v.ownBlock) (own : b.ownsRow B e size v n xs) : bZ e a c :=
 fun i T cs hT hI => (h i T cs hT hI).grown hg (own_ne own (h i T cs hT hI) hT)
theorem bZ.own {e : TypeId} {a b : World} (h : bZ e a b) {B size n : Nat} {T : TypeId} {v : Value} {xs : List Value} (hT : T ≠ e) (ho : a.ownsRow B T size v n xs) : b.ownsRow B T size v n xs := by
 refine ⟨ho.1, ?_⟩
 rcases ho.2 with h0 | ⟨g, cap, cur, h0, h1, h2, h3⟩
 . exact .inl h0
 . have hI : Is a g T cur.toList := by unfold Is; simpa using h2
   have := h g T _ hT hI
   unfold Is at this
   exact .inr ⟨g, cap, cur, h0, h1, by simpa using this, h3⟩
theorem qf {w wc w' : World} {b k B n size : Nat} {T e : TypeId} {cs xs : List Value} {v x y : Value} (hI : Is wc b T cs) (hb : Below wc.heap.size wc w') (hT : Turns b w wc) (ho : wc.ownsRow B e size v n xs) (hne : T ≠ e) (hx : x = y) :
 Is (w'.setCell ⟨b, k, none⟩ x) b T (cs.set k y) ∧ (w'.setCell ⟨b, k, none⟩ x).ownsRow B e size v n xs ∧ Turns b w (w'.setCell ⟨b, k, none⟩ x) := by
 subst hx
 have hI' := hI.below hb hI.lt
 have ho' := own_below ho hb
 exact ⟨hI'.set k x, ho'.kept (grownBy_set w' b k x) (.inr (fun e => own_ne ho' hI' hne e.symm)), (hT.below hb).set k x⟩
end Go.Proofs.YtbkpdapagfjmmaaGreatDoor
