/-
  Small facts on memory: a block that is known whole.
-/
import Derived.WalkKit
import Derived.WalkSpells
import Derived.WalkLawsBesides
import Derived.Deep.QuietTactic
import Derived.BigQuiet
import Derived.OneCell
namespace Go.Proofs.YtbkpdapagfjmmaaGreatDoor
open Go.RowKit

theorem hide {p : Prop} (h : p) : Hid p := h
theorem unhide {p : Prop} (h : Hid p) : p := h
theorem ret_int {k : IntKind} {a b : Int} (h : a = b) : Ending.returned (.int k a) = .returned (.int k b) := by rw [h]
theorem ret_bool {a b : Bool} (h : a = b) : Ending.returned (.bool a) = .returned (.bool b) := by rw [h]

/-- Block b is these cells, none frozen. -/
def Is (w : World) (b : Nat) (T : TypeId) (cs : List Value) : Prop := w.heap[b]? = some (.cells cs.toArray T (0, 0))

theorem Is.lt {w : World} {b : Nat} {T : TypeId} {cs : List Value} (h : Is w b T cs) : b < w.heap.size := lt_of_block h
theorem Is.cell {w : World} {b : Nat} {T : TypeId} {cs : List Value} (h : Is w b T cs) (i : Nat) : w.cell? ⟨b, i, none⟩ = cs[i]? := by
  unfold Is at h
  simp [World.cell?, h]
theorem Is.free {w : World} {b : Nat} {T : TypeId} {cs : List Value} (h : Is w b T cs) (i : Nat) : w.frozen? ⟨b, i, none⟩ = false := by
  unfold Is at h
  simp [World.frozen?, h]
theorem Is.set {w : World} {b : Nat} {T : TypeId} {cs : List Value} (h : Is w b T cs) (i : Nat) (v : Value) : Is (w.setCell ⟨b, i, none⟩ v) b T (cs.set i v) := by
  unfold Is
  rw [heap_setCell_same w b i _ T v h]
  simp
theorem Is.drewN {w : World} {b : Nat} {T : TypeId} {cs : List Value} (h : Is w b T cs) (n : Nat) : Is (w.drewN n) b T cs := h
theorem Is.drew {w : World} {b : Nat} {T : TypeId} {cs : List Value} (h : Is w b T cs) : Is w.drew b T cs := h
theorem Is.new (w : World) (T : TypeId) (cs : List Value) : Is (w.alloc (.cells cs.toArray T)) w.heap.size T cs := by
  exact heap_alloc_new w _
theorem Is.alloc {w : World} {b : Nat} {T : TypeId} {cs : List Value} (h : Is w b T cs) (o : Obj) : Is (w.alloc o) b T cs := by
  unfold Is
  rw [Below.heap_alloc _ _ _ h.lt]
  exact h
theorem Is.other {w : World} {b : Nat} {T : TypeId} {cs : List Value} (h : Is w b T cs) (a : Addr) (v : Value) (hne : b ≠ a.block) : Is (w.setCell a v) b T cs := by
  unfold Is
  rw [heap_setCell_other w a b v hne]
  exact h
theorem Is.grown {w w' : World} {b : Nat} {T : TypeId} {cs : List Value} (h : Is w b T cs) {row : Option Nat} (hg : w.grownBy w' row) (hne : some b ≠ row) : Is w' b T cs := by
  unfold Is
  rw [hg.block b h.lt hne]
  exact h
theorem Is.below {w w' : World} {b B : Nat} {T : TypeId} {cs : List Value} (h : Is w b T cs) (hg : Below B w w') (hne : b < B) : Is w' b T cs := by
  unfold Is
  rw [hg.block b hne]
  exact h

/-- Nothing that was there has turned but block b. -/
def Turns (b : Nat) (w w' : World) : Prop := w.grownBy w' (some b)

theorem Turns.refl (b : Nat) (w : World) : Turns b w w := World.grownBy.refl w _
theorem Turns.trans {b : Nat} {w w1 w2 : World} (h : Turns b w w1) (k : Turns b w1 w2) : Turns b w w2 :=
  ⟨k.os.trans h.os, k.tape.trans h.tape, k.output.trans h.output, Nat.le_trans h.size k.size, fun i hi hn => (k.block i (Nat.lt_of_lt_of_le hi h.size) hn).trans (h.block i hi hn)⟩
theorem Turns.drewN {b : Nat} {w w1 : World} (h : Turns b w w1) (n : Nat) : Turns b w (w1.drewN n) := ⟨h.os, h.tape, h.output, h.size, h.block⟩
theorem Turns.drew {b : Nat} {w w1 : World} (h : Turns b w w1) : Turns b w w1.drew := ⟨h.os, h.tape, h.output, h.size, h.block⟩
theorem Turns.set {b : Nat} {w w1 : World} (h : Turns b w w1) (i : Nat) (v : Value) : Turns b w (w1.setCell ⟨b, i, none⟩ v) :=
  h.trans ⟨rfl, rfl, rfl, by simp, fun k _ hn => heap_setCell_other _ _ _ _ (fun e => hn (congrArg some e))⟩
theorem Turns.alloc {b : Nat} {w w1 : World} (h : Turns b w w1) (o : Obj) : Turns b w (w1.alloc o) := h.trans (World.grownBy_alloc _ _ _)
theorem Turns.below {b : Nat} {w w1 w2 : World} (h : Turns b w w1) (k : Below w1.heap.size w1 w2) : Turns b w w2 :=
  h.trans ⟨k.os, k.tape, k.output, k.size, fun i hi _ => k.block i hi⟩
/-- Where that block is a new one, nothing old has turned. -/
theorem Turns.toBelow {b B : Nat} {w w1 w2 : World} (h : Below B w w1) (k : Turns b w1 w2) (hb : B ≤ b) (hB : B ≤ w1.heap.size) : Below B w w2 :=
  h.trans ⟨k.os, k.tape, k.output, k.size, fun i hi => k.block i (by omega) (fun e => by cases e; omega)⟩
theorem Below.drewN {B : Nat} {a w : World} (h : Below B a w) (n : Nat) : Below B a (w.drewN n) := ⟨h.os, h.tape, h.output, h.size, h.block⟩

end Go.Proofs.YtbkpdapagfjmmaaGreatDoor
