/-
  Bytes and strings.
-/
import Derived.Test.YtbkpdapagfjmmaaGreatDoorP3
import Derived.Test.YtbkpdapagfjmmaaGreatDoorProg
import Derived.Laws.BytesArg
import Derived.Deep.RegionWith
namespace Go.Proofs.YtbkpdapagfjmmaaGreatDoor
open Go.RowKit

theorem own : ownKnob Tryz.prog.godebug = none := by kernel_rfl

theorem Is.string {w : World} {g : Nat} {cs : List Value} {xs : List Int} (h : Is w g 5 cs) (hp : (xs.map (Value.int .u8)) <+: cs) (cap : Nat) :
    (convert 78 9 (.slice (some ⟨g, 0, none⟩) xs.length cap)).run Tryz.prog w = .ok (.string (strOfNums xs)) w := by
  refine run_convert_bytes_arg w 78 5 Tryz.underlying78 Tryz.underlying5 g 0 xs.length cap xs rfl ?_ 9 Tryz.underlying9
  intro i hi
  rw [Nat.zero_add, h.cell i]
  obtain ⟨t, rfl⟩ := hp
  rw [List.getElem?_append_left (by simpa using hi)]
  simp [hi]

theorem one_string (w : World) (x : Int) : (convert 78 9 (.slice (some ⟨w.heap.size, 0, none⟩) 1 1)).run Tryz.prog (w.alloc (.cells #[.int .u8 x] 5)) = .ok (.string ⟨#[UInt8.ofNat x.toNat]⟩) (w.alloc (.cells #[.int .u8 x] 5)) :=
  Is.string (xs := [x]) (Is.new w 5 [.int .u8 x]) (List.prefix_refl _) 1

theorem bcell {W w1 : World} (hb : Below W.heap.size W w1) : (∀ b o, b < W.heap.size → w1.cell? ⟨b, o, none⟩ = W.cell? ⟨b, o, none⟩) ∧ (∀ b o, b < W.heap.size → w1.frozen? ⟨b, o, none⟩ = W.frozen? ⟨b, o, none⟩) :=
  ⟨fun b o h => hb.cell (p := ⟨b, o, none⟩) h, fun b o h => hb.frozen (p := ⟨b, o, none⟩) h⟩

theorem ret_string {a b : ByteArray} (h : a = b) : Ending.returned (.string a) = .returned (.string b) := by rw [h]

theorem cell_string (w : World) (g : Nat) (x : Int) (h : w.cell? ⟨g, 0, none⟩ = some (.int .u8 x)) :
    (convert 78 9 (.slice (some ⟨g, 0, none⟩) 1 1)).run Tryz.prog w = .ok (.string ⟨#[UInt8.ofNat x.toNat]⟩) w := by
  refine run_convert_bytes_arg w 78 5 Tryz.underlying78 Tryz.underlying5 g 0 1 1 [x] rfl ?_ 9 Tryz.underlying9
  intro i hi
  obtain rfl : i = 0 := by omega
  simpa using h

end Go.Proofs.YtbkpdapagfjmmaaGreatDoor
