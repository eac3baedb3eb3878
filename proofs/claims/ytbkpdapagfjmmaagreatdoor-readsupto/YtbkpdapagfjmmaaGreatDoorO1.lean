/-
  Walks: a byte is taken.
-/
import Derived.Test.YtbkpdapagfjmmaaGreatDoorW3
import Derived.Test.YtbkpdapagfjmmaaGreatDoorR1
namespace Go.Proofs.YtbkpdapagfjmmaaGreatDoor
open Go.RowKit

theorem one_no (b : Nat) (T : TypeId) (s : ByteArray) (p : Nat) (more : List Value) (w : World) (hs : s.size ≤ maxLen) (hp : s.size ≤ p) (hI : Is w b T (.string s :: .int .i64 p :: more)) :
    Calls Tryz.prog 131 #[.pointer (some ⟨b, 0, none⟩)] w fun e w' => e = .returned (.tuple #[.int .u8 0, .bool false]) ∧ Is w' b T (.string s :: .int .i64 p :: more) ∧ Turns b w w' := by
  have HE := hide (fun w hI => ended_any b T s p more w hs hI)
  go_enter Tryz.func131, Tryz.ntmps131
  go_wp2_with fail
  refine (unhide HE _ hI).mono ?_
  rintro e w1 ⟨rfl, n1, rfl⟩
  have hd : decide (s.size ≤ p) = true := by simp; omega
  go_wp2_with fail
  go_ret2
  exact ⟨rfl, hI.drewN _, (Turns.refl _ _).drewN _⟩

theorem one_yes (b : Nat) (T : TypeId) (s : ByteArray) (p : Nat) (more : List Value) (w : World) (hs : s.size ≤ maxLen) (hp : p < s.size) (hI : Is w b T (.string s :: .int .i64 p :: more)) :
    Calls Tryz.prog 131 #[.pointer (some ⟨b, 0, none⟩)] w fun e w' => e = .returned (.tuple #[.int .u8 (s[p].toNat : Int), .bool true]) ∧ Is w' b T (.string s :: .int .i64 ((p + 1 : Nat) : Int) :: more) ∧ Turns b w w' := by
  have HE := hide (fun w hI => ended_any b T s p more w hs hI)
  unfold maxLen at hs
  have c0 : w.cell? ⟨b, 0, none⟩ = some (.string s) := hI.cell 0
  have c1 : w.cell? ⟨b, 1, none⟩ = some (.int .i64 p) := hI.cell 1
  have f1 : w.frozen? ⟨b, 1, none⟩ = false := hI.free 1
  go_enter Tryz.func131, Tryz.ntmps131
  go_wp2_with fail
  refine (unhide HE _ hI).mono ?_
  rintro e w1 ⟨rfl, n1, rfl⟩
  have hd : decide (s.size ≤ p) = false := by simp; omega
  go_wp2_with fail
  go_quiet (fail)
  go_wp2_with fail
  go_ret2
  exact ⟨rfl, (hI.drewN _).set 1 _, ((Turns.refl _ _).drewN _).set 1 _⟩

end Go.Proofs.YtbkpdapagfjmmaaGreatDoor
