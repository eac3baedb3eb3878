/-
  Walks: a number is written (both sides).
-/
import Derived.Test.YtbkpdapagfjmmaaGreatDoorA5
namespace Go.Proofs.YtbkpdapagfjmmaaGreatDoor
open Go.RowKit

set_option maxHeartbeats 400000 in
set_option maxRecDepth 100000 in
theorem refNumber_small (n : Nat) (h : n < 128) (w : World) :
    Calls Tryz.prog 99 #[.int .i64 n] w fun e w' => e = .returned (.string ⟨(Lk.wire n).toArray⟩) ∧ Below w.heap.size w w' := by
  have k1 := one_string
  go_enter Tryz.func99, Tryz.ntmps99
  go_wp2_with fail
  go_ret
  exact ⟨ret_string (by rw [Lk.wire_small n h]), (Below.refl _ _).alloc (Nat.le_refl _) _⟩

theorem join1 (n : Nat) (k : UInt8) (l : Array UInt8) (hk : k = UInt8.ofNat (128 + n % 128)) (h : 128 ≤ n) (hl : Hid ((Lk.wire (n / 128)).toArray = l)) : (⟨#[k]⟩ : ByteArray) ++ ⟨l⟩ = ⟨(Lk.wire n).toArray⟩ := by
  rw [← unhide hl, Lk.wire_big n (by omega), hk]
  exact ByteArray.mk_append_mk [_] _

set_option maxHeartbeats 400000 in
set_option maxRecDepth 100000 in
theorem refNumber_big (n : Nat) (h : 128 ≤ n) (hn : n ≤ 268435455) (w : World) (ih : Hid (∀ (m : Int) w, m = ((n / 128 : Nat) : Int) → Calls Tryz.prog 99 #[.int .i64 m] w fun e w' => e = .returned (.string ⟨(Lk.wire (n / 128)).toArray⟩) ∧ Below w.heap.size w w')) :
    Calls Tryz.prog 99 #[.int .i64 n] w fun e w' => e = .returned (.string ⟨(Lk.wire n).toArray⟩) ∧ Below w.heap.size w w' := by
  have k1 := one_string
  have k2 := fun W => cell_string W w.heap.size (IntKind.u8.wrap (IntKind.i64.wrap (128 + (n : Int).tmod 128)))
  have hn' : ¬ (n : Int) < 128 := by omega
  have hsz := Lk.wire_len_le4 (n / 128) (by omega)
  generalize hl : (Lk.wire (n / 128)).toArray = l at ih
  have hl4 : l.size ≤ 4 := by rw [← hl]; simpa using hsz
  have hl4' : 1 + l.size ≤ 9223372036854775807 := by omega
  clear hsz
  have HL := hide hl
  clear hl
  go_enter Tryz.func99, Tryz.ntmps99
  go_wp2_with fail
  go_region_with (go_at_call 99; refine (unhide ih _ _ ?_).mono ?_; (simp [IntKind.wrap_i64]; omega); rintro e w1 ⟨rfl, hb⟩; obtain ⟨hc, hf⟩ := bcell hb)
  all_goals go_wp2_with fail
  all_goals go_ret
  · exact ⟨ret_string (join1 n _ l (by first | rfl | (congr 1; omega) | simp) h HL), (((Below.refl _ _).alloc (Nat.le_refl _) _).drew).trans (hb.mono (by simp))⟩
  · exact ⟨ret_string (join1 n _ l (by first | rfl | (congr 1; omega) | simp) h HL), (((Below.refl _ _).alloc (Nat.le_refl _) _).drew).trans (hb.mono (by simp))⟩
  · refine ⟨ret_string (join1 n _ l (by first | rfl | (congr 1; omega) | simp) h HL), ?_⟩
    have hb0 := (Below.refl w.heap.size w).drew.trans hb
    exact hb0.alloc hb0.size _

theorem refNumber_any : ∀ (n : Nat) (m : Int) (w : World), m = (n : Int) → n ≤ 268435455 →
    Calls Tryz.prog 99 #[.int .i64 m] w fun e w' => e = .returned (.string ⟨(Lk.wire n).toArray⟩) ∧ Below w.heap.size w w' := by
  intro n
  induction n using Nat.strongRecOn with
  | _ n ih =>
    intro m w hm hn
    subst hm
    by_cases h : n < 128
    · exact refNumber_small n h w
    · exact refNumber_big n (by omega) hn w (hide fun m w hm => ih (n / 128) (by omega) m w hm (by omega))

end Go.Proofs.YtbkpdapagfjmmaaGreatDoor
